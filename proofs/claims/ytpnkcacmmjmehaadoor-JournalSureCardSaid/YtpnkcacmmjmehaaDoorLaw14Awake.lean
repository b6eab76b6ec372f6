/-
  'awake' of layer 14.
-/
import Derived.Test.YtpnkcacmmjmehaaDoorJourHeld
import Derived.Test.YtpnkcacmmjmehaaDoorOwn
import Derived.Lib.SlBytesConst
import Derived.WalkSmall
import Derived.WalkMore
namespace Go.Proofs.YtpnkcacmmjmehaaDoor.Law14
open Go Go.RowKit Go.Proofs.YtpnkcacmmjmehaaDoor.Aid Go.Proofs.YtpnkcacmmjmehaaDoor.Cache Go.Proofs.YtpnkcacmmjmehaaDoor.Store Go.Proofs.YtpnkcacmmjmehaaDoor.Jour

def xa : By := [97, 98]
def xb : By := [99, 100]
section
variable {D : By → By}
theorem good0 : JGood D 1000 st0 [] := ⟨rfl, rfl, (fun _ h => by cases h), ⟨Nat.le_refl _, Nat.zero_le _, by omega, by show (-1 : Int) ≤ -1; omega, by show (-1 : Int) ≤ _; omega⟩⟩
theorem code1 (hD : ∀ x, (D x).length = 8) : addC D 1000 st0 xa = 0 := by
  unfold addC
  rw [enc_len hD]
  rfl
theorem state1 (hD : ∀ x, (D x).length = 8) : addS D 1000 st0 xa = ⟨12, cat (fun _ => 0) 0 (fnL (enc D xa)), 12, -1, false⟩ := by
  unfold addS
  rw [enc_len hD]
  rfl
theorem code2 (hD : ∀ x, (D x).length = 8) (e : Nat → BitVec 8) : addC D 1000 ⟨12, e, 12, 1, false⟩ xb = 8 := by
  unfold addC
  rw [enc_len hD]
  rfl
theorem state2 (hD : ∀ x, (D x).length = 8) (e : Nat → BitVec 8) : (addS D 1000 ⟨12, e, 12, 1, false⟩ xb).n = 24 ∧ (addS D 1000 ⟨12, e, 12, 1, false⟩ xb).sure = 12 := by
  unfold addS
  rw [enc_len hD]
  exact ⟨rfl, rfl⟩
theorem good1 (hD : ∀ x, (D x).length = 8) : JGood D 1000 (addS D 1000 st0 xa) [xa] ∧ addL D 1000 st0 [] xa = [xa] := by
  rcases add_step (x := xa) (good0 (D := D)) with h | h | h
  · exact ⟨h.2.1, h.2.2⟩
  · rw [code1 hD] at h; exact absurd h.1 (by decide)
  · rw [code1 hD] at h; exact absurd h.1 (by decide)
theorem good_fuse {st : St} {L : List By} (h : JGood D 1000 st L) (k : Int) (hk : k ≤ 9223372036854775807) : JGood D 1000 (fuseS st k) L := ⟨h.bytes, h.sure, h.small, fuse_ok h.ok k hk⟩
/-- What Open finds behind the crash. -/
theorem found (hD : ∀ x, (D x).length = 8) : ∃ s3 t, addS D 1000 (fuseS (addS D 1000 st0 xa) 1) xb = s3 ∧ addC D 1000 (fuseS (addS D 1000 st0 xa) 1) xb = 8 ∧ scan D (bytesL (crashS s3 5)) = some ([xa], t) ∧ (crashS s3 5).n ≤ 100000 ∧ (openS 1000 (crashS s3 5) t).n = 12 := by
  have hg := good_fuse (good1 hD).1 1 (by omega)
  have hs1 : fuseS (addS D 1000 st0 xa) 1 = ⟨12, cat (fun _ => 0) 0 (fnL (enc D xa)), 12, 1, false⟩ := by rw [state1 hD]; rfl
  have hc : addC D 1000 (fuseS (addS D 1000 st0 xa) 1) xb = 8 := by rw [hs1]; exact code2 hD _
  have hn : (addS D 1000 (fuseS (addS D 1000 st0 xa) 1) xb).n = 24 ∧ (addS D 1000 (fuseS (addS D 1000 st0 xa) 1) xb).sure = 12 := by rw [hs1]; exact state2 hD _
  have hgone : JGone D 1000 (addS D 1000 (fuseS (addS D 1000 st0 xa) 1) xb) [xa] ([xa] ++ [xb]) := by
    rcases add_step (x := xb) hg with h | h | h
    · rw [hc] at h; exact absurd h.1 (by decide)
    · rw [hc] at h; exact absurd h.1 (by decide)
    · exact h.2
  generalize addS D 1000 (fuseS (addS D 1000 st0 xa) 1) xb = s3 at *
  obtain ⟨R, t, hR, hsc, hb, hsm⟩ := crash_scan hD hgone 5
  have h17 : (crashS s3 5).n = 17 := by
    show crashN s3 5 = 17
    unfold crashN
    rw [hn.1, hn.2, if_pos (by omega)]
    rfl
  have hl : 17 = (encAll D R).length + t.length := by rw [← h17, ← bytes_len, hb, List.length_append]
  have hR2 : R = [xa] := by
    rcases hR with h | h
    · exact h
    · rw [h, encAll_append, encAll_one, encAll_one, List.length_append, enc_len hD, enc_len hD] at hl
      have e1 : xa.length = 2 := rfl
      have e2 : xb.length = 2 := rfl
      omega
  subst hR2
  refine ⟨s3, t, rfl, hc, hsc, by omega, ?_⟩
  rw [← bytes_len, (open_bytes hb (crash_ok hgone.ok 5) ⟨rfl, rfl⟩).1, encAll_one, enc_len hD]
  rfl
end
set_option maxRecDepth 100000 in
set_option maxHeartbeats 2000000 in
theorem awake_in {RS : RepSt} {RJ : RepJ} {D : By → By} (w : World) (H : JourHas w RS RJ D) : Calls Tryd.prog 4 #[] w fun e w' => e = .returned (.bool true) ∧ Below w.heap.size w w' := by
  have HH := Lib.hid H
  obtain ⟨s3, t3, hs3, hc3, hsc3, hn3, ho3⟩ := found H.dlen
  have HS3 := Lib.hid hs3
  have HC3 := Lib.hid hc3
  have HSC3 := Lib.hid hsc3
  have HN3 := Lib.hid hn3
  have HO3 := Lib.hid ho3
  clear hs3 hc3 hsc3 hn3 ho3
  have kc := fun (w : World) (C : Array Value) (n c : Nat) => Lib.run_convert_bytes_const (P := Tryd.prog) w 35 5 C n c Tryd.underlying35 Tryd.underlying5
  have two : ∀ (W : World) (mk : Nat × Nat) (x y : BitVec 8) (zx zy : Int), zx = (x.toNat : Int) → zy = (y.toNat : Int) → BytesIn (W.alloc (.cells #[.int .u8 zx, .int .u8 zy] 5 mk)) (fun b => b = W.heap.size) 2 (fnL [x, y]) (.slice (some ⟨W.heap.size, 0, none⟩) 2 2) := fun W mk x y zx zy h1 h2 => by
    refine ⟨_, 2, rfl, Nat.le_refl _, fun _ => ⟨W.heap.size, 0, rfl, rfl, fun j hj => ?_⟩⟩
    subst h1 h2
    rcases (show j = 0 ∨ j = 1 by omega) with rfl | rfl
    · exact World.cell?_alloc_mark W _ 5 mk 0
    · exact World.cell?_alloc_mark W _ 5 mk 1
  have TWO := Lib.hid two
  clear H two
  go_enter Tryd.func4, Tryd.ntmps4
  go_wp2_with fail
  refine (HH.out.newH 1000 (by omega) w (Below.refl _ _)).mono ?_
  rintro _ w1 ⟨p, rfl, h1⟩
  have H1 := Lib.hid h1
  clear h1
  go_wp2_with fail
  refine (HH.out.openH H1.out (R := []) (t := []) rfl ⟨rfl, rfl⟩ (by show (0 : Nat) ≤ _; omega)).mono ?_
  rintro _ w2 ⟨j, rfl, h2, -⟩
  have H2 : Hid (JT RS RJ w w2 (fun _ => False) (.pointer (some p)) (.pointer (some j)) 1000 st0 []) := Lib.hid h2
  clear h2 H1
  go_wp2_with fail
  have b2 : Below w2.heap.size w2 (w2.alloc (.cells #[.int .u8 97, .int .u8 98] 5 (2, 3))) := (Below.refl _ _).alloc (Nat.le_refl _) _
  refine (HH.out.addT (HH.out.more (X' := fun b => b = w2.heap.size) H2.out b2 (fun b hb => .inr (by rw [hb]; simp))) xa _ ((TWO.out w2 (2, 3) 97 98 97 98 rfl rfl).less (fun b _ hb => .inr hb)) (by decide) (by show (0 : Nat) ≤ _; omega) (by show (0 : Nat) ≤ _; omega)).mono ?_
  rintro _ w3 ⟨rfl, h3, -, -⟩
  rw [code1 HH.out.dlen] at h3 ⊢
  have H3 := Lib.hid ((h3 (by decide)).less (X' := fun _ => False) (fun _ h => h.elim))
  clear h3 b2 H2
  go_wp2_with fail
  refine (HH.out.fuseT H3.out 1 (by omega) (by omega)).mono ?_
  rintro _ w4 ⟨rfl, h4, -⟩
  have H4 := Lib.hid h4
  clear h4 H3
  go_wp2_with fail
  have b4 : Below w4.heap.size w4 (w4.alloc (.cells #[.int .u8 99, .int .u8 100] 5 (2, 3))) := (Below.refl _ _).alloc (Nat.le_refl _) _
  have HN1 : Hid ((fuseS (addS D 1000 st0 xa) 1).n ≤ 100000) := Lib.hid (by rw [state1 HH.out.dlen]; show (12 : Nat) ≤ _; omega)
  have HL1 : Hid ((addL D 1000 st0 [] xa).length ≤ 10000) := Lib.hid (by rw [(good1 HH.out.dlen).2]; show (1 : Nat) ≤ _; omega)
  refine (HH.out.addT (HH.out.more (X' := fun b => b = w4.heap.size) H4.out b4 (fun b hb => .inr (by rw [hb]; simp))) xb _ ((TWO.out w4 (2, 3) 99 100 99 100 rfl rfl).less (fun b _ hb => .inr hb)) (by decide) HN1.out HL1.out).mono ?_
  rintro _ w5 ⟨rfl, -, h5, -⟩
  rw [HS3.out] at h5
  rw [HC3.out]
  have H5 : Hid (Held RS w w5 (fun _ => False) (.pointer (some p)) 1000 s3) := Lib.hid (h5.less (fun _ h => h.elim))
  clear h5 b4 H4 HN1 HL1 HS3 HC3
  go_wp2_with fail
  refine (HH.out.crashH H5.out 5 (by omega) (by omega)).mono ?_
  rintro _ w6 ⟨rfl, h6, -⟩
  have H6 := Lib.hid h6
  clear h6 H5
  go_wp2_with fail
  refine (HH.out.openH H6.out HSC3.out ⟨rfl, rfl⟩ HN3.out).mono ?_
  rintro _ w7 ⟨k, rfl, h7, -⟩
  have H7 := Lib.hid h7
  clear h7 H6
  go_wp2_with fail
  refine (HH.out.open_nil w7).mono ?_
  rintro _ w8 ⟨rfl, b8⟩
  have H8 := Lib.hid (HH.out.more (X' := fun _ => False) H7.out b8 (fun _ h => h.elim))
  clear b8 H7
  go_wp2_with fail
  refine (HH.out.recsT H8.out (by show (1 : Nat) ≤ _; omega) (fun x hx => by rw [List.mem_singleton.1 hx]; decide)).mono ?_
  rintro _ w9 ⟨v, r, rfl, h9, hp, -, -⟩
  obtain ⟨A, c, rfl, hc, hr⟩ := hp
  obtain ⟨sb, so, rfl, hrb, hi⟩ := hr (by decide)
  obtain ⟨u, hu, hby⟩ := hi 0 xa rfl
  obtain ⟨A2, c2, rfl, hc2, hr2⟩ := hby
  obtain ⟨sb2, so2, rfl, hrb2, hj⟩ := hr2 (by decide)
  have n1 : [xa].length = 1 := rfl
  have n2 : xa.length = 2 := rfl
  rw [n2] at hu
  rw [n1]
  have kb : (convert 35 9 (.slice (some ⟨sb2, so2, none⟩) 2 c2)).run Tryd.prog w9 = .ok (.string ⟨#[97, 98]⟩) w9 := by
    refine run_convert_bytes_back w9 35 9 5 ⟨sb2, so2, none⟩ c2 [97, 98] Tryd.underlying35 Tryd.underlying5 Tryd.underlying9 (fun j hj' => ?_)
    rw [Addr.add_mid]
    have h3 : j < 2 := by simpa using hj'
    have := hj j h3
    rcases (show j = 0 ∨ j = 1 by omega) with rfl | rfl
    · exact this
    · exact this
  have H9 := Lib.hid h9.held
  have hu' : w9.cell? ⟨sb, so, none⟩ = some (.slice (some ⟨sb2, so2, none⟩) 2 c2) := by simpa using hu
  clear h9 hr hi hr2 hj hu hrb hrb2 H8
  go_wp2_with fail
  refine (HH.out.readH H9.out).mono ?_
  rintro _ w10 ⟨A10, c10, rfl, h10, -⟩
  rw [HO3.out]
  have B10 := Lib.hid h10.bel
  clear h10 H9 hu' kb
  go_wp2
  go_ret
  exact ⟨rfl, B10.out⟩
end Go.Proofs.YtpnkcacmmjmehaaDoor.Law14
