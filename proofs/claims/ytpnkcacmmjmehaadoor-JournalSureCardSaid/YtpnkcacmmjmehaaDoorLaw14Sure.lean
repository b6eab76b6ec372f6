/-
  The walk of JournalSure.
-/
import Derived.Test.YtpnkcacmmjmehaaDoorLaw14Kit
import Derived.Test.YtpnkcacmmjmehaaDoorFork
import Derived.Deep.CutBlock
import Derived.Deep.DeepCutAuto
namespace Go.Proofs.YtpnkcacmmjmehaaDoor.Law14
open Go Go.RowKit Go.Proofs.YtpnkcacmmjmehaaDoor.Aid Go.Proofs.YtpnkcacmmjmehaaDoor.Cache Go.Proofs.YtpnkcacmmjmehaaDoor.Store Go.Proofs.YtpnkcacmmjmehaaDoor.Jour

theorem sumJ_mono (X : Nat → OpJ) (k j : Nat) : sumJ X k ≤ sumJ X (k + j) := by
  induction j with
  | zero => exact Nat.le_refl _
  | succ j ih => exact Nat.le_trans ih (Nat.le_add_right _ _)
theorem crash_up (s : St) (k : Int) : (crashS s k).burn = -1 ∧ (crashS s k).down = false := ⟨rfl, rfl⟩
set_option maxRecDepth 100000 in
set_option maxHeartbeats 8000000 in
theorem sure_any {RS : RepSt} {RJ : RepJ} {D : By → By} (n0 n1 : Int) (h0 : -9223372036854775808 ≤ n0 ∧ n0 ≤ 9223372036854775807) (h1 : -9223372036854775808 ≤ n1 ∧ n1 ≤ 9223372036854775807) (n : Nat) (X : Nat → OpJ) (v : Value) (w00 : World) (H0 : JourHas w00 RS RJ D) (hv : OpsJIn w00 n X v) :
    Calls Tryd.prog 3 #[v, .agg #[.int .i64 n0, .int .i64 n1]] w00 fun x w' => x = .returned (.bool true) ∧ Below w00.heap.size w00 w' := by
  have SZ := Lib.hid (fun w1 hb => size_any n X v w1 w00 hv hb)
  obtain ⟨A, c, rfl, hr⟩ := hv.rows
  have HV := Lib.hid hr
  have HLT := Lib.hid hv.lt
  have HN0 := Lib.hid h0
  have HN1 := Lib.hid h1
  obtain ⟨gn, hgn⟩ : ∃ gn, gn = w00.heap.size := ⟨_, rfl⟩
  obtain ⟨w, hw⟩ : ∃ w, w = w00.alloc (.cells #[.int .i64 n0, .int .i64 n1] 23) := ⟨_, rfl⟩
  have hrow : w.rowIs w00.heap.size 23 2 (fun j => if j = 0 then .int .i64 n0 else .int .i64 n1) := by
    rw [hw]
    refine World.rowIs_alloc _ _ _ _ (fun i hi => ?_)
    simp at hi
    rcases (show i = 0 ∨ i = 1 by omega) with rfl | rfl <;> rfl
  have HB00 : Hid (Below w00.heap.size w00 w) := Lib.hid (by rw [hw]; exact (Below.refl _ _).alloc (Nat.le_refl _) _)
  have HH := Lib.hid (H0.up HB00.out)
  have AW := Lib.hid (awake_in w HH.out)
  have HGN : Hid (gn < w.heap.size ∧ w.cell? ⟨gn, 0, none⟩ = some (.int .i64 n0) ∧ w.cell? ⟨gn, 1, none⟩ = some (.int .i64 n1)) := Lib.hid (by rw [hgn]; exact ⟨hrow.lt, hrow.cell (i := 0) (by omega), hrow.cell (i := 1) (by omega)⟩)
  clear hv hr H0 h0 h1 hrow
  go_enter Tryd.func3, Tryd.ntmps3
  go_wp2_with fail
  rw [← hw, ← hgn]
  clear hw hgn
  refine AW.out.mono ?_
  rintro _ w1 ⟨rfl, hb1⟩
  have B1 := Lib.hid hb1
  clear AW hb1
  go_wp2_with fail
  refine (SZ.out w1 (HB00.out.trans (B1.out.mono HB00.out.size))).mono ?_
  rintro _ w2 ⟨s, rfl, hb2, hsz, hsm⟩
  have B2 : Hid (Below w.heap.size w w2) := Lib.hid (B1.out.trans (hb2.mono B1.out.size))
  have HSZ := Lib.hid hsz
  have HSM := Lib.hid hsm
  clear B1 hb2 hsz SZ hsm
  by_cases hs : 2000 < s
  · have q : (2000 : Int) < (s : Int) := by omega
    have HB2 : Hid (Below w00.heap.size w00 w2) := Lib.hid (HB00.out.trans (B2.out.mono HB00.out.size))
    clear HV HH HLT HSZ HSM
    go_wp2
    go_ret
    exact ⟨rfl, HB2.out⟩
  have q : ¬ (2000 : Int) < (s : Int) := by omega
  have HS2 := Lib.hid (HSZ.out (by omega))
  have HSB : Hid (∀ k, k ≤ n → sumJ X k ≤ 2000) := Lib.hid (fun k hk => by
    have h1 := sumJ_mono X k (n - k)
    rw [show k + (n - k) = n by omega] at h1
    exact Nat.le_trans h1 (HSM.out (by omega)))
  clear HSZ HSM
  go_wp2_with fail
  refine (HH.out.newH 1048576 (Nat.le_refl _) w2 B2.out).mono ?_
  rintro _ w3 ⟨p, rfl, g3⟩
  have G3 := Lib.hid g3
  clear g3 B2
  go_wp2_with fail
  refine (HH.out.openH G3.out (R := []) (t := []) rfl ⟨rfl, rfl⟩ (by show (0 : Nat) ≤ _; omega)).mono ?_
  rintro _ w4 ⟨j, rfl, g4, -⟩
  have G4 : Hid (JT RS RJ w w4 (fun _ => False) (.pointer (some p)) (.pointer (some j)) 1048576 st0 []) := Lib.hid g4
  have d0 := (g4.bel.cell (p := ⟨gn, 0, none⟩) HGN.out.1).trans HGN.out.2.1
  clear g4 G3
  go_wp2_with fail
  refine (HH.out.fuseT G4.out n0 HN0.out.1 HN0.out.2).mono ?_
  rintro _ w5 ⟨rfl, g5, -⟩
  have L5 : Hid (LoopI RS RJ D w w5 (.pointer (some p)) (.pointer (some j)) [] [] (.slice none 0 0) (.slice none 0 0) false) := Lib.hid
    ⟨_, _, ⟨⟨none, 0, rfl, Nat.le_refl _, fun h => absurd h (by decide)⟩, ⟨none, 0, rfl, Nat.le_refl _, fun h => absurd h (by decide)⟩, fun _ => rfl⟩, .inl ⟨rfl, g5, ⟨rfl, rfl, (fun _ h => by cases h), fuse_ok ⟨Nat.le_refl _, Nat.zero_le _, Nat.le_refl _, by show (-1 : Int) ≤ -1; omega, by show (-1 : Int) ≤ _; omega⟩ n0 HN0.out.2⟩⟩⟩
  clear g5 G4 d0
  go_wp2
  go_loopw [10, 11, 12, 13] (fun sv wv dv iv wr => ∃ (k : Nat) (L Lw : List By) (down : Bool), k ≤ n ∧ iv = .int .i64 (k : Int) ∧ dv = .bool down ∧ Hid ((encAll D L).length ≤ 2 * sumJ X k ∧ (encAll D Lw).length ≤ 2 * sumJ X k) ∧ Hid (LoopI RS RJ D w wr (.pointer (some p)) (.pointer (some j)) L Lw sv wv down)) (fun _ _ _ i _ => n - (intOf i).toNat)
  case atStart => exact ⟨0, [], [], false, by omega, rfl, rfl, Lib.hid ⟨Nat.le_refl _, Nat.le_refl _⟩, L5⟩
  case round =>
    clear L5
    obtain ⟨k, L, Lw, down, hk, rfl, rfl, hsz, hh⟩ := hrel
    by_cases hlt : k < n
    · have q1 : (k : Int) < (n : Int) := by omega
      cases down with
      | false =>
        obtain ⟨b, o, rfl, hbB, hc⟩ := HV.out (by omega)
        have hbel : Below w00.heap.size w00 wr := HB00.out.trans (hh.out.bel.mono HB00.out.size)
        obtain ⟨bA, bc, hbv⟩ := (HLT.out k hlt).shape
        have hread := (HLT.out k hlt).read
        have c0 := (hbel.cell (p := ⟨b, o + k * 3, none⟩) hbB).trans (hc k hlt 0 _ rfl)
        have c1 := (hbel.cell (p := ⟨b, o + k * 3 + 1, none⟩) hbB).trans (hc k hlt 1 _ rfl)
        have c2 := (hbel.cell (p := ⟨b, o + k * 3 + 2, none⟩) hbB).trans (hc k hlt 2 _ rfl)
        rw [hbv] at c2 hread
        have q0 : (0 : Int) ≤ (k : Int) := by omega
        have HX : Hid ((X k).x.length ≤ 2000) := Lib.hid (HS2.out.2 k hlt)
        have HSU : Hid (2 * sumJ X k + (10 + (X k).x.length) ≤ 2 * sumJ X (k + 1) ∧ 20 + 2 * (X k).x.length ≤ 2 * sumJ X (k + 1) ∧ sumJ X (k + 1) ≤ 2000 ∧ sumJ X k ≤ 2000) := Lib.hid ⟨by show _ ≤ 2 * (sumJ X k + (2 * (X k).x.length + 10)); omega, by show _ ≤ 2 * (sumJ X k + (2 * (X k).x.length + 10)); omega, HSB.out (k + 1) (by omega), HSB.out k hk⟩
        obtain ⟨X0, st, hs0, hcase⟩ := hh.out
        obtain ⟨hJ, hG⟩ : JT RS RJ w wr X0 (.pointer (some p)) (.pointer (some j)) 1048576 st L ∧ JGood D 1048576 st L := by
          rcases hcase with ⟨_, h1, h2⟩ | ⟨h1, _⟩
          · exact ⟨h1, h2⟩
          · cases h1
        have HG := Lib.hid hG
        have hb1 : Below wr.heap.size wr (wr.alloc (.cells #[.int .i64 (X k).d, .int .i64 (X k).k, .slice bA (X k).x.length bc] 37)) := (Below.refl _ _).alloc (Nat.le_refl _) _
        have HJ1 := Lib.hid (HH.out.more (X' := fun b => X0 b ∨ b = wr.heap.size) hJ hb1 (fun x hx => hx.imp_right (fun h => by rw [h]; simp)))
        have HS1 := Lib.hid (hs0.below (X' := fun b => X0 b ∨ b = wr.heap.size) hb1 (fun _ h => .inl h))
        have hbel1 : Below w00.heap.size w00 (wr.alloc (.cells #[.int .i64 (X k).d, .int .i64 (X k).k, .slice bA (X k).x.length bc] 37)) := hbel.trans (hb1.mono hbel.size)
        have HBY : Hid (∀ X1 W, Below w00.heap.size w00 W → BytesIn W (okB w X1) (X k).x.length (fnL (X k).x) (.slice bA (X k).x.length bc)) := Lib.hid (fun X1 W hW => (bytes_old hread hW).less (fun b _ h => .inl (Nat.lt_of_lt_of_le h HB00.out.size)))
        have e0 : (wr.alloc (.cells #[.int .i64 (X k).d, .int .i64 (X k).k, .slice bA (X k).x.length bc] 37)).cell? ⟨wr.heap.size, 0, none⟩ = some (.int .i64 (X k).d) := by go_simp
        have e2 : (wr.alloc (.cells #[.int .i64 (X k).d, .int .i64 (X k).k, .slice bA (X k).x.length bc] 37)).cell? ⟨wr.heap.size, 2, none⟩ = some (.slice bA (X k).x.length bc) := by go_simp
        have E0 := Lib.hid e0
        have E2 := Lib.hid e2
        have HBEL1 := Lib.hid hbel1
        have HBW1 := Lib.hid HJ1.out.bel
        have HKK := Lib.hid hk
        have HLT1 : Hid (k + 1 ≤ n) := Lib.hid (by omega)
        have HW5 : Hid (wrap64 ((k : Int) + 1) = ((k + 1 : Nat) : Int)) := Lib.hid ((wrap64_id (by omega) (by have := HS2.out.1; omega)).trans (by omega))
        generalize (X k).d = d at *
        generalize (X k).k = kk at *
        generalize (X k).x = x at *
        clear hc HV hbel hbv hread HLT hs0 hcase hJ hG hb1 hbel1 e0 e2 hh hlt hk HSB
        go_upto_region 17 with fail
        clear c0 c1 c2
        have e0 := E0.out
        have e2 := E2.out
        generalize wr.alloc (.cells #[.int .i64 d, .int .i64 kk, .slice bA x.length bc] 37) = W1 at *
        generalize wr.heap.size = gx at *
        go_upto_if 67 with fail
        go_cut [11, 15] from 51 to 94 (fun wv fv wx => ∃ (cd : Int) (L2 : List By), fv = .int .i64 cd ∧ Hid ((encAll D L2).length ≤ 2 * sumJ X (k + 1) ∧ L2 ≠ []) ∧ Hid (Aft RS RJ D w wx (.pointer (some p)) (.pointer (some j)) L L2 u10 wv cd))
        case first =>
          have HSTN : Hid (st.n ≤ 100000) := Lib.hid (by have h1 := good_n HG.out; have h2 := hsz.out.1; have h3 := HSU.out.2.2.2; omega)
          have HLL : Hid (L.length ≤ 10000) := Lib.hid (by have h1 := encAll_len HH.out.dlen L; have h2 := hsz.out.1; have h3 := HSU.out.2.2.2; omega)
          by_cases hd : d = 1
          · subst hd
            have hb2 : Below W1.heap.size W1 (W1.alloc (.cells #[.slice bA x.length bc, .slice bA x.length bc] 35)) := (Below.refl _ _).alloc (Nat.le_refl _) _
            have HJ2 := Lib.hid (HH.out.more (X' := fun b => (X0 b ∨ b = gx) ∨ b = W1.heap.size) HJ1.out hb2 (fun x hx => hx.imp_right (fun h => by rw [h]; simp)))
            have HP2 : Hid (PartsP (W1.alloc (.cells #[.slice bA x.length bc, .slice bA x.length bc] 35)) (okB w (fun b => (X0 b ∨ b = gx) ∨ b = W1.heap.size)) [x, x] (.slice (some ⟨W1.heap.size, 0, none⟩) 2 2)) := Lib.hid
              ⟨_, 2, rfl, Nat.le_refl _, fun _ => ⟨W1.heap.size, 0, rfl, .inr (.inr rfl), fun i y hy => by
                have hr := W1.rowIs_alloc #[.slice bA x.length bc, .slice bA x.length bc] 35 (fun _ => .slice bA x.length bc) (fun i hi => by
                  simp at hi
                  rcases (show i = 0 ∨ i = 1 by omega) with rfl | rfl <;> rfl)
                have hi : i < 2 := by have := (List.getElem?_eq_some_iff.1 hy).1; simpa using this
                have hyx : y = x := by
                  rcases (show i = 0 ∨ i = 1 by omega) with rfl | rfl
                  · simpa using hy.symm
                  · simpa using hy.symm
                subst hyx
                refine ⟨_, ?_, HBY.out _ _ (HBEL1.out.trans (hb2.mono HBEL1.out.size))⟩
                rw [Nat.zero_add]
                exact hr.cell hi⟩⟩
            have HS2b := Lib.hid (SureAt.way (HS1.out.below (X' := fun b => (X0 b ∨ b = gx) ∨ b = W1.heap.size) hb2 (fun _ h => .inl h)) HP2.out)
            clear hb2
            go_wp2_with fail
            refine (HH.out.onlyT HJ2.out [x, x] _ HP2.out (by simp) (fun y hy => by have h1 : y = x := by simpa using hy
                                                                                    rw [h1]; exact HX.out) HSTN.out).mono ?_
            rintro _ w8 ⟨rfl, j8, g8, kp8⟩
            have HEND : Hid (Aft RS RJ D w w8 (.pointer (some p)) (.pointer (some j)) L [x, x] u10 (.slice (some ⟨W1.heap.size, 0, none⟩) 2 2) (onlyC D 1048576 st [x, x])) := Lib.hid (by
              refine ⟨_, onlyS D 1048576 st [x, x], HS2b.out.keep (X' := fun b => (X0 b ∨ b = gx) ∨ b = W1.heap.size) HJ2.out.bel g8.bel kp8 (fun _ h => h), ?_⟩
              rcases only_step (M := [x, x]) HG.out with ⟨h1, h2, h3⟩ | ⟨h1, h2, h3⟩ | ⟨h1, h2⟩
              · have := j8 (by rw [h1]; decide)
                rw [h3] at this
                exact .inl ⟨h1, this, h2⟩
              · have := j8 (by rw [h1]; decide)
                rw [h3] at this
                exact .inr (.inl ⟨h1, this, h2⟩)
              · exact .inr (.inr ⟨h1, g8, h2⟩))
            have HL8 : Hid ((encAll D [x, x]).length ≤ 2 * sumJ X (k + 1) ∧ [x, x] ≠ []) := Lib.hid (by
              refine ⟨?_, by simp⟩
              have h1 := enc_len HH.out.dlen x
              have h2 := HSU.out.2.1
              rw [encAll, encAll, encAll, List.append_nil, List.length_append, h1]
              omega)
            clear j8 g8 kp8 HS2b HP2 HJ2
            go_wp2
            go_meet
            exact ⟨_, _, rfl, HL8, HEND⟩
          · have hd1 : (d == 1) = false := by simp [hd]
            obtain ⟨As, cs, rs, hsv, hcs, hvals⟩ := HS1.out.sv.vals
            have HVA := Lib.hid hvals
            have HNI : Hid (L.length = 0 → As = none ∧ cs = 0) := Lib.hid (fun h0 => by
              have h1 := HS1.out.nil (List.eq_nil_of_length_eq_zero h0)
              rw [hsv] at h1
              simp only [Value.slice.injEq] at h1
              exact ⟨h1.1, h1.2.2⟩)
            subst hsv
            clear hvals hcs
            go_wp2_with fail
            have hS0 : Below W1.heap.size W1 W1.drew := (Below.refl _ _).drew
            refine region_h (fun W => Below W1.heap.size W1 W) 8 (by kernel_rfl) rfl ?_
            have HGX : Hid (∀ W, Below W1.heap.size W1 W → W.cell? ⟨gx, 2, none⟩ = some (.slice bA x.length bc)) := Lib.hid (fun W hW => (hW.cell (p := ⟨gx, 2, none⟩) (block_lt_of_cell E2.out)).trans E2.out)
            refine f_take 1 rfl (by kernel_rfl) (by rfl) _ (fun W hW => by go_simp; rfl) hS0 ?_
            simp only [Act.put, List.setIfInBounds_toArray, List.set_cons_zero, List.set_cons_succ]
            refine f_take 3 rfl (by kernel_rfl) (by rfl) _ (fun W hW => by go_simp; rfl) hS0 ?_
            simp only [Act.put, List.setIfInBounds_toArray, List.set_cons_zero, List.set_cons_succ]
            refine f_take 4 rfl (by kernel_rfl) (by rfl) _ (fun W hW => by have u2 := HGX.out W hW; go_simp; rfl) hS0 ?_
            simp only [Act.put, List.setIfInBounds_toArray, List.set_cons_zero, List.set_cons_succ]
            clear e0 e2
            have HL8 : Hid ((encAll D (L ++ [x])).length ≤ 2 * sumJ X (k + 1) ∧ L ++ [x] ≠ []) := Lib.hid (by
              refine ⟨?_, by simp⟩
              have h1 := enc_len HH.out.dlen x
              have h2 := HSU.out.1
              have h3 := hsz.out.1
              rw [encAll_append, encAll_one, List.length_append, h1]
              omega)
            have BV0 := Lib.hid hS0
            clear hS0
            generalize W1.drew = V0 at *
            refine f_two 0 5 rfl rfl (by kernel_rfl) ?_ ?_
            · go_wp2_with fail
              have bb : Below V0.heap.size V0 (V0.alloc (.cells #[] 35)) := (Below.refl _ _).alloc (Nat.le_refl _) _
              have OE1 : Hid (OwnV (V0.alloc (.cells #[] 35)) W1.heap.size 35 (.slice (some ⟨V0.heap.size, 0, none⟩) 0 0) []) := Lib.hid ((OwnV.empty V0 35).lower BV0.out.size)
              have BV1 : Hid (Below W1.heap.size W1 (V0.alloc (.cells #[] 35))) := Lib.hid (BV0.out.trans (bb.mono BV0.out.size))
              refine m_on BV1.out ?_
              clear bb BV0
              generalize (V0.alloc (.cells #[] 35)) = V1 at *
              generalize V0.heap.size = ge at *
              refine f_two 2 5 rfl rfl (by kernel_rfl) ?_ ?_
              · go_wp2_with (at_builtin
                             refine append_list (by rfl) (.tmp 76) (.tmp 77) 34 (by rfl) W1.heap.size 35 _ _ Tryd.underlying34 info_recs (by rfl) (by omega) [] _ (by rfl) OE1.out As cs L.length rs (by rfl) HVA.out.len HNI.out (fun h0 => by obtain ⟨sb, so, h1, _, h2⟩ := (HVA.out.below BV1.out).cells h0; exact ⟨sb, so, h1, h2⟩) HVA.out.one (by have := HLL.out; simp only [List.length_nil]; omega) BV1.out.size ?_
                             intro v1 V2 ho hg hr
                             have O1_2 : Hid (OwnV V2 W1.heap.size 35 v1 rs) := Lib.hid ho
                             have BV2 := Lib.hid (BV1.out.grown hg BV1.out.size (fun b hb => (OE1.out.lt b hb).1))
                             clear ho hg hr OE1 BV1)
                refine m_on BV2.out ?_
                refine f_go 5 rfl (by kernel_rfl) ?_
                go_wp2_with fail
                have bb : Below V2.heap.size V2 (V2.alloc (.cells #[.slice bA x.length bc] 35)) := (Below.refl _ _).alloc (Nat.le_refl _) _
                have ONE3 : Hid ((V2.alloc (.cells #[.slice bA x.length bc] 35)).cell? ⟨V2.heap.size, 0, none⟩ = some (.slice bA x.length bc)) := Lib.hid ((V2.rowIs_alloc #[.slice bA x.length bc] 35 (fun _ => .slice bA x.length bc) (fun i hi => by simp at hi; subst hi; rfl)).cell (i := 0) (by simp))
                have O1_3 := Lib.hid (O1_2.out.below bb)
                clear O1_2
                have BV3 : Hid (Below W1.heap.size W1 (V2.alloc (.cells #[.slice bA x.length bc] 35))) := Lib.hid (BV2.out.trans (bb.mono BV2.out.size))
                refine m_on BV3.out ?_
                clear bb BV2
                generalize (V2.alloc (.cells #[.slice bA x.length bc] 35)) = V3 at *
                generalize V2.heap.size = go at *
                refine f_go 6 rfl (by kernel_rfl) ?_
                go_wp2_with (at_builtin
                             refine append_vals (by rfl) (.tmp 78) (.tmp 81) 34 (by rfl) W1.heap.size 35 _ _ Tryd.underlying34 info_recs (by rfl) (by omega) rs _ (by rfl) O1_3.out go 0 1 1 [.slice bA x.length bc] (by rfl) rfl (fun j u hj => by match j, hj with | 0, hj => simp at hj; rw [← hj]; exact ONE3.out) (fun u hu => by rw [List.mem_singleton.1 hu]; rfl) (by have := HLL.out; have := HVA.out.len; omega) BV3.out.size ?_
                             intro v2 V4 ho hg hr
                             have O2 := Lib.hid ho
                             have BV4 := Lib.hid (BV3.out.grown hg BV3.out.size (fun b hb => (O1_3.out.lt b hb).1))
                             clear ho hg hr ONE3 O1_3 BV3)
                refine m_on BV4.out ?_
                refine f_take 7 rfl (by kernel_rfl) (by rfl) _ (fun W hW => by go_simp; rfl) BV4.out ?_
                simp only [Act.put, List.setIfInBounds_toArray, List.set_cons_zero, List.set_cons_succ]
                refine f_end (by kernel_rfl) ?_
                have HJ2 := Lib.hid (HH.out.more (X' := fun b => (X0 b ∨ b = gx) ∨ v2.ownBlock = some b) HJ1.out BV4.out (fun b hb => hb.imp_right (fun h => O2.out.lt b h)))
                have HS2b := Lib.hid (SureAt.way (HS1.out.below (X' := fun b => (X0 b ∨ b = gx) ∨ v2.ownBlock = some b) BV4.out (fun _ h => .inl h)) (parts_snoc HVA.out BV4.out (HBY.out _ _ (HBEL1.out.trans (BV4.out.mono HBEL1.out.size))) O2.out (fun b hb => hb.imp_right .inl) (fun b hb => .inr (.inr hb))))
                have e2 := HGX.out V4 BV4.out
                clear O2
                go_wp2_with fail
                refine (HH.out.addT HJ2.out x _ (HBY.out _ _ (HBEL1.out.trans (BV4.out.mono HBEL1.out.size))) HX.out HSTN.out HLL.out).mono ?_
                rintro _ w8 ⟨rfl, j8, g8, kp8⟩
                have HEND : Hid (Aft RS RJ D w w8 (.pointer (some p)) (.pointer (some j)) L (L ++ [x]) (.slice As L.length cs) v2 (addC D 1048576 st x)) := Lib.hid (by
                  refine ⟨_, addS D 1048576 st x, HS2b.out.keep (X' := fun b => (X0 b ∨ b = gx) ∨ v2.ownBlock = some b) HJ2.out.bel g8.bel kp8 (fun _ h => h), ?_⟩
                  rcases add_step (x := x) HG.out with ⟨h1, h2, h3⟩ | ⟨h1, h2, h3⟩ | ⟨h1, h2⟩
                  · have := j8 (by rw [h1]; decide)
                    rw [h3] at this
                    exact .inl ⟨h1, this, h2⟩
                  · have := j8 (by rw [h1]; decide)
                    rw [h3] at this
                    exact .inr (.inl ⟨h1, this, h2⟩)
                  · exact .inr (.inr ⟨h1, g8, h2⟩))
                clear j8 g8 kp8 HS2b HJ2 e2
                go_wp2
                go_meet
                exact ⟨_, _, rfl, HL8, HEND⟩
              · go_wp2_with fail
                have bb : Below V1.heap.size V1 (V1.alloc (.cells #[.slice bA x.length bc] 35)) := (Below.refl _ _).alloc (Nat.le_refl _) _
                have hge : V1.heap.size ≠ ge := by have := (OE1.out.lt ge rfl).2; omega
                have ONE2 : Hid ((V1.alloc (.cells #[.slice bA x.length bc] 35)).cell? ⟨V1.heap.size, 0, none⟩ = some (.slice bA x.length bc) ∧ V1.heap.size ≠ ge) := Lib.hid ⟨(V1.rowIs_alloc #[.slice bA x.length bc] 35 (fun _ => .slice bA x.length bc) (fun i hi => by simp at hi; subst hi; rfl)).cell (i := 0) (by simp), hge⟩
                have OE2 := Lib.hid (OE1.out.below bb)
                clear hge OE1
                have BV2 : Hid (Below W1.heap.size W1 (V1.alloc (.cells #[.slice bA x.length bc] 35))) := Lib.hid (BV1.out.trans (bb.mono BV1.out.size))
                refine m_on BV2.out ?_
                clear bb BV1
                generalize (V1.alloc (.cells #[.slice bA x.length bc] 35)) = V2 at *
                generalize V1.heap.size = go at *
                refine f_go 2 rfl (by kernel_rfl) ?_
                go_wp2_with (at_builtin
                             refine append_list (by rfl) (.tmp 76) (.tmp 77) 34 (by rfl) W1.heap.size 35 _ _ Tryd.underlying34 info_recs (by rfl) (by omega) [] _ (by rfl) OE2.out As cs L.length rs (by rfl) HVA.out.len HNI.out (fun h0 => by obtain ⟨sb, so, h1, _, h2⟩ := (HVA.out.below BV2.out).cells h0; exact ⟨sb, so, h1, h2⟩) HVA.out.one (by have := HLL.out; simp only [List.length_nil]; omega) BV2.out.size ?_
                             intro v1 V3 ho hg hr
                             have O1_3 : Hid (OwnV V3 W1.heap.size 35 v1 rs) := Lib.hid ho
                             have BV3 := Lib.hid (BV2.out.grown hg BV2.out.size (fun b hb => (OE2.out.lt b hb).1))
                             have ONE3 : Hid (V3.cell? ⟨go, 0, none⟩ = some (.slice bA x.length bc)) := Lib.hid (by rw [← ONE2.out.1]; unfold World.cell?; rw [hg.block go (block_lt_of_cell ONE2.out.1) (fun e => ONE2.out.2 (Option.some.inj e))])
                             clear ho hg hr OE2 BV2 ONE2)
                refine m_on BV3.out ?_
                refine f_go 6 rfl (by kernel_rfl) ?_
                go_wp2_with (at_builtin
                             refine append_vals (by rfl) (.tmp 78) (.tmp 81) 34 (by rfl) W1.heap.size 35 _ _ Tryd.underlying34 info_recs (by rfl) (by omega) rs _ (by rfl) O1_3.out go 0 1 1 [.slice bA x.length bc] (by rfl) rfl (fun j u hj => by match j, hj with | 0, hj => simp at hj; rw [← hj]; exact ONE3.out) (fun u hu => by rw [List.mem_singleton.1 hu]; rfl) (by have := HLL.out; have := HVA.out.len; omega) BV3.out.size ?_
                             intro v2 V4 ho hg hr
                             have O2 := Lib.hid ho
                             have BV4 := Lib.hid (BV3.out.grown hg BV3.out.size (fun b hb => (O1_3.out.lt b hb).1))
                             clear ho hg hr ONE3 O1_3 BV3)
                refine m_on BV4.out ?_
                refine f_take 7 rfl (by kernel_rfl) (by rfl) _ (fun W hW => by go_simp; rfl) BV4.out ?_
                simp only [Act.put, List.setIfInBounds_toArray, List.set_cons_zero, List.set_cons_succ]
                refine f_end (by kernel_rfl) ?_
                have HJ2 := Lib.hid (HH.out.more (X' := fun b => (X0 b ∨ b = gx) ∨ v2.ownBlock = some b) HJ1.out BV4.out (fun b hb => hb.imp_right (fun h => O2.out.lt b h)))
                have HS2b := Lib.hid (SureAt.way (HS1.out.below (X' := fun b => (X0 b ∨ b = gx) ∨ v2.ownBlock = some b) BV4.out (fun _ h => .inl h)) (parts_snoc HVA.out BV4.out (HBY.out _ _ (HBEL1.out.trans (BV4.out.mono HBEL1.out.size))) O2.out (fun b hb => hb.imp_right .inl) (fun b hb => .inr (.inr hb))))
                have e2 := HGX.out V4 BV4.out
                clear O2
                go_wp2_with fail
                refine (HH.out.addT HJ2.out x _ (HBY.out _ _ (HBEL1.out.trans (BV4.out.mono HBEL1.out.size))) HX.out HSTN.out HLL.out).mono ?_
                rintro _ w8 ⟨rfl, j8, g8, kp8⟩
                have HEND : Hid (Aft RS RJ D w w8 (.pointer (some p)) (.pointer (some j)) L (L ++ [x]) (.slice As L.length cs) v2 (addC D 1048576 st x)) := Lib.hid (by
                  refine ⟨_, addS D 1048576 st x, HS2b.out.keep (X' := fun b => (X0 b ∨ b = gx) ∨ v2.ownBlock = some b) HJ2.out.bel g8.bel kp8 (fun _ h => h), ?_⟩
                  rcases add_step (x := x) HG.out with ⟨h1, h2, h3⟩ | ⟨h1, h2, h3⟩ | ⟨h1, h2⟩
                  · have := j8 (by rw [h1]; decide)
                    rw [h3] at this
                    exact .inl ⟨h1, this, h2⟩
                  · have := j8 (by rw [h1]; decide)
                    rw [h3] at this
                    exact .inr (.inl ⟨h1, this, h2⟩)
                  · exact .inr (.inr ⟨h1, g8, h2⟩))
                clear j8 g8 kp8 HS2b HJ2 e2
                go_wp2
                go_meet
                exact ⟨_, _, rfl, HL8, HEND⟩
            · go_wp2_with fail
              have bb : Below V0.heap.size V0 (V0.alloc (.cells #[.slice bA x.length bc] 35)) := (Below.refl _ _).alloc (Nat.le_refl _) _
              have ONE1 : Hid ((V0.alloc (.cells #[.slice bA x.length bc] 35)).cell? ⟨V0.heap.size, 0, none⟩ = some (.slice bA x.length bc)) := Lib.hid ((V0.rowIs_alloc #[.slice bA x.length bc] 35 (fun _ => .slice bA x.length bc) (fun i hi => by simp at hi; subst hi; rfl)).cell (i := 0) (by simp))
              have BV1 : Hid (Below W1.heap.size W1 (V0.alloc (.cells #[.slice bA x.length bc] 35))) := Lib.hid (BV0.out.trans (bb.mono BV0.out.size))
              refine m_on BV1.out ?_
              clear bb BV0
              generalize (V0.alloc (.cells #[.slice bA x.length bc] 35)) = V1 at *
              generalize V0.heap.size = go at *
              refine f_go 0 rfl (by kernel_rfl) ?_
              go_wp2_with fail
              have bb : Below V1.heap.size V1 (V1.alloc (.cells #[] 35)) := (Below.refl _ _).alloc (Nat.le_refl _) _
              have OE2 : Hid (OwnV (V1.alloc (.cells #[] 35)) W1.heap.size 35 (.slice (some ⟨V1.heap.size, 0, none⟩) 0 0) []) := Lib.hid ((OwnV.empty V1 35).lower BV1.out.size)
              have BV2 : Hid (Below W1.heap.size W1 (V1.alloc (.cells #[] 35))) := Lib.hid (BV1.out.trans (bb.mono BV1.out.size))
              have ONE2 : Hid ((V1.alloc (.cells #[] 35)).cell? ⟨go, 0, none⟩ = some (.slice bA x.length bc) ∧ go ≠ V1.heap.size) := Lib.hid ⟨(bb.cell (p := ⟨go, 0, none⟩) (block_lt_of_cell ONE1.out)).trans ONE1.out, by have := block_lt_of_cell ONE1.out; simp only at this; omega⟩
              refine m_on BV2.out ?_
              clear bb BV1 ONE1
              generalize (V1.alloc (.cells #[] 35)) = V2 at *
              generalize V1.heap.size = ge at *
              refine f_go 2 rfl (by kernel_rfl) ?_
              go_wp2_with (at_builtin
                           refine append_list (by rfl) (.tmp 76) (.tmp 77) 34 (by rfl) W1.heap.size 35 _ _ Tryd.underlying34 info_recs (by rfl) (by omega) [] _ (by rfl) OE2.out As cs L.length rs (by rfl) HVA.out.len HNI.out (fun h0 => by obtain ⟨sb, so, h1, _, h2⟩ := (HVA.out.below BV2.out).cells h0; exact ⟨sb, so, h1, h2⟩) HVA.out.one (by have := HLL.out; simp only [List.length_nil]; omega) BV2.out.size ?_
                           intro v1 V3 ho hg hr
                           have O1_3 : Hid (OwnV V3 W1.heap.size 35 v1 rs) := Lib.hid ho
                           have BV3 := Lib.hid (BV2.out.grown hg BV2.out.size (fun b hb => (OE2.out.lt b hb).1))
                           have ONE3 : Hid (V3.cell? ⟨go, 0, none⟩ = some (.slice bA x.length bc)) := Lib.hid (by rw [← ONE2.out.1]; unfold World.cell?; rw [hg.block go (block_lt_of_cell ONE2.out.1) (fun e => ONE2.out.2 (Option.some.inj e))])
                           clear ho hg hr OE2 BV2 ONE2)
              refine m_on BV3.out ?_
              refine f_go 6 rfl (by kernel_rfl) ?_
              go_wp2_with (at_builtin
                           refine append_vals (by rfl) (.tmp 78) (.tmp 81) 34 (by rfl) W1.heap.size 35 _ _ Tryd.underlying34 info_recs (by rfl) (by omega) rs _ (by rfl) O1_3.out go 0 1 1 [.slice bA x.length bc] (by rfl) rfl (fun j u hj => by match j, hj with | 0, hj => simp at hj; rw [← hj]; exact ONE3.out) (fun u hu => by rw [List.mem_singleton.1 hu]; rfl) (by have := HLL.out; have := HVA.out.len; omega) BV3.out.size ?_
                           intro v2 V4 ho hg hr
                           have O2 := Lib.hid ho
                           have BV4 := Lib.hid (BV3.out.grown hg BV3.out.size (fun b hb => (O1_3.out.lt b hb).1))
                           clear ho hg hr ONE3 O1_3 BV3)
              refine m_on BV4.out ?_
              refine f_take 7 rfl (by kernel_rfl) (by rfl) _ (fun W hW => by go_simp; rfl) BV4.out ?_
              simp only [Act.put, List.setIfInBounds_toArray, List.set_cons_zero, List.set_cons_succ]
              refine f_end (by kernel_rfl) ?_
              have HJ2 := Lib.hid (HH.out.more (X' := fun b => (X0 b ∨ b = gx) ∨ v2.ownBlock = some b) HJ1.out BV4.out (fun b hb => hb.imp_right (fun h => O2.out.lt b h)))
              have HS2b := Lib.hid (SureAt.way (HS1.out.below (X' := fun b => (X0 b ∨ b = gx) ∨ v2.ownBlock = some b) BV4.out (fun _ h => .inl h)) (parts_snoc HVA.out BV4.out (HBY.out _ _ (HBEL1.out.trans (BV4.out.mono HBEL1.out.size))) O2.out (fun b hb => hb.imp_right .inl) (fun b hb => .inr (.inr hb))))
              have e2 := HGX.out V4 BV4.out
              clear O2
              go_wp2_with fail
              refine (HH.out.addT HJ2.out x _ (HBY.out _ _ (HBEL1.out.trans (BV4.out.mono HBEL1.out.size))) HX.out HSTN.out HLL.out).mono ?_
              rintro _ w8 ⟨rfl, j8, g8, kp8⟩
              have HEND : Hid (Aft RS RJ D w w8 (.pointer (some p)) (.pointer (some j)) L (L ++ [x]) (.slice As L.length cs) v2 (addC D 1048576 st x)) := Lib.hid (by
                refine ⟨_, addS D 1048576 st x, HS2b.out.keep (X' := fun b => (X0 b ∨ b = gx) ∨ v2.ownBlock = some b) HJ2.out.bel g8.bel kp8 (fun _ h => h), ?_⟩
                rcases add_step (x := x) HG.out with ⟨h1, h2, h3⟩ | ⟨h1, h2, h3⟩ | ⟨h1, h2⟩
                · have := j8 (by rw [h1]; decide)
                  rw [h3] at this
                  exact .inl ⟨h1, this, h2⟩
                · have := j8 (by rw [h1]; decide)
                  rw [h3] at this
                  exact .inr (.inl ⟨h1, this, h2⟩)
                · exact .inr (.inr ⟨h1, g8, h2⟩))
              clear j8 g8 kp8 HS2b HJ2 e2
              go_wp2
              go_meet
              exact ⟨_, _, rfl, HL8, HEND⟩
        case rest =>
          obtain ⟨cd, L2, rfl, HL2, HAF⟩ := hcut
          have HBD : Hid ((encAll D L).length ≤ 2 * sumJ X (k + 1)) := Lib.hid (by have h1 := hsz.out.1; have h2 := HSU.out.1; omega)
          obtain ⟨X9, st9, hs9, hc9⟩ := HAF.out
          clear e0 e2 E0 E2 HJ1 HS1 HBY HG HX HAF hsz HKK
          have hle : k + 1 ≤ n := HLT1.out
          rcases hc9 with ⟨rfl, hJ, hG⟩ | ⟨rfl, hJ, hG⟩ | ⟨rfl, hJ, hG⟩
          · have HLI : Hid (LoopI RS RJ D w wc (.pointer (some p)) (.pointer (some j)) L2 L2 u11 u11 false) := Lib.hid ⟨X9, st9, ⟨hs9.wv, hs9.wv, fun h => absurd h HL2.out.2⟩, .inl ⟨rfl, hJ, hG⟩⟩
            clear hJ hG hs9
            go_wp2
            rw [HW5.out]
            exact ⟨⟨k + 1, L2, L2, false, hle, rfl, rfl, Lib.hid ⟨HL2.out.1, HL2.out.1⟩, HLI⟩, by simp [intOf]; omega⟩
          · have HLI : Hid (LoopI RS RJ D w wc (.pointer (some p)) (.pointer (some j)) L L u10 u10 false) := Lib.hid ⟨X9, st9, ⟨hs9.sv, hs9.sv, hs9.nil⟩, .inl ⟨rfl, hJ, hG⟩⟩
            clear hJ hG hs9
            go_wp2
            rw [HW5.out]
            exact ⟨⟨k + 1, L, L, false, hle, rfl, rfl, Lib.hid ⟨HBD.out, HBD.out⟩, HLI⟩, by simp [intOf]; omega⟩
          · have HLI : Hid (LoopI RS RJ D w wc (.pointer (some p)) (.pointer (some j)) L L2 u10 u11 true) := Lib.hid ⟨X9, st9, hs9, .inr ⟨rfl, hJ, hG⟩⟩
            clear hJ hG hs9
            go_wp2
            rw [HW5.out]
            exact ⟨⟨k + 1, L, L2, true, hle, rfl, rfl, Lib.hid ⟨HBD.out, HL2.out.1⟩, HLI⟩, by simp [intOf]; omega⟩
      | true =>
        clear hlt
        have HG := Lib.hid hh.out.left
        obtain ⟨HL4, HW4⟩ := hsz.out
        have HB4 : Hid ((encAll D L).length ≤ 4000 ∧ (encAll D Lw).length ≤ 4000) := Lib.hid ⟨by have := HSB.out k hk; omega, by have := HSB.out k hk; omega⟩
        clear hh hsz HL4 HW4 HV HLT HSB HS2
        obtain ⟨X4, st, hs4, hh4, hg4⟩ := HG.out
        have HS4 := Lib.hid hs4
        have HH4 := Lib.hid hh4
        have HG4 := Lib.hid hg4
        have d1 := (hh4.bel.cell (p := ⟨gn, 1, none⟩) HGN.out.1).trans HGN.out.2.2
        clear hs4 hh4 hg4 HG
        go_wp2_with fail
        refine (HH.out.crashH HH4.out n1 HN1.out.1 HN1.out.2).mono ?_
        rintro _ w6 ⟨rfl, h6, kp6⟩
        obtain ⟨R, t, hR, hsc, hb6, hsm⟩ := crash_scan HH.out.dlen HG4.out n1
        have hn6 := (crash_le HG4.out.ok n1).1
        have hn5 := gone_n HH.out.dlen HG4.out
        have HRL : Hid ((encAll D R).length ≤ 4000) := Lib.hid (by rcases hR with h | h <;> rw [h]; exact HB4.out.1; exact HB4.out.2)
        have HR := Lib.hid hR
        have HSC := Lib.hid hsc
        have HSM := Lib.hid hsm
        have HO6 := Lib.hid (open_bytes (m := 1048576) hb6 (crash_ok HG4.out.ok n1) ⟨rfl, rfl⟩)
        have HN6 : Hid ((crashS st n1).n ≤ 100000) := Lib.hid (by have := HB4.out.1; show crashN st n1 ≤ _; omega)
        have HS6 := Lib.hid (HS4.out.keep (X' := X4) HH4.out.bel h6.bel kp6 (fun _ h => h))
        have H6 := Lib.hid h6
        have HRN : Hid (R.length ≤ 10000 ∧ R.length ≤ 1000000 ∧ ∀ x ∈ R, x.length ≤ 1000000) := Lib.hid (by
          have h1 := encAll_len HH.out.dlen R
          have h2 := HRL.out
          exact ⟨by omega, by omega, fun x hx => Nat.le_trans (HSM.out x hx) (by omega)⟩)
        clear hR hsc hb6 hsm hn6 hn5 h6 kp6 HS4 HH4 HG4 d1
        have HU6P := Lib.hid (crash_up st n1)
        generalize crashS st n1 = st6 at *
        have HU6 : Hid (st6.burn = -1 ∧ st6.down = false) := Lib.hid HU6P.out
        go_wp2_with fail
        refine (HH.out.openH H6.out HSC.out HU6.out HN6.out).mono ?_
        rintro _ w7 ⟨kp, rfl, h7, kk7⟩
        have HS7 := Lib.hid (HS6.out.keep (X' := X4) H6.out.bel h7.bel kk7 (fun _ h => h))
        have H7 := Lib.hid h7
        clear h7 kk7 HS6 H6
        generalize openS 1048576 st6 t = st7 at *
        go_wp2_with fail
        refine (HH.out.recsT H7.out HRN.out.1 HSM.out).mono ?_
        rintro _ w8 ⟨v8, r8, rfl, h8, p8, n8, kk8⟩
        have HS8 := Lib.hid (HS7.out.keep (X' := X4) H7.out.bel h8.bel kk8 (fun _ h => h))
        have P8 := Lib.hid p8
        have H8 := Lib.hid (h8.less (X' := X4) (fun _ h => .inr h))
        clear h8 p8 n8 kk8 HS7 H7
        go_wp2_with fail
        refine (refSame14 R L _ _ v8 u10 w8 P8.out HS8.out.sv HRN.out.2.1 HRN.out.2.2).mono ?_
        rintro _ w9 ⟨⟨t9, rfl, ht9⟩, b9⟩
        have HT9 := Lib.hid ht9
        have HS9 := Lib.hid (HS8.out.below (X' := X4) b9 (fun _ h => h))
        have H9 := Lib.hid (HH.out.more (X' := X4) H8.out b9 (fun _ h => .inl h))
        clear ht9 b9 HS8 H8 P8
        go_wp2_with fail
        refine (HH.out.recsT H9.out HRN.out.1 HSM.out).mono ?_
        rintro _ w10 ⟨v10, r10, rfl, h10, p10, n10, kk10⟩
        have HS10 := Lib.hid (HS9.out.keep (X' := X4) H9.out.bel h10.bel kk10 (fun _ h => h))
        have P10 := Lib.hid p10
        have H10 := Lib.hid (h10.less (X' := X4) (fun _ h => .inr h))
        clear h10 p10 n10 kk10 HS9 H9
        go_wp2_with fail
        refine (refSame14 R Lw _ _ v10 u11 w10 P10.out HS10.out.wv HRN.out.2.1 HRN.out.2.2).mono ?_
        rintro _ w11 ⟨⟨t11, rfl, ht11⟩, b11⟩
        have HT11 := Lib.hid ht11
        have H11 := Lib.hid (HH.out.more (X' := X4) H10.out b11 (fun _ h => .inl h))
        clear ht11 b11 HS10 H10 P10
        go_wp2_with fail
        have HSC2 : Hid (scan D (bytesL st7) = some (R, [])) := Lib.hid (by
          rw [HO6.out.1]
          have := scan_all HH.out.dlen (L := R) HSM.out (p := []) (.inl rfl)
          rwa [List.append_nil] at this)
        have HN7 : Hid (st7.n ≤ 100000) := Lib.hid (by have := HRL.out; rw [← bytes_len, HO6.out.1]; omega)
        refine (HH.out.openT H11.out HSC2.out HO6.out.2 HN7.out).mono ?_
        rintro _ w12 ⟨mp, FK, rfl, h12, hk12, ge12, -⟩
        have H12 := Lib.hid h12
        have K12 := Lib.hid hk12
        have GE12 := Lib.hid ge12
        clear h12 hk12 ge12 H11
        go_wp2_with fail
        refine (HH.out.recsT H12.out HRN.out.1 HSM.out).mono ?_
        rintro _ w13 ⟨v13, r13, rfl, h13, p13, n13, kk13⟩
        have K13 := Lib.hid (HH.out.keepJ K12.out (fun b hb => kk13 b (.inl hb)))
        have HLT13 : Hid (∀ b, r13 b → ¬ FK b) := Lib.hid (fun b h1 h2 => by have := HH.out.ltJ K12.out b h2; have := n13 b h1; omega)
        have P13 := Lib.hid p13
        have B13 := Lib.hid h13.bel
        clear h13 p13 n13 kk13 K12 H12
        go_wp2_with fail
        refine (HH.out.recsK K13.out GE12.out B13.out HRN.out.1 HSM.out).mono ?_
        rintro _ w14 ⟨v14, rfl, p14, b14, kk14⟩
        have P14 := Lib.hid p14
        have Q14 := Lib.hid (P13.out.keep (fun b hlt hr => kk14 b hlt (HLT13.out b hr)))
        have B14 := Lib.hid b14
        clear p14 b14 kk14 K13 P13 B13 HLT13
        go_wp2_with fail
        refine (refSame14 R R _ _ v13 v14 w14 Q14.out P14.out HRN.out.2.1 HRN.out.2.2).mono ?_
        rintro _ w15 ⟨⟨t15, rfl, ht15⟩, b15⟩
        obtain rfl := ht15 rfl
        have B15 : Hid (Below w.heap.size w w15) := Lib.hid (B14.out.trans (b15.mono B14.out.size))
        have HB15 : Hid (Below w00.heap.size w00 w15) := Lib.hid (HB00.out.trans (B15.out.mono HB00.out.size))
        clear b15 ht15 P14 Q14 B14
        rcases HR.out with h | h
        · have h9 := HT9.out h
          subst h9
          clear h
          go_wp2
          go_ret
          exact ⟨rfl, HB15.out⟩
        · have h11 := HT11.out h
          subst h11
          clear h
          cases t9 with
          | true =>
            go_wp2
            go_ret
            exact ⟨rfl, HB15.out⟩
          | false =>
            go_wp2
            go_ret
            exact ⟨rfl, HB15.out⟩

    · obtain rfl : k = n := by omega
      have q1 : ¬ (k : Int) < (k : Int) := by omega
      clear hlt
      have HG := Lib.hid hh.out.left
      obtain ⟨HL4, HW4⟩ := hsz.out
      have HB4 : Hid ((encAll D L).length ≤ 4000 ∧ (encAll D Lw).length ≤ 4000) := Lib.hid ⟨by have := HSB.out k hk; omega, by have := HSB.out k hk; omega⟩
      clear hh hsz HL4 HW4 HV HLT HSB HS2
      obtain ⟨X4, st, hs4, hh4, hg4⟩ := HG.out
      have HS4 := Lib.hid hs4
      have HH4 := Lib.hid hh4
      have HG4 := Lib.hid hg4
      have d1 := (hh4.bel.cell (p := ⟨gn, 1, none⟩) HGN.out.1).trans HGN.out.2.2
      clear hs4 hh4 hg4 HG
      go_wp2_with fail
      refine (HH.out.crashH HH4.out n1 HN1.out.1 HN1.out.2).mono ?_
      rintro _ w6 ⟨rfl, h6, kp6⟩
      obtain ⟨R, t, hR, hsc, hb6, hsm⟩ := crash_scan HH.out.dlen HG4.out n1
      have hn6 := (crash_le HG4.out.ok n1).1
      have hn5 := gone_n HH.out.dlen HG4.out
      have HRL : Hid ((encAll D R).length ≤ 4000) := Lib.hid (by rcases hR with h | h <;> rw [h]; exact HB4.out.1; exact HB4.out.2)
      have HR := Lib.hid hR
      have HSC := Lib.hid hsc
      have HSM := Lib.hid hsm
      have HO6 := Lib.hid (open_bytes (m := 1048576) hb6 (crash_ok HG4.out.ok n1) ⟨rfl, rfl⟩)
      have HN6 : Hid ((crashS st n1).n ≤ 100000) := Lib.hid (by have := HB4.out.1; show crashN st n1 ≤ _; omega)
      have HS6 := Lib.hid (HS4.out.keep (X' := X4) HH4.out.bel h6.bel kp6 (fun _ h => h))
      have H6 := Lib.hid h6
      have HRN : Hid (R.length ≤ 10000 ∧ R.length ≤ 1000000 ∧ ∀ x ∈ R, x.length ≤ 1000000) := Lib.hid (by
        have h1 := encAll_len HH.out.dlen R
        have h2 := HRL.out
        exact ⟨by omega, by omega, fun x hx => Nat.le_trans (HSM.out x hx) (by omega)⟩)
      clear hR hsc hb6 hsm hn6 hn5 h6 kp6 HS4 HH4 HG4 d1
      have HU6P := Lib.hid (crash_up st n1)
      generalize crashS st n1 = st6 at *
      have HU6 : Hid (st6.burn = -1 ∧ st6.down = false) := Lib.hid HU6P.out
      go_wp2_with fail
      refine (HH.out.openH H6.out HSC.out HU6.out HN6.out).mono ?_
      rintro _ w7 ⟨kp, rfl, h7, kk7⟩
      have HS7 := Lib.hid (HS6.out.keep (X' := X4) H6.out.bel h7.bel kk7 (fun _ h => h))
      have H7 := Lib.hid h7
      clear h7 kk7 HS6 H6
      generalize openS 1048576 st6 t = st7 at *
      go_wp2_with fail
      refine (HH.out.recsT H7.out HRN.out.1 HSM.out).mono ?_
      rintro _ w8 ⟨v8, r8, rfl, h8, p8, n8, kk8⟩
      have HS8 := Lib.hid (HS7.out.keep (X' := X4) H7.out.bel h8.bel kk8 (fun _ h => h))
      have P8 := Lib.hid p8
      have H8 := Lib.hid (h8.less (X' := X4) (fun _ h => .inr h))
      clear h8 p8 n8 kk8 HS7 H7
      go_wp2_with fail
      refine (refSame14 R L _ _ v8 u10 w8 P8.out HS8.out.sv HRN.out.2.1 HRN.out.2.2).mono ?_
      rintro _ w9 ⟨⟨t9, rfl, ht9⟩, b9⟩
      have HT9 := Lib.hid ht9
      have HS9 := Lib.hid (HS8.out.below (X' := X4) b9 (fun _ h => h))
      have H9 := Lib.hid (HH.out.more (X' := X4) H8.out b9 (fun _ h => .inl h))
      clear ht9 b9 HS8 H8 P8
      go_wp2_with fail
      refine (HH.out.recsT H9.out HRN.out.1 HSM.out).mono ?_
      rintro _ w10 ⟨v10, r10, rfl, h10, p10, n10, kk10⟩
      have HS10 := Lib.hid (HS9.out.keep (X' := X4) H9.out.bel h10.bel kk10 (fun _ h => h))
      have P10 := Lib.hid p10
      have H10 := Lib.hid (h10.less (X' := X4) (fun _ h => .inr h))
      clear h10 p10 n10 kk10 HS9 H9
      go_wp2_with fail
      refine (refSame14 R Lw _ _ v10 u11 w10 P10.out HS10.out.wv HRN.out.2.1 HRN.out.2.2).mono ?_
      rintro _ w11 ⟨⟨t11, rfl, ht11⟩, b11⟩
      have HT11 := Lib.hid ht11
      have H11 := Lib.hid (HH.out.more (X' := X4) H10.out b11 (fun _ h => .inl h))
      clear ht11 b11 HS10 H10 P10
      go_wp2_with fail
      have HSC2 : Hid (scan D (bytesL st7) = some (R, [])) := Lib.hid (by
        rw [HO6.out.1]
        have := scan_all HH.out.dlen (L := R) HSM.out (p := []) (.inl rfl)
        rwa [List.append_nil] at this)
      have HN7 : Hid (st7.n ≤ 100000) := Lib.hid (by have := HRL.out; rw [← bytes_len, HO6.out.1]; omega)
      refine (HH.out.openT H11.out HSC2.out HO6.out.2 HN7.out).mono ?_
      rintro _ w12 ⟨mp, FK, rfl, h12, hk12, ge12, -⟩
      have H12 := Lib.hid h12
      have K12 := Lib.hid hk12
      have GE12 := Lib.hid ge12
      clear h12 hk12 ge12 H11
      go_wp2_with fail
      refine (HH.out.recsT H12.out HRN.out.1 HSM.out).mono ?_
      rintro _ w13 ⟨v13, r13, rfl, h13, p13, n13, kk13⟩
      have K13 := Lib.hid (HH.out.keepJ K12.out (fun b hb => kk13 b (.inl hb)))
      have HLT13 : Hid (∀ b, r13 b → ¬ FK b) := Lib.hid (fun b h1 h2 => by have := HH.out.ltJ K12.out b h2; have := n13 b h1; omega)
      have P13 := Lib.hid p13
      have B13 := Lib.hid h13.bel
      clear h13 p13 n13 kk13 K12 H12
      go_wp2_with fail
      refine (HH.out.recsK K13.out GE12.out B13.out HRN.out.1 HSM.out).mono ?_
      rintro _ w14 ⟨v14, rfl, p14, b14, kk14⟩
      have P14 := Lib.hid p14
      have Q14 := Lib.hid (P13.out.keep (fun b hlt hr => kk14 b hlt (HLT13.out b hr)))
      have B14 := Lib.hid b14
      clear p14 b14 kk14 K13 P13 B13 HLT13
      go_wp2_with fail
      refine (refSame14 R R _ _ v13 v14 w14 Q14.out P14.out HRN.out.2.1 HRN.out.2.2).mono ?_
      rintro _ w15 ⟨⟨t15, rfl, ht15⟩, b15⟩
      obtain rfl := ht15 rfl
      have B15 : Hid (Below w.heap.size w w15) := Lib.hid (B14.out.trans (b15.mono B14.out.size))
      have HB15 : Hid (Below w00.heap.size w00 w15) := Lib.hid (HB00.out.trans (B15.out.mono HB00.out.size))
      clear b15 ht15 P14 Q14 B14
      rcases HR.out with h | h
      · have h9 := HT9.out h
        subst h9
        clear h
        go_wp2
        go_ret
        exact ⟨rfl, HB15.out⟩
      · have h11 := HT11.out h
        subst h11
        clear h
        cases t9 with
        | true =>
          go_wp2
          go_ret
          exact ⟨rfl, HB15.out⟩
        | false =>
          go_wp2
          go_ret
          exact ⟨rfl, HB15.out⟩

end Go.Proofs.YtpnkcacmmjmehaaDoor.Law14
