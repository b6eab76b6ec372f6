/-
  The document's store: Append, Replace, Turn.
-/
import Derived.Test.YthacldkmjpjgiaaRefCrash
import Derived.Test.YthacldkmjpjgiaaStoreHas
import Derived.Test.YthacldkmjpjgiaaOwn
import Derived.Test.YthacldkmjpjgiaaMake
namespace Go.Proofs.Ythacldkmjpjgiaa.Store
open Go Go.RowKit Go.Proofs.Ythacldkmjpjgiaa.Aid Go.Proofs.Ythacldkmjpjgiaa.Law01 Go.Proofs.Ythacldkmjpjgiaa.Cache

theorem xor8s (x y : BitVec 8) : bits .xor .u8 (x.toNat : Int) (y.toNat : Int) = ((x ^^^ y).toNat : Int) := by
  have h8 : ∀ z : BitVec 8, BitVec.ofInt 8 (z.toNat : Int) = z := fun z => by
    apply BitVec.eq_of_toNat_eq
    rw [BitVec.toNat_ofInt]
    have := z.isLt
    omega
  show IntKind.u8.wrap ((BitVec.ofInt 8 (x.toNat : Int) ^^^ BitVec.ofInt 8 (y.toNat : Int)).toNat : Int) = _
  rw [h8, h8, IntKind.wrap_u8']
  have := (x ^^^ y).isLt
  omega
def setTo (f g : Nat → BitVec 8) (k j : Nat) : BitVec 8 := if j < k then g j else f j
theorem own_some {W : World} {base n : Nat} {e : Nat → BitVec 8} {v : Value} (h : Own W base n e v) (h0 : 0 < n) : ∃ g cap, v = .slice (some ⟨g, 0, none⟩) n cap ∧ base ≤ g ∧ ∀ j, j < n → W.cell? ⟨g, j, none⟩ = some (.int .u8 ((e j).toNat : Int)) ∧ W.frozen? ⟨g, j, none⟩ = false := by
  rcases h.form with ⟨rfl, h1⟩ | ⟨g, cap, cur, rfl, _⟩
  · omega
  · exact ⟨g, cap, rfl, (h.lt rfl).1, fun j hj => own_at h j hj⟩
theorem only_set (g j : Nat) (u : Value) (W : World) : Only g W (W.setCell ⟨g, j, none⟩ u) :=
  ⟨rfl, rfl, rfl, by simp [World.setCell], fun k hk => Below.heap_setCell W _ u k (by simpa using hk)⟩
theorem only_then {g : Nat} {a b c : World} (h : Only g a b) (k : Only g b c) : Only g a c :=
  ⟨k.os.trans h.os, k.tape.trans h.tape, k.output.trans h.output, k.size.trans h.size, fun x hx => (k.block x hx).trans (h.block x hx)⟩
/-- New bytes of the call's own in the place of the old ones. -/
theorem RefStIn.fresh {W W2 W3 : World} {F : Nat → Prop} {g m n : Nat} {Bv V : Value} {s s' : St} {e : Nat → BitVec 8} (h : RefStIn W F g Bv m s) (hb : Below W.heap.size W W2) (ho : Own W2 W.heap.size n e V) (hn : s'.n = n) (he : s'.e = e)
    (hO : Only g W2 W3) (hrow : W3.rowIs g 40 5 (stF V m s')) (hok : s'.ok m) :
    Moved RefSt F W W3 (.pointer (some ⟨g, 0, none⟩)) m s' := by
  have hg := h.lt g h.fg
  have hlt : ∀ b, V.ownBlock = some b → W.heap.size ≤ b ∧ b < W2.heap.size := fun b hb => ho.lt hb
  refine ⟨fun b => F b ∨ V.ownBlock = some b, ⟨g, V, rfl, hrow, .inl h.fg, fun b hb' => ?_, ?_, fun b hb' => ⟨.inr hb', fun e => ?_⟩, hok, ?_⟩, ⟨hO.os.trans hb.os, hO.tape.trans hb.tape, hO.output.trans hb.output, by rw [hO.size]; exact hb.size, fun b hlt' hn' => (hO.block b (fun e => hn' (e ▸ h.fg))).trans (hb.block b hlt')⟩, fun b hb' => ?_⟩
  · rw [hO.size]
    rcases hb' with h1 | h1
    · exact Nat.lt_of_lt_of_le (h.lt b h1) hb.size
    · exact (hlt b h1).2
  · rw [hn, he]
    have hs2 : SliceOf W2 g n e V := ho.slice (.inl hg)
    exact slice_kept hs2 (fun b hb' => hO.block b (fun e => by have := (hlt b hb').1; omega)) (fun b hb' e => by have := (hlt b hb').1; omega)
  · have := (hlt b hb').1; omega
  · rcases ho.form with ⟨rfl, h0⟩ | ⟨g', cap, cur, rfl, _⟩
    · exact .inl ⟨rfl, hn.trans h0⟩
    · exact .inr ⟨g', 0, cap, by rw [hn]⟩
  · rcases hb' with h1 | h1
    · exact .inl h1
    · exact .inr (hlt b h1).1
theorem Moved.behind {F : Nat → Prop} {w w1 W : World} {v : Value} {m : Nat} {s : St} (h : Moved RefSt F w1 W v m s) (hl : Cache.Leaves F w w1) : Moved RefSt F w W v m s := by
  obtain ⟨F', h1, h2, h3⟩ := h
  exact ⟨F', h1, hl.trans h2 (fun x hx _ => hx), fun b hb => (h3 b hb).imp_right (fun h => Nat.le_trans hl.size h)⟩
set_option maxRecDepth 100000 in
set_option maxHeartbeats 1000000 in
theorem refAppend_any {w : World} {F : Nat → Prop} {v : Value} {m : Nat} {s : St} (h : RefSt w F v m s) (n : Nat) (e : Nat → BitVec 8) (bv : Value) (hb : Apart w F n e bv) (hn : n ≤ 140737488351232) :
    Calls Try.prog 20 #[v, bv] w fun x w' => x = .returned (.int .i64 (appC m s n)) ∧ Moved RefSt F w w' v m (appS m s n e) := by
  obtain ⟨g, Bv, rfl, h⟩ := h
  have HP := Lib.hid (power_any h)
  have HOK := Lib.hid h.ok
  have HB := Lib.hid hb
  obtain ⟨A, c, rfl, -, -⟩ := hb
  clear h
  go_enter Try.func20, Try.ntmps20
  go_wp2_with fail
  refine HP.out.mono ?_
  rintro _ w1 ⟨rfl, h1, hl1⟩
  have HM := Lib.hid (moved_put h1 hl1)
  have HL1 := Lib.hid hl1
  have HB1 := Lib.hid (HB.out.leaves hl1)
  cases hp : power s with
  | false =>
    have HS : Hid (appS m s n e = burnS s) := Lib.hid (by unfold appS; rw [if_neg (by rw [hp]; simp)])
    have HC : Hid (appC m s n = 8) := Lib.hid (by unfold appC; rw [hp]; rfl)
    clear h1 hl1
    go_wp2
    go_ret
    exact ⟨by rw [HC.out]; rfl, by rw [HS.out]; exact HM.out⟩
  | true =>
    have c0 := h1.row.cell (i := 0) (by omega)
    have c2 := h1.row.cell (i := 2) (by omega)
    rw [stF0] at c0
    rw [stF2] at c2
    obtain ⟨B, d, hBv, _, _⟩ := h1.read
    have hb1 := burn_n s
    rw [hb1.1] at hBv
    subst hBv
    have hk := HOK.out
    have w1' : wrap64 ((s.n : Int) + (n : Int)) = (s.n : Int) + (n : Int) := by unfold wrap64; have := hk.n; have := hk.m; omega
    have H1 := Lib.hid h1
    clear h1 hl1
    by_cases hfit : s.n + n ≤ m
    rotate_left
    · have HS : Hid (appS m s n e = burnS s) := Lib.hid (by unfold appS; rw [if_neg (by omega)])
      have HC : Hid (appC m s n = 7) := Lib.hid (by unfold appC; rw [if_pos hp, if_neg hfit])
      have q : (m : Int) < (s.n : Int) + (n : Int) := by omega
      go_wp2_with fail
      go_quiet (fail)
      have HW : Hid (RefStIn (w1.drewN nq) F g (.slice B s.n d) m (burnS s) ∧ Cache.Leaves F w1 (w1.drewN nq)) := Lib.hid ⟨H1.out.kept (fun b _ => drewN_same w1 nq b), leaves_drewN F w1 nq⟩
      generalize w1.drewN nq = W at *
      clear c0 c2
      go_wp2
      go_ret
      exact ⟨by rw [HC.out]; rfl, by rw [HS.out]; exact moved_put HW.out.1 (HL1.out.trans HW.out.2 (fun x hx _ => hx))⟩
    · have HS : Hid (appS m s n e = { burnS s with n := s.n + n, e := cat s.e s.n e }) := Lib.hid (by unfold appS; rw [if_pos ⟨hp, hfit⟩])
      have HC : Hid (appC m s n = 0) := Lib.hid (by unfold appC; rw [if_pos hp, if_pos hfit])
      have q : ¬ (m : Int) < (s.n : Int) + (n : Int) := by omega
      go_wp2_with fail
      go_quiet (fail)
      have HW : Hid (RefStIn (w1.drewN nq) F g (.slice B s.n d) m (burnS s) ∧ Cache.Leaves F w1 (w1.drewN nq)) := Lib.hid ⟨H1.out.kept (fun b _ => drewN_same w1 nq b), leaves_drewN F w1 nq⟩
      generalize w1.drewN nq = W at *
      have HBW := Lib.hid (HB1.out.leaves HW.out.2)
      have hc0 := HW.out.1.row.cell (i := 0) (by omega)
      have hrd := HW.out.1.read
      rw [hb1.1, hb1.2.1] at hrd
      rw [stF0] at hc0
      have HRD := Lib.hid (slice_below hrd ((Below.refl _ W).alloc (Nat.le_refl _) (.cells #[] 5)))
      have HE1 := Lib.hid (own_empty8 W (fun _ => 0))
      have HSZ : Hid (W.heap.size ≤ (W.alloc (.cells #[] 5)).heap.size) := Lib.hid (by simp)
      have HBA : Hid (Below W.heap.size W (W.alloc (.cells #[] 5))) := Lib.hid ((Below.refl _ _).alloc (Nat.le_refl _) _)
      have HG := Lib.hid (HW.out.1.lt g HW.out.1.fg)
      have hc1 := (HBA.out.cell (p := ⟨g, 0, none⟩) HG.out).trans hc0
      have hk2 := hk.n
      have hk3 := hk.m
      clear c0 c2 hrd H1 HM w1' q hc0
      go_wp2_with (first
        | (at_builtin
           refine append_bytes (by rfl) (.tmp 22) (.tmp 26) (by rfl) W.heap.size 0 (fun _ => 0) _ (by rfl) HE1.out g s.n s.e _ (by rfl) HRD.out (by omega) HSZ.out ?_
           intro v2 w2 ho2 hg2 _
           have hb2 : Below W.heap.size W w2 := HBA.out.grown hg2 HSZ.out (fun b hb => (HE1.out.lt hb).1)
           have ho2' : Own w2 W.heap.size s.n s.e v2 := by
             have := Own.congr' ho2 (e' := s.e) (fun j _ => by unfold cat; rw [if_neg (by omega)]; rfl)
             rw [Nat.zero_add] at this
             exact this
           have HO2 := Lib.hid ho2'
           have HB2 := Lib.hid hb2
           have HS2 := Lib.hid (slice_below (HBW.out.slice) hb2)
           have HZ2 := Lib.hid hb2.size
           have hfm := own_shape ho2'
           clear ho2 hg2 ho2' hb2 HE1 HRD HSZ HBA hc1
           obtain ⟨rA, rc, hrs, -, -⟩ := hfm
           subst hrs)
        | (at_builtin
           refine append_bytes (by rfl) (.tmp 27) (.tmp 28) (by rfl) W.heap.size s.n s.e _ (by rfl) HO2.out W.heap.size n e _ (by rfl) HS2.out (by omega) HZ2.out ?_
           intro v3 w3 ho3 hg3 _
           have hb3 : Below W.heap.size W w3 := HB2.out.grown hg3 HZ2.out (fun b hb => (HO2.out.lt hb).1)
           have c3 := (hb3.cell (p := ⟨g, 0, none⟩) HG.out).trans (HW.out.1.row.cell (i := 0) (by omega))
           have z3 := (hb3.frozen (p := ⟨g, 0, none⟩) HG.out).trans (HW.out.1.row.frozen 0)
           have hsh := own_shape ho3
           have HO3 := Lib.hid ho3
           have HB3 := Lib.hid hb3
           clear ho3 hg3 hb3 HO2 HB2 HS2 HZ2
           obtain ⟨sA, sc, hss, -, -⟩ := hsh
           subst hss))
      go_ret
      refine ⟨by rw [HC.out]; rfl, ?_⟩
      rw [HS.out]
      exact Moved.behind (HW.out.1.fresh HB3.out HO3.out rfl rfl (only_set g 0 _ w3) (((HW.out.1.row.of_block (HB3.out.block g HG.out)).set 0 _).congr (fun i hi => by match i, hi with | 0, _ => rfl | 1, _ => rfl | 2, _ => rfl | 3, _ => rfl | 4, _ => rfl)) (by rw [← HS.out]; exact app_ok HOK.out n e)) (HL1.out.trans HW.out.2 (fun x hx _ => hx))
set_option maxRecDepth 100000 in
set_option maxHeartbeats 1000000 in
theorem refReplace_any {w : World} {F : Nat → Prop} {v : Value} {m : Nat} {s : St} (h : RefSt w F v m s) (n : Nat) (e : Nat → BitVec 8) (bv : Value) (hb : Apart w F n e bv) (hn : n ≤ 1000000000) :
    Calls Try.prog 22 #[v, bv] w fun x w' => x = .returned (.int .i64 (repC m s n)) ∧ Moved RefSt F w w' v m (repS m s n e) := by
  obtain ⟨g, Bv, rfl, h⟩ := h
  have HP := Lib.hid (power_any h)
  have HOK := Lib.hid h.ok
  have HB := Lib.hid hb
  obtain ⟨A, c, rfl, -, -⟩ := hb
  clear h
  go_enter Try.func22, Try.ntmps22
  go_wp2_with fail
  refine HP.out.mono ?_
  rintro _ W ⟨rfl, h1, hl1⟩
  have HM := Lib.hid (moved_put h1 hl1)
  have HL1 := Lib.hid hl1
  have HBW := Lib.hid (HB.out.leaves hl1)
  cases hp : power s with
  | false =>
    have HS : Hid (repS m s n e = burnS s) := Lib.hid (by unfold repS; rw [if_neg (by rw [hp]; simp)])
    have HC : Hid (repC m s n = 8) := Lib.hid (by unfold repC; rw [hp]; rfl)
    clear h1 hl1
    go_wp2
    go_ret
    exact ⟨by rw [HC.out]; rfl, by rw [HS.out]; exact HM.out⟩
  | true =>
    have c2 := h1.row.cell (i := 2) (by omega)
    rw [stF2] at c2
    have H1 := Lib.hid h1
    clear h1 hl1
    by_cases hfit : n ≤ m
    rotate_left
    · have HS : Hid (repS m s n e = burnS s) := Lib.hid (by unfold repS; rw [if_neg (by omega)])
      have HC : Hid (repC m s n = 7) := Lib.hid (by unfold repC; rw [if_pos hp, if_neg hfit])
      have q : (m : Int) < (n : Int) := by omega
      go_wp2
      go_ret
      exact ⟨by rw [HC.out]; rfl, by rw [HS.out]; exact HM.out⟩
    · have HS : Hid (repS m s n e = { burnS s with n := n, e := e, sure := n }) := Lib.hid (by unfold repS; rw [if_pos ⟨hp, hfit⟩])
      have HC : Hid (repC m s n = 0) := Lib.hid (by unfold repC; rw [if_pos hp, if_pos hfit])
      have q : ¬ (m : Int) < (n : Int) := by omega
      have HE1 := Lib.hid (own_empty8 W (fun _ => 0))
      have HSZ : Hid (W.heap.size ≤ (W.alloc (.cells #[] 5)).heap.size) := Lib.hid (by simp)
      have HBA : Hid (Below W.heap.size W (W.alloc (.cells #[] 5))) := Lib.hid ((Below.refl _ _).alloc (Nat.le_refl _) _)
      have HG := Lib.hid (H1.out.lt g H1.out.fg)
      have HRD := Lib.hid (slice_below HBW.out.slice HBA.out)
      clear HM
      go_wp2_with (at_builtin
                   refine append_bytes (by rfl) (.tmp 16) (.tmp 17) (by rfl) W.heap.size 0 (fun _ => 0) _ (by rfl) HE1.out W.heap.size n e _ (by rfl) HRD.out (by omega) HSZ.out ?_
                   intro v2 w2 ho2 hg2 _
                   have hb2 : Below W.heap.size W w2 := HBA.out.grown hg2 HSZ.out (fun b hb => (HE1.out.lt hb).1)
                   have ho2' : Own w2 W.heap.size n e v2 := by
                     have := Own.congr' ho2 (e' := e) (fun j _ => by unfold cat; rw [if_neg (by omega)]; rfl)
                     rw [Nat.zero_add] at this
                     exact this
                   have hr2 := H1.out.row.of_block (hb2.block g HG.out)
                   have c20 := hr2.cell (i := 0) (by omega)
                   have c21 := hr2.cell (i := 1) (by omega)
                   have z20 := hr2.frozen 0
                   have z21 := hr2.frozen 1
                   have hfm := own_shape ho2'
                   have HO2 := Lib.hid ho2'
                   have HB2 := Lib.hid hb2
                   clear ho2 hg2 ho2' hb2 HE1 HRD HSZ HBA hr2
                   obtain ⟨rA, rc, hrs, -, -⟩ := hfm
                   subst hrs)
      go_ret
      refine ⟨by rw [HC.out]; rfl, ?_⟩
      rw [HS.out]
      exact Moved.behind (H1.out.fresh HB2.out HO2.out rfl rfl (only_then (only_set g 0 _ w2) (only_set g 1 _ _)) ((((H1.out.row.of_block (HB2.out.block g HG.out)).set 0 _).set 1 _).congr (fun i hi => by match i, hi with | 0, _ => rfl | 1, _ => rfl | 2, _ => rfl | 3, _ => rfl | 4, _ => rfl)) (by rw [← HS.out]; exact rep_ok HOK.out n e)) HL1.out
set_option maxRecDepth 100000 in
set_option maxHeartbeats 1000000 in
theorem refTurn_any {w : World} {F : Nat → Prop} {v : Value} {m : Nat} {s : St} (h : RefSt w F v m s) (k : Int) (x : BitVec 8) :
    Calls Try.prog 25 #[v, .int .i64 k, .int .u8 (x.toNat : Int)] w fun y w' => y = .returned (.int .i64 (turnC s k)) ∧ Moved RefSt F w w' v m (turnS s k x) := by
  obtain ⟨g, Bv, rfl, h⟩ := h
  have c0 := h.row.cell (i := 0) (by omega)
  rw [stF0] at c0
  obtain ⟨A, c, hB, _, _⟩ := h.read
  subst hB
  have HM : Hid (∀ w', Cache.Leaves F w w' → (∀ b, F b → w'.heap[b]? = w.heap[b]?) → Moved RefSt F w w' (.pointer (some ⟨g, 0, none⟩)) m s) := Lib.hid (fun w' hl hk => moved_put (h.kept hk) hl)
  by_cases hin : 0 ≤ k ∧ k < (s.n : Int)
  rotate_left
  · have HC : Hid (turnC s k = 4) := Lib.hid (by unfold turnC; rw [if_neg hin])
    have HS : Hid (turnS s k x = s) := Lib.hid (by unfold turnS; rw [if_neg hin])
    clear h
    by_cases hk0 : k < 0
    · clear hin
      go_enter Try.func25, Try.ntmps25
      go_wp2
      go_ret
      exact ⟨by rw [HC.out]; rfl, by rw [HS.out]; exact HM.out _ (Cache.Leaves.refl _ _) (fun _ _ => rfl)⟩
    · have hk1 : (s.n : Int) ≤ k := by omega
      clear hin
      go_enter Try.func25, Try.ntmps25
      go_wp2
      go_ret
      exact ⟨by rw [HC.out]; rfl, by rw [HS.out]; exact HM.out _ (Cache.Leaves.refl _ _) (fun _ _ => rfl)⟩
  · obtain ⟨j, rfl⟩ : ∃ j : Nat, k = (j : Int) := ⟨k.toNat, by omega⟩
    have HS : Hid (turnS s (j : Int) x = { s with e := turnE s.e j x }) := Lib.hid (by unfold turnS; rw [if_pos hin]; rfl)
    have HC : Hid (turnC s (j : Int) = 0) := Lib.hid (by unfold turnC; rw [if_pos hin])
    have hj : j < s.n := by omega
    have q0 : ¬ (j : Int) < 0 := by omega
    have q1 : ¬ (s.n : Int) ≤ (j : Int) := by omega
    have q2 : (0 : Int) ≤ (j : Int) := by omega
    have q3 : (j : Int) < (s.n : Int) := by omega
    have HE1 := Lib.hid (own_empty8 w (fun _ => 0))
    have HSZ : Hid (w.heap.size ≤ (w.alloc (.cells #[] 5)).heap.size) := Lib.hid (by simp)
    have HBA : Hid (Below w.heap.size w (w.alloc (.cells #[] 5))) := Lib.hid ((Below.refl _ _).alloc (Nat.le_refl _) _)
    have HG := Lib.hid (h.lt g h.fg)
    have HRD := Lib.hid (slice_below h.read HBA.out)
    have hc1 := (HBA.out.cell (p := ⟨g, 0, none⟩) HG.out).trans c0
    have hk2 := h.ok.n
    have hk3 := h.ok.m
    have HX : Hid (bits .xor .u8 ((s.e j).toNat : Int) (x.toNat : Int) = ((s.e j ^^^ x).toNat : Int)) := Lib.hid (by rw [xor8s])
    have HA := Lib.hid h
    clear h hin HM
    go_enter Try.func25, Try.ntmps25
    go_wp2_with (at_builtin
                 refine append_bytes (by rfl) (.tmp 19) (.tmp 23) (by rfl) w.heap.size 0 (fun _ => 0) _ (by rfl) HE1.out g s.n s.e _ (by rfl) HRD.out (by omega) HSZ.out ?_
                 intro v2 w2 ho2 hg2 _
                 have hb2 : Below w.heap.size w w2 := HBA.out.grown hg2 HSZ.out (fun b hb => (HE1.out.lt hb).1)
                 have ho2' : Own w2 w.heap.size s.n s.e v2 := by
                   have := Own.congr' ho2 (e' := s.e) (fun j _ => by unfold cat; rw [if_neg (by omega)]; rfl)
                   rw [Nat.zero_add] at this
                   exact this
                 obtain ⟨g2, cap2, hv2, hgb, hcz⟩ := own_some ho2' (by omega)
                 subst hv2
                 have d1 := (hcz j hj).1
                 have z1 := (hcz j hj).2
                 have hr2 := HA.out.row.of_block (hb2.block g HG.out)
                 have c20 := hr2.cell (i := 0) (by omega)
                 have z20 := hr2.frozen 0
                 have HP2 := Lib.hid (own_put ho2' j hj (s.e j ^^^ x) _ HX.out)
                 have HB2 : Hid (Below w.heap.size w (w2.setCell ⟨g2, j, none⟩ (.int .u8 (bits .xor .u8 ((s.e j).toNat : Int) (x.toNat : Int))))) := Lib.hid (hb2.setCell (p := ⟨g2, j, none⟩) hgb _)
                 have c30 := (HB2.out.cell (p := ⟨g, 0, none⟩) HG.out).trans (HA.out.row.cell (i := 0) (by omega))
                 have z30 := (HB2.out.frozen (p := ⟨g, 0, none⟩) HG.out).trans (HA.out.row.frozen 0)
                 clear ho2 hg2 ho2' hb2 HE1 HRD HSZ HBA hr2 hgb hcz hc1 c0)
    go_ret
    refine ⟨by rw [HC.out]; rfl, ?_⟩
    have he : setAt s.e j (s.e j ^^^ x) = turnE s.e j x := by
      funext i
      unfold setAt turnE
      by_cases hi : i = j
      · subst hi; simp
      · simp [hi]
    have ho := HP2.out
    rw [he] at ho
    rw [HS.out]
    exact HA.out.fresh HB2.out ho rfl rfl (only_set g 0 _ _) (((HA.out.row.of_block (HB2.out.block g HG.out)).set 0 _).congr (fun i hi => by match i, hi with | 0, _ => rfl | 1, _ => rfl | 2, _ => rfl | 3, _ => rfl | 4, _ => rfl)) (by rw [← HS.out]; exact turn_ok HA.out.ok _ _)
end Go.Proofs.Ythacldkmjpjgiaa.Store
