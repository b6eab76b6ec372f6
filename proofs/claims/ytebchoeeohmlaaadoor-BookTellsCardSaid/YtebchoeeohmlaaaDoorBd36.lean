/-
  What Read does.
-/
import Derived.Test.YtebchoeeohmlaaaDoorBd29
import Derived.Test.YtebchoeeohmlaaaDoorBd26
import Derived.Test.YtebchoeeohmlaaaDoorBd35
import Derived.Test.YtebchoeeohmlaaaDoorBd23
namespace Go.Proofs.YtebchoeeohmlaaaDoor.Book
open Go Go.RowKit Go.Proofs.YtebchoeeohmlaaaDoor.Aid Go.Proofs.YtebchoeeohmlaaaDoor.Field Go.Proofs.YtebchoeeohmlaaaDoor.Law01

set_option maxRecDepth 100000 in
set_option maxHeartbeats 8000000 in
theorem read_any15 (A : Option Addr) (cp n : Nat) (E : Nat → BitVec 8) (w : World) (hn : n ≤ 100000) (h : SliceOf w w.heap.size n E (.slice A n cp)) :
    Calls Tryd.prog 7 #[.slice A n cp] w fun y w' => ∃ x c, y = .returned (.tuple #[opV x, .int .i64 c]) ∧ ReadSpec E n x c ∧ Below w.heap.size w w' := by
  have hz := row_new w #[.int .i64 0, .string ⟨#[]⟩, .int .u8 0, .int .u8 0, .int .u8 0, .int .u8 0, .int .u8 0, .int .u8 0, .int .u8 0, .int .u8 0, .int .u8 0, .int .u8 0, .int .u8 0, .int .u8 0, .int .u8 0, .int .u8 0, .int .u8 0, .int .u8 0, .int .i64 0] 28 19 _ rfl (zero_op _ rfl)
  have hb : Below w.heap.size w (w.alloc (.cells #[.int .i64 0, .string ⟨#[]⟩, .int .u8 0, .int .u8 0, .int .u8 0, .int .u8 0, .int .u8 0, .int .u8 0, .int .u8 0, .int .u8 0, .int .u8 0, .int .u8 0, .int .u8 0, .int .u8 0, .int .u8 0, .int .u8 0, .int .u8 0, .int .u8 0, .int .i64 0] 28)) := (Below.refl _ _).alloc (Nat.le_refl _) _
  have HS := Lib.hid (slice_below h hb)
  have HZ := Lib.hid hz
  have HB := Lib.hid hb
  clear h hz hb
  go_enter Tryd.func7, Tryd.ntmps7
  go_upto_region 1 with fail
  generalize w.alloc (.cells #[.int .i64 0, .string ⟨#[]⟩, .int .u8 0, .int .u8 0, .int .u8 0, .int .u8 0, .int .u8 0, .int .u8 0, .int .u8 0, .int .u8 0, .int .u8 0, .int .u8 0, .int .u8 0, .int .u8 0, .int .u8 0, .int .u8 0, .int .u8 0, .int .u8 0, .int .i64 0] 28) = w1 at *
  by_cases h0 : n = 0
  · subst h0
    go_wp2_with (refine store_whole (by rfl) 28 (.tmp 2) (.tmp 14) (by rfl) w.heap.size _ 19 _ (opF op0) HZ.out (by rfl) _ (by rfl) (by kernel_rfl) (by rfl) (zero_op _ rfl) (fun i _ => op_one op0 i) ?_; intro w2 hr2 ho2)
    exact bodyPost_ret (results_row_tmp rfl _ w.heap.size _ _ _ _ (by rfl) hr2 Tryd.underlying28 rfl (by kernel_rfl)) rfl ⟨op0, 3, rfl, read_none E, ho2.below HB.out (Nat.le_refl _)⟩
  · have hn0 : 0 < n := by omega
    have hs := HS.out
    obtain ⟨A', c', he, hcap, hr⟩ := hs
    simp only [Value.slice.injEq, true_and] at he
    obtain ⟨rfl, rfl⟩ := he
    obtain ⟨sb, so, rfl, hne, hcell⟩ := hr hn0
    obtain ⟨A', hA', hcut⟩ := cut_run (P := Tryd.prog) 23 5 Tryd.underlying23 (by kernel_rfl) sb so n cp 1 hn0 hcap
    have hcut1 := fun W => hcut .i64 W
    simp only [Int.cast_ofNat_Int] at hcut1
    have HS1 : Hid (SliceOf w1 w1.heap.size (n - 1) (tailE E) (.slice A' (n - 1) (cp - 1))) := Lib.hid ⟨A', cp - 1, rfl, by omega, fun h1 => ⟨sb, so + 1, hA' h1, Nat.ne_of_lt (block_lt_of_cell (hcell 0 hn0)), fun j hj => by
      rw [show so + 1 + j = so + (j + 1) by omega]
      exact hcell (j + 1) (by omega)⟩⟩
    have HCELL := Lib.hid (hcell 0 hn0)
    have q0 : ¬ (n : Int) = 0 := by omega
    have qn : (1 : Int) ≤ (n : Int) := by omega
    clear hr hcell hcut hA'
    go_wp2_with fail
    refine (split_own A' (cp - 1) (n - 1) (tailE E) w1 (by omega) HS1.out).mono ?_
    rintro _ w2 ⟨k, c, v, R, hsp, rfl, hop, hb2⟩
    have HSP := Lib.hid hsp
    have HB2 := Lib.hid hb2
    have HOP := Lib.hid hop
    have HZ2 := Lib.hid (HZ.out.of_block (hb2.block _ (World.rowIs.lt HZ.out)))
    have HBW : Hid (Below w.heap.size w w2) := Lib.hid (HB.out.trans (hb2.mono HB.out.size))
    obtain ⟨vA, vc, hvs⟩ := hop.shape
    subst hvs
    clear hsp hb2 hop HS1 HS hcut1
    by_cases hc : c = 0
    rotate_left
    · have qc : (c == 0) = false := by simpa using hc
      have HC := Lib.hid hc
      clear hc
      go_wp2_with (refine store_whole (by rfl) 28 (.tmp 2) (.tmp 28) (by rfl) w.heap.size _ 19 _ (opF op0) HZ2.out (by rfl) _ (by rfl) (by kernel_rfl) (by rfl) (zero_op _ rfl) (fun i _ => op_one op0 i) ?_; intro w3 hr_ ho_)
      exact bodyPost_ret (results_row_tmp rfl _ w.heap.size _ _ _ _ (by rfl) hr_ Tryd.underlying28 rfl (by kernel_rfl)) rfl ⟨op0, 3, rfl, read_no HSP.out (.inl HC.out), ho_.below HBW.out (Nat.le_refl _)⟩
    · subst hc
      rw [if_pos rfl] at HOP
      simp only [if_true] at *
      by_cases hk3 : k = 3
      rotate_left
      · have qk : ¬ (k : Int) = 3 := by omega
        have qk2 : ((k : Int) == 3) = false := by simpa using qk
        go_wp2_with (refine store_whole (by rfl) 28 (.tmp 2) (.tmp 28) (by rfl) w.heap.size _ 19 _ (opF op0) HZ2.out (by rfl) _ (by rfl) (by kernel_rfl) (by rfl) (zero_op _ rfl) (fun i _ => op_one op0 i) ?_; intro w3 hr_ ho_)
        exact bodyPost_ret (results_row_tmp rfl _ w.heap.size _ _ _ _ (by rfl) hr_ Tryd.underlying28 rfl (by kernel_rfl)) rfl ⟨op0, 3, rfl, read_no HSP.out (.inr (.inl hk3)), ho_.below HBW.out (Nat.le_refl _)⟩
      · subst hk3
        have hp := HOP.out.parts
        obtain ⟨vb, vo, A0, c0, rfl, d0, s0⟩ := Field.PartsOf.at_ hp 0 (by omega)
        obtain ⟨vb1, vo1, A1, c1, he1, d1, s1⟩ := Field.PartsOf.at_ hp 1 (by omega)
        obtain ⟨vb2, vo2, A2, c2, he2, d2, s2⟩ := Field.PartsOf.at_ hp 2 (by omega)
        simp only [Option.some.injEq, Addr.mk.injEq, and_true] at he1 he2
        obtain ⟨rfl, rfl⟩ := he1
        obtain ⟨rfl, rfl⟩ := he2
        have S0 := Lib.hid s0
        have S1 := Lib.hid s1
        have S2 := Lib.hid s2
        have D0 := Lib.hid d0
        have D2 := Lib.hid d2
        have HVB := Lib.hid (block_lt_of_cell d0)
        have HM1 : Hid (fieldM (tailE E) 1 ≤ 500 ∧ fieldM (tailE E) 2 ≤ 500 ∧ fieldM (tailE E) 0 ≤ 500) := Lib.hid ⟨(step_ok (HSP.out.1 1 (by omega)).2).2.1, (step_ok (HSP.out.1 2 (by omega)).2).2.1, (step_ok (HSP.out.1 0 (by omega)).2).2.1⟩
        clear hp s0 s1 s2 d0 d2 HOP
        go_wp2_with fail
        refine (word_own A1 c1 _ (fieldE (tailE E) 1) w2 (by have := HM1.out.1; omega) S1.out).mono ?_
        rintro _ w3 ⟨rfl, hb3⟩
        have HB3 := Lib.hid hb3
        unfold Field.wordV
        have HZW := Lib.hid (row_new w3 #[.int .u8 0, .int .u8 0, .int .u8 0, .int .u8 0, .int .u8 0, .int .u8 0, .int .u8 0, .int .u8 0, .int .u8 0, .int .u8 0, .int .u8 0, .int .u8 0, .int .u8 0, .int .u8 0, .int .u8 0, .int .u8 0] 26 16 (fun _ => .int .u8 0) rfl lit16z)
        have HBZ : Hid (Below w3.heap.size w3 (w3.alloc (.cells #[.int .u8 0, .int .u8 0, .int .u8 0, .int .u8 0, .int .u8 0, .int .u8 0, .int .u8 0, .int .u8 0, .int .u8 0, .int .u8 0, .int .u8 0, .int .u8 0, .int .u8 0, .int .u8 0, .int .u8 0, .int .u8 0] 26))) := Lib.hid ((Below.refl _ _).alloc (Nat.le_refl _) _)
        clear hb3 d1
        go_upto_region 7 with (refine store_whole (by rfl) 26 (.tmp 6) (.tmp 34) (by rfl) w3.heap.size _ 16 _ (fun j => .int .u8 ((wordE (fieldM (tailE E) 1) (fieldE (tailE E) 1) j).toNat : Int)) HZW.out (by rfl) _ (by rfl) (by kernel_rfl) (size_cellsOf _ _) (cellsOf_at _ _) (fun _ _ => rfl) ?_; intro w4 hr4 ho4)
        have HK4 := Lib.hid (key_row hr4)
        have HB4 : Hid (Below w2.heap.size w2 w4) := Lib.hid (HB3.out.trans ((ho4.below HBZ.out (Nat.le_refl _)).mono HB3.out.size))
        have S2' := Lib.hid (slice_up S2.out HB4.out)
        have hD2 := (HB4.out.cell (p := ⟨vb, vo + 2, none⟩) HVB.out).trans D2.out
        clear hr4 ho4 HZW HBZ
        generalize w3.heap.size = g6 at *
        go_wp2_with fail
        refine (take_own A2 c2 _ (fieldE (tailE E) 2) w4 (by have := HM1.out.2.1; omega) S2'.out).mono ?_
        rintro _ w5 ⟨rfl, hb5⟩
        have HB5 : Hid (Below w2.heap.size w2 w5) := Lib.hid (HB4.out.trans (hb5.mono HB4.out.size))
        have HK5 := Lib.hid (HK4.out.of_block (hb5.block _ (World.rowIs.lt HK4.out)))
        have HZ5 := Lib.hid (HZ2.out.of_block (HB5.out.block _ (World.rowIs.lt HZ2.out)))
        have HBW5 : Hid (Below w.heap.size w w5) := Lib.hid (HBW.out.trans (HB5.out.mono HBW.out.size))
        clear hb5 hD2 S2' HB4 HK4
        by_cases hm1 : fieldM (tailE E) 1 = 16
        rotate_left
        · have hw : wordC (fieldM (tailE E) 1) = 3 := by unfold wordC; rw [if_neg hm1]
          have HM := Lib.hid hm1
          clear hm1
          rw [hw]
          go_wp2_with (refine store_whole (by rfl) 28 (.tmp 2) (.tmp 57) (by rfl) w.heap.size _ 19 _ (opF op0) HZ5.out (by rfl) _ (by rfl) (by kernel_rfl) (by rfl) (zero_op _ rfl) (fun i _ => op_one op0 i) ?_; intro w7 hr_ ho_)
          exact bodyPost_ret (results_row_tmp rfl _ w.heap.size _ _ _ _ (by rfl) hr_ Tryd.underlying28 rfl (by kernel_rfl)) rfl ⟨op0, 3, rfl, read_no HSP.out (.inr (.inr (.inl HM.out))), ho_.below HBW5.out (Nat.le_refl _)⟩
        have hw : wordC (fieldM (tailE E) 1) = 0 := by unfold wordC; rw [if_pos hm1]
        rw [hw]
        have HM := Lib.hid hm1
        clear hm1 hw
        by_cases hm2 : fieldM (tailE E) 2 = 8
        rotate_left
        · have hw : takeC (fieldM (tailE E) 2) = 3 := by unfold takeC; rw [if_neg hm2]
          have HM2 := Lib.hid hm2
          clear hm2
          rw [hw]
          go_wp2_with (refine store_whole (by rfl) 28 (.tmp 2) (.tmp 57) (by rfl) w.heap.size _ 19 _ (opF op0) HZ5.out (by rfl) _ (by rfl) (by kernel_rfl) (by rfl) (zero_op _ rfl) (fun i _ => op_one op0 i) ?_; intro w7 hr_ ho_)
          exact bodyPost_ret (results_row_tmp rfl _ w.heap.size _ _ _ _ (by rfl) hr_ Tryd.underlying28 rfl (by kernel_rfl)) rfl ⟨op0, 3, rfl, read_no HSP.out (.inr (.inr (.inr (.inl HM2.out)))), ho_.below HBW5.out (Nat.le_refl _)⟩
        have hw : takeC (fieldM (tailE E) 2) = 0 := by unfold takeC; rw [if_pos hm2]
        rw [hw]
        have HM2 := Lib.hid hm2
        clear hm2 hw
        rw [show takeV (fieldE (tailE E) 2) (fieldM (tailE E) 2) = (readX E).gen from rfl]
        obtain ⟨gen, hgen⟩ : ∃ gen, gen = (readX E).gen := ⟨_, rfl⟩
        have HGEN := Lib.hid hgen
        rw [← hgen]
        clear hgen
        by_cases hg0 : gen < 0
        · have HRB : Hid (rightB (readX E) = false) := Lib.hid (by
            cases hrb : rightB (readX E) with
            | false => rfl
            | true => have := (right_gen64 hrb).1; rw [← HGEN.out] at this; omega)
          go_wp2_with (refine store_whole (by rfl) 28 (.tmp 2) (.tmp 57) (by rfl) w.heap.size _ 19 _ (opF op0) HZ5.out (by rfl) _ (by rfl) (by kernel_rfl) (by rfl) (zero_op _ rfl) (fun i _ => op_one op0 i) ?_; intro w7 hr_ ho_)
          exact bodyPost_ret (results_row_tmp rfl _ w.heap.size _ _ _ _ (by rfl) hr_ Tryd.underlying28 rfl (by kernel_rfl)) rfl ⟨op0, 3, rfl, read_no HSP.out (.inr (.inr (.inr (.inr HRB.out)))), ho_.below HBW5.out (Nat.le_refl _)⟩
        by_cases hg1 : 2147483647 < gen
        · have HRB : Hid (rightB (readX E) = false) := Lib.hid (by
            cases hrb : rightB (readX E) with
            | false => rfl
            | true => have := (right_gen64 hrb).2; rw [← HGEN.out] at this; omega)
          go_wp2_with (refine store_whole (by rfl) 28 (.tmp 2) (.tmp 57) (by rfl) w.heap.size _ 19 _ (opF op0) HZ5.out (by rfl) _ (by rfl) (by kernel_rfl) (by rfl) (zero_op _ rfl) (fun i _ => op_one op0 i) ?_; intro w7 hr_ ho_)
          exact bodyPost_ret (results_row_tmp rfl _ w.heap.size _ _ _ _ (by rfl) hr_ Tryd.underlying28 rfl (by kernel_rfl)) rfl ⟨op0, 3, rfl, read_no HSP.out (.inr (.inr (.inr (.inr HRB.out)))), ho_.below HBW5.out (Nat.le_refl _)⟩
        have HWB : Hid (∀ W, Below w5.drew.heap.size w5.drew W → W.cell? ⟨sb, so, none⟩ = some (.int .u8 ((E 0).toNat : Int)) ∧ W.cell? ⟨vb, vo, none⟩ = some (.slice A0 (fieldM (tailE E) 0) c0) ∧ SliceOf W w2.heap.size (fieldM (tailE E) 0) (fieldE (tailE E) 0) (.slice A0 (fieldM (tailE E) 0) c0) ∧ W.rowIs g6 26 16 (wordF (readX E).key) ∧ Below w2.heap.size w2 W) := Lib.hid fun W hW => by
          have h1 := HB5.out.trans ((undrew hW).mono HB5.out.size)
          have h2 := HB2.out.trans (h1.mono HB2.out.size)
          exact ⟨(h2.cell (p := ⟨sb, so, none⟩) (block_lt_of_cell HCELL.out)).trans HCELL.out, (h1.cell (p := ⟨vb, vo, none⟩) HVB.out).trans D0.out, slice_below S0.out h1, HK5.out.of_block ((undrew hW).block _ (World.rowIs.lt HK5.out)), h1⟩
        have HE8 : Hid (IntKind.i64.wrap ((E 0).toNat : Int) = ((E 0).toNat : Int)) := Lib.hid (by have := (E 0).isLt; rw [IntKind.wrap_i64]; omega)
        have HB25 := HB5
        clear HB5 HK5 HBW5
        go_upto_region 10 with fail
        rw [HGEN.out]
        refine region_inv_tail (postR E n cp sb so vb vo vc c0 w5.heap.size A0 28) 12 (by kernel_rfl) (by kernel_rfl) (by kernel_rfl) rfl (postR_mono _ _ _ _ _ _ _ _ _ _ _ _) ?_ ?_
        · refine ⟨⟨⟨⟨⟨⟨⟨⟨⟨⟨⟨⟨trivial, ?_⟩, ?_⟩, ?_⟩, ?_⟩, ?_⟩, ?_⟩, ?_⟩, ?_⟩, ?_⟩, ?_⟩, ?_⟩, ?_⟩
          · refine ⟨_, rfl, fun xs W hW hd => ?_⟩
            clear hd
            simp only [fillI, List.take, List.setIfInBounds_toArray, List.set_cons_zero, List.set_cons_succ, Nat.reduceAdd, Nat.zero_add]
            go_wp2_with fail
            refine ⟨_, by (simp only [upd, Nat.reduceEqDiff, reduceIte]; rfl), ?_, ?_⟩
            · rfl
            · exact Below.refl _ _
          · refine ⟨_, rfl, fun xs W hW hd => ?_⟩
            have h0 : xs 0 = .slice (some ⟨sb, so, none⟩) n cp := hd 0 (by kernel_rfl)
            clear hd
            rw [upd_self h0]
            simp only [fillI, List.take, List.setIfInBounds_toArray, List.set_cons_zero, List.set_cons_succ, Nat.reduceAdd, Nat.zero_add, upd, Nat.reduceEqDiff, reduceIte]
            go_wp2_with fail
            refine ⟨_, by (simp only [upd, Nat.reduceEqDiff, reduceIte]; rfl), ?_, ?_⟩
            · rfl
            · exact Below.refl _ _
          · refine ⟨_, rfl, fun xs W hW hd => ?_⟩
            have h0 : xs 1 = .pointer (some ⟨sb, so, none⟩) := hd 1 (by kernel_rfl)
            have cc := (HWB.out W hW).1
            clear hd
            rw [upd_self h0]
            simp only [fillI, List.take, List.setIfInBounds_toArray, List.set_cons_zero, List.set_cons_succ, Nat.reduceAdd, Nat.zero_add, upd, Nat.reduceEqDiff, reduceIte]
            go_wp2_with fail
            refine ⟨_, by (simp only [upd, Nat.reduceEqDiff, reduceIte]; rfl), ?_, ?_⟩
            · rfl
            · exact Below.refl _ _
          · refine ⟨_, rfl, fun xs W hW hd => ?_⟩
            have h0 : xs 2 = .int .u8 ((E 0).toNat : Int) := hd 2 (by kernel_rfl)
            have hw8 := HE8.out
            clear hd
            rw [upd_self h0]
            simp only [fillI, List.take, List.setIfInBounds_toArray, List.set_cons_zero, List.set_cons_succ, Nat.reduceAdd, Nat.zero_add, upd, Nat.reduceEqDiff, reduceIte]
            go_wp2_with fail
            refine ⟨_, by (simp only [upd, Nat.reduceEqDiff, reduceIte]; rfl), ?_, ?_⟩
            · rfl
            · exact Below.refl _ _
          · refine ⟨_, rfl, fun xs W hW hd => ?_⟩
            clear hd
            simp only [fillI, List.take, List.setIfInBounds_toArray, List.set_cons_zero, List.set_cons_succ, Nat.reduceAdd, Nat.zero_add]
            go_wp2_with fail
            refine ⟨_, by (simp only [upd, Nat.reduceEqDiff, reduceIte]; rfl), ?_, ?_⟩
            · rfl
            · exact Below.refl _ _
          · refine ⟨_, rfl, fun xs W hW hd => ?_⟩
            have h0 : xs 4 = .slice (some ⟨vb, vo, none⟩) 3 vc := hd 4 (by kernel_rfl)
            clear hd
            rw [upd_self h0]
            simp only [fillI, List.take, List.setIfInBounds_toArray, List.set_cons_zero, List.set_cons_succ, Nat.reduceAdd, Nat.zero_add, upd, Nat.reduceEqDiff, reduceIte]
            go_wp2_with fail
            refine ⟨_, by (simp only [upd, Nat.reduceEqDiff, reduceIte]; rfl), ?_, ?_⟩
            · rfl
            · exact Below.refl _ _
          · refine ⟨_, rfl, fun xs W hW hd => ?_⟩
            have h0 : xs 5 = .pointer (some ⟨vb, vo, none⟩) := hd 5 (by kernel_rfl)
            have cc := (HWB.out W hW).2.1
            clear hd
            rw [upd_self h0]
            simp only [fillI, List.take, List.setIfInBounds_toArray, List.set_cons_zero, List.set_cons_succ, Nat.reduceAdd, Nat.zero_add, upd, Nat.reduceEqDiff, reduceIte]
            go_wp2_with fail
            refine ⟨_, by (simp only [upd, Nat.reduceEqDiff, reduceIte]; rfl), ?_, ?_⟩
            · rfl
            · exact Below.refl _ _
          · refine ⟨_, rfl, fun xs W hW hd => ?_⟩
            have h0 : xs 6 = .slice A0 (fieldM (tailE E) 0) c0 := hd 6 (by kernel_rfl)
            have ks := str_run A0 c0 _ _ _ W (HWB.out W hW).2.2.1
            clear hd
            rw [upd_self h0]
            simp only [fillI, List.take, List.setIfInBounds_toArray, List.set_cons_zero, List.set_cons_succ, Nat.reduceAdd, Nat.zero_add, upd, Nat.reduceEqDiff, reduceIte]
            go_wp2_with fail
            refine ⟨_, by (simp only [upd, Nat.reduceEqDiff, reduceIte]; rfl), ?_, ?_⟩
            · rfl
            · exact Below.refl _ _
          · refine ⟨_, rfl, fun xs W hW hd => ?_⟩
            have HR := Lib.hid (HWB.out W hW).2.2.2.1
            clear hd
            simp only [fillI, List.take, List.setIfInBounds_toArray, List.set_cons_zero, List.set_cons_succ, Nat.reduceAdd, Nat.zero_add]
            go_wp2_with (refine load_whole_met (by rfl) 26 (.tmp 6) (by rfl) _ _ _ _ HR.out (by rfl) _ Tryd.underlying26 (by rfl) (by kernel_rfl) ?_)
            refine ⟨_, by (simp only [upd, Nat.reduceEqDiff, reduceIte]; rfl), ?_, ?_⟩
            · rfl
            · exact Below.refl _ _
          · refine ⟨_, rfl, fun xs W hW hd => ?_⟩
            clear hd
            simp only [fillI, List.take, List.setIfInBounds_toArray, List.set_cons_zero, List.set_cons_succ, Nat.reduceAdd, Nat.zero_add]
            go_wp2_with fail
            refine ⟨_, by (simp only [upd, Nat.reduceEqDiff, reduceIte]; rfl), ?_, ?_⟩
            · rfl
            · exact Below.refl _ _
          · refine ⟨_, rfl, fun xs W hW hd => ?_⟩
            have h3 : xs 3 = .int .i64 ((E 0).toNat : Int) := hd 3 (by kernel_rfl)
            have h7 : xs 7 = .string (readX E).name := hd 7 (by kernel_rfl)
            have h8 : xs 8 = .agg (cellsOf 16 (wordF (readX E).key)) := hd 8 (by kernel_rfl)
            have h9 : xs 9 = .int .i64 (readX E).gen := hd 9 (by kernel_rfl)
            have hl : cellsOf 16 (wordF (readX E).key) = #[wordF (readX E).key 0, wordF (readX E).key 1, wordF (readX E).key 2, wordF (readX E).key 3, wordF (readX E).key 4, wordF (readX E).key 5, wordF (readX E).key 6, wordF (readX E).key 7, wordF (readX E).key 8, wordF (readX E).key 9, wordF (readX E).key 10, wordF (readX E).key 11, wordF (readX E).key 12, wordF (readX E).key 13, wordF (readX E).key 14, wordF (readX E).key 15] := rfl
            rw [hl] at h8
            clear hd hl
            rw [upd_self h3, upd_self h7, upd_self h8, upd_self h9]
            simp only [fillI, List.take, List.setIfInBounds_toArray, List.set_cons_zero, List.set_cons_succ, Nat.reduceAdd, Nat.zero_add, upd, Nat.reduceEqDiff, reduceIte]
            go_wp2_with fail
            refine ⟨_, by (simp only [upd, Nat.reduceEqDiff, reduceIte]; rfl), ?_, ?_⟩
            · rfl
            · exact Below.refl _ _
          · refine ⟨_, rfl, fun xs W hW hd => ?_⟩
            clear hd
            have HZ19 := Lib.hid (row_new W #[.int .i64 0, .string ⟨#[]⟩, .int .u8 0, .int .u8 0, .int .u8 0, .int .u8 0, .int .u8 0, .int .u8 0, .int .u8 0, .int .u8 0, .int .u8 0, .int .u8 0, .int .u8 0, .int .u8 0, .int .u8 0, .int .u8 0, .int .u8 0, .int .u8 0, .int .i64 0] 28 19 _ rfl (zero_op _ rfl))
            have HSW := Lib.hid (undrew hW).size
            simp only [fillI, List.take, List.setIfInBounds_toArray, List.set_cons_zero, List.set_cons_succ, Nat.reduceAdd, Nat.zero_add]
            go_wp2_with fail
            refine ⟨_, by (simp only [upd, Nat.reduceEqDiff, reduceIte]; rfl), ?_, ?_⟩
            · exact ⟨_, rfl, HZ19.out, HSW.out⟩
            · exact (Below.refl _ _).alloc (Nat.le_refl _) _
        · intro xs W hW hp
          have h10 : xs 10 = opV (readX E) := hp 10 (by omega)
          obtain ⟨g10, h11, hr11, hg11⟩ : ∃ g, xs 11 = .pointer (some ⟨g, 0, none⟩) ∧ W.rowIs g 28 19 (opF op0) ∧ w5.heap.size ≤ g := hp 11 (by omega)
          have HBX := Lib.hid (HWB.out W hW).2.2.2.2
          have HBX4 : Hid (w2.heap.size ≤ w5.heap.size) := Lib.hid HB25.out.size
          have HW4 := Lib.hid (undrew hW)
          have HR11 := Lib.hid hr11
          have HG11 := Lib.hid hg11
          clear hp hW hr11 hg11
          unfold opV at h10
          rw [upd_self h10, upd_self h11]
          simp only [fillI, List.take, List.setIfInBounds_toArray, List.set_cons_zero, List.set_cons_succ, Nat.reduceAdd, Nat.zero_add, upd, Nat.reduceEqDiff, reduceIte]
          clear h10 h11 HWB
          go_wp2_with (refine store_whole (by rfl) 28 (.tmp 10) (.tmp 68) (by rfl) g10 _ 19 _ (opF (readX E)) HR11.out (by rfl) _ (by rfl) (by kernel_rfl) (size_cellsOf _ _) (cellsOf_at _ _) (fun i _ => op_one (readX E) i) ?_; intro w6 hr6 ho6)
          refine NoPanic.normal ?_
          have HR6 := Lib.hid hr6
          have HO6 := Lib.hid ho6
          have HB6 : Hid (Below w.heap.size w w6) := Lib.hid (ho6.below (HBW.out.trans (HBX.out.mono HBW.out.size)) (Nat.le_trans HBW.out.size (Nat.le_trans HBX4.out HG11.out)))
          have HZ6 : Hid (w6.rowIs w.heap.size 28 19 (opF op0)) := Lib.hid ((HZ2.out.of_block (HBX.out.block _ (World.rowIs.lt HZ2.out))).of_block (ho6.block _ (by have := World.rowIs.lt HZ2.out; have := HBX4.out; have := HG11.out; omega)))
          clear hr6 ho6 HR11 HBX HW4
          generalize xs 0 = y0 at *
          generalize xs 1 = y1 at *
          generalize xs 2 = y2 at *
          generalize xs 3 = y3 at *
          generalize xs 4 = y4 at *
          generalize xs 5 = y5 at *
          generalize xs 6 = y6 at *
          generalize xs 7 = y7 at *
          generalize xs 8 = y8 at *
          generalize xs 9 = y9 at *
          clear xs
          have HRT := Lib.hid (right_any (readX E) (readX_key E) (by show (strOf _ _).size ≤ _; rw [size_strOf]; have := HM1.out.2.2; omega) w6)
          unfold opV at HRT
          go_wp2_with (refine load_whole_met (by rfl) 28 (.tmp 10) (by rfl) _ _ _ _ HR6.out (by rfl) _ Tryd.underlying28 (by rfl) (by kernel_rfl) ?_)
          refine HRT.out.mono ?_
          rintro _ w7 ⟨rfl, hb7⟩
          have HR7 := Lib.hid (HR6.out.of_block (hb7.block _ (World.rowIs.lt HR6.out)))
          have HZ7 := Lib.hid (HZ6.out.of_block (hb7.block _ (World.rowIs.lt HZ6.out)))
          have HB7 : Hid (Below w.heap.size w w7) := Lib.hid (HB6.out.trans (hb7.mono HB6.out.size))
          clear hb7 HRT HR6 HZ6
          cases hrb : rightB (readX E) with
          | false =>
            have HRB := Lib.hid hrb
            clear hrb
            go_wp2_with (refine store_whole (by rfl) 28 (.tmp 2) (.tmp 72) (by rfl) w.heap.size _ 19 _ (opF op0) HZ7.out (by rfl) _ (by rfl) (by kernel_rfl) (by rfl) (zero_op _ rfl) (fun i _ => op_one op0 i) ?_; intro w8 hr_ ho_)
            exact bodyPost_ret (results_row_tmp rfl _ w.heap.size _ _ _ _ (by rfl) hr_ Tryd.underlying28 rfl (by kernel_rfl)) rfl ⟨op0, 3, rfl, read_no HSP.out (.inr (.inr (.inr (.inr HRB.out)))), ho_.below HB7.out (Nat.le_refl _)⟩
          | true =>
            have HRB := Lib.hid hrb
            clear hrb
            go_wp2_with (first
              | (refine load_whole_met (by rfl) 28 (.tmp 10) (by rfl) _ _ _ _ HR7.out (by rfl) _ Tryd.underlying28 (by rfl) (by kernel_rfl) ?_)
              | (refine store_whole (by rfl) 28 (.tmp 2) (.tmp 73) (by rfl) w.heap.size _ 19 _ (opF (readX E)) HZ7.out (by rfl) _ (by rfl) (by kernel_rfl) (size_cellsOf _ _) (cellsOf_at _ _) (fun i _ => op_one (readX E) i) ?_; intro w8 hr8 ho8))
            exact bodyPost_ret (results_row_tmp rfl _ w.heap.size _ _ _ _ (by rfl) hr8 Tryd.underlying28 rfl (by kernel_rfl)) rfl ⟨readX E, 0, rfl, read_ok hn0 HSP.out HM.out HM2.out HRB.out, ho8.below HB7.out (Nat.le_refl _)⟩
end Go.Proofs.YtebchoeeohmlaaaDoor.Book
