/-
  What Right does. What Put does.
-/
import Derived.Test.YtebchoeeohmlaaaDoorBd19
import Derived.Test.YtebchoeeohmlaaaDoorBd25
import Derived.Test.YtebchoeeohmlaaaDoorBd07
import Derived.Test.YtebchoeeohmlaaaDoorBd29
import Derived.Test.YtebchoeeohmlaaaDoorBd30
import Derived.Test.YtebchoeeohmlaaaDoorBd23
import Derived.WalkSmall
import Derived.WalkMore
import Derived.OwnWalk
import Derived.Deep.DeepCutAuto
namespace Go.Proofs.YtebchoeeohmlaaaDoor.Book
open Go Go.RowKit Go.Proofs.YtebchoeeohmlaaaDoor.Aid Go.Proofs.YtebchoeeohmlaaaDoor.Field

set_option maxRecDepth 100000 in
set_option maxHeartbeats 8000000 in
theorem right_any (x : OpB) (hk : x.key.length = 16) (hs : x.name.size ≤ 9000000000000000000) (w : World) : Calls Tryd.prog 12 #[opV x] w fun y w' => y = .returned (.bool (rightB x)) ∧ Below w.heap.size w w' := by
  have hr := row_new w (cellsOf 19 (opF x)) 28 19 (opF x) (size_cellsOf _ _) (cellsOf_at _ _)
  have hb := Lib.hid ((Below.refl w.heap.size w).alloc (Nat.le_refl _) (.cells (cellsOf 19 (opF x)) 28))
  have hkz := fun W => key_eql x.key zw hk (by decide) W
  have hok := op_key x
  have MN := Lib.hid (fun W => name_own x.name W hs)
  have he := empty_is x.name
  have HRB : Hid (rightB x = (decide (1 ≤ x.kind ∧ x.kind ≤ 5) && ((if x.kind ≤ 3 then nameB x.name else decide (x.name = nos)) && (decide (x.kind = 2 → x.key = zw) && (if x.kind = 5 then decide (1 ≤ x.gen ∧ x.gen ≤ 2147483647) else decide (x.gen = 0)))))) := Lib.hid rfl
  have c0 := hr.cell (i := 0) (by omega)
  have c1 := hr.cell (i := 1) (by omega)
  have c2 := hr.cell (i := 18) (by omega)
  have e0 : opF x 0 = .int .i64 x.kind := rfl
  have e1 : opF x 1 = .string x.name := rfl
  have e2 : opF x 18 = .int .i64 x.gen := rfl
  rw [e0] at c0
  rw [e1] at c1
  rw [e2] at c2
  unfold opV
  clear e0 e1 e2
  generalize hf : opF x = f at *
  clear hf
  obtain ⟨k, n, key, gen⟩ := x
  dsimp only at *
  go_enter Tryd.func12, Tryd.ntmps12
  generalize cellsOf 19 f = C at *
  go_upto_region 1 with fail
  have HROW := Lib.hid hr
  clear hr
  generalize w.alloc (.cells C 28) = w1 at *
  have hg : (gen == 0) = decide (gen = 0) := rfl
  by_cases k13 : k = 1 ∨ k = 3
  · have HE : Hid (rightB ⟨k, n, key, gen⟩ = (nameB n && decide (gen = 0))) := Lib.hid (by
      rw [HRB.out, decide_eq_true (show 1 ≤ k ∧ k ≤ 5 by omega), if_pos (show k ≤ 3 by omega), decide_eq_true (show k = 2 → key = zw from fun h => by omega), if_neg (show ¬ k = 5 by omega)]
      rfl)
    clear HRB hkz hok he
    cases hnb : nameB n with
    | false =>
      rw [hnb] at HE MN
      clear hnb
      rcases k13 with rfl | rfl
      all_goals
        go_wp2_with fail
        refine (MN.out _).mono ?_
        rintro _ w2 ⟨rfl, hb2⟩
        have HB2 := Lib.hid (hb.out.trans (hb2.mono hb.out.size))
        clear hb2
        go_wp2
        go_ret
        exact ⟨by rw [HE.out]; rfl, HB2.out⟩
    | true =>
      rw [hnb] at HE MN
      clear hnb
      rcases k13 with rfl | rfl
      all_goals
        go_wp2_with fail
        refine (MN.out _).mono ?_
        rintro _ w2 ⟨rfl, hb2⟩
        have HB2 := Lib.hid (hb.out.trans (hb2.mono hb.out.size))
        have c3 := (hb2.cell (p := ⟨w.heap.size, 18, none⟩) (block_lt_of_cell c2)).trans c2
        clear hb2
        go_wp2
        go_ret
        exact ⟨by rw [HE.out]; rfl, HB2.out⟩
  by_cases k2 : k = 2
  · subst k2
    have HE : Hid (rightB ⟨2, n, key, gen⟩ = (nameB n && (decide (key = zw) && decide (gen = 0)))) := Lib.hid (by
      rw [HRB.out, decide_eq_true (show (1 : Int) ≤ 2 ∧ (2 : Int) ≤ 5 by omega), if_pos (show (2 : Int) ≤ 3 by omega), if_neg (show ¬ (2 : Int) = 5 by omega), show decide ((2 : Int) = 2 → key = zw) = decide (key = zw) from by simp]
      rfl)
    clear HRB he k13
    cases hnb : nameB n with
    | false =>
      rw [hnb] at HE MN
      clear hnb
      go_wp2_with fail
      refine (MN.out _).mono ?_
      rintro _ w2 ⟨rfl, hb2⟩
      have HB2 := Lib.hid (hb.out.trans (hb2.mono hb.out.size))
      clear hb2
      go_wp2
      go_ret
      exact ⟨by rw [HE.out]; rfl, HB2.out⟩
    | true =>
      rw [hnb] at HE MN
      clear hnb
      go_wp2_with fail
      refine (MN.out _).mono ?_
      rintro _ w2 ⟨rfl, hb2⟩
      have HB2 := Lib.hid (hb.out.trans (hb2.mono hb.out.size))
      have c3 := (hb2.cell (p := ⟨w.heap.size, 18, none⟩) (block_lt_of_cell c2)).trans c2
      have HROW2 := Lib.hid (HROW.out.of_block (hb2.block w.heap.size (block_lt_of_cell c2)))
      have hz0 : Value.agg #[.int .u8 0, .int .u8 0, .int .u8 0, .int .u8 0, .int .u8 0, .int .u8 0, .int .u8 0, .int .u8 0, .int .u8 0, .int .u8 0, .int .u8 0, .int .u8 0, .int .u8 0, .int .u8 0, .int .u8 0, .int .u8 0] = .agg (cellsOf 16 (wordF zw)) := by rfl
      rw [← hz0] at hkz
      clear hb2 c0 c1 c2 hz0 HROW
      cases hz : decide (key = zw) with
      | false =>
        rw [hz] at hkz HE
        clear hz
        go_wp2_with (refine load_as (by rfl) 26 (.tmp 22) (by rfl) w.heap.size 2 _ 19 16 f (cellsOf 16 (wordF key)) hok HROW2.out (by rfl) _ Tryd.underlying26 (by rfl) (by kernel_rfl) (by omega) ?_)
        go_ret
        exact ⟨by rw [HE.out]; rfl, HB2.out⟩
      | true =>
        rw [hz] at hkz HE
        clear hz
        go_wp2_with (refine load_as (by rfl) 26 (.tmp 22) (by rfl) w.heap.size 2 _ 19 16 f (cellsOf 16 (wordF key)) hok HROW2.out (by rfl) _ Tryd.underlying26 (by rfl) (by kernel_rfl) (by omega) ?_)
        go_ret
        exact ⟨by rw [HE.out]; rfl, HB2.out⟩
  clear hkz hok MN
  by_cases k4 : k = 4
  · subst k4
    have HE : Hid (rightB ⟨4, n, key, gen⟩ = (decide (n = nos) && decide (gen = 0))) := Lib.hid (by
      rw [HRB.out, decide_eq_true (show (1 : Int) ≤ 4 ∧ (4 : Int) ≤ 5 by omega), if_neg (show ¬ (4 : Int) ≤ 3 by omega), decide_eq_true (show (4 : Int) = 2 → key = zw from fun h => by omega), if_neg (show ¬ (4 : Int) = 5 by omega)]
      rfl)
    clear HRB k13 k2
    cases hne : decide (n = nos) with
    | false =>
      rw [hne] at he HE
      clear hne
      go_wp2
      go_ret
      exact ⟨by rw [HE.out]; rfl, hb.out⟩
    | true =>
      rw [hne] at he HE
      clear hne
      go_wp2
      go_ret
      exact ⟨by rw [HE.out]; rfl, hb.out⟩
  by_cases k5 : k = 5
  · subst k5
    have HE : Hid (rightB ⟨5, n, key, gen⟩ = (decide (n = nos) && (decide (1 ≤ gen) && decide (gen ≤ 2147483647)))) := Lib.hid (by
      rw [HRB.out, decide_eq_true (show (1 : Int) ≤ 5 ∧ (5 : Int) ≤ 5 by omega), if_neg (show ¬ (5 : Int) ≤ 3 by omega), decide_eq_true (show (5 : Int) = 2 → key = zw from fun h => by omega), if_pos rfl]
      simp)
    clear HRB k13 k2 k4
    cases hne : decide (n = nos) with
    | false =>
      rw [hne] at he HE
      clear hne
      go_wp2
      go_ret
      exact ⟨by rw [HE.out]; rfl, hb.out⟩
    | true =>
      rw [hne] at he HE
      clear hne
      by_cases g1 : 1 ≤ gen
      · have HE2 : Hid (rightB ⟨5, n, key, gen⟩ = decide (gen ≤ 2147483647)) := Lib.hid (by rw [HE.out, decide_eq_true g1]; rfl)
        go_wp2
        go_ret
        exact ⟨by rw [HE2.out]; rfl, hb.out⟩
      · have HE2 : Hid (rightB ⟨5, n, key, gen⟩ = false) := Lib.hid (by rw [HE.out, decide_eq_false g1]; rfl)
        go_wp2
        go_ret
        exact ⟨by rw [HE2.out]; rfl, hb.out⟩
  · have HE : Hid (rightB ⟨k, n, key, gen⟩ = false) := Lib.hid (by rw [HRB.out, decide_eq_false (show ¬ (1 ≤ k ∧ k ≤ 5) by omega)]; rfl)
    have q1 : (k == 1) = false := by simp; omega
    have q2 : (k == 2) = false := by simp; omega
    have q3 : (k == 3) = false := by simp; omega
    have q4 : (k == 4) = false := by simp; omega
    have q5 : (k == 5) = false := by simp; omega
    clear HRB k13 k2 k4 k5
    go_wp2
    go_ret
    exact ⟨by rw [HE.out]; rfl, hb.out⟩
end Go.Proofs.YtebchoeeohmlaaaDoor.Book
namespace Go.Proofs.YtebchoeeohmlaaaDoor.Book
open Go Go.RowKit Go.Proofs.YtebchoeeohmlaaaDoor.Aid Go.Proofs.YtebchoeeohmlaaaDoor.Field Go.Proofs.YtebchoeeohmlaaaDoor.Law01

set_option maxRecDepth 100000 in
set_option maxHeartbeats 8000000 in
theorem put_any (x : OpB) (hk : x.key.length = 16) (hs : x.name.size ≤ 9000000000000000000) (w : World) : Calls Tryd.prog 9 #[opV x] w fun y w' => ∃ v, y = .returned (.tuple #[v, .int .i64 (if rightB x = true then 0 else 3)]) ∧ Own w' w.heap.size (if rightB x = true then encNO x else 0) (encEO x) v ∧ Below w.heap.size w w' := by
  have hr := row_new w (cellsOf 19 (opF x)) 28 19 (opF x) (size_cellsOf _ _) (cellsOf_at _ _)
  have hb := Lib.hid ((Below.refl w.heap.size w).alloc (Nat.le_refl _) (.cells (cellsOf 19 (opF x)) 28))
  have HROW := Lib.hid hr
  obtain ⟨cc, hcc⟩ : ∃ cc : Int, cc = if rightB x = true then 0 else 3 := ⟨_, rfl⟩
  obtain ⟨nn, hnn⟩ : ∃ nn : Nat, nn = if rightB x = true then encNO x else 0 := ⟨_, rfl⟩
  rw [← hcc, ← hnn]
  have HCC := Lib.hid hcc
  have HNN := Lib.hid hnn
  clear hcc hnn
  have HRT := Lib.hid (fun W => right_any x hk hs W)
  unfold opV at HRT ⊢
  clear hr
  go_enter Tryd.func9, Tryd.ntmps9
  go_upto_region 1 with fail
  generalize hC : cellsOf 19 (opF x) = C at *
  generalize w.alloc (.cells C 28) = w1 at *
  go_wp2_with (refine load_whole_met (by rfl) 28 (.tmp 1) (by rfl) _ _ _ _ HROW.out (by rfl) _ Tryd.underlying28 (by rfl) (by kernel_rfl) ?_; rw [hC])
  refine (HRT.out w1).mono ?_
  rintro _ w2 ⟨rfl, hb2⟩
  have hbw : Below w.heap.size w w2 := hb.out.trans (hb2.mono hb.out.size)
  have HR2 := Lib.hid (HROW.out.of_block (hb2.block _ (World.rowIs.lt HROW.out)))
  have HB2 := Lib.hid hbw
  clear hb2 hbw HROW hb HRT hC
  cases hrb : rightB x with
  | false =>
    go_wp2
    go_ret2
    refine ⟨.slice none 0 0, ?_, ?_, HB2.out⟩
    · rw [HCC.out, hrb]; rfl
    · rw [HNN.out, hrb]; exact ⟨by simp, .inl ⟨rfl, rfl⟩⟩
  | true =>
    have HSZ := Lib.hid (right_size hrb)
    go_upto_region 3 with fail
    have HROWS : Hid (∀ W, Below w2.drew.heap.size w2.drew W → W.rowIs w.heap.size 28 19 (opF x)) := Lib.hid fun W hW => HR2.out.of_block (hW.block _ (World.rowIs.lt HR2.out))
    have KA := Lib.hid (fun (W : World) => Lib.run_convert_string_bytes (P := Tryd.prog) W 9 23 5 x.name Tryd.underlying9 Tryd.underlying23 Tryd.underlying5)
    refine region_inv_all (postP x w.heap.size w.heap.size) 15 (by kernel_rfl) (by kernel_rfl) (by kernel_rfl) (postP_mono x _ _) ?_ ?_
    · refine ⟨⟨⟨⟨⟨⟨⟨⟨⟨⟨⟨⟨⟨⟨⟨trivial, ?_⟩, ?_⟩, ?_⟩, ?_⟩, ?_⟩, ?_⟩, ?_⟩, ?_⟩, ?_⟩, ?_⟩, ?_⟩, ?_⟩, ?_⟩, ?_⟩, ?_⟩
      · refine ⟨_, rfl, fun xs W hW hd => ?_⟩
        clear hd
        simp only [fillI, List.take, List.setIfInBounds_toArray, List.set_cons_zero, List.set_cons_succ, Nat.reduceAdd, Nat.zero_add]
        go_wp2_with fail
        refine ⟨_, by (simp only [upd, Nat.reduceEqDiff, reduceIte]; rfl), ?_, ?_⟩
        · rfl
        · exact Below.refl _ _
      · refine ⟨_, rfl, fun xs W hW hd => ?_⟩
        have h0 : xs 0 = .pointer (some ⟨w.heap.size, 1, none⟩) := hd 0 (by kernel_rfl)
        have c1 := (HROWS.out W hW).cell (i := 1) (by omega)
        rw [show opF x 1 = .string x.name from rfl] at c1
        clear hd
        rw [upd_self h0]
        simp only [fillI, List.take, List.setIfInBounds_toArray, List.set_cons_zero, List.set_cons_succ, Nat.reduceAdd, Nat.zero_add, upd, Nat.reduceEqDiff, reduceIte]
        go_wp2_with fail
        refine ⟨_, by (simp only [upd, Nat.reduceEqDiff, reduceIte]; rfl), ?_, ?_⟩
        · rfl
        · exact Below.refl _ _
      · refine ⟨_, rfl, fun xs W hW hd => ?_⟩
        have h0 : xs 1 = .string x.name := hd 1 (by kernel_rfl)
        clear hd
        rw [upd_self h0]
        simp only [fillI, List.take, List.setIfInBounds_toArray, List.set_cons_zero, List.set_cons_succ, Nat.reduceAdd, Nat.zero_add, upd, Nat.reduceEqDiff, reduceIte]
        have kx := KA.out
        go_wp2_with fail
        refine ⟨_, by (simp only [upd, Nat.reduceEqDiff, reduceIte]; rfl), ?_, ?_⟩
        · exact strB_slice W x.name _ (by rw [Lib.bytesWorld_size]; omega)
        · exact strB_below W x.name
      · refine ⟨_, rfl, fun xs W hW hd => ?_⟩
        clear hd
        simp only [fillI, List.take, List.setIfInBounds_toArray, List.set_cons_zero, List.set_cons_succ, Nat.reduceAdd, Nat.zero_add]
        go_wp2_with fail
        refine ⟨_, by (simp only [upd, Nat.reduceEqDiff, reduceIte]; rfl), ?_, ?_⟩
        · rfl
        · exact Below.refl _ _
      · refine ⟨_, rfl, fun xs W hW hd => ?_⟩
        have h0 : xs 3 = .pointer (some ⟨w.heap.size, 2, none⟩) := hd 3 (by kernel_rfl)
        have hsl : SliceOf W W.heap.size 16 (keyE x.key) (.slice (some ⟨w.heap.size, 2, none⟩) 16 16) := op_slice (HROWS.out W hW)
        have HSL := Lib.hid hsl
        have ka := fun W => arr_whole (P := Tryd.prog) 26 5 16 Tryd.underlying26 (by kernel_rfl) w.heap.size 2 W
        clear hd hsl
        rw [upd_self h0]
        simp only [fillI, List.take, List.setIfInBounds_toArray, List.set_cons_zero, List.set_cons_succ, Nat.reduceAdd, Nat.zero_add, upd, Nat.reduceEqDiff, reduceIte]
        go_wp2_with fail
        refine ⟨_, by (simp only [upd, Nat.reduceEqDiff, reduceIte]; rfl), ?_, ?_⟩
        · exact HSL.out
        · exact Below.refl _ _
      · refine ⟨_, rfl, fun xs W hW hd => ?_⟩
        clear hd
        simp only [fillI, List.take, List.setIfInBounds_toArray, List.set_cons_zero, List.set_cons_succ, Nat.reduceAdd, Nat.zero_add]
        go_wp2_with fail
        refine ⟨_, by (simp only [upd, Nat.reduceEqDiff, reduceIte]; rfl), ?_, ?_⟩
        · rfl
        · exact Below.refl _ _
      · refine ⟨_, rfl, fun xs W hW hd => ?_⟩
        have h0 : xs 5 = .pointer (some ⟨w.heap.size, 18, none⟩) := hd 5 (by kernel_rfl)
        have c1 := (HROWS.out W hW).cell (i := 18) (by omega)
        rw [show opF x 18 = .int .i64 x.gen from rfl] at c1
        clear hd
        rw [upd_self h0]
        simp only [fillI, List.take, List.setIfInBounds_toArray, List.set_cons_zero, List.set_cons_succ, Nat.reduceAdd, Nat.zero_add, upd, Nat.reduceEqDiff, reduceIte]
        go_wp2_with fail
        refine ⟨_, by (simp only [upd, Nat.reduceEqDiff, reduceIte]; rfl), ?_, ?_⟩
        · rfl
        · exact Below.refl _ _
      · refine ⟨_, rfl, fun xs W hW hd => ?_⟩
        have h0 : xs 6 = .int .i64 x.gen := hd 6 (by kernel_rfl)
        clear hd
        rw [upd_self h0]
        simp only [fillI, List.take, List.setIfInBounds_toArray, List.set_cons_zero, List.set_cons_succ, Nat.reduceAdd, Nat.zero_add, upd, Nat.reduceEqDiff, reduceIte]
        go_wp2_with fail
        refine (number_own x.gen W).mono ?_
        rintro _ W' ⟨v, rfl, ho, hb'⟩
        have HO := Lib.hid ho
        have HB' := Lib.hid hb'
        clear ho hb'
        go_wp2_with fail
        refine ⟨_, by (simp only [upd, Nat.reduceEqDiff, reduceIte]; rfl), ?_, ?_⟩
        · exact HO.out.slice (.inr (Nat.le_refl _))
        · exact HB'.out
      · refine ⟨_, rfl, fun xs W hW hd => ?_⟩
        have h0 : SliceOf W W.heap.size x.name.size (strB x.name) (xs 2) := hd 2 (by kernel_rfl)
        have h1 : SliceOf W W.heap.size 16 (keyE x.key) (xs 4) := hd 4 (by kernel_rfl)
        have h2 : SliceOf W W.heap.size 8 (numB x.gen) (xs 7) := hd 7 (by kernel_rfl)
        have H0 := Lib.hid h0
        have H1 := Lib.hid h1
        have H2 := Lib.hid h2
        obtain ⟨A0, c0, e0⟩ := slice_shape h0
        obtain ⟨A1, c1, e1⟩ := slice_shape h1
        obtain ⟨A2, c2, e2⟩ := slice_shape h2
        clear hd h0 h1 h2
        rw [e0] at H0
        rw [e1] at H1
        rw [e2] at H2
        rw [upd_self e0, upd_self e1, upd_self e2]
        simp only [fillI, List.take, List.setIfInBounds_toArray, List.set_cons_zero, List.set_cons_succ, Nat.reduceAdd, Nat.zero_add, upd, Nat.reduceEqDiff, reduceIte]
        go_wp2_with fail
        refine ⟨_, by (simp only [upd, Nat.reduceEqDiff, reduceIte]; rfl), ?_, ?_⟩
        · exact parts_three W x.name.size (strB x.name) (keyE x.key) (numB x.gen) _ _ _ H0.out H1.out H2.out (mO x) (eO x) rfl rfl rfl rfl rfl rfl
        · exact (Below.refl _ _).alloc (Nat.le_refl _) _
      · refine ⟨_, rfl, fun xs W hW hd => ?_⟩
        have h0 : PartsOf W 3 (mO x) (eO x) (xs 8) := hd 8 (by kernel_rfl)
        have H0 := Lib.hid h0
        have HSW : Hid (w.heap.size ≤ W.heap.size) := Lib.hid (Nat.le_trans HB2.out.size hW.size)
        generalize hx8 : xs 8 = p8 at *
        clear hd h0
        rw [upd_self hx8]
        simp only [fillI, List.take, List.setIfInBounds_toArray, List.set_cons_zero, List.set_cons_succ, Nat.reduceAdd, Nat.zero_add, upd, Nat.reduceEqDiff, reduceIte]
        go_wp2_with fail
        refine (put_own 3 (mO x) (eO x) p8 W H0.out (by rw [off_op]; have := HSZ.out; omega)).mono ?_
        rintro _ W' ⟨r, rfl, ho, hb'⟩
        have hc : putC 3 (mO x) = 0 := by unfold putC; rw [putB_op (by have := HSZ.out; omega)]; rfl
        have hn : putN 3 (mO x) = encN (mO x) 3 := by unfold putN; rw [putB_op (by have := HSZ.out; omega)]; rfl
        rw [hn] at ho
        rw [hc]
        have HO := Lib.hid (own_base ho HSW.out)
        have HB' := Lib.hid hb'
        clear ho hb' hn hc
        go_wp2_with fail
        refine ⟨_, by (simp only [upd, Nat.reduceEqDiff, reduceIte]; rfl), ?_, ?_⟩
        · exact ⟨r, rfl, HO.out⟩
        · exact HB'.out
      · refine ⟨_, rfl, fun xs W hW hd => ?_⟩
        obtain ⟨r, h0, ho⟩ : ∃ r, xs 9 = .tuple #[r, .int .i64 0] ∧ Own W w.heap.size (encN (mO x) 3) (encB (mO x) (eO x) 3) r := hd 9 (by kernel_rfl)
        have HO := Lib.hid ho
        clear hd ho
        rw [upd_self h0]
        simp only [fillI, List.take, List.setIfInBounds_toArray, List.set_cons_zero, List.set_cons_succ, Nat.reduceAdd, Nat.zero_add, upd, Nat.reduceEqDiff, reduceIte]
        go_wp2_with fail
        refine ⟨_, by (simp only [upd, Nat.reduceEqDiff, reduceIte]; rfl), ?_, ?_⟩
        · exact ⟨r, rfl, HO.out⟩
        · exact Below.refl _ _
      · refine ⟨_, rfl, fun xs W hW hd => ?_⟩
        obtain ⟨r, h0, ho⟩ : ∃ r, xs 10 = .tuple #[r, .int .i64 0] ∧ Own W w.heap.size (encN (mO x) 3) (encB (mO x) (eO x) 3) r := hd 10 (by kernel_rfl)
        have HO := Lib.hid ho
        clear hd ho
        rw [upd_self h0]
        simp only [fillI, List.take, List.setIfInBounds_toArray, List.set_cons_zero, List.set_cons_succ, Nat.reduceAdd, Nat.zero_add, upd, Nat.reduceEqDiff, reduceIte]
        go_wp2_with fail
        refine ⟨_, by (simp only [upd, Nat.reduceEqDiff, reduceIte]; rfl), ?_, ?_⟩
        · exact HO.out
        · exact Below.refl _ _
      · refine ⟨_, rfl, fun xs W hW hd => ?_⟩
        obtain ⟨r, h0, ho⟩ : ∃ r, xs 10 = .tuple #[r, .int .i64 0] ∧ Own W w.heap.size (encN (mO x) 3) (encB (mO x) (eO x) 3) r := hd 10 (by kernel_rfl)
        clear hd ho
        rw [upd_self h0]
        simp only [fillI, List.take, List.setIfInBounds_toArray, List.set_cons_zero, List.set_cons_succ, Nat.reduceAdd, Nat.zero_add, upd, Nat.reduceEqDiff, reduceIte]
        go_wp2_with fail
        refine ⟨_, by (simp only [upd, Nat.reduceEqDiff, reduceIte]; rfl), ?_, ?_⟩
        · rfl
        · exact Below.refl _ _
      · refine ⟨_, rfl, fun xs W hW hd => ?_⟩
        have h0 : Own W w.heap.size (encN (mO x) 3) (encB (mO x) (eO x) 3) (xs 11) := hd 11 (by kernel_rfl)
        have H0 := Lib.hid h0
        generalize hx : xs 11 = p11 at *
        clear hd h0
        rw [upd_self hx]
        simp only [fillI, List.take, List.setIfInBounds_toArray, List.set_cons_zero, List.set_cons_succ, Nat.reduceAdd, Nat.zero_add, upd, Nat.reduceEqDiff, reduceIte]
        go_wp2_with fail
        refine ⟨_, by (simp only [upd, Nat.reduceEqDiff, reduceIte]; rfl), ?_, ?_⟩
        · exact H0.out
        · exact Below.refl _ _
      · refine ⟨_, rfl, fun xs W hW hd => ?_⟩
        clear hd
        simp only [fillI, List.take, List.setIfInBounds_toArray, List.set_cons_zero, List.set_cons_succ, Nat.reduceAdd, Nat.zero_add]
        go_wp2_with fail
        refine ⟨_, by (simp only [upd, Nat.reduceEqDiff, reduceIte]; rfl), ?_, ?_⟩
        · trivial
        · exact Below.refl _ _
    · intro xs W hW hp
      have h13 : Own W w.heap.size (encN (mO x) 3) (encB (mO x) (eO x) 3) (xs 13) := hp 13 (by omega)
      have HO := Lib.hid h13
      have HW := Lib.hid (HB2.out.trans ((undrew hW).mono HB2.out.size))
      obtain ⟨A, c, e13, hAc, -⟩ := own_shape h13
      have c0 := (HROWS.out W hW).cell (i := 0) (by omega)
      rw [show opF x 0 = .int .i64 x.kind from rfl] at c0
      have HNX : Hid (encN (mO x) 3 ≤ 100) := Lib.hid (by rw [encN3]; show x.name.size + 16 + 8 + 6 ≤ 100; have := HSZ.out; omega)
      clear hp hW h13
      rw [e13] at HO
      rw [upd_self e13]
      simp only [fillI, List.take, List.setIfInBounds_toArray, List.set_cons_zero, List.set_cons_succ, Nat.reduceAdd, Nat.zero_add, upd, Nat.reduceEqDiff, reduceIte]
      clear e13 HROWS KA HR2
      generalize hE : encN (mO x) 3 = NE at *
      generalize xs 14 = y14 at *
      generalize xs 10 = y10 at *
      generalize xs 0 = y0 at *
      generalize xs 1 = y1 at *
      generalize xs 2 = y2 at *
      generalize xs 3 = y3 at *
      generalize xs 4 = y4 at *
      generalize xs 5 = y5 at *
      generalize xs 6 = y6 at *
      generalize xs 7 = y7 at *
      generalize xs 8 = y8 at *
      generalize xs 9 = y9 at *
      generalize xs 11 = y11 at *
      generalize xs 12 = y12 at *
      clear xs
      have hk8 := right_kind hrb
      have hw8 : IntKind.u8.wrap x.kind = ((bt x.kind.toNat).toNat : Int) := by rw [bt_toNat (by omega), u8_in _ (by omega)]; omega
      obtain ⟨z8, hz8⟩ : ∃ z8, z8 = IntKind.u8.wrap x.kind := ⟨_, rfl⟩
      have hz9 : z8 = ((bt x.kind.toNat).toNat : Int) := hz8.trans hw8
      have hz8' : IntKind.u8.wrap x.kind = z8 := hz8.symm
      have HKK := Lib.hid (own_byte W (bt x.kind.toNat) z8 hz9)
      have hal : Below W.heap.size W (W.alloc (.cells #[.int .u8 z8] 5)) := (Below.refl _ _).alloc (Nat.le_refl _) _
      have HS2 := Lib.hid (slice_below (HO.out.slice (g' := W.heap.size) (.inr (Nat.le_refl _))) hal)
      have HSZ2 : Hid (W.heap.size ≤ (W.alloc (.cells #[.int .u8 z8] 5)).heap.size) := Lib.hid hal.size
      have HAL := Lib.hid hal
      have hn1 := HNX.out
      have HE := Lib.hid hE
      clear hw8 hal HO hE hk8 hz8 hz9
      go_wp2_with (at_builtin
                   refine append_bytes (by rfl) (.tmp 25) (.tmp 26) (by rfl) W.heap.size 1 (fun _ => bt x.kind.toNat) _ (by rfl) HKK.out W.heap.size NE (encB (mO x) (eO x) 3) _ (by rfl) HS2.out (by omega) HSZ2.out ?_
                   intro v2 w3 ho2 hg2 _
                   have HB3 : Hid (Below W.heap.size W w3) := Lib.hid (HAL.out.grown hg2 HSZ2.out (fun b hb => (HKK.out.lt hb).1))
                   have HO2 := Lib.hid ho2
                   have hsh := own_shape ho2
                   clear ho2 hg2 HKK HS2 HSZ2 HAL
                   obtain ⟨sA, sc, hss, -, -⟩ := hsh
                   subst hss)
      go_ret2
      refine ⟨_, by rw [HCC.out, hrb]; rfl, ?_, HW.out.trans (HB3.out.mono HW.out.size)⟩
      have hnn : nn = 1 + NE := by rw [HNN.out, hrb, if_pos rfl]; unfold encNO; rw [HE.out]; omega
      rw [hnn]
      refine own_base (HO2.out.congr' (fun j _ => ?_)) HW.out.size
      unfold cat encEO
      by_cases hj : j < 1
      · rw [if_pos hj, if_pos (by omega)]
      · rw [if_neg hj, if_neg (by omega)]
end Go.Proofs.YtebchoeeohmlaaaDoor.Book
