/-
  What Key does.
-/
import Derived.Test.YtnkjoambhmlnbaaGreatDoorBd43
import Derived.Test.YtnkjoambhmlnbaaGreatDoorBd44
import Derived.WalkSmall
import Derived.WalkMore
import Derived.OwnWalk
import Derived.Deep.DeepCutAuto
namespace Go.Proofs.YtnkjoambhmlnbaaGreatDoor.Book
open Go Go.RowKit Go.Proofs.YtnkjoambhmlnbaaGreatDoor.Aid
open Go.Proofs.YtnkjoambhmlnbaaGreatDoor.Cache (idxK)

set_option maxRecDepth 100000 in
set_option maxHeartbeats 2000000 in
theorem key_any {w : World} (b : Bk) (Lv Rv : Value) (hL : RowsAt w 17 b.L.length (entsL b) Lv) (hN : b.L.length ≤ 100000) (n : ByteArray) :
    Calls Tryz.prog 9 #[bookV b Lv Rv, .string n] w fun y w' => y = .returned (.tuple #[wordV (keyB n b.L), .bool (hasN b.L n)]) ∧ Below w.heap.size w w' := by
  have hb := (Below.refl w.heap.size w).alloc (Nat.le_refl _) (.cells (cellsOf 19 (bookF b Lv Rv)) 27)
  have HROW := Lib.hid (row_new w (cellsOf 19 (bookF b Lv Rv)) 27 19 (bookF b Lv Rv) (size_cellsOf _ _) (cellsOf_at _ _))
  have HB := Lib.hid hb
  have HL := Lib.hid (rows_below hL hb)
  have HSZ : Hid ((w.alloc (.cells (cellsOf 19 (bookF b Lv Rv)) 27)).heap.size = w.heap.size + 1) := Lib.hid (by simp)
  obtain ⟨A, c, rfl, -⟩ := hL
  clear hb
  unfold bookV
  generalize cellsOf 19 (bookF b (.slice A b.L.length c) Rv) = C at *
  go_enter Tryz.func9, Tryz.ntmps9
  go_upto_region 1 with fail
  generalize w.alloc (.cells C 27) = w1 at *
  have HZ := Lib.hid (row_new w1 _ 25 16 (fun _ => .int .u8 0) (by rfl) lit16z)
  have hb2 : Below w1.heap.size w1 (w1.alloc (.cells #[.int .u8 0, .int .u8 0, .int .u8 0, .int .u8 0, .int .u8 0, .int .u8 0, .int .u8 0, .int .u8 0, .int .u8 0, .int .u8 0, .int .u8 0, .int .u8 0, .int .u8 0, .int .u8 0, .int .u8 0, .int .u8 0] 25)) := (Below.refl _ _).alloc (Nat.le_refl _) _
  rw [HSZ.out] at HZ
  have HROW2 := Lib.hid (HROW.out.of_block (hb2.block w.heap.size (by have := HSZ.out; omega)))
  have HL2 := Lib.hid (rows_below HL.out hb2)
  have HB2 := Lib.hid (HB.out.trans (hb2.mono HB.out.size))
  have HS2 : Hid (w.heap.size + 2 ≤ (w1.alloc (.cells #[.int .u8 0, .int .u8 0, .int .u8 0, .int .u8 0, .int .u8 0, .int .u8 0, .int .u8 0, .int .u8 0, .int .u8 0, .int .u8 0, .int .u8 0, .int .u8 0, .int .u8 0, .int .u8 0, .int .u8 0, .int .u8 0] 25)).heap.size) := Lib.hid (by have := HSZ.out; simp; omega)
  clear hb2 HB HL HROW HSZ
  generalize w1.alloc (.cells #[.int .u8 0, .int .u8 0, .int .u8 0, .int .u8 0, .int .u8 0, .int .u8 0, .int .u8 0, .int .u8 0, .int .u8 0, .int .u8 0, .int .u8 0, .int .u8 0, .int .u8 0, .int .u8 0, .int .u8 0, .int .u8 0] 25) = w2 at *
  have HP := Lib.hid (place_any (w := w2) b (.slice A b.L.length c) Rv HL2.out hN n)
  unfold bookV at HP
  go_wp2_with first
    | (refine load_whole (by rfl) 27 (.tmp 2) (by rfl) w.heap.size _ 19 _ HROW2.out (by rfl) _ Tryz.underlying27 (by rfl) (by kernel_rfl) ?_)
    | fail
  refine HP.out.mono ?_
  rintro _ w3 ⟨rfl, hb3⟩
  have HL3 := Lib.hid (rows_below HL2.out hb3)
  have HROW3 := Lib.hid (HROW2.out.of_block (hb3.block w.heap.size (by have := HS2.out; omega)))
  have HZ3 := Lib.hid (HZ.out.of_block (hb3.block (w.heap.size + 1) (by have := HS2.out; omega)))
  have HB3 := Lib.hid (HB2.out.trans (hb3.mono HB2.out.size))
  clear hb3 HP HL2 HROW2 HZ HB2 HS2
  have c0 := HROW3.out.cell (i := 0) (by omega)
  rw [show bookF b (.slice A b.L.length c) Rv 0 = .slice A b.L.length c from rfl] at c0
  cases hh : hasN b.L n with
  | false =>
    rw [idx_not hh]
    have HE := Lib.hid (keyN_none hh)
    have HH := Lib.hid hh
    have HZW : Hid (∀ i, i < 16 → (#[.int .u8 0, .int .u8 0, .int .u8 0, .int .u8 0, .int .u8 0, .int .u8 0, .int .u8 0, .int .u8 0, .int .u8 0, .int .u8 0, .int .u8 0, .int .u8 0, .int .u8 0, .int .u8 0, .int .u8 0, .int .u8 0] : Array Value)[i]? = some (wordF zw i)) := Lib.hid (fun i hi => by
      rw [lit16z i hi]
      unfold wordF zw
      rw [List.getD_eq_getElem?_getD, List.getElem?_replicate, if_pos hi]
      rfl)
    clear hh
    go_wp2_with (refine store_whole (by rfl) 25 (.tmp 4) (.tmp 12) (by rfl) (w.heap.size + 1) _ 16 _ (wordF zw) HZ3.out (by rfl) _ (by rfl) (by kernel_rfl) (by rfl) HZW.out (fun _ _ => rfl) ?_; intro w7 hr7 ho7)
    have HB7 := Lib.hid (ho7.below HB3.out (Nat.le_succ _))
    have HR7 := Lib.hid hr7
    clear hr7 ho7 HB3 HZ3 HROW3
    refine bodyPost_ret (results_row_tmp rfl _ (w.heap.size + 1) _ 16 _ _ rfl HR7.out Tryz.underlying25 (by rfl) (by kernel_rfl)) rfl ?_
    exact ⟨by rw [HE.out, HH.out]; rfl, HB7.out⟩
  | true =>
    obtain ⟨e1, hlt⟩ := idx_has hh
    rw [e1]
    have HE := Lib.hid (keyN_at (n := n) hh)
    have HH := Lib.hid hh
    have HLT := Lib.hid hlt
    obtain ⟨A', c', he, hr⟩ := HL3.out
    simp only [Value.slice.injEq, true_and] at he
    obtain ⟨rfl, rfl⟩ := he
    obtain ⟨sb, so, rfl, hsb, hc⟩ := hr (by omega)
    generalize atL b.L n = k at *
    have HC : Hid (w3.rangeAt sb (so + k * 17 + 1) ((List.range 16).map (wordF (b.L.getD k (nos, zw)).2))) := Lib.hid (fun j u hu => by
      have hj : j < 16 := by simpa using (List.getElem?_eq_some_iff.1 hu).1
      have := hc k hlt (j + 1) u (by
        unfold entsL
        rw [List.getElem?_map, List.getElem?_range (by omega)]
        rw [List.getElem?_map, List.getElem?_range hj] at hu
        exact hu)
      rw [show so + k * 17 + 1 + j = so + k * 17 + (j + 1) by omega]
      exact this)
    have q0 : (0 : Int) ≤ (k : Int) := by omega
    have q1 : (k : Int) < (b.L.length : Int) := by omega
    have q2 : ¬ (k : Int) < 0 := by omega
    clear hc hr hh e1
    go_wp2_with first
      | (refine wpList_load_mid (by rfl) 25 (.tmp 17) (by rfl) sb (so + k * 17 + 1) (by rfl) _ _ HC.out Tryz.underlying25 (by rfl) (by kernel_rfl) ?_)
      | (refine store_whole (by rfl) 25 (.tmp 4) (.tmp 18) (by rfl) (w.heap.size + 1) _ 16 _ (wordF (b.L.getD k (nos, zw)).2) HZ3.out (by rfl) _ (by rfl) (by kernel_rfl) (size_cellsOf _ _) (cellsOf_at _ _) (fun _ _ => rfl) ?_; intro w7 hr7 ho7)
    have HB7 := Lib.hid (ho7.below HB3.out (Nat.le_succ _))
    have HR7 := Lib.hid hr7
    clear hr7 ho7 HB3 HZ3 HROW3
    refine bodyPost_ret (results_row_tmp rfl _ (w.heap.size + 1) _ 16 _ _ rfl HR7.out Tryz.underlying25 (by rfl) (by kernel_rfl)) rfl ?_
    exact ⟨by rw [HE.out, HH.out]; rfl, HB7.out⟩
end Go.Proofs.YtnkjoambhmlnbaaGreatDoor.Book
