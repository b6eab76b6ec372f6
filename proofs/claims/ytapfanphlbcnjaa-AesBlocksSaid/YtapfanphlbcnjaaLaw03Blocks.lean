/-
  The walk of bartizanlaw03.AesBlocks: for any key and block it returns true, and writes nothing that was there.
-/
import Derived.Test.YtapfanphlbcnjaaLaw03Unlike
namespace Go.Proofs.Ytapfanphlbcnjaa.Law03
open Go Go.RowKit Go.Proofs.Ytapfanphlbcnjaa.Aid Go.Proofs.Ytapfanphlbcnjaa.Aes

set_option maxRecDepth 100000 in
set_option maxHeartbeats 1000000 in
theorem blocks_any {R : World → Prop} (C : AesHas R) (K D : Blk) (X Y : Array Value) (hX : X.size = 16) (hXi : ∀ i, i < 16 → X[i]? = some (.int .u8 ((K i).toNat : Int)))
    (hY : Y.size = 16) (hYi : ∀ i, i < 16 → Y[i]? = some (.int .u8 ((D i).toNat : Int))) (w : World) (hR : R w) :
    Calls Try.prog 4 #[.agg X, .agg Y] w fun e w' => e = .returned (.bool true) ∧ Below w.heap.size w w' := by
  have h1 : ∃ W, W = (w.alloc (.cells X 28)).alloc (.cells Y 28) ∧ W.rowIs w.heap.size 28 16 (fun j => .int .u8 ((K j).toNat : Int)) ∧ W.rowIs (w.heap.size + 1) 28 16 (fun j => .int .u8 ((D j).toNat : Int)) ∧ Below w.heap.size w W := by
    have s1 : (w.alloc (.cells X 28)).heap.size = w.heap.size + 1 := by simp
    have r1 := (row_new w X 28 16 (fun j => .int .u8 ((K j).toNat : Int)) hX hXi).alloc (.cells Y 28)
    have r2 := row_new (w.alloc (.cells X 28)) Y 28 16 _ hY hYi
    rw [s1] at r2
    exact ⟨_, rfl, r1, r2, ((Below.refl _ _).alloc (Nat.le_refl _) _).alloc (by simp) _⟩
  obtain ⟨W, hW, hk0, hl0, hb0⟩ := h1
  clear hXi hYi
  go_enter Try.func4, Try.ntmps4
  go_wp2_with fail
  rw [← hW]
  clear hW
  refine (awake_any C W (C.keep _ _ hR hb0)).mono ?_
  rintro x w1 ⟨rfl, hb1⟩
  have hk1 := hk0.of_block (hb1.block _ hk0.lt)
  have hl1 := hl0.of_block (hb1.block _ hl0.lt)
  have hb1' := hb0.trans (hb1.mono hb0.size)
  clear hk0 hl0 hb0 hb1
  have hq1 : ∀ W, (binOp .eql 29 (.agg (byteRow 176 (keysTo K 11))) (.agg (byteRow 176 (keysTo K 11)))).run Try.prog W = .ok (.bool true) W := fun W =>
    run_eql_rows (len := 11) (n := 16) Try.underlying29 Try.underlying28 Try.underlying5 (by kernel_rfl) (by kernel_rfl) _ (keysTo K 11) (size_cellsOf _ _) (cellsOf_at 176 _) W
  have hq2 := eq16 (enc K D)
  have e1 : (cellsOf 16 fun j => Value.int .u8 ((K (0 + j)).toNat : Int)) = byteRow 16 K := cellsOf_congr (fun i hi => by rw [Nat.zero_add])
  have e2 : (cellsOf 16 fun j => Value.int .u8 ((D (0 + j)).toNat : Int)) = byteRow 16 D := cellsOf_congr (fun i hi => by rw [Nat.zero_add])
  have keepC : ∀ W w', (R W ∧ W.rowIs w.heap.size 28 16 (fun j => .int .u8 ((K j).toNat : Int)) ∧ W.rowIs (w.heap.size + 1) 28 16 (fun j => .int .u8 ((D j).toNat : Int)) ∧ Below w.heap.size w W) → Below W.heap.size W w' → (R w' ∧ w'.rowIs w.heap.size 28 16 (fun j => .int .u8 ((K j).toNat : Int)) ∧ w'.rowIs (w.heap.size + 1) 28 16 (fun j => .int .u8 ((D j).toNat : Int)) ∧ Below w.heap.size w w') := fun W w' hW hx => ⟨C.keep _ _ hW.1 hx, hW.2.1.of_block (hx.block _ hW.2.1.lt), hW.2.2.1.of_block (hx.block _ hW.2.2.1.lt), hW.2.2.2.trans (hx.mono hW.2.2.2.size)⟩
  have hC : (fun W => R W ∧ W.rowIs w.heap.size 28 16 (fun j => .int .u8 ((K j).toNat : Int)) ∧ W.rowIs (w.heap.size + 1) 28 16 (fun j => .int .u8 ((D j).toNat : Int)) ∧ Below w.heap.size w W) w1.drew := ⟨C.keep _ _ hR hb1'.drew, hk1, hl1, hb1'.drew⟩
  have h3 : ∀ W, (R W ∧ W.rowIs w.heap.size 28 16 (fun j => .int .u8 ((K j).toNat : Int)) ∧ W.rowIs (w.heap.size + 1) 28 16 (fun j => .int .u8 ((D j).toNat : Int)) ∧ Below w.heap.size w W) → Calls Try.prog 13 #[.agg (byteRow 16 K)] W fun x w' => x = .returned (.agg (byteRow 176 (keysTo K 11))) ∧ (R w' ∧ w'.rowIs w.heap.size 28 16 (fun j => .int .u8 ((K j).toNat : Int)) ∧ w'.rowIs (w.heap.size + 1) 28 16 (fun j => .int .u8 ((D j).toNat : Int)) ∧ Below w.heap.size w w') := fun W hW => (C.keys K _ (size_cellsOf _ _) (cellsOf_at _ _) W hW.1).mono (fun x w' hx => ⟨hx.1, keepC _ _ hW hx.2⟩)
  have h5 : ∀ W, (R W ∧ W.rowIs w.heap.size 28 16 (fun j => .int .u8 ((K j).toNat : Int)) ∧ W.rowIs (w.heap.size + 1) 28 16 (fun j => .int .u8 ((D j).toNat : Int)) ∧ Below w.heap.size w W) → Calls Try.prog 14 #[.agg (byteRow 16 K)] W fun x w' => x = .returned (.agg (byteRow 176 (keysTo K 11))) ∧ (R w' ∧ w'.rowIs w.heap.size 28 16 (fun j => .int .u8 ((K j).toNat : Int)) ∧ w'.rowIs (w.heap.size + 1) 28 16 (fun j => .int .u8 ((D j).toNat : Int)) ∧ Below w.heap.size w w') := fun W hW => (refKeys_any K _ (size_cellsOf _ _) (cellsOf_at _ _) W).mono (fun x w' hx => ⟨hx.1, keepC _ _ hW hx.2⟩)
  have h11 : ∀ W, (R W ∧ W.rowIs w.heap.size 28 16 (fun j => .int .u8 ((K j).toNat : Int)) ∧ W.rowIs (w.heap.size + 1) 28 16 (fun j => .int .u8 ((D j).toNat : Int)) ∧ Below w.heap.size w W) → Calls Try.prog 15 #[.agg (byteRow 16 K), .agg (byteRow 16 D)] W fun x w' => x = .returned (.agg (byteRow 16 (enc K D))) ∧ (R w' ∧ w'.rowIs w.heap.size 28 16 (fun j => .int .u8 ((K j).toNat : Int)) ∧ w'.rowIs (w.heap.size + 1) 28 16 (fun j => .int .u8 ((D j).toNat : Int)) ∧ Below w.heap.size w w') := fun W hW => (C.encrypt K D _ _ (size_cellsOf _ _) (cellsOf_at _ _) (size_cellsOf _ _) (cellsOf_at _ _) W hW.1).mono (fun x w' hx => ⟨hx.1, keepC _ _ hW hx.2⟩)
  have h14 : ∀ W, (R W ∧ W.rowIs w.heap.size 28 16 (fun j => .int .u8 ((K j).toNat : Int)) ∧ W.rowIs (w.heap.size + 1) 28 16 (fun j => .int .u8 ((D j).toNat : Int)) ∧ Below w.heap.size w W) → Calls Try.prog 16 #[.agg (byteRow 16 K), .agg (byteRow 16 D)] W fun x w' => x = .returned (.agg (byteRow 16 (enc K D))) ∧ (R w' ∧ w'.rowIs w.heap.size 28 16 (fun j => .int .u8 ((K j).toNat : Int)) ∧ w'.rowIs (w.heap.size + 1) 28 16 (fun j => .int .u8 ((D j).toNat : Int)) ∧ Below w.heap.size w w') := fun W hW => (refEncrypt_any K D _ _ (size_cellsOf _ _) (cellsOf_at _ _) (size_cellsOf _ _) (cellsOf_at _ _) W).mono (fun x w' hx => ⟨hx.1, keepC _ _ hW hx.2⟩)
  have H3 := Lib.hid h3
  have H5 := Lib.hid h5
  have H11 := Lib.hid h11
  have H14 := Lib.hid h14
  have HC := Lib.hid hC
  clear h3 h5 h11 h14 hC keepC hk1 hl1 hb1'
  go_wp2
  refine region_held (fun W => R W ∧ W.rowIs w.heap.size 28 16 (fun j => .int .u8 ((K j).toNat : Int)) ∧ W.rowIs (w.heap.size + 1) 28 16 (fun j => .int .u8 ((D j).toNat : Int)) ∧ Below w.heap.size w W) (by kernel_rfl) (by kernel_rfl) HC.out ?_
  refine q_val (by rfl) (.bool true) (fun W hW => by go_simp) ?_
  simp only [Act.put, List.setIfInBounds_toArray, List.set_cons_zero, List.set_cons_succ]
  refine q_val (by rfl) (.bool true) (fun W hW => by go_simp) ?_
  simp only [Act.put, List.setIfInBounds_toArray, List.set_cons_zero, List.set_cons_succ]
  refine q_load (by rfl) 28 (.tmp 2) (by rfl) (w.heap.size) 0 _ 16 16 _ (fun W hW => hW.2.1) (by rfl) _ Try.underlying28 rfl (by kernel_rfl) (by omega) ?_
  simp only [Act.put, List.setIfInBounds_toArray, List.set_cons_zero, List.set_cons_succ]
  rw [e1]
  refine q_call (by rfl) 13 #[.agg (byteRow 16 K)] (fun W => by go_simp) _ H3.out ?_
  simp only [Act.put, List.setIfInBounds_toArray, List.set_cons_zero, List.set_cons_succ]
  refine q_load (by rfl) 28 (.tmp 2) (by rfl) (w.heap.size) 0 _ 16 16 _ (fun W hW => hW.2.1) (by rfl) _ Try.underlying28 rfl (by kernel_rfl) (by omega) ?_
  simp only [Act.put, List.setIfInBounds_toArray, List.set_cons_zero, List.set_cons_succ]
  rw [e1]
  refine q_call (by rfl) 14 #[.agg (byteRow 16 K)] (fun W => by go_simp) _ H5.out ?_
  simp only [Act.put, List.setIfInBounds_toArray, List.set_cons_zero, List.set_cons_succ]
  refine q_val (by rfl) (.bool true) (fun W hW => by go_simp) ?_
  simp only [Act.put, List.setIfInBounds_toArray, List.set_cons_zero, List.set_cons_succ]
  refine q_val (by rfl) (.bool true) (fun W hW => by go_simp) ?_
  simp only [Act.put, List.setIfInBounds_toArray, List.set_cons_zero, List.set_cons_succ]
  refine q_val (by rfl) (.bool true) (fun W hW => by go_simp) ?_
  simp only [Act.put, List.setIfInBounds_toArray, List.set_cons_zero, List.set_cons_succ]
  refine q_load (by rfl) 28 (.tmp 2) (by rfl) (w.heap.size) 0 _ 16 16 _ (fun W hW => hW.2.1) (by rfl) _ Try.underlying28 rfl (by kernel_rfl) (by omega) ?_
  simp only [Act.put, List.setIfInBounds_toArray, List.set_cons_zero, List.set_cons_succ]
  rw [e1]
  refine q_load (by rfl) 28 (.tmp 3) (by rfl) (w.heap.size + 1) 0 _ 16 16 _ (fun W hW => hW.2.2.1) (by rfl) _ Try.underlying28 rfl (by kernel_rfl) (by omega) ?_
  simp only [Act.put, List.setIfInBounds_toArray, List.set_cons_zero, List.set_cons_succ]
  rw [e2]
  refine q_call (by rfl) 15 #[.agg (byteRow 16 K), .agg (byteRow 16 D)] (fun W => by go_simp) _ H11.out ?_
  simp only [Act.put, List.setIfInBounds_toArray, List.set_cons_zero, List.set_cons_succ]
  refine q_load (by rfl) 28 (.tmp 2) (by rfl) (w.heap.size) 0 _ 16 16 _ (fun W hW => hW.2.1) (by rfl) _ Try.underlying28 rfl (by kernel_rfl) (by omega) ?_
  simp only [Act.put, List.setIfInBounds_toArray, List.set_cons_zero, List.set_cons_succ]
  rw [e1]
  refine q_load (by rfl) 28 (.tmp 3) (by rfl) (w.heap.size + 1) 0 _ 16 16 _ (fun W hW => hW.2.2.1) (by rfl) _ Try.underlying28 rfl (by kernel_rfl) (by omega) ?_
  simp only [Act.put, List.setIfInBounds_toArray, List.set_cons_zero, List.set_cons_succ]
  rw [e2]
  refine q_call (by rfl) 16 #[.agg (byteRow 16 K), .agg (byteRow 16 D)] (fun W => by go_simp) _ H14.out ?_
  simp only [Act.put, List.setIfInBounds_toArray, List.set_cons_zero, List.set_cons_succ]
  refine q_val (by rfl) (.bool true) (fun W hW => by go_simp) ?_
  simp only [Act.put, List.setIfInBounds_toArray, List.set_cons_zero, List.set_cons_succ]
  refine q_val (by rfl) (.bool true) (fun W hW => by go_simp) ?_
  simp only [Act.put, List.setIfInBounds_toArray, List.set_cons_zero, List.set_cons_succ]
  refine q_val (by rfl) (.bool true) (fun W hW => by go_simp) ?_
  simp only [Act.put, List.setIfInBounds_toArray, List.set_cons_zero, List.set_cons_succ]
  refine wpQuiet_nil ?_
  intro w9 hw9
  clear hq1 hq2 e1 e2 H3 H5 H11 H14 HC
  go_wp2
  go_ret
  exact ⟨rfl, hw9.2.2.2⟩
end Go.Proofs.Ytapfanphlbcnjaa.Law03
