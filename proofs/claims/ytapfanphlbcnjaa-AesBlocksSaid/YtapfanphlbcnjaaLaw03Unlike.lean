/-
  The walk of bartizanlaw03.AesUnlike: for any key and any two blocks it returns true, and writes nothing that was there.
-/
import Derived.Test.YtapfanphlbcnjaaLaw03Field
import Derived.Test.YtapfanphlbcnjaaEqBytes
import Derived.Test.YtapfanphlbcnjaaHeld
namespace Go.Proofs.Ytapfanphlbcnjaa.Law03
open Go Go.RowKit Go.Proofs.Ytapfanphlbcnjaa.Aid Go.Proofs.Ytapfanphlbcnjaa.Aes

theorem same_enc (K f g : Blk) : sameUpto (enc K f) (enc K g) 16 = sameUpto f g 16 := by
  unfold sameUpto
  by_cases h : ∀ i, i < 16 → f i = g i
  · rw [decide_eq_true h, decide_eq_true (p := ∀ i, i < 16 → enc K f i = enc K g i) (fun i hi => enc_congr (fun _ _ => rfl) h i hi)]
  · rw [decide_eq_false h, decide_eq_false (p := ∀ i, i < 16 → enc K f i = enc K g i) (fun h' => h (enc_inj K f g h'))]

set_option maxRecDepth 100000 in
set_option maxHeartbeats 1000000 in
theorem unlike_any {R : World → Prop} (C : AesHas R) (K f g : Blk) (X Y : Array Value) (hX : X.size = 16) (hXi : ∀ i, i < 16 → X[i]? = some (.int .u8 ((K i).toNat : Int)))
    (hY : Y.size = 32) (hYi : ∀ i, i < 32 → Y[i]? = some (.int .u8 ((if i < 16 then f i else g (i - 16)).toNat : Int))) (w : World) (hR : R w) :
    Calls Try.prog 6 #[.agg X, .agg Y] w fun e w' => e = .returned (.bool true) ∧ Below w.heap.size w w' := by
  have h1 : ∃ W, W = (w.alloc (.cells X 28)).alloc (.cells Y 34) ∧ W.rowIs w.heap.size 28 16 (fun j => .int .u8 ((K j).toNat : Int)) ∧ W.rowIs (w.heap.size + 1) 34 32 (fun i => .int .u8 ((if i < 16 then f i else g (i - 16)).toNat : Int)) ∧ Below w.heap.size w W := by
    have s1 : (w.alloc (.cells X 28)).heap.size = w.heap.size + 1 := by simp
    have r1 := (row_new w X 28 16 (fun j => .int .u8 ((K j).toNat : Int)) hX hXi).alloc (.cells Y 34)
    have r2 := row_new (w.alloc (.cells X 28)) Y 34 32 _ hY hYi
    rw [s1] at r2
    exact ⟨_, rfl, r1, r2, ((Below.refl _ _).alloc (Nat.le_refl _) _).alloc (by simp) _⟩
  obtain ⟨W, hW, hk0, hl0, hb0⟩ := h1
  clear hXi hYi
  go_enter Try.func6, Try.ntmps6
  go_wp2_with fail
  rw [← hW]
  clear hW
  refine (awake_any C W (C.keep _ _ hR hb0)).mono ?_
  rintro x w1 ⟨rfl, hb1⟩
  have hk1 := hk0.of_block (hb1.block _ hk0.lt)
  have hl1 := hl0.of_block (hb1.block _ hl0.lt)
  have hb1' := hb0.trans (hb1.mono hb0.size)
  have hs1 : w.heap.size + 1 < w1.heap.size := hl1.lt
  clear hk0 hl0 hb0 hb1
  obtain ⟨F0, hF0⟩ : ∃ F0 : Array Value, F0 = byteRow 16 f := ⟨_, rfl⟩
  obtain ⟨F1, hF1⟩ : ∃ F1 : Array Value, F1 = byteRow 16 g := ⟨_, rfl⟩
  have hq1 : ∀ W, (binOp .eql 28 (.agg (byteRow 16 (enc K f))) (.agg (byteRow 16 (enc K g)))).run Try.prog W = .ok (.bool (sameUpto f g 16)) W := fun W => by
    rw [← same_enc K f g]
    exact run_eql_bytes Try.underlying28 Try.underlying5 (by kernel_rfl) _ _ _ _ (cellsOf_at 16 _) (cellsOf_at 16 _) W
  have hq2 : ∀ W, (binOp .eql 28 (.agg (byteRow 16 f)) (.agg (byteRow 16 g))).run Try.prog W = .ok (.bool (sameUpto f g 16)) W := fun W =>
    run_eql_bytes Try.underlying28 Try.underlying5 (by kernel_rfl) _ _ _ _ (cellsOf_at 16 _) (cellsOf_at 16 _) W
  have e0 : (cellsOf 16 fun j => Value.int .u8 ((if 0 + j < 16 then f (0 + j) else g (0 + j - 16)).toNat : Int)) = byteRow 16 f := cellsOf_congr (fun i hi => by rw [Nat.zero_add, if_pos hi])
  have e1 : (cellsOf 16 fun j => Value.int .u8 ((if 16 + j < 16 then f (16 + j) else g (16 + j - 16)).toNat : Int)) = byteRow 16 g := cellsOf_congr (fun i hi => by rw [if_neg (by omega), Nat.add_sub_cancel_left])
  have e2 : (cellsOf 16 fun j => Value.int .u8 ((K (0 + j)).toNat : Int)) = byteRow 16 K := cellsOf_congr (fun i hi => by rw [Nat.zero_add])
  obtain ⟨t, ht⟩ : ∃ t, t = sameUpto f g 16 := ⟨_, rfl⟩
  rw [← ht] at hq1 hq2
  have hC : R w1.drew ∧ w1.drew.rowIs w.heap.size 28 16 (fun j => .int .u8 ((K j).toNat : Int)) ∧ w1.drew.rowIs (w.heap.size + 1) 34 32 (fun i => .int .u8 ((if i < 16 then f i else g (i - 16)).toNat : Int)) ∧ Below w.heap.size w w1.drew := ⟨C.keep _ _ hR hb1'.drew, hk1, hl1, hb1'.drew⟩
  clear hF0 hF1 ht hk1 hl1 hb1'
  have hcall : ∀ h : Blk, ∀ W, (R W ∧ W.rowIs w.heap.size 28 16 (fun j => .int .u8 ((K j).toNat : Int)) ∧ W.rowIs (w.heap.size + 1) 34 32 (fun i => .int .u8 ((if i < 16 then f i else g (i - 16)).toNat : Int)) ∧ Below w.heap.size w W) → Calls Try.prog 15 #[.agg (byteRow 16 K), .agg (byteRow 16 h)] W fun x w' => x = .returned (.agg (byteRow 16 (enc K h))) ∧ (R w' ∧ w'.rowIs w.heap.size 28 16 (fun j => .int .u8 ((K j).toNat : Int)) ∧ w'.rowIs (w.heap.size + 1) 34 32 (fun i => .int .u8 ((if i < 16 then f i else g (i - 16)).toNat : Int)) ∧ Below w.heap.size w w') := fun h W hW =>
    (C.encrypt K h _ _ (size_cellsOf _ _) (cellsOf_at _ _) (size_cellsOf _ _) (cellsOf_at _ _) W hW.1).mono (fun x w' hx => ⟨hx.1, C.keep _ _ hW.1 hx.2, hW.2.1.of_block (hx.2.block _ hW.2.1.lt), hW.2.2.1.of_block (hx.2.block _ hW.2.2.1.lt), hW.2.2.2.trans (hx.2.mono hW.2.2.2.size)⟩)
  have Hcall := Lib.hid hcall
  have HC := Lib.hid hC
  clear hcall hC
  go_wp2
  refine region_held (fun W => R W ∧ W.rowIs w.heap.size 28 16 (fun j => .int .u8 ((K j).toNat : Int)) ∧ W.rowIs (w.heap.size + 1) 34 32 (fun i => .int .u8 ((if i < 16 then f i else g (i - 16)).toNat : Int)) ∧ Below w.heap.size w W) (by kernel_rfl) (by kernel_rfl) HC.out ?_
  refine q_val (by rfl) (.bool true) (fun W _ => by rfl) ?_
  simp only [Act.put, List.setIfInBounds_toArray, List.set_cons_zero, List.set_cons_succ]
  refine q_val (by rfl) (.bool true) (fun W _ => by rfl) ?_
  simp only [Act.put, List.setIfInBounds_toArray, List.set_cons_zero, List.set_cons_succ]
  refine q_load (by rfl) 28 (.tmp 2) (by rfl) w.heap.size 0 _ 16 16 _ (fun W hW => hW.2.1) (by rfl) _ Try.underlying28 rfl (by kernel_rfl) (by omega) ?_
  simp only [Act.put, List.setIfInBounds_toArray, List.set_cons_zero, List.set_cons_succ]
  rw [e2]
  refine q_val (by rfl) (.pointer (some ⟨w.heap.size + 1, 0, none⟩)) (fun W _ => by go_simp) ?_
  simp only [Act.put, List.setIfInBounds_toArray, List.set_cons_zero, List.set_cons_succ]
  refine q_load (by rfl) 28 (.tmp 10) (by rfl) (w.heap.size + 1) 0 _ 32 16 _ (fun W hW => hW.2.2.1) (by rfl) _ Try.underlying28 rfl (by kernel_rfl) (by omega) ?_
  simp only [Act.put, List.setIfInBounds_toArray, List.set_cons_zero, List.set_cons_succ]
  rw [e0]
  refine q_call (by rfl) 15 #[.agg (byteRow 16 K), .agg (byteRow 16 f)] (fun W => by go_simp) _ (Hcall.out f) ?_
  simp only [Act.put, List.setIfInBounds_toArray, List.set_cons_zero, List.set_cons_succ]
  refine q_load (by rfl) 28 (.tmp 2) (by rfl) w.heap.size 0 _ 16 16 _ (fun W hW => hW.2.1) (by rfl) _ Try.underlying28 rfl (by kernel_rfl) (by omega) ?_
  simp only [Act.put, List.setIfInBounds_toArray, List.set_cons_zero, List.set_cons_succ]
  rw [e2]
  refine q_val (by rfl) (.pointer (some ⟨w.heap.size + 1, 16, none⟩)) (fun W _ => by go_simp) ?_
  simp only [Act.put, List.setIfInBounds_toArray, List.set_cons_zero, List.set_cons_succ]
  refine q_load (by rfl) 28 (.tmp 14) (by rfl) (w.heap.size + 1) 16 _ 32 16 _ (fun W hW => hW.2.2.1) (by rfl) _ Try.underlying28 rfl (by kernel_rfl) (by omega) ?_
  simp only [Act.put, List.setIfInBounds_toArray, List.set_cons_zero, List.set_cons_succ]
  rw [e1]
  refine q_call (by rfl) 15 #[.agg (byteRow 16 K), .agg (byteRow 16 g)] (fun W => by go_simp) _ (Hcall.out g) ?_
  simp only [Act.put, List.setIfInBounds_toArray, List.set_cons_zero, List.set_cons_succ]
  refine q_val (by rfl) (.bool t) (fun W _ => by go_simp) ?_
  simp only [Act.put, List.setIfInBounds_toArray, List.set_cons_zero, List.set_cons_succ]
  refine q_val (by rfl) (.pointer (some ⟨w.heap.size + 1, 0, none⟩)) (fun W _ => by go_simp) ?_
  simp only [Act.put, List.setIfInBounds_toArray, List.set_cons_zero, List.set_cons_succ]
  refine q_load (by rfl) 28 (.tmp 18) (by rfl) (w.heap.size + 1) 0 _ 32 16 _ (fun W hW => hW.2.2.1) (by rfl) _ Try.underlying28 rfl (by kernel_rfl) (by omega) ?_
  simp only [Act.put, List.setIfInBounds_toArray, List.set_cons_zero, List.set_cons_succ]
  rw [e0]
  refine q_val (by rfl) (.pointer (some ⟨w.heap.size + 1, 16, none⟩)) (fun W _ => by go_simp) ?_
  simp only [Act.put, List.setIfInBounds_toArray, List.set_cons_zero, List.set_cons_succ]
  refine q_load (by rfl) 28 (.tmp 20) (by rfl) (w.heap.size + 1) 16 _ 32 16 _ (fun W hW => hW.2.2.1) (by rfl) _ Try.underlying28 rfl (by kernel_rfl) (by omega) ?_
  simp only [Act.put, List.setIfInBounds_toArray, List.set_cons_zero, List.set_cons_succ]
  rw [e1]
  refine q_val (by rfl) (.bool t) (fun W _ => by go_simp) ?_
  simp only [Act.put, List.setIfInBounds_toArray, List.set_cons_zero, List.set_cons_succ]
  refine q_val (by rfl) (.bool true) (fun W _ => by cases t <;> go_simp) ?_
  simp only [Act.put, List.setIfInBounds_toArray, List.set_cons_zero, List.set_cons_succ]
  refine q_val (by rfl) (.bool true) (fun W _ => by go_simp) ?_
  simp only [Act.put, List.setIfInBounds_toArray, List.set_cons_zero, List.set_cons_succ]
  refine q_val (by rfl) (.bool true) (fun W _ => by go_simp) ?_
  simp only [Act.put, List.setIfInBounds_toArray, List.set_cons_zero, List.set_cons_succ]
  refine wpQuiet_nil ?_
  intro w9 hw9
  clear hq1 hq2 e0 e1 e2 Hcall HC
  go_wp2
  go_ret
  exact ⟨rfl, hw9.2.2.2⟩
end Go.Proofs.Ytapfanphlbcnjaa.Law03
