/-
  The walk of bartizanlaw03.AesBytes: for any two bytes it returns true, and writes nothing that was there.
-/
import Derived.Test.YtapfanphlbcnjaaLaw03Unlike
namespace Go.Proofs.Ytapfanphlbcnjaa.Law03
open Go Go.RowKit Go.Proofs.Ytapfanphlbcnjaa.Aid Go.Proofs.Ytapfanphlbcnjaa.Aes

set_option maxRecDepth 100000 in
set_option maxHeartbeats 1000000 in
theorem bytes_any {R : World → Prop} (C : AesHas R) (a b : BitVec 8) (w : World) (hR : R w) :
    Calls Try.prog 3 #[.int .u8 (a.toNat : Int), .int .u8 (b.toNat : Int)] w fun e w' => e = .returned (.bool true) ∧ Below w.heap.size w w' := by
  obtain ⟨hz2, _⟩ := zero_of_info (boxes_zero _ rfl)
  go_enter Try.func3, Try.ntmps3
  go_wp2_with fail
  refine (awake_any C w hR).mono ?_
  rintro x w1 ⟨rfl, hb1⟩
  go_wp2_with fail
  refine (refBoxes_any w1).mono ?_
  rintro x w2 ⟨rfl, hb2⟩
  have hl2 := hb1.trans (hb2.mono hb1.size)
  clear hb1 hb2
  go_wp2_with (refine store_whole (by rfl) 23 (.tmp 6) (.tmp 8) (by rfl) w2.heap.size _ 256 (fun _ => .int .u8 0) (fun j => .int .u8 ((boxAt j).toNat : Int)) (by exact row_new w2 _ _ 256 _ (size_cellsOf _ _) (cellsOf_at _ _)) (by rfl) _ (by rfl) (by kernel_rfl) (size_cellsOf _ _) (cellsOf_at _ _) (fun _ _ => rfl) ?_
               intro w3 hr3 ho3)
  have hl3 := ho3.below (hl2.alloc hl2.size _) hl2.size
  have keepC : ∀ W w', (R W ∧ W.rowIs w2.heap.size 23 256 (fun j => .int .u8 ((boxAt j).toNat : Int)) ∧ Below w.heap.size w W) → Below W.heap.size W w' → (R w' ∧ w'.rowIs w2.heap.size 23 256 (fun j => .int .u8 ((boxAt j).toNat : Int)) ∧ Below w.heap.size w w') := fun W w' hW hx => ⟨C.keep _ _ hW.1 hx, hW.2.1.of_block (hx.block _ hW.2.1.lt), hW.2.2.trans (hx.mono hW.2.2.size)⟩
  have hC : (fun W => R W ∧ W.rowIs w2.heap.size 23 256 (fun j => .int .u8 ((boxAt j).toNat : Int)) ∧ Below w.heap.size w W) w3.drew := ⟨C.keep _ _ hR hl3.drew, hr3, hl3.drew⟩
  have h4 : ∀ W, (R W ∧ W.rowIs w2.heap.size 23 256 (fun j => .int .u8 ((boxAt j).toNat : Int)) ∧ Below w.heap.size w W) → Calls Try.prog 9 #[.int .u8 (a.toNat : Int), .int .u8 (b.toNat : Int)] W fun x w' => x = .returned (.int .u8 ((times a b).toNat : Int)) ∧ (R w' ∧ w'.rowIs w2.heap.size 23 256 (fun j => .int .u8 ((boxAt j).toNat : Int)) ∧ Below w.heap.size w w') := fun W hW => (C.times a b W hW.1).mono (fun x w' hx => ⟨hx.1, keepC _ _ hW hx.2⟩)
  have h7 : ∀ W, (R W ∧ W.rowIs w2.heap.size 23 256 (fun j => .int .u8 ((boxAt j).toNat : Int)) ∧ Below w.heap.size w W) → Calls Try.prog 10 #[.int .u8 (a.toNat : Int), .int .u8 (b.toNat : Int)] W fun x w' => x = .returned (.int .u8 ((times a b).toNat : Int)) ∧ (R w' ∧ w'.rowIs w2.heap.size 23 256 (fun j => .int .u8 ((boxAt j).toNat : Int)) ∧ Below w.heap.size w w') := fun W hW => (refTimes_any a b W).mono (fun x w' hx => ⟨hx.1, by rw [hx.2]; exact hW⟩)
  have h12 : ∀ (c : BitVec 8) (W : World), (R W ∧ W.rowIs w2.heap.size 23 256 (fun j => .int .u8 ((boxAt j).toNat : Int)) ∧ Below w.heap.size w W) → Calls Try.prog 11 #[.int .u8 (c.toNat : Int)] W fun x w' => x = .returned (.int .u8 ((box c).toNat : Int)) ∧ (R w' ∧ w'.rowIs w2.heap.size 23 256 (fun j => .int .u8 ((boxAt j).toNat : Int)) ∧ Below w.heap.size w w') := fun c W hW => (C.box c W hW.1).mono (fun x w' hx => ⟨hx.1, keepC _ _ hW hx.2⟩)
  have h14 : ∀ W, (R W ∧ W.rowIs w2.heap.size 23 256 (fun j => .int .u8 ((boxAt j).toNat : Int)) ∧ Below w.heap.size w W) → Calls Try.prog 12 #[.int .u8 (a.toNat : Int)] W fun x w' => x = .returned (.int .u8 ((box a).toNat : Int)) ∧ (R w' ∧ w'.rowIs w2.heap.size 23 256 (fun j => .int .u8 ((boxAt j).toNat : Int)) ∧ Below w.heap.size w w') := fun W hW => (refBox_any a W).mono (fun x w' hx => ⟨hx.1, by rw [hx.2]; exact hW⟩)
  have hcell : ∀ W, (R W ∧ W.rowIs w2.heap.size 23 256 (fun j => .int .u8 ((boxAt j).toNat : Int)) ∧ Below w.heap.size w W) → W.cell? ⟨w2.heap.size, b.toNat, none⟩ = some (.int .u8 ((box b).toNat : Int)) := fun W hW => hW.2.1.cell b.isLt
  have hlt := b.isLt
  have q0 : (0 : Int) ≤ (b.toNat : Int) := by omega
  have q1 : (b.toNat : Int) < 256 := by omega
  have H4 := Lib.hid h4
  have H7 := Lib.hid h7
  have H12 := Lib.hid h12
  have H14 := Lib.hid h14
  have Hcell := Lib.hid hcell
  have HC := Lib.hid hC
  clear h4 h7 h12 h14 hC keepC hcell hr3 ho3 hl2 hl3 hlt
  go_wp2
  refine region_held (fun W => R W ∧ W.rowIs w2.heap.size 23 256 (fun j => .int .u8 ((boxAt j).toNat : Int)) ∧ Below w.heap.size w W) (by kernel_rfl) (by kernel_rfl) HC.out ?_
  refine q_val (by rfl) (.bool true) (fun W hW => by go_simp) ?_
  simp only [Act.put, List.setIfInBounds_toArray, List.set_cons_zero, List.set_cons_succ]
  refine q_val (by rfl) (.bool true) (fun W hW => by go_simp) ?_
  simp only [Act.put, List.setIfInBounds_toArray, List.set_cons_zero, List.set_cons_succ]
  refine q_val (by rfl) (.int .u8 (a.toNat : Int)) (fun W hW => by go_simp) ?_
  simp only [Act.put, List.setIfInBounds_toArray, List.set_cons_zero, List.set_cons_succ]
  refine q_val (by rfl) (.int .u8 (b.toNat : Int)) (fun W hW => by go_simp) ?_
  simp only [Act.put, List.setIfInBounds_toArray, List.set_cons_zero, List.set_cons_succ]
  refine q_call (by rfl) 9 #[.int .u8 (a.toNat : Int), .int .u8 (b.toNat : Int)] (fun W => by go_simp) _ (H4.out) ?_
  simp only [Act.put, List.setIfInBounds_toArray, List.set_cons_zero, List.set_cons_succ]
  refine q_val (by rfl) (.int .u8 (a.toNat : Int)) (fun W hW => by go_simp) ?_
  simp only [Act.put, List.setIfInBounds_toArray, List.set_cons_zero, List.set_cons_succ]
  refine q_val (by rfl) (.int .u8 (b.toNat : Int)) (fun W hW => by go_simp) ?_
  simp only [Act.put, List.setIfInBounds_toArray, List.set_cons_zero, List.set_cons_succ]
  refine q_call (by rfl) 10 #[.int .u8 (a.toNat : Int), .int .u8 (b.toNat : Int)] (fun W => by go_simp) _ (H7.out) ?_
  simp only [Act.put, List.setIfInBounds_toArray, List.set_cons_zero, List.set_cons_succ]
  refine q_val (by rfl) (.bool true) (fun W hW => by go_simp) ?_
  simp only [Act.put, List.setIfInBounds_toArray, List.set_cons_zero, List.set_cons_succ]
  refine q_val (by rfl) (.bool true) (fun W hW => by go_simp) ?_
  simp only [Act.put, List.setIfInBounds_toArray, List.set_cons_zero, List.set_cons_succ]
  refine q_val (by rfl) (.bool true) (fun W hW => by go_simp) ?_
  simp only [Act.put, List.setIfInBounds_toArray, List.set_cons_zero, List.set_cons_succ]
  refine q_val (by rfl) (.int .u8 (a.toNat : Int)) (fun W hW => by go_simp) ?_
  simp only [Act.put, List.setIfInBounds_toArray, List.set_cons_zero, List.set_cons_succ]
  refine q_call (by rfl) 11 #[.int .u8 (a.toNat : Int)] (fun W => by go_simp) _ (H12.out a) ?_
  simp only [Act.put, List.setIfInBounds_toArray, List.set_cons_zero, List.set_cons_succ]
  refine q_val (by rfl) (.int .u8 (a.toNat : Int)) (fun W hW => by go_simp) ?_
  simp only [Act.put, List.setIfInBounds_toArray, List.set_cons_zero, List.set_cons_succ]
  refine q_call (by rfl) 12 #[.int .u8 (a.toNat : Int)] (fun W => by go_simp) _ (H14.out) ?_
  simp only [Act.put, List.setIfInBounds_toArray, List.set_cons_zero, List.set_cons_succ]
  refine q_val (by rfl) (.bool true) (fun W hW => by go_simp) ?_
  simp only [Act.put, List.setIfInBounds_toArray, List.set_cons_zero, List.set_cons_succ]
  refine q_val (by rfl) (.bool true) (fun W hW => by go_simp) ?_
  simp only [Act.put, List.setIfInBounds_toArray, List.set_cons_zero, List.set_cons_succ]
  refine q_val (by rfl) (.bool true) (fun W hW => by go_simp) ?_
  simp only [Act.put, List.setIfInBounds_toArray, List.set_cons_zero, List.set_cons_succ]
  refine q_val (by rfl) (.int .u8 (b.toNat : Int)) (fun W hW => by go_simp) ?_
  simp only [Act.put, List.setIfInBounds_toArray, List.set_cons_zero, List.set_cons_succ]
  refine q_call (by rfl) 11 #[.int .u8 (b.toNat : Int)] (fun W => by go_simp) _ (H12.out b) ?_
  simp only [Act.put, List.setIfInBounds_toArray, List.set_cons_zero, List.set_cons_succ]
  refine q_val (by rfl) (.int .u8 (b.toNat : Int)) (fun W hW => by go_simp) ?_
  simp only [Act.put, List.setIfInBounds_toArray, List.set_cons_zero, List.set_cons_succ]
  refine q_val (by rfl) (.pointer (some ⟨w2.heap.size, b.toNat, none⟩)) (fun W hW => by go_simp) ?_
  simp only [Act.put, List.setIfInBounds_toArray, List.set_cons_zero, List.set_cons_succ]
  refine q_val (by rfl) (.int .u8 ((box b).toNat : Int)) (fun W hW => by have hc := Hcell.out W hW; go_simp) ?_
  simp only [Act.put, List.setIfInBounds_toArray, List.set_cons_zero, List.set_cons_succ]
  refine q_val (by rfl) (.bool true) (fun W hW => by go_simp) ?_
  simp only [Act.put, List.setIfInBounds_toArray, List.set_cons_zero, List.set_cons_succ]
  refine q_val (by rfl) (.bool true) (fun W hW => by go_simp) ?_
  simp only [Act.put, List.setIfInBounds_toArray, List.set_cons_zero, List.set_cons_succ]
  refine q_val (by rfl) (.bool true) (fun W hW => by go_simp) ?_
  simp only [Act.put, List.setIfInBounds_toArray, List.set_cons_zero, List.set_cons_succ]
  refine wpQuiet_nil ?_
  intro w9 hw9
  clear H4 H7 H12 H14 HC Hcell
  go_wp2
  go_ret
  exact ⟨rfl, hw9.2.2⟩
end Go.Proofs.Ytapfanphlbcnjaa.Law03
