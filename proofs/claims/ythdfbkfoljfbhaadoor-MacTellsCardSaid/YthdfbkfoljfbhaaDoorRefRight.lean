/-
  What bartizanref01.right and bartizanref01.constants do: a number turned to the right; the 64 constants.
-/
import Derived.Test.YthdfbkfoljfbhaaDoorProg
import Derived.Test.YthdfbkfoljfbhaaDoorShaPlain
namespace Go.Proofs.YthdfbkfoljfbhaaDoor.Sha
open Go Go.RowKit Go.Proofs.YthdfbkfoljfbhaaDoor.Aid

theorem rotr_rotate (x : BitVec 32) (k : Nat) (h : k < 32) : rotr x k = x.rotateRight k := by
  rw [BitVec.rotateRight_def, Nat.mod_eq_of_lt h]; rfl
theorem rotate_one (x : BitVec 32) : ((x.rotateRight 1).toNat : Int) = if (x.toNat : Int) % 2 = 1 then (x.toNat : Int) / 2 + 2147483648 else (x.toNat : Int) / 2 := by
  rw [← rotr_rotate x 1 (by omega)]
  unfold rotr
  rw [BitVec.toNat_or, BitVec.toNat_ushiftRight, BitVec.toNat_shiftLeft, Nat.shiftRight_eq_div_pow, Nat.shiftLeft_eq]
  have hx := x.isLt
  have h1 : x.toNat * 2 ^ (32 - 1) % 2 ^ 32 = 2 ^ 31 * (x.toNat % 2) := by omega
  rw [h1, Nat.or_comm, ← Nat.two_pow_add_eq_or_of_lt (by omega)]
  split <;> omega
theorem rotate_succ (x : BitVec 32) (k : Nat) (h : k + 1 < 32) : (x.rotateRight k).rotateRight 1 = x.rotateRight (k + 1) := by
  apply BitVec.eq_of_getElem_eq
  intro i hi
  rw [BitVec.getElem_rotateRight hi, BitVec.getElem_rotateRight hi]
  by_cases h1 : i < 32 - 1 % 32
  · rw [dif_pos h1, BitVec.getElem_rotateRight (by omega)]
    by_cases h2 : i < 32 - (k + 1) % 32
    · rw [dif_pos (by omega), dif_pos h2]
      congr 1; omega
    · rw [dif_neg (by omega), dif_neg h2]
      congr 1; omega
  · have h2 : ¬ i < 32 - (k + 1) % 32 := by omega
    rw [dif_neg h1, dif_neg h2, BitVec.getElem_rotateRight (by omega), dif_pos (by omega)]
    congr 1; omega

set_option maxHeartbeats 400000 in
/-- 'right': a number turned to the right. -/
theorem right_still (x : BitVec 32) (k : Int) (h1 : 0 ≤ k) (h2 : k ≤ 31) (w : World) :
    Calls Tryd.prog 32 #[.int .u32 x.toNat, .int .i64 k] w fun e w' => e = .returned (.int .u32 (rotr x k.toNat).toNat) ∧ w' = w := by
  obtain ⟨n, rfl⟩ := Int.eq_ofNat_of_zero_le h1
  go_enter Tryd.func32, Tryd.ntmps32
  go_wp2
  go_loop [0, 5] (fun y i => ∃ j : Nat, j ≤ n ∧ i = .int .i64 j ∧ y = .int .u32 ((x.rotateRight j).toNat : Int)) (fun _ i => n - (intOf i).toNat)
  case atStart => exact ⟨0, by omega, rfl, by simp [BitVec.rotateRight_def]⟩
  case round =>
    obtain ⟨j, hj, rfl, rfl⟩ := hrel
    by_cases hlt : j < n
    · obtain ⟨y, hy⟩ : ∃ y, y = x.rotateRight j := ⟨_, rfl⟩
      have Hy : Hid (y.rotateRight 1 = x.rotateRight (j + 1)) := by rw [hy]; exact rotate_succ x j (by omega)
      rw [← hy]
      clear hy
      have hr := rotate_one y
      have hy32 := y.isLt
      by_cases hb : (y.toNat : Int) % 2 = 1
      · rw [if_pos hb] at hr
        have hbb : ((y.toNat : Int) % 2 == 1) = true := by simp; omega
        have Hr := Lib.hid hr
        clear hr
        go_wp2
        go_round
        case rel => exact ⟨j + 1, by omega, by go_num, by rw [← Hy.out, Hr.out]⟩
        case measure => simp [intOf]; omega
      · rw [if_neg hb] at hr
        have hbb : ((y.toNat : Int) % 2 == 1) = false := by simp; omega
        have Hr := Lib.hid hr
        clear hr
        go_wp2
        go_round
        case rel => exact ⟨j + 1, by omega, by go_num, by rw [← Hy.out, Hr.out]⟩
        case measure => simp [intOf]; omega
    · obtain rfl : j = n := by omega
      obtain ⟨y, hy⟩ : ∃ y, y = x.rotateRight j := ⟨_, rfl⟩
      have Hy := Lib.hid hy
      rw [← hy]
      clear hy
      go_wp2
      go_ret
      refine ⟨?_, rfl⟩
      rw [rotr_rotate x _ (by omega)]
      show Ending.returned (.int .u32 (y.toNat : Int)) = _
      rw [Hy.out]

/-- 'constants()'. -/
theorem consts_any (w : World) : Calls Tryd.prog 33 #[] w fun e w' => e = .returned (.slice (some ⟨w.heap.size, 0, none⟩) 64 64) ∧ w'.rowIs w.heap.size 46 64 (fun j => .int .u32 ((kOf j).toNat : Int)) ∧ Below w.heap.size w w' := by
  go_enter Tryd.func33, Tryd.ntmps33
  go_wp2
  go_ret
  refine ⟨rfl, row_mk ((heap_alloc_new w _).trans (congrArg some ?_)), (Below.refl _ _).alloc (Nat.le_refl _) _⟩
  kernel_rfl
end Go.Proofs.YthdfbkfoljfbhaaDoor.Sha
