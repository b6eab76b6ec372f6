/-
  The two digests that the laws of layer 1 ask first: those of abc and of nothing.
-/
import Derived.Test.YthdfbkfoljfbhaaDoorShaSum
import Derived.Lib.SlBytesConst
namespace Go.Proofs.YthdfbkfoljfbhaaDoor.Law01
open Go Go.RowKit Go.Proofs.YthdfbkfoljfbhaaDoor.Aid Go.Proofs.YthdfbkfoljfbhaaDoor.Sha

def abc (i : Nat) : BitVec 8 := ([0x61, 0x62, 0x63] : List (BitVec 8)).getD i 0
theorem abc_0 : digest abc 3 0 = 186 := by decide +kernel
theorem abc_1 : digest abc 3 1 = 120 := by decide +kernel
theorem abc_31 : digest abc 3 31 = 173 := by decide +kernel
theorem nil_0 : digest abc 0 0 = 227 := by decide +kernel
theorem nil_31 : digest abc 0 31 = 85 := by decide +kernel

set_option maxRecDepth 100000 in
set_option maxHeartbeats 1000000 in
theorem awake_any (w : World) (hk : Consts w) :
    Calls Tryd.prog 9 #[] w fun e w' => e = .returned (.bool true) ∧ Below w.heap.size w w' := by
  have hs1 : SliceOf (w.alloc (.cells #[.int .u8 97, .int .u8 98, .int .u8 99] 5 (3, 4))) (w.heap.size + 1) 3 abc (.slice (some ⟨w.heap.size, 0, none⟩) 3 3) := by
    have hc : ∀ j, (w.alloc (.cells #[.int .u8 97, .int .u8 98, .int .u8 99] 5 (3, 4))).cell? ⟨w.heap.size, j, none⟩ = (#[Value.int .u8 97, .int .u8 98, .int .u8 99] : Array Value)[j]? := fun j => cell_of_row _ _ j _ _ _ (heap_alloc_new w _)
    refine ⟨_, _, rfl, Nat.le_refl _, fun _ => ⟨w.heap.size, 0, rfl, by omega, fun j hj => ?_⟩⟩
    match j, hj with
    | 0, _ => rw [hc]; rfl
    | 1, _ => rw [hc]; rfl
    | 2, _ => rw [hc]; rfl
  have kc := fun (w : World) (C : Array Value) (n c : Nat) => Lib.run_convert_bytes_const (P := Tryd.prog) w 22 5 C n c Tryd.underlying22 Tryd.underlying5
  go_enter Tryd.func9, Tryd.ntmps9
  go_wp2_with fail
  have h1 := hs1
  have hb1 : Below w.heap.size w (w.alloc (.cells #[.int .u8 97, .int .u8 98, .int .u8 99] 5 (3, 4))) := (Below.refl _ _).alloc (by simp) _
  clear hs1
  generalize w.alloc (.cells #[.int .u8 97, .int .u8 98, .int .u8 99] 5 (3, 4)) = w1 at *
  have hk1 := hk.below hb1 (Nat.le_refl _)
  refine (sum_any abc 3 _ _ w1 hk1 h1 (by omega)).mono ?_
  rintro e w2 ⟨rfl, hb2⟩
  have hb2' := hb1.trans (hb2.mono hb1.size)
  have hk2 := hk1.below hb2 (Nat.le_refl _)
  clear h1 hb1 hk1 hb2
  go_wp2_with (refine store_whole (by rfl) 24 (.tmp 1) (.tmp 5) (by rfl) w2.heap.size _ 32 (fun _ => .int .u8 0) (fun j => .int .u8 ((digest abc 3 j).toNat : Int)) (by exact row_new w2 _ _ 32 _ (by rfl) (zeros32 _ (by rfl))) (by rfl) _ (by rfl) (by kernel_rfl) (size_cellsOf _ _) (cellsOf_at _ _) (fun _ _ => rfl) ?_
               intro w3 hr3 ho3)
  have hb3 : Below w.heap.size w w3 := ho3.below (hb2'.alloc hb2'.size _) hb2'.size
  have hk3 : Consts w3 := hk2.below (ho3.below ((Below.refl _ _).alloc (Nat.le_refl _) _) (Nat.le_refl _)) (Nat.le_refl _)
  clear ho3 hb2' hk2
  refine (sum_any abc 0 0 _ w3 hk3 (SliceOf.nil _ _ _) (by omega)).mono ?_
  rintro e w4 ⟨rfl, hb4⟩
  have hr4 := hr3.of_block (hb4.block _ hr3.lt)
  have hb4' := hb3.trans (hb4.mono hb3.size)
  clear hr3 hb3 hb4 hk3
  go_wp2_with (refine store_whole (by rfl) 24 (.tmp 2) (.tmp 6) (by rfl) w4.heap.size _ 32 (fun _ => .int .u8 0) (fun j => .int .u8 ((digest abc 0 j).toNat : Int)) (by exact row_new w4 _ _ 32 _ (by rfl) (zeros32 _ (by rfl))) (by rfl) _ (by rfl) (by kernel_rfl) (size_cellsOf _ _) (cellsOf_at _ _) (fun _ _ => rfl) ?_
               intro w5 hr5 ho5
               have hr4' := ho5.row (hr4.alloc _) (Nat.ne_of_lt hr4.lt)
               have hb5 := ho5.below (hb4'.alloc hb4'.size _) hb4'.size
               have c0 := hr4'.cell (i := 0) (by omega)
               have c1 := hr4'.cell (i := 1) (by omega)
               have c2 := hr4'.cell (i := 31) (by omega)
               have c3 := hr5.cell (i := 0) (by omega)
               have c4 := hr5.cell (i := 31) (by omega)
               rw [abc_0] at c0
               rw [abc_1] at c1
               rw [abc_31] at c2
               rw [nil_0] at c3
               rw [nil_31] at c4
               clear hr4' hr5 ho5 hr4 hb4')
  refine (new_any w5).mono ?_
  rintro e w6 ⟨rfl, rfl⟩
  go_wp2
  go_ret
  exact ⟨rfl, hb5.alloc hb5.size _⟩
end Go.Proofs.YthdfbkfoljfbhaaDoor.Law01
