/-
  What the laws of layer 3 ask first: a block that is known.
-/
import Derived.Test.YtapfanphlbcnjaaAesHas
namespace Go.Proofs.Ytapfanphlbcnjaa.Law03
open Go Go.RowKit Go.Proofs.Ytapfanphlbcnjaa.Aid Go.Proofs.Ytapfanphlbcnjaa.Aes

set_option maxRecDepth 100000 in
set_option maxHeartbeats 2000000 in
theorem awake_any {R : World → Prop} (C : AesHas R) (w : World) (hR : R w) :
    Calls Try.prog 7 #[] w fun e w' => e = .returned (.bool true) ∧ Below w.heap.size w w' := by
  obtain ⟨hz1, _⟩ := zero_of_info (keys_zero _ rfl)
  obtain ⟨K, hK⟩ : ∃ K, K = listB key0 := ⟨_, rfl⟩
  obtain ⟨D, hD⟩ : ∃ D, D = listB block0 := ⟨_, rfl⟩
  have h175 : Hid (keysTo K 11 175 = 197) := by rw [hK]; exact (keysTo_at _ 11 10 15 (by omega) (by omega)).trans known_key
  have heq : ∀ W, (binOp .eql 28 (.agg (cellsOf 16 fun j => .int .u8 ((keysTo K 11 j).toNat : Int))) (.agg (cellsOf 16 fun j => .int .u8 ((K j).toNat : Int)))).run Try.prog W = .ok (.bool true) W := fun W => by
    rw [show (cellsOf 16 fun j => Value.int .u8 ((keysTo K 11 j).toNat : Int)) = byteRow 16 K from cellsOf_congr (fun i hi => by have := keysTo_at K 11 0 i (by omega) hi; rw [Nat.mul_zero, Nat.zero_add] at this; rw [this]; rfl)]
    exact eq16 K W
  go_enter Try.func7, Try.ntmps7
  go_wp2_with (first
    | (refine build_named (by rfl) 28 _ (by rfl) (byteRow 16 (listB key0)) (by kernel_rfl) ?_
       rw [← hK]
       have HK := Lib.hid hK
       clear hK)
    | (refine store_whole (by rfl) 28 (.tmp 1) (.tmp 5) (by rfl) w.heap.size _ 16 (fun _ => .int .u8 0) (fun j => .int .u8 ((K j).toNat : Int)) (by exact row_new w _ _ 16 _ (by rfl) (zeros16 _ (by rfl))) (by rfl) _ (by rfl) (by kernel_rfl) (size_cellsOf _ _) (cellsOf_at _ _) (fun _ _ => rfl) ?_
       intro w1 hr1 ho1
       have hl1 : Below w.heap.size w w1 := ho1.below ((Below.refl _ _).alloc (Nat.le_refl _) _) (Nat.le_refl _)
       have hs1 : w.heap.size < w1.heap.size := hr1.lt
       clear ho1)
    | (refine build_named (by rfl) 28 _ (by rfl) (byteRow 16 (listB block0)) (by kernel_rfl) ?_
       rw [← hD]
       have HD := Lib.hid hD
       clear hD)
    | (refine store_whole (by rfl) 28 (.tmp 2) (.tmp 6) (by rfl) w1.heap.size _ 16 (fun _ => .int .u8 0) (fun j => .int .u8 ((D j).toNat : Int)) (by exact row_new w1 _ _ 16 _ (by rfl) (zeros16 _ (by rfl))) (by rfl) _ (by rfl) (by kernel_rfl) (size_cellsOf _ _) (cellsOf_at _ _) (fun _ _ => rfl) ?_
       intro w2 hr2 ho2
       have hk2 := ho2.row (hr1.alloc _) (by omega)
       have hl2 := ho2.below (hl1.alloc hl1.size _) hl1.size
       have hs2 : w1.heap.size < w2.heap.size := hr2.lt
       clear ho2 hr1 hl1)
    | (refine load_whole (by rfl) 28 (.tmp 1) (by rfl) _ _ _ _ hk2 (by rfl) _ Try.underlying28 rfl (by kernel_rfl) ?_)
    | (refine load_whole (by rfl) 28 (.tmp 2) (by rfl) _ _ _ _ hr2 (by rfl) _ Try.underlying28 rfl (by kernel_rfl) ?_)
    | (go_at_call 15
       refine (C.encrypt K D _ _ (size_cellsOf _ _) (cellsOf_at _ _) (size_cellsOf _ _) (cellsOf_at _ _) w2 (C.keep _ _ hR hl2)).mono ?_
       rintro x w3 ⟨rfl, hb3⟩
       have hk3 := hk2.of_block (hb3.block _ hk2.lt)
       have hl3 := hl2.trans (hb3.mono hl2.size)
       have hs3 := hb3.size
       clear hk2 hr2 hl2 hb3)
    | (refine store_whole (by rfl) 28 (.tmp 3) (.tmp 9) (by rfl) w3.heap.size _ 16 (fun _ => .int .u8 0) (fun j => .int .u8 ((enc K D j).toNat : Int)) (by exact row_new w3 _ _ 16 _ (by rfl) (zeros16 _ (by rfl))) (by rfl) _ (by rfl) (by kernel_rfl) (size_cellsOf _ _) (cellsOf_at _ _) (fun _ _ => rfl) ?_
       intro w4 hr4 ho4
       have hk4 := ho4.row (hk3.alloc _) (by omega)
       have hl4 := ho4.below (hl3.alloc hl3.size _) hl3.size
       have hs4 : w3.heap.size < w4.heap.size := hr4.lt
       clear ho4 hk3 hl3)
    | (refine load_whole (by rfl) 28 (.tmp 1) (by rfl) _ _ _ _ hk4 (by rfl) _ Try.underlying28 rfl (by kernel_rfl) ?_)
    | (go_at_call 13
       refine (C.keys K _ (size_cellsOf _ _) (cellsOf_at _ _) w4 (C.keep _ _ hR hl4)).mono ?_
       rintro x w5 ⟨rfl, hb5⟩
       have hk5 := hk4.of_block (hb5.block _ hk4.lt)
       have hr5 := hr4.of_block (hb5.block _ hr4.lt)
       have hl5 := hl4.trans (hb5.mono hl4.size)
       have hs5 := hb5.size
       clear hk4 hr4 hl4 hb5)
    | (refine store_whole (by rfl) 29 (.tmp 4) (.tmp 11) (by rfl) w5.heap.size _ 176 (fun _ => .int .u8 0) (fun j => .int .u8 ((keysTo K 11 j).toNat : Int)) (by exact row_new w5 _ _ 176 _ (size_cellsOf _ _) (cellsOf_at _ _)) (by rfl) _ (by rfl) (by kernel_rfl) (size_cellsOf _ _) (cellsOf_at _ _) (fun _ _ => rfl) ?_
       intro w6 hr6 ho6
       have hk6 := ho6.row (hk5.alloc _) (by omega)
       have hc6 := ho6.row (hr5.alloc _) (by omega)
       have hl6 := ho6.below (hl5.alloc hl5.size _) hl5.size
       have c0 := hc6.cell (i := 0) (by omega)
       have c1 := hc6.cell (i := 15) (by omega)
       rw [HK.out, HD.out, known_0] at c0
       rw [HK.out, HD.out, known_15] at c1
       clear ho6 hk5 hr5 hl5 hc6)
    | (go_at_call 11
       refine (C.box 0 w6 (C.keep _ _ hR hl6)).mono ?_
       rw [known_box]
       rintro x w7 ⟨rfl, hb7⟩
       have hk7 := hk6.of_block (hb7.block _ hk6.lt)
       have hr7 := hr6.of_block (hb7.block _ hr6.lt)
       have hl7 := hl6.trans (hb7.mono hl6.size)
       clear hk6 hr6 hl6 hb7 c0 c1)
    | (go_at_call 9
       refine (C.times 2 128 w7 (C.keep _ _ hR hl7)).mono ?_
       rw [known_times]
       rintro x w8 ⟨rfl, hb8⟩
       have hk8 := hk7.of_block (hb8.block _ hk7.lt)
       have hr8 := hr7.of_block (hb8.block _ hr7.lt)
       have hl8 := hl7.trans (hb8.mono hl7.size)
       have c2 := hr8.cell (i := 175) (by omega)
       rw [h175.out] at c2
       clear hk7 hr7 hl7 hb8)
    | (refine load_row_if (by rfl) 28 (.tmp 29) (by rfl) w5.heap.size 0 _ 176 16 _ hr8 (by rfl) _ Try.underlying28 rfl (by kernel_rfl) (by omega) ?_)
    | (refine load_row_if (by rfl) 28 (.tmp 1) (by rfl) w.heap.size 0 _ 16 16 _ hk8 (by rfl) _ Try.underlying28 rfl (by kernel_rfl) (by omega) ?_))
  go_ret
  exact ⟨rfl, hl8⟩
end Go.Proofs.Ytapfanphlbcnjaa.Law03
