/-
  bartizanlaw04.CtrTells, by what the program's and the document's own functions do: true, whatever the input.
-/
import Derived.Test.YtcdgdoeegehjhaaLaw04Awake
import Derived.Test.YtcdgdoeegehjhaaRefFlip
namespace Go.Proofs.Ytcdgdoeegehjhaa.Ctr
open Go Go.RowKit Go.Proofs.Ytcdgdoeegehjhaa.Aid Go.Proofs.Ytcdgdoeegehjhaa.Aes

/-- The two blocks that a law of layer 4 boxes: a key and a counter. -/
theorem two_new (K D : Blk) (X Y : Array Value) (hX : X.size = 16) (hXi : ∀ i, i < 16 → X[i]? = some (.int .u8 ((K i).toNat : Int))) (hY : Y.size = 16) (hYi : ∀ i, i < 16 → Y[i]? = some (.int .u8 ((D i).toNat : Int))) (w : World) :
    ∃ W, W = (w.alloc (.cells X 22)).alloc (.cells Y 22) ∧ RowB W w.heap.size 22 16 K ∧ RowB W (w.heap.size + 1) 22 16 D ∧ Below w.heap.size w W := by
  have s1 : (w.alloc (.cells X 22)).heap.size = w.heap.size + 1 := by simp
  have r1 := (row_new w X 22 16 (fun j => .int .u8 ((K j).toNat : Int)) hX hXi).alloc (.cells Y 22)
  have r2 := row_new (w.alloc (.cells X 22)) Y 22 16 (fun j => .int .u8 ((D j).toNat : Int)) hY hYi
  rw [s1] at r2
  exact ⟨_, rfl, r1, r2, ((Below.refl _ _).alloc (Nat.le_refl _) _).alloc (by simp) _⟩

set_option maxRecDepth 100000 in
set_option maxHeartbeats 2000000 in
theorem tells_any (C : CtrHas) (K D e : Nat → BitVec 8) (X Y : Array Value) (hX : X.size = 16) (hXi : ∀ i, i < 16 → X[i]? = some (.int .u8 ((K i).toNat : Int))) (hY : Y.size = 16) (hYi : ∀ i, i < 16 → Y[i]? = some (.int .u8 ((D i).toNat : Int)))
    (A : Option Addr) (n c : Nat) (w : World) (hs : SliceOf w w.heap.size n e (.slice A n c)) :
    Calls Try.prog 3 #[.agg X, .agg Y, .slice A n c] w fun x w' => x = .returned (.bool true) ∧ Below w.heap.size w w' := by
  obtain ⟨W, hW, hk0, ha0, hb0⟩ := two_new K D X Y hX hXi hY hYi w
  have HS := Lib.hid hs
  clear hXi hYi hs
  go_enter Try.func3, Try.ntmps3
  go_wp2_with fail
  rw [← hW]
  clear hW
  refine (awake_any C W).mono ?_
  rintro x w1 ⟨rfl, hb1⟩
  have hk1 : RowB w1 w.heap.size _ 16 K := World.rowIs.of_block hk0 (hb1.block _ (World.rowIs.lt hk0))
  have ha1 : RowB w1 (w.heap.size + 1) _ 16 D := World.rowIs.of_block ha0 (hb1.block _ (World.rowIs.lt ha0))
  have hl1 := hb0.trans (hb1.mono hb0.size)
  have hs1 : w.heap.size + 1 < w1.heap.size := World.rowIs.lt ha1
  clear hk0 ha0 hb0 hb1
  by_cases hn : (100 : Int) < (n : Int)
  · go_wp2
    go_ret
    exact ⟨rfl, hl1⟩
  · have hn' : n ≤ 100 := by omega
    obtain ⟨B, hB⟩ : ∃ B : Nat, B = n * 72057594037927935 := ⟨_, rfl⟩
    have eB : IntKind.u64.wrap ((n : Int) * 72057594037927935) = (B : Int) := by rw [IntWalk.u64_in _ (by omega)]; omega
    have eN : IntKind.u64.wrap (n : Int) = (n : Int) := IntWalk.u64_in _ (by omega)
    have HB : Hid (B < 2 ^ 64) := by show B < 2 ^ 64; omega
    have hq : ∀ W, (binOp .eql 22 (.agg (byteRow 16 (nextB D B))) (.agg (byteRow 16 (nextB D B)))).run Try.prog W = .ok (.bool true) W := eq_same16 _ _ (fun _ _ => rfl)
    obtain ⟨NX, hNX⟩ : ∃ NX, NX = byteRow 16 (nextB D B) := ⟨_, rfl⟩
    rw [← hNX] at hq
    have HNX := Lib.hid hNX
    clear hNX hB
    go_wp2
    refine region_mix (Below w1.heap.size w1) [(0, true), (1, true), (2, true), (4, true), (5, true), (6, true), (3, false), (7, false), (8, false), (9, false)] (by kernel_rfl) (by kernel_rfl) (Below.refl _ w1).drew ?_
    refine m_load rfl (by rfl) 22 (.tmp 3) (by rfl) w.heap.size 0 _ 16 16 _ (fun W hW => World.rowIs.of_block hk1 (hW.block _ (World.rowIs.lt hk1))) (by rfl) _ Try.underlying22 rfl (by kernel_rfl) (by decide) ?_
    simp only [Act.put, List.setIfInBounds_toArray, List.set_cons_zero, List.set_cons_succ, Nat.zero_add]
    refine m_load rfl (by rfl) 22 (.tmp 4) (by rfl) (w.heap.size + 1) 0 _ 16 16 _ (fun W hW => World.rowIs.of_block ha1 (hW.block _ (World.rowIs.lt ha1))) (by rfl) _ Try.underlying22 rfl (by kernel_rfl) (by decide) ?_
    simp only [Act.put, List.setIfInBounds_toArray, List.set_cons_zero, List.set_cons_succ, Nat.zero_add]
    refine m_val rfl (by rfl) (.slice A n c) (fun W _ => by go_simp) ?_
    simp only [Act.put, List.setIfInBounds_toArray, List.set_cons_zero, List.set_cons_succ]
    refine m_load rfl (by rfl) 22 (.tmp 3) (by rfl) w.heap.size 0 _ 16 16 _ (fun W hW => World.rowIs.of_block hk1 (hW.block _ (World.rowIs.lt hk1))) (by rfl) _ Try.underlying22 rfl (by kernel_rfl) (by decide) ?_
    simp only [Act.put, List.setIfInBounds_toArray, List.set_cons_zero, List.set_cons_succ, Nat.zero_add]
    refine m_load rfl (by rfl) 22 (.tmp 4) (by rfl) (w.heap.size + 1) 0 _ 16 16 _ (fun W hW => World.rowIs.of_block ha1 (hW.block _ (World.rowIs.lt ha1))) (by rfl) _ Try.underlying22 rfl (by kernel_rfl) (by decide) ?_
    simp only [Act.put, List.setIfInBounds_toArray, List.set_cons_zero, List.set_cons_succ, Nat.zero_add]
    refine m_val rfl (by rfl) (.slice A n c) (fun W _ => by go_simp) ?_
    simp only [Act.put, List.setIfInBounds_toArray, List.set_cons_zero, List.set_cons_succ]
    refine m_go rfl ?_
    go_wp2_with fail
    have hs1' : SliceOf w1.drew w1.drew.heap.size n e (.slice A n c) := slice_any (slice_below (slice_below HS.out hl1) (Below.refl _ w1).drew) (Nat.le_refl _)
    refine (C.flip K D e _ _ (size_cellsOf _ _) (cellsOf_at _ _) (size_cellsOf _ _) (cellsOf_at _ _) A n c w1.drew hs1' (by omega)).mono ?_
    rintro x w2 ⟨A2, c2, rfl, hf2, hb2⟩
    have hb2' : Below w1.heap.size w1 w2 := (Below.refl _ w1).drew.trans hb2
    have hs2 : SliceOf w2 w2.heap.size n e (.slice A n c) := slice_any (slice_below hs1' hb2) (Nat.le_refl _)
    clear hb2 hs1'
    go_wp2_with fail
    refine m_on hb2' ?_
    refine m_go rfl ?_
    go_wp2_with fail
    refine (refFlip_any K D e _ _ (size_cellsOf _ _) (cellsOf_at _ _) (size_cellsOf _ _) (cellsOf_at _ _) A n c w2 hs2 (by omega)).mono ?_
    rintro x w3 ⟨v3, rfl, hown3, hb3⟩
    obtain ⟨A3, c3, rfl, _, _⟩ := own_shape hown3
    have hf3 : SliceOf w3 w3.heap.size n (flipB K D e) (.slice A2 n c2) := slice_any (slice_below hf2 hb3) (Nat.le_refl _)
    have hg3 : SliceOf w3 w3.heap.size n (flipB K D e) (.slice A3 n c3) := hown3.slice (.inr (Nat.le_refl _))
    have hb3' : Below w1.heap.size w1 w3 := hb2'.trans (hb3.mono hb2'.size)
    clear hb3 hf2 hown3 hs2 hb2'
    go_wp2_with fail
    refine m_on hb3' ?_
    refine m_go rfl ?_
    go_wp2_with fail
    refine (Mac.same_gen A2 A3 n n c2 c3 (flipB K D e) (flipB K D e) _ _ w3 hf3 hg3 (by omega) (by omega)).mono ?_
    rintro x w4 ⟨rfl, q4, hw4⟩
    rw [Mac.same_refl _ _ _ (fun _ _ => rfl)]
    have hb4 : Below w1.heap.size w1 w4 := by rw [hw4]; exact hb3'.trans ⟨rfl, rfl, rfl, Nat.le_refl _, fun _ _ => rfl⟩
    clear hw4 hb3' hf3 hg3
    go_wp2_with fail
    refine m_on hb4 ?_
    refine m_go rfl ?_
    go_wp2_with fail
    refine m_on hb4 ?_
    refine m_end ?_
    have hk4 : RowB w4 w.heap.size _ 16 K := World.rowIs.of_block hk1 (hb4.block _ (by omega))
    have ha4 : RowB w4 (w.heap.size + 1) _ 16 D := World.rowIs.of_block ha1 (hb4.block _ (by omega))
    have hl4 := hl1.trans (hb4.mono hl1.size)
    have hs4 : w.heap.size + 1 < w4.heap.size := World.rowIs.lt ha4
    clear hk1 ha1 hl1 hs1 hb4
    go_wp2
    refine region_mix (Below w4.heap.size w4) [(0, true), (1, true), (2, true), (3, true), (4, true), (5, true), (6, true), (8, true), (9, true), (7, false), (10, false), (11, true), (12, true), (13, false)] (by kernel_rfl) (by kernel_rfl) (Below.refl _ w4).drew ?_
    refine m_val rfl (by rfl) (.bool true) (fun W _ => by go_simp) ?_
    simp only [Act.put, List.setIfInBounds_toArray, List.set_cons_zero, List.set_cons_succ]
    refine m_val rfl (by rfl) (.bool true) (fun W _ => by go_simp) ?_
    simp only [Act.put, List.setIfInBounds_toArray, List.set_cons_zero, List.set_cons_succ]
    refine m_val rfl (by rfl) (.bool true) (fun W _ => by go_simp) ?_
    simp only [Act.put, List.setIfInBounds_toArray, List.set_cons_zero, List.set_cons_succ]
    refine m_val rfl (by rfl) (.bool true) (fun W _ => by go_simp) ?_
    simp only [Act.put, List.setIfInBounds_toArray, List.set_cons_zero, List.set_cons_succ]
    refine m_val rfl (by rfl) (.bool true) (fun W _ => by go_simp) ?_
    simp only [Act.put, List.setIfInBounds_toArray, List.set_cons_zero, List.set_cons_succ]
    refine m_load rfl (by rfl) 22 (.tmp 4) (by rfl) (w.heap.size + 1) 0 _ 16 16 _ (fun W hW => World.rowIs.of_block ha4 (hW.block _ (World.rowIs.lt ha4))) (by rfl) _ Try.underlying22 rfl (by kernel_rfl) (by decide) ?_
    simp only [Act.put, List.setIfInBounds_toArray, List.set_cons_zero, List.set_cons_succ, Nat.zero_add]
    refine m_val rfl (by rfl) (.int .u64 (B : Int)) (fun W _ => by go_simp) ?_
    simp only [Act.put, List.setIfInBounds_toArray, List.set_cons_zero, List.set_cons_succ]
    refine m_load rfl (by rfl) 22 (.tmp 4) (by rfl) (w.heap.size + 1) 0 _ 16 16 _ (fun W hW => World.rowIs.of_block ha4 (hW.block _ (World.rowIs.lt ha4))) (by rfl) _ Try.underlying22 rfl (by kernel_rfl) (by decide) ?_
    simp only [Act.put, List.setIfInBounds_toArray, List.set_cons_zero, List.set_cons_succ, Nat.zero_add]
    refine m_val rfl (by rfl) (.int .u64 (B : Int)) (fun W _ => by go_simp) ?_
    simp only [Act.put, List.setIfInBounds_toArray, List.set_cons_zero, List.set_cons_succ]
    refine m_go rfl ?_
    go_wp2_with fail
    refine (C.next D B HB.out _ (size_cellsOf _ _) (cellsOf_at _ _) w4.drew).mono ?_
    rintro x w5 ⟨rfl, hb5⟩
    have hb5' : Below w4.heap.size w4 w5 := (Below.refl _ w4).drew.trans hb5
    rw [← HNX.out]
    clear hb5
    go_wp2_with fail
    refine m_on hb5' ?_
    refine m_go rfl ?_
    go_wp2_with fail
    refine (refNext_any D B HB.out _ (size_cellsOf _ _) (cellsOf_at _ _) w5).mono ?_
    rintro x w6 ⟨rfl, hb6⟩
    have hb6' : Below w4.heap.size w4 w6 := hb5'.trans (hb6.mono hb5'.size)
    rw [← HNX.out]
    clear hb6 hb5'
    go_wp2_with fail
    refine m_on hb6' ?_
    refine m_val rfl (by rfl) (.bool true) (fun W _ => by go_simp) ?_
    simp only [Act.put, List.setIfInBounds_toArray, List.set_cons_zero, List.set_cons_succ]
    refine m_val rfl (by rfl) (.bool true) (fun W _ => by go_simp) ?_
    simp only [Act.put, List.setIfInBounds_toArray, List.set_cons_zero, List.set_cons_succ]
    refine m_go rfl ?_
    go_wp2_with fail
    refine m_on hb6' ?_
    refine m_end ?_
    go_wp2
    go_ret
    exact ⟨rfl, hl4.trans (hb6'.mono hl4.size)⟩
end Go.Proofs.Ytcdgdoeegehjhaa.Ctr
