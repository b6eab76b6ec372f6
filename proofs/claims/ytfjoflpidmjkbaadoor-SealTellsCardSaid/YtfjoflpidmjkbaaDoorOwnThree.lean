/-
  What aes.double does: 2 times a byte, as the program works it out.
  What aes.values does: the S-box, as the program has it.
  What aes.substitute does: the S-box on each byte, the rows rotated. The frame that substitute, mix and nextKey share: a block that came in, a place for the result, a block under way.
  What aes.add does: two blocks, byte by byte.
-/
import Derived.Test.YtfjoflpidmjkbaaDoorRefXored
namespace Go.Proofs.YtfjoflpidmjkbaaDoor.Aes
open Go Go.RowKit Go.Proofs.YtfjoflpidmjkbaaDoor.Aid

theorem double_nat : ∀ a : BitVec 8, bits .xor .u8 ((a.toNat : Int) * 2 % 256) ((a.toNat : Int) / 128 * 27) = ((xtime a).toNat : Int) := by decide +kernel
set_option maxRecDepth 100000 in
set_option maxHeartbeats 1000000 in
theorem double_any (a : BitVec 8) (w : World) :
    Calls Tryd.prog 56 #[.int .u8 (a.toNat : Int)] w fun x w' => x = .returned (.int .u8 ((xtime a).toNat : Int)) ∧ w' = w := by
  go_enter Tryd.func56, Tryd.ntmps56
  go_wp2
  go_ret
  exact ⟨by rw [double_nat]; rfl, rfl⟩
end Go.Proofs.YtfjoflpidmjkbaaDoor.Aes

namespace Go.Proofs.YtfjoflpidmjkbaaDoor.Aes
open Go Go.RowKit Go.Proofs.YtfjoflpidmjkbaaDoor.Aid

set_option maxRecDepth 100000 in
set_option maxHeartbeats 4000000 in
theorem values_any (w : World) :
    Calls Tryd.prog 44 #[] w fun x w' => x = .returned (.agg (byteRow 256 boxAt)) ∧ Below w.heap.size w w' := by
  obtain ⟨hz1, _⟩ := zero_of_info (boxes_zero _ rfl)
  go_enter Tryd.func44, Tryd.ntmps44
  go_wp2_with (first
    | (refine build_named (by rfl) 64 _ (by rfl) (byteRow 256 boxAt) (by kernel_rfl) ?_)
    | (refine store_whole (by rfl) 64 (.tmp 0) (.tmp 1) (by rfl) w.heap.size _ 256 (fun _ => .int .u8 0) (fun j => .int .u8 ((boxAt j).toNat : Int)) (by exact row_new w _ _ 256 _ (size_cellsOf _ _) (cellsOf_at _ _)) (by rfl) _ (by rfl) (by kernel_rfl) (size_cellsOf _ _) (cellsOf_at _ _) (fun _ _ => rfl) ?_
       intro w2 hr2 ho2))
  exact bodyPost_ret (results_row rfl _ w.heap.size _ _ _ _ (by rfl) hr2 Tryd.underlying64 rfl (by kernel_rfl)) rfl ⟨rfl, ho2.below ((Below.refl _ _).alloc (Nat.le_refl _) _) (Nat.le_refl _)⟩
end Go.Proofs.YtfjoflpidmjkbaaDoor.Aes

namespace Go.Proofs.YtfjoflpidmjkbaaDoor.Aes
open Go Go.RowKit Go.Proofs.YtfjoflpidmjkbaaDoor.Aid

/-- The call's three blocks: what came in, the result's place, what is under way. -/
structure Three (was f : Blk) (w wr : World) : Prop where
  r0 : RowB wr w.heap.size 22 16 was
  r1 : wr.rowIs (w.heap.size + 1) 22 16 (fun _ => .int .u8 0)
  r2 : RowB wr (w.heap.size + 2) 22 16 f
  hb : Below w.heap.size w wr
theorem three_new (was : Blk) (X Z : Array Value) (hX : X.size = 16) (hXi : ∀ i, i < 16 → X[i]? = some (.int .u8 ((was i).toNat : Int))) (hZ : Z = Array.replicate 16 (.int .u8 0)) (w : World) :
    ∃ W, W = ((w.alloc (.cells X 22)).alloc (.cells Z 22)).alloc (.cells Z 22) ∧ Three was (fun _ => 0) w W := by
  have s1 : (w.alloc (.cells X 22)).heap.size = w.heap.size + 1 := by simp
  have s2 : ((w.alloc (.cells X 22)).alloc (.cells Z 22)).heap.size = w.heap.size + 2 := by simp
  have r1 := ((row_new w X 22 16 (fun j => .int .u8 ((was j).toNat : Int)) hX hXi).alloc (.cells Z 22)).alloc (.cells Z 22)
  have r2 := (row_new (w.alloc (.cells X 22)) Z 22 16 _ (by rw [hZ]; simp) (zeros16 Z hZ)).alloc (.cells Z 22)
  have r3 := row_new ((w.alloc (.cells X 22)).alloc (.cells Z 22)) Z 22 16 _ (by rw [hZ]; simp) (zeros16 Z hZ)
  rw [s1] at r2
  rw [s2] at r3
  exact ⟨_, rfl, r1, r2, r3, (((Below.refl _ _).alloc (Nat.le_refl _) _).alloc (by simp) _).alloc (by rw [s2]; omega) _⟩
theorem Three.set {was f g : Blk} {i : Nat} {w wr : World} {v : Int} (h : Three was f w wr) (hs : RowB (wr.setCell ⟨w.heap.size + 2, i, none⟩ (.int .u8 v)) (w.heap.size + 2) 22 16 g) :
    Three was g w (wr.setCell ⟨w.heap.size + 2, i, none⟩ (.int .u8 v)) :=
  ⟨World.rowIs.setOther (a := ⟨w.heap.size + 2, i, none⟩) h.r0 (by simp) _, World.rowIs.setOther (a := ⟨w.heap.size + 2, i, none⟩) h.r1 (by simp) _, hs, h.hb.setCell (p := ⟨w.heap.size + 2, i, none⟩) (by simp) _⟩
theorem Three.drew {was f : Blk} {w wr : World} (h : Three was f w wr) : Three was f w wr.drew := ⟨h.r0, h.r1, h.r2, h.hb.drew⟩
theorem Three.congr {was f g : Blk} {w wr : World} (h : Three was f w wr) (hf : Same16 f g) : Three was g w wr := ⟨h.r0, h.r1, World.rowIs.congr h.r2 (fun i hi => by rw [hf i hi]), h.hb⟩
/-- The S-box, where it lay ahead of the call. -/
theorem Three.box {was f : Blk} {w wr : World} {B : Nat} (h : Three was f w wr) (hB : RowB w B 64 256 boxAt) : RowB wr B 64 256 boxAt := World.rowIs.of_block hB (h.hb.block _ (World.rowIs.lt hB))

theorem subShift_five (cur : Blk) (k : Nat) : subShift cur k = Aes.box (cur (5 * k % 16)) := by
  unfold subShift
  rw [show 4 * ((k / 4 + k % 4) % 4) + k % 4 = 5 * k % 16 by omega]

set_option maxRecDepth 100000 in
set_option maxHeartbeats 1000000 in
theorem substitute_any (cur : Blk) (X : Array Value) (hX : X.size = 16) (hXi : ∀ i, i < 16 → X[i]? = some (.int .u8 ((cur i).toNat : Int))) (w : World) (B : Nat) (hB : RowB w B 64 256 boxAt) :
    Calls Tryd.prog 47 #[.pointer (some ⟨B, 0, none⟩), .agg X] w fun r w' => r = .returned (.agg (byteRow 16 (subShift cur))) ∧ Below w.heap.size w w' := by
  have hr := Lib.hid (fun Z hZ => three_new cur X Z hX hXi hZ w)
  have HB := Lib.hid hB
  have hlt0 : B < w.heap.size := World.rowIs.lt hB
  clear hXi hB
  go_enter Tryd.func47, Tryd.ntmps47
  go_wp2
  obtain ⟨W, hW, h0⟩ := hr.out _ rfl
  change Code.wp _ _ _ _ (((w.alloc (.cells X 22)).alloc (.cells (Array.replicate 16 (.int .u8 0)) 22)).alloc (.cells (Array.replicate 16 (.int .u8 0)) 22))
  rw [← hW]
  clear hW hr
  go_loopw [6, 7] (fun _ i wr => ∃ k : Nat, k ≤ 16 ∧ i = .int .i64 (k : Int) ∧ Hid (Three cur (setTo (fun _ => 0) (subShift cur) k) w wr)) (fun _ i _ => 16 - (intOf i).toNat)
  case atStart => exact ⟨0, by omega, rfl, h0.congr (fun _ _ => rfl)⟩
  case round =>
    clear h0
    obtain ⟨k, hk, rfl, h⟩ := hrel
    by_cases hlt : k < 16
    · obtain ⟨m, hm⟩ : ∃ m, m = 5 * k % 16 := ⟨_, rfl⟩
      have hm16 : m < 16 := by omega
      have c0 : wr.cell? ⟨w.heap.size, m, none⟩ = some (.int .u8 ((cur m).toNat : Int)) := World.rowIs.cell h.out.r0 hm16
      have hby := (cur m).isLt
      have c1 : wr.cell? ⟨B, (cur m).toNat, none⟩ = some (.int .u8 ((Aes.box (cur m)).toNat : Int)) := World.rowIs.cell (h.out.box HB.out) hby
      have c2 : wr.cell? ⟨w.heap.size + 2, k, none⟩ = some (.int .u8 ((0 : BitVec 8).toNat : Int)) := by
        rw [World.rowIs.cell h.out.r2 hlt]
        unfold setTo
        rw [if_neg (by omega)]
      have f0 : wr.frozen? ⟨w.heap.size + 2, k, none⟩ = false := World.rowIs.frozen h.out.r2 k
      have hnx : Hid (∀ v : Int, v = ((subShift cur k).toNat : Int) → Three cur (setTo (fun _ => 0) (subShift cur) (k + 1)) w (wr.setCell ⟨w.heap.size + 2, k, none⟩ (.int .u8 v))) := fun v hv => h.out.set (setTo_next h.out.r2 v hv)
      have hsub : Hid (((Aes.box (cur m)).toNat : Int) = ((subShift cur k).toNat : Int)) := by show _ = _; rw [subShift_five cur k, hm]
      have e0 : IntKind.i64.wrap (5 * (k : Int)) = 5 * (k : Int) := IntWalk.i64_in _ (by omega)
      have e1 : (5 * (k : Int)).tmod 16 = (m : Int) := by rw [Int.tmod_eq_emod_of_nonneg (by omega)]; omega
      have e2 : (5 * (k : Int)) % 16 = (m : Int) := by omega
      have q0 : (0 : Int) ≤ (k : Int) := by omega
      have q1 : (k : Int) < 16 := by omega
      have q2 : (0 : Int) ≤ (m : Int) := by omega
      have q3 : (m : Int) < 16 := by omega
      have q9 : (0 : Int) ≤ ((cur m).toNat : Int) := by omega
      have q10 : ((cur m).toNat : Int) < 256 := by omega
      clear hm hby
      go_wp2
      refine region_tail 11 (by kernel_rfl) (by kernel_rfl) ?_
      simp only [List.take_succ_cons, List.take_zero, List.drop_succ_cons, List.drop_zero]
      repeat still_step
      refine wpStill_nil ?_
      go_wp2
      exact ⟨⟨k + 1, by omega, ival (by omega), (hnx.out _ hsub.out).drew⟩, by simp [intOf]; omega⟩
    · have q1 : ¬ (k : Int) < 16 := by omega
      have hr : wr.rowIs (w.heap.size + 2) 22 16 (fun j => .int .u8 ((subShift cur j).toNat : Int)) := World.rowIs.congr h.out.r2 (fun j hj => by unfold setTo; rw [if_pos (by omega)])
      have hz := h.out.r1
      have hb := h.out.hb
      go_wp2_with (first
        | (refine load_whole (by rfl) 22 (.tmp 5) (by rfl) _ _ _ _ hr (by rfl) _ Tryd.underlying22 rfl (by kernel_rfl) ?_)
        | (refine store_whole (by rfl) 22 (.tmp 4) (.tmp 22) (by rfl) (w.heap.size + 1) _ 16 _ _ hz (by rfl) _ (by rfl) (by kernel_rfl) (size_cellsOf _ _) (cellsOf_at _ _) (fun _ _ => rfl) ?_
           intro w6 hr6 ho6))
      exact bodyPost_ret (results_row rfl _ (w.heap.size + 1) _ _ _ _ (by rfl) hr6 Tryd.underlying22 rfl (by kernel_rfl)) rfl ⟨rfl, ho6.below hb (by omega)⟩
end Go.Proofs.YtfjoflpidmjkbaaDoor.Aes

namespace Go.Proofs.YtfjoflpidmjkbaaDoor.Aes
open Go Go.RowKit Go.Proofs.YtfjoflpidmjkbaaDoor.Aid

set_option maxRecDepth 100000 in
set_option maxHeartbeats 1000000 in
theorem add_any (x y : Nat → BitVec 8) (X Y : Array Value) (hX : X.size = 16) (hXi : ∀ i, i < 16 → X[i]? = some (.int .u8 ((x i).toNat : Int))) (hY : Y.size = 16) (hYi : ∀ i, i < 16 → Y[i]? = some (.int .u8 ((y i).toNat : Int))) (w : World) :
    Calls Tryd.prog 46 #[.agg X, .agg Y] w fun r w' => r = .returned (.agg (byteRow 16 (addKey x y))) ∧ Below w.heap.size w w' := by
  have hr : ∀ (Z : Array Value), Z = Array.replicate 16 (.int .u8 0) → ∃ W, W = ((w.alloc (.cells X 22)).alloc (.cells Y 22)).alloc (.cells Z 22) ∧ RowB W w.heap.size 22 16 (setTo x (addKey x y) 0) ∧ RowB W (w.heap.size + 1) 22 16 y ∧ W.rowIs (w.heap.size + 2) 22 16 (fun _ => .int .u8 0) ∧ Below w.heap.size w W := fun Z hZ => by
    have s1 : (w.alloc (.cells X 22)).heap.size = w.heap.size + 1 := by simp
    have s2 : ((w.alloc (.cells X 22)).alloc (.cells Y 22)).heap.size = w.heap.size + 2 := by simp
    have r1 := ((row_new w X 22 16 (fun j => .int .u8 ((setTo x (addKey x y) 0 j).toNat : Int)) hX (fun i hi => by rw [hXi i hi]; rfl)).alloc (.cells Y 22)).alloc (.cells Z 22)
    have r2 := (row_new (w.alloc (.cells X 22)) Y 22 16 (fun j => .int .u8 ((y j).toNat : Int)) hY hYi).alloc (.cells Z 22)
    have r3 := row_new ((w.alloc (.cells X 22)).alloc (.cells Y 22)) Z 22 16 _ (by rw [hZ]; simp) (zeros16 Z hZ)
    rw [s1] at r2
    rw [s2] at r3
    exact ⟨_, rfl, r1, r2, r3, (((Below.refl _ _).alloc (Nat.le_refl _) _).alloc (by simp) _).alloc (by rw [s2]; omega) _⟩
  clear hXi hYi
  go_enter Tryd.func46, Tryd.ntmps46
  go_wp2
  obtain ⟨W, hW, h0, h1, h2, hb⟩ := hr _ rfl
  change Code.wp _ _ _ _ (((w.alloc (.cells X 22)).alloc (.cells Y 22)).alloc (.cells (Array.replicate 16 (.int .u8 0)) 22))
  rw [← hW]
  clear hW hr
  go_loopw [5, 6] (fun _ i wr => ∃ k : Nat, k ≤ 16 ∧ i = .int .i64 (k : Int) ∧ Hid (RowB wr w.heap.size 22 16 (setTo x (addKey x y) k)) ∧ Hid (RowB wr (w.heap.size + 1) 22 16 y) ∧ Hid (wr.rowIs (w.heap.size + 2) 22 16 (fun _ => .int .u8 0)) ∧ Below w.heap.size w wr) (fun _ i _ => 16 - (intOf i).toNat)
  case atStart => exact ⟨0, by omega, rfl, h0, h1, h2, hb⟩
  case round =>
    clear h0 h1 h2 hb
    obtain ⟨k, hk, rfl, h0, h1, h2, hb⟩ := hrel
    by_cases hlt : k < 16
    · have c0 : wr.cell? ⟨w.heap.size, k, none⟩ = some (.int .u8 ((x k).toNat : Int)) := by
        rw [World.rowIs.cell h0.out hlt]
        unfold setTo
        rw [if_neg (by omega)]
      have c1 : wr.cell? ⟨w.heap.size + 1, k, none⟩ = some (.int .u8 ((y k).toNat : Int)) := World.rowIs.cell h1.out hlt
      have f0 : wr.frozen? ⟨w.heap.size, k, none⟩ = false := World.rowIs.frozen h0.out k
      have q0 : (0 : Int) ≤ (k : Int) := by omega
      have q1 : (k : Int) < 16 := by omega
      go_wp2
      refine region_tail 8 (by kernel_rfl) (by kernel_rfl) ?_
      simp only [List.take_succ_cons, List.take_zero, List.drop_succ_cons, List.drop_zero]
      repeat still_step
      refine wpStill_nil ?_
      go_wp2
      exact ⟨⟨k + 1, by omega, ival (by omega), setTo_next h0.out _ (xor8 _ _), World.rowIs.setOther (a := ⟨w.heap.size, k, none⟩) h1.out (by simp) _, World.rowIs.setOther (a := ⟨w.heap.size, k, none⟩) h2.out (by simp) _, (hb.setCell (p := ⟨w.heap.size, k, none⟩) (by simp) _).drew⟩, by simp [intOf]; omega⟩
    · have q1 : ¬ (k : Int) < 16 := by omega
      have hr : wr.rowIs w.heap.size 22 16 (fun j => .int .u8 ((addKey x y j).toNat : Int)) := World.rowIs.congr h0.out (fun j hj => by unfold setTo; rw [if_pos (by omega)])
      have hz := h2.out
      go_wp2_with (first
        | (refine load_whole (by rfl) 22 (.tmp 2) (by rfl) _ _ _ _ hr (by rfl) _ Tryd.underlying22 rfl (by kernel_rfl) ?_)
        | (refine store_whole (by rfl) 22 (.tmp 4) (.tmp 18) (by rfl) (w.heap.size + 2) _ 16 _ _ hz (by rfl) _ (by rfl) (by kernel_rfl) (size_cellsOf _ _) (cellsOf_at _ _) (fun _ _ => rfl) ?_
           intro w6 hr6 ho6))
      exact bodyPost_ret (results_row rfl _ (w.heap.size + 2) _ _ _ _ (by rfl) hr6 Tryd.underlying22 rfl (by kernel_rfl)) rfl ⟨rfl, ho6.below hb (by omega)⟩
end Go.Proofs.YtfjoflpidmjkbaaDoor.Aes
