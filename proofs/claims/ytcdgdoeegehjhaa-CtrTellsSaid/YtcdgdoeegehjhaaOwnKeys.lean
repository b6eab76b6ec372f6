/-
  What aes.keysBy does: the round keys, as the program makes them.
-/
import Derived.Test.YtcdgdoeegehjhaaOwnNext
import Derived.Test.YtcdgdoeegehjhaaOwnDouble
import Derived.Test.YtcdgdoeegehjhaaOwnValues
namespace Go.Proofs.Ytcdgdoeegehjhaa.Aes
open Go Go.RowKit Go.Proofs.Ytcdgdoeegehjhaa.Aid

set_option maxRecDepth 100000 in
set_option maxHeartbeats 4000000 in
theorem keysBy_any (key : Blk) (X : Array Value) (hX : X.size = 16) (hXi : ∀ i, i < 16 → X[i]? = some (.int .u8 ((key i).toNat : Int))) (w : World) (B : Nat) (hB : RowB w B 38 256 boxAt) :
    Calls Try.prog 17 #[.pointer (some ⟨B, 0, none⟩), .agg X] w fun r w' => r = .returned (.agg (byteRow 176 (keysTo key 11))) ∧ Below w.heap.size w w' := by
  obtain ⟨hz1, _⟩ := zero_of_info (keys_zero _ rfl)
  have h1 : ∃ W, W = (w.alloc (.cells X 22)).alloc (.cells (cellsOf 176 fun _ => .int .u8 0) 40) ∧ W.heap.size = w.heap.size + 2 ∧ RowB W w.heap.size 22 16 key ∧ W.rowIs (w.heap.size + 1) 40 176 (fun _ => .int .u8 0) ∧ Below w.heap.size w W := by
    have s1 : (w.alloc (.cells X 22)).heap.size = w.heap.size + 1 := by simp
    have r1 := (row_new w X 22 16 (fun j => .int .u8 ((key j).toNat : Int)) hX hXi).alloc (.cells (cellsOf 176 fun _ => .int .u8 0) 40)
    have r2 := row_new (w.alloc (.cells X 22)) (cellsOf 176 fun _ => .int .u8 0) 40 176 _ (size_cellsOf _ _) (cellsOf_at _ _)
    rw [s1] at r2
    exact ⟨_, rfl, by simp, r1, r2, ((Below.refl _ _).alloc (Nat.le_refl _) _).alloc (by simp) _⟩
  obtain ⟨W, hW, hs, hk0, hz0, hb0⟩ := h1
  have HB := Lib.hid hB
  have hlt0 : B < w.heap.size := World.rowIs.lt hB
  clear hXi hB
  go_enter Try.func17, Try.ntmps17
  go_wp2_with (first
    | (change wpList _ _ _ _ _ ((w.alloc (.cells X 22)).alloc (.cells (cellsOf 176 fun _ => .int .u8 0) 40))
       rw [← hW]
       clear hW
       refine load_whole (by rfl) 22 (.tmp 3) (by rfl) _ _ _ _ hk0 (by rfl) _ Try.underlying22 rfl (by kernel_rfl) ?_)
    | (refine build_named (by rfl) 40 _ (by rfl) (cellsOf 176 fun t => .int .u8 ((keysTo key 1 t).toNat : Int)) (by kernel_rfl) ?_)
    | (refine store_whole (by rfl) 40 (.tmp 5) (.tmp 9) (by rfl) (w.heap.size + 2) _ 176 (fun _ => .int .u8 0) (fun t => .int .u8 ((keysTo key 1 t).toNat : Int)) (by rw [← hs]; exact row_new W _ _ 176 _ (size_cellsOf _ _) (cellsOf_at _ _)) (by rfl) _ (by rfl) (by kernel_rfl) (size_cellsOf _ _) (cellsOf_at _ _) (fun _ _ => rfl) ?_
       intro w3 hr3 ho3
       have h4 : KeysRel key (w.heap.size + 1) B (w.heap.size + 2) 1 w w3 :=
         ⟨ho3.row (hz0.alloc _) (by omega), World.rowIs.of_block HB.out ((ho3.below (hb0.alloc hb0.size _) (by omega)).block _ hlt0), hr3, ho3.below (hb0.alloc hb0.size _) (by omega)⟩
       clear hk0 hz0 hb0 hs hr3 ho3))
  clear hz1
  go_loopw [6, 7, 10] (fun pw _ n wr => ∃ (k : Nat) (p : BitVec 8), k ≤ 10 ∧ pw = .int .u8 (p.toNat : Int) ∧ n = .int .i64 (k : Int) ∧ Hid (p = xpow 1 k) ∧ Hid (KeysRel key (w.heap.size + 1) B (w.heap.size + 2) (k + 1) w wr)) (fun _ _ n _ => 12 - (intOf n).toNat)
  case atStart => exact ⟨0, 1, by omega, rfl, rfl, rfl, h4⟩
  case round =>
    clear h4
    obtain ⟨k, p, hk, rfl, rfl, Hp, h⟩ := hrel
    by_cases hlt : k < 10
    · have q0 : (k : Int) < 10 := by omega
      have q1 : (0 : Int) ≤ (k : Int) := by omega
      have q2 : (k : Int) < 11 := by omega
      have p0 : (0 : Int) ≤ (k : Int) + 1 := by omega
      have p1 : (k : Int) + 1 < 11 := by omega
      have p2 : ((k : Int) + 1).toNat = k + 1 := by omega
      have hr4 := h.out.r4
      have hdb := Lib.hid (fun W => double_any p W)
      go_wp2_with (first
        | (refine load_row (by rfl) 22 (.tmp 17) (by rfl) (w.heap.size + 2) (k * 16) _ 176 16 _ hr4 (by rfl) _ Try.underlying22 rfl (by kernel_rfl) (by omega) ?_)
        | (go_at_call 25
           refine (nextKey_any (roundKey key k) p _ (size_cellsOf _ _) (fun i hi => by rw [cellsOf_at _ _ _ hi, Nat.mul_comm, keysTo_at _ _ _ _ (by omega) hi]) wr B h.out.r3).mono ?_
           rintro x w4 ⟨rfl, hb4⟩
           have h5 : Hid (KeysRel key (w.heap.size + 1) B (w.heap.size + 2) (k + 1) w w4) := ⟨h.out.r2.of_block (hb4.block _ h.out.r2.lt), World.rowIs.of_block h.out.r3 (hb4.block _ (World.rowIs.lt h.out.r3)), World.rowIs.of_block h.out.r4 (hb4.block _ (World.rowIs.lt h.out.r4)), h.out.hb.trans (hb4.mono h.out.hb.size)⟩
           have hr5 := h5.out.r4
           clear hr4 hb4 h)
        | (refine store_row (by rfl) 22 (.tmp 21) (.tmp 20) (by rfl) (w.heap.size + 2) ((k + 1) * 16) _ 176 16 _ (fun j => .int .u8 ((Aes.nextKey (roundKey key k) p j).toNat : Int)) hr5 (by rfl) _ (by rfl) (by kernel_rfl) (by omega) (size_cellsOf _ _) (cellsOf_at _ _) (fun _ _ => rfl) ?_
           intro w8 hr8 ho8)
        | (go_at_call 26
           refine (hdb.out _).mono ?_
           rintro x w9 ⟨rfl, rfl⟩))
      have hpn : Hid (xtime p = xpow 1 (k + 1)) := by show xtime p = xtime (xpow 1 k); rw [Hp.out]
      have h9 : KeysRel key (w.heap.size + 1) B (w.heap.size + 2) (k + 1 + 1) w w9 := by
        refine ⟨ho8.row h5.out.r2 (by omega), ho8.row h5.out.r3 (by omega), World.rowIs.congr hr8 (fun t ht => ?_), ho8.below h5.out.hb (by omega)⟩
        rw [← keysTo_next key (k + 1) t (roundKey key (k + 1)) (fun _ _ => rfl), Nat.mul_comm (k + 1) 16, Hp.out]
        by_cases h1 : 16 * (k + 1) ≤ t ∧ t < 16 * (k + 1) + 16
        · rw [if_pos h1, if_pos h1]; rfl
        · rw [if_neg h1, if_neg h1]
      exact ⟨⟨k + 1, xtime p, by omega, rfl, ival (by omega), hpn.out, h9⟩, by simp [intOf]; omega⟩
    · have q0 : ¬ (k : Int) < 10 := by omega
      have hk10 : k = 10 := by omega
      have hr4 : wr.rowIs (w.heap.size + 2) 40 176 (fun t => .int .u8 ((keysTo key 11 t).toNat : Int)) := by
        have := h.out.r4
        rw [hk10] at this
        exact this
      have hr2 := h.out.r2
      have hb := h.out.hb
      clear h hk10
      go_wp2_with (first
        | (refine load_whole (by rfl) 40 (.tmp 5) (by rfl) _ _ _ _ hr4 (by rfl) _ Try.underlying40 rfl (by kernel_rfl) ?_)
        | (refine store_whole (by rfl) 40 (.tmp 4) (.tmp 25) (by rfl) (w.heap.size + 1) _ 176 _ _ hr2 (by rfl) _ (by rfl) (by kernel_rfl) (size_cellsOf _ _) (cellsOf_at _ _) (fun _ _ => rfl) ?_
           intro w6 hr6 ho6))
      exact bodyPost_ret (results_row rfl _ (w.heap.size + 1) _ _ _ _ (by rfl) hr6 Try.underlying40 rfl (by kernel_rfl)) rfl ⟨rfl, ho6.below hb (by omega)⟩
end Go.Proofs.Ytcdgdoeegehjhaa.Aes
