/-
  What aes.nextKey does: the round key behind the one before.
  What aes.keysBy does: the round keys, as the program makes them.
-/
import Derived.Test.YtfjoflpidmjkbaaDoorOwnThree
import Derived.Test.YtfjoflpidmjkbaaDoorRefEncrypt
namespace Go.Proofs.YtfjoflpidmjkbaaDoor.Aes
open Go Go.RowKit Go.Proofs.YtfjoflpidmjkbaaDoor.Aid

/-- The block under way, once the power has come in. -/
def withPower (was : Blk) (p : BitVec 8) (j : Nat) : BitVec 8 := if j = 0 then was 0 ^^^ p else was j
theorem nextKey_first (was : Blk) (p : BitVec 8) (r : Nat) (hr : r < 4) : withPower was p r ^^^ Aes.box (was (12 + (r + 1) % 4)) = Aes.nextKey was p r := by
  have h1 : Aes.nextKey was p r = was r ^^^ Aes.box (was (12 + (r + 1) % 4)) ^^^ (if r = 0 then p else 0) := by
    unfold Aes.nextKey
    rw [show r / 4 = 0 by omega, show r % 4 = r by omega]
    rfl
  rw [h1]
  unfold withPower
  by_cases h0 : r = 0
  · subst h0
    rw [if_pos rfl, if_pos rfl]
    ac_rfl
  · rw [if_neg h0, if_neg h0]
    exact (BitVec.xor_zero).symm
theorem power_in (was : Blk) (p : BitVec 8) {w : World} {b t : Nat} (h : RowB w b t 16 was) (v : Int) (hv : v = ((was 0 ^^^ p).toNat : Int)) : RowB (w.setCell ⟨b, 0, none⟩ (.int .u8 v)) b t 16 (setTo (withPower was p) (Aes.nextKey was p) 0) := by
  refine World.rowIs.congr (World.rowIs.set h 0 (.int .u8 v)) (fun i hi => ?_)
  unfold setTo withPower
  by_cases h1 : i = 0
  · subst h1
    rw [if_pos rfl, hv, if_neg (by omega), if_pos rfl]
  · rw [if_neg h1, if_neg (by omega), if_neg h1]

set_option maxRecDepth 100000 in
set_option maxHeartbeats 1000000 in
theorem nextKey_any (was : Blk) (p : BitVec 8) (X : Array Value) (hX : X.size = 16) (hXi : ∀ i, i < 16 → X[i]? = some (.int .u8 ((was i).toNat : Int))) (w : World) (B : Nat) (hB : RowB w B 64 256 boxAt) :
    Calls Tryd.prog 55 #[.pointer (some ⟨B, 0, none⟩), .agg X, .int .u8 (p.toNat : Int)] w fun r w' => r = .returned (.agg (byteRow 16 (Aes.nextKey was p))) ∧ Below w.heap.size w w' := by
  have HB := Lib.hid hB
  have hlt0 : B < w.heap.size := World.rowIs.lt hB
  have hr : ∀ (Z : Array Value), Z = Array.replicate 16 (.int .u8 0) → ∃ W, W = (w.alloc (.cells X 22)).alloc (.cells Z 22) ∧ W.heap.size = w.heap.size + 2 ∧ RowB W w.heap.size 22 16 was ∧ W.rowIs (w.heap.size + 1) 22 16 (fun _ => .int .u8 0) ∧ Below w.heap.size w W := fun Z hZ => by
    have s1 : (w.alloc (.cells X 22)).heap.size = w.heap.size + 1 := by simp
    have r1 := (row_new w X 22 16 (fun j => .int .u8 ((was j).toNat : Int)) hX hXi).alloc (.cells Z 22)
    have r2 := row_new (w.alloc (.cells X 22)) Z 22 16 _ (by rw [hZ]; simp) (zeros16 Z hZ)
    rw [s1] at r2
    exact ⟨_, rfl, by simp, r1, r2, ((Below.refl _ _).alloc (Nat.le_refl _) _).alloc (by simp) _⟩
  obtain ⟨W, hW, hs, h0, h1, hb⟩ := hr _ rfl
  clear hXi hB hr
  go_enter Tryd.func55, Tryd.ntmps55
  go_wp2_with (first
    | (change wpList _ _ _ _ _ ((w.alloc (.cells X 22)).alloc (.cells (Array.replicate 16 (.int .u8 0)) 22))
       rw [← hW]
       clear hW
       refine load_whole (by rfl) 22 (.tmp 4) (by rfl) _ _ _ _ h0 (by rfl) _ Tryd.underlying22 rfl (by kernel_rfl) ?_)
    | (refine store_whole (by rfl) 22 (.tmp 7) (.tmp 10) (by rfl) (w.heap.size + 2) _ 16 (fun _ => .int .u8 0) (fun j => .int .u8 ((was j).toNat : Int)) (by rw [← hs]; exact row_new W _ _ 16 _ (by rfl) (zeros16 _ (by rfl))) (by rfl) _ (by rfl) (by kernel_rfl) (size_cellsOf _ _) (cellsOf_at _ _) (fun _ _ => rfl) ?_
       intro w3 hr3 ho3
       have T3 : Hid (Three was was w w3) := ⟨ho3.row (World.rowIs.alloc h0 _) (by omega), ho3.row (h1.alloc _) (by omega), hr3, ho3.below (hb.alloc hb.size _) (by omega)⟩
       have c0 : w3.cell? ⟨w.heap.size + 2, 0, none⟩ = some (.int .u8 ((was 0).toNat : Int)) := World.rowIs.cell hr3 (by omega)
       have f0 : w3.frozen? ⟨w.heap.size + 2, 0, none⟩ = false := World.rowIs.frozen hr3 0
       clear h0 h1 hb hs hr3 ho3))
  have h4 := T3.out.set (power_in was p T3.out.r2 _ (xor8 (was 0) p))
  clear c0 f0 T3
  generalize w3.setCell ⟨w.heap.size + 2, 0, none⟩ (.int .u8 (bits .xor .u8 ((was 0).toNat : Int) (p.toNat : Int))) = w4 at *
  obtain ⟨V, hV⟩ : ∃ V : Int, V = bits .xor .u8 ((was 0).toNat : Int) (p.toNat : Int) := ⟨_, rfl⟩
  rw [← hV]
  clear hV
  go_loopw [8, 16] (fun _ r wr => ∃ k : Nat, k ≤ 4 ∧ r = .int .i64 (k : Int) ∧ Hid (Three was (setTo (withPower was p) (Aes.nextKey was p) k) w wr)) (fun _ r _ => 4 - (intOf r).toNat)
  case atStart => exact ⟨0, by omega, rfl, h4⟩
  case round =>
    clear h4
    obtain ⟨i, hi, rfl, h⟩ := hrel
    by_cases hi4 : i < 4
    · obtain ⟨m, hm⟩ : ∃ m, m = (i + 1) % 4 := ⟨_, rfl⟩
      have hm4 : m < 4 := by omega
      have c0 : wr.cell? ⟨w.heap.size + 2, i, none⟩ = some (.int .u8 ((withPower was p i).toNat : Int)) := by
        rw [World.rowIs.cell h.out.r2 (show i < 16 by omega)]
        unfold setTo
        rw [if_neg (by omega)]
      have c1 : wr.cell? ⟨w.heap.size, 12 + m, none⟩ = some (.int .u8 ((was (12 + m)).toNat : Int)) := World.rowIs.cell h.out.r0 (by omega)
      have hby := (was (12 + m)).isLt
      have c2 : wr.cell? ⟨B, (was (12 + m)).toNat, none⟩ = some (.int .u8 ((Aes.box (was (12 + m))).toNat : Int)) := World.rowIs.cell (h.out.box HB.out) hby
      have f3 : wr.frozen? ⟨w.heap.size + 2, i, none⟩ = false := World.rowIs.frozen h.out.r2 i
      have hnx : Hid (∀ v : Int, v = ((Aes.nextKey was p i).toNat : Int) → Three was (setTo (withPower was p) (Aes.nextKey was p) (i + 1)) w (wr.setCell ⟨w.heap.size + 2, i, none⟩ (.int .u8 v))) := fun v hv => h.out.set (setTo_next h.out.r2 v hv)
      have x1 := xor8 (withPower was p i) (Aes.box (was (12 + m)))
      rw [hm, nextKey_first was p i hi4, ← hm] at x1
      have e1 : ((i : Int) + 1).tmod 4 = (m : Int) := by rw [Int.tmod_eq_emod_of_nonneg (by omega)]; omega
      have e2 : ((i : Int) + 1) % 4 = (m : Int) := by omega
      have q3 : (i : Int) < 4 := by omega
      have q4 : (0 : Int) ≤ (i : Int) := by omega
      have q5 : (i : Int) < 16 := by omega
      have q6 : (0 : Int) ≤ 12 + (m : Int) := by omega
      have q7 : 12 + (m : Int) < 16 := by omega
      have q8 : (12 + (m : Int)).toNat = 12 + m := by omega
      have q9 : (0 : Int) ≤ ((was (12 + m)).toNat : Int) := by omega
      have q10 : ((was (12 + m)).toNat : Int) < 256 := by omega
      have w1 : IntKind.i64.wrap ((i : Int) + 1) = (i : Int) + 1 := IntWalk.i64_in _ (by omega)
      have w2 : IntKind.i64.wrap (12 + (m : Int)) = 12 + (m : Int) := IntWalk.i64_in _ (by omega)
      clear hm h hby
      go_wp2
      refine region_tail 15 (by kernel_rfl) (by kernel_rfl) ?_
      simp only [List.take_succ_cons, List.take_zero, List.drop_succ_cons, List.drop_zero]
      repeat still_step
      refine wpStill_nil ?_
      go_wp2
      exact ⟨⟨i + 1, by omega, ival (by omega), (hnx.out _ rfl).drew⟩, by simp [intOf]; omega⟩
    · have q3 : ¬ (i : Int) < 4 := by omega
      have hi4' : i = 4 := by omega
      rw [hi4'] at h
      clear hi4'
      go_wp2
      obtain ⟨I0, hI0⟩ : ∃ I0 : Int, I0 = (i : Int) := ⟨_, rfl⟩
      rw [← hI0]
      clear hI0
      have h4 := h.out
      clear h q3 hi hi4
      go_loopw [9] (fun r wr' => ∃ j : Nat, 4 ≤ j ∧ j ≤ 16 ∧ r = .int .i64 (j : Int) ∧ Hid (Three was (setTo (withPower was p) (Aes.nextKey was p) j) w wr')) (fun r _ => 16 - (intOf r).toNat)
      case atStart => exact ⟨4, by omega, by omega, rfl, h4⟩
      case round =>
        clear h4
        obtain ⟨j, hj4, hj, rfl, h⟩ := hrel
        by_cases hj16 : j < 16
        · have c0 : wr.cell? ⟨w.heap.size + 2, j, none⟩ = some (.int .u8 ((was j).toNat : Int)) := by
            rw [World.rowIs.cell h.out.r2 hj16]
            unfold setTo withPower
            rw [if_neg (by omega), if_neg (by omega)]
          have c1 : wr.cell? ⟨w.heap.size + 2, j - 4, none⟩ = some (.int .u8 ((Aes.nextKey was p (j - 4)).toNat : Int)) := by
            rw [World.rowIs.cell h.out.r2 (show j - 4 < 16 by omega)]
            unfold setTo
            rw [if_pos (by omega)]
          have f3 : wr.frozen? ⟨w.heap.size + 2, j, none⟩ = false := World.rowIs.frozen h.out.r2 j
          have hnx : Hid (∀ v : Int, v = ((Aes.nextKey was p j).toNat : Int) → Three was (setTo (withPower was p) (Aes.nextKey was p) (j + 1)) w (wr.setCell ⟨w.heap.size + 2, j, none⟩ (.int .u8 v))) := fun v hv => h.out.set (setTo_next h.out.r2 v hv)
          have x1 := xor8 (was j) (Aes.nextKey was p (j - 4))
          rw [← nextKey_step was p j hj4] at x1
          have q3 : (j : Int) < 16 := by omega
          have q4 : (0 : Int) ≤ (j : Int) := by omega
          have q6 : (0 : Int) ≤ (j : Int) - 4 := by omega
          have q7 : (j : Int) - 4 < 16 := by omega
          have q8 : ((j : Int) - 4).toNat = j - 4 := by omega
          have q9 : (4 : Int) ≤ (j : Int) := by omega
          have w2 : IntKind.i64.wrap ((j : Int) - 4) = (j : Int) - 4 := IntWalk.i64_in _ (by omega)
          clear h
          go_wp2
          refine region_tail 9 (by kernel_rfl) (by kernel_rfl) ?_
          simp only [List.take_succ_cons, List.take_zero, List.drop_succ_cons, List.drop_zero]
          repeat still_step
          refine wpStill_nil ?_
          go_wp2
          exact ⟨⟨j + 1, by omega, by omega, ival (by omega), (hnx.out _ rfl).drew⟩, by simp [intOf]; omega⟩
        · have q3 : ¬ (j : Int) < 16 := by omega
          have hr : wr.rowIs (w.heap.size + 2) 22 16 (fun t => .int .u8 ((Aes.nextKey was p t).toNat : Int)) := World.rowIs.congr h.out.r2 (fun t ht => by unfold setTo; rw [if_pos (by omega)])
          have hz := h.out.r1
          have hb := h.out.hb
          go_wp2_with (first
            | (refine load_whole (by rfl) 22 (.tmp 7) (by rfl) _ _ _ _ hr (by rfl) _ Tryd.underlying22 rfl (by kernel_rfl) ?_)
            | (refine store_whole (by rfl) 22 (.tmp 6) (.tmp 48) (by rfl) (w.heap.size + 1) _ 16 _ _ hz (by rfl) _ (by rfl) (by kernel_rfl) (size_cellsOf _ _) (cellsOf_at _ _) (fun _ _ => rfl) ?_
               intro w6 hr6 ho6))
          exact bodyPost_ret (results_row rfl _ (w.heap.size + 1) _ _ _ _ (by rfl) hr6 Tryd.underlying22 rfl (by kernel_rfl)) rfl ⟨rfl, ho6.below hb (by omega)⟩
end Go.Proofs.YtfjoflpidmjkbaaDoor.Aes

namespace Go.Proofs.YtfjoflpidmjkbaaDoor.Aes
open Go Go.RowKit Go.Proofs.YtfjoflpidmjkbaaDoor.Aid

set_option maxRecDepth 100000 in
set_option maxHeartbeats 4000000 in
theorem keysBy_any (key : Blk) (X : Array Value) (hX : X.size = 16) (hXi : ∀ i, i < 16 → X[i]? = some (.int .u8 ((key i).toNat : Int))) (w : World) (B : Nat) (hB : RowB w B 64 256 boxAt) :
    Calls Tryd.prog 45 #[.pointer (some ⟨B, 0, none⟩), .agg X] w fun r w' => r = .returned (.agg (byteRow 176 (keysTo key 11))) ∧ Below w.heap.size w w' := by
  obtain ⟨hz1, _⟩ := zero_of_info (keys_zero _ rfl)
  have h1 : ∃ W, W = (w.alloc (.cells X 22)).alloc (.cells (cellsOf 176 fun _ => .int .u8 0) 66) ∧ W.heap.size = w.heap.size + 2 ∧ RowB W w.heap.size 22 16 key ∧ W.rowIs (w.heap.size + 1) 66 176 (fun _ => .int .u8 0) ∧ Below w.heap.size w W := by
    have s1 : (w.alloc (.cells X 22)).heap.size = w.heap.size + 1 := by simp
    have r1 := (row_new w X 22 16 (fun j => .int .u8 ((key j).toNat : Int)) hX hXi).alloc (.cells (cellsOf 176 fun _ => .int .u8 0) 66)
    have r2 := row_new (w.alloc (.cells X 22)) (cellsOf 176 fun _ => .int .u8 0) 66 176 _ (size_cellsOf _ _) (cellsOf_at _ _)
    rw [s1] at r2
    exact ⟨_, rfl, by simp, r1, r2, ((Below.refl _ _).alloc (Nat.le_refl _) _).alloc (by simp) _⟩
  obtain ⟨W, hW, hs, hk0, hz0, hb0⟩ := h1
  have HB := Lib.hid hB
  have hlt0 : B < w.heap.size := World.rowIs.lt hB
  clear hXi hB
  go_enter Tryd.func45, Tryd.ntmps45
  go_wp2_with (first
    | (change wpList _ _ _ _ _ ((w.alloc (.cells X 22)).alloc (.cells (cellsOf 176 fun _ => .int .u8 0) 66))
       rw [← hW]
       clear hW
       refine load_whole (by rfl) 22 (.tmp 3) (by rfl) _ _ _ _ hk0 (by rfl) _ Tryd.underlying22 rfl (by kernel_rfl) ?_)
    | (refine build_named (by rfl) 66 _ (by rfl) (cellsOf 176 fun t => .int .u8 ((keysTo key 1 t).toNat : Int)) (by kernel_rfl) ?_)
    | (refine store_whole (by rfl) 66 (.tmp 5) (.tmp 9) (by rfl) (w.heap.size + 2) _ 176 (fun _ => .int .u8 0) (fun t => .int .u8 ((keysTo key 1 t).toNat : Int)) (by rw [← hs]; exact row_new W _ _ 176 _ (size_cellsOf _ _) (cellsOf_at _ _)) (by rfl) _ (by rfl) (by kernel_rfl) (size_cellsOf _ _) (cellsOf_at _ _) (fun _ _ => rfl) ?_
       intro w3 hr3 ho3
       have h4 : KeysRel key (w.heap.size + 1) B (w.heap.size + 2) 1 w w3 :=
         ⟨ho3.row (hz0.alloc _) (by omega), World.rowIs.of_block HB.out ((ho3.below (hb0.alloc hb0.size _) (by omega)).block _ hlt0), hr3, ho3.below (hb0.alloc hb0.size _) (by omega)⟩
       clear hk0 hz0 hb0 hs hr3 ho3))
  clear hz1
  go_loopw [6, 7, 10] (fun pw _ n wr => ∃ (k : Nat) (p : BitVec 8), k ≤ 10 ∧ pw = .int .u8 (p.toNat : Int) ∧ n = .int .i64 (k : Int) ∧ Hid (p = xpow 1 k) ∧ Hid (KeysRel key (w.heap.size + 1) B (w.heap.size + 2) (k + 1) w wr)) (fun _ _ n _ => 12 - (intOf n).toNat)
  case atStart => exact ⟨0, 1, by omega, rfl, rfl, rfl, h4⟩
  case round =>
    clear h4
    obtain ⟨k, p, hk, rfl, rfl, Hp, h⟩ := hrel
    by_cases hlt : k < 10
    · have q0 : (k : Int) < 10 := by omega
      have q1 : (0 : Int) ≤ (k : Int) := by omega
      have q2 : (k : Int) < 11 := by omega
      have p0 : (0 : Int) ≤ (k : Int) + 1 := by omega
      have p1 : (k : Int) + 1 < 11 := by omega
      have p2 : ((k : Int) + 1).toNat = k + 1 := by omega
      have hr4 := h.out.r4
      have hdb := Lib.hid (fun W => double_any p W)
      go_wp2_with (first
        | (refine load_row (by rfl) 22 (.tmp 17) (by rfl) (w.heap.size + 2) (k * 16) _ 176 16 _ hr4 (by rfl) _ Tryd.underlying22 rfl (by kernel_rfl) (by omega) ?_)
        | (go_at_call 55
           refine (nextKey_any (roundKey key k) p _ (size_cellsOf _ _) (fun i hi => by rw [cellsOf_at _ _ _ hi, Nat.mul_comm, keysTo_at _ _ _ _ (by omega) hi]) wr B h.out.r3).mono ?_
           rintro x w4 ⟨rfl, hb4⟩
           have h5 : Hid (KeysRel key (w.heap.size + 1) B (w.heap.size + 2) (k + 1) w w4) := ⟨h.out.r2.of_block (hb4.block _ h.out.r2.lt), World.rowIs.of_block h.out.r3 (hb4.block _ (World.rowIs.lt h.out.r3)), World.rowIs.of_block h.out.r4 (hb4.block _ (World.rowIs.lt h.out.r4)), h.out.hb.trans (hb4.mono h.out.hb.size)⟩
           have hr5 := h5.out.r4
           clear hr4 hb4 h)
        | (refine store_row (by rfl) 22 (.tmp 21) (.tmp 20) (by rfl) (w.heap.size + 2) ((k + 1) * 16) _ 176 16 _ (fun j => .int .u8 ((Aes.nextKey (roundKey key k) p j).toNat : Int)) hr5 (by rfl) _ (by rfl) (by kernel_rfl) (by omega) (size_cellsOf _ _) (cellsOf_at _ _) (fun _ _ => rfl) ?_
           intro w8 hr8 ho8)
        | (go_at_call 56
           refine (hdb.out _).mono ?_
           rintro x w9 ⟨rfl, rfl⟩))
      have hpn : Hid (xtime p = xpow 1 (k + 1)) := by show xtime p = xtime (xpow 1 k); rw [Hp.out]
      have h9 : KeysRel key (w.heap.size + 1) B (w.heap.size + 2) (k + 1 + 1) w w9 := by
        refine ⟨ho8.row h5.out.r2 (by omega), ho8.row h5.out.r3 (by omega), World.rowIs.congr hr8 (fun t ht => ?_), ho8.below h5.out.hb (by omega)⟩
        rw [← keysTo_next key (k + 1) t (roundKey key (k + 1)) (fun _ _ => rfl), Nat.mul_comm (k + 1) 16, Hp.out]
        by_cases h1 : 16 * (k + 1) ≤ t ∧ t < 16 * (k + 1) + 16
        · rw [if_pos h1, if_pos h1]; rfl
        · rw [if_neg h1, if_neg h1]
      exact ⟨⟨k + 1, xtime p, by omega, rfl, ival (by omega), hpn.out, h9⟩, by simp [intOf]; omega⟩
    · have q0 : ¬ (k : Int) < 10 := by omega
      have hk10 : k = 10 := by omega
      have hr4 : wr.rowIs (w.heap.size + 2) 66 176 (fun t => .int .u8 ((keysTo key 11 t).toNat : Int)) := by
        have := h.out.r4
        rw [hk10] at this
        exact this
      have hr2 := h.out.r2
      have hb := h.out.hb
      clear h hk10
      go_wp2_with (first
        | (refine load_whole (by rfl) 66 (.tmp 5) (by rfl) _ _ _ _ hr4 (by rfl) _ Tryd.underlying66 rfl (by kernel_rfl) ?_)
        | (refine store_whole (by rfl) 66 (.tmp 4) (.tmp 25) (by rfl) (w.heap.size + 1) _ 176 _ _ hr2 (by rfl) _ (by rfl) (by kernel_rfl) (size_cellsOf _ _) (cellsOf_at _ _) (fun _ _ => rfl) ?_
           intro w6 hr6 ho6))
      exact bodyPost_ret (results_row rfl _ (w.heap.size + 1) _ _ _ _ (by rfl) hr6 Tryd.underlying66 rfl (by kernel_rfl)) rfl ⟨rfl, ho6.below hb (by omega)⟩
end Go.Proofs.YtfjoflpidmjkbaaDoor.Aes
