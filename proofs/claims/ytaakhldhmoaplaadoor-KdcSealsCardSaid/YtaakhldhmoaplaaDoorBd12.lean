/-
  What aes.nextKey does: the round key behind the one before. What aes.keysBy does: the round keys, as the program makes them. What aes.mix does: each column anew of all four bytes of it. What aes.Encrypt does: the encryption of a block.
-/
import Derived.Test.YtaakhldhmoaplaaDoorBd11
namespace Go.Proofs.YtaakhldhmoaplaaDoor.Aes
open Go Go.RowKit Go.Proofs.YtaakhldhmoaplaaDoor.Aid

/-- The block under way, once the power has come in. -/
def withPower (was : Blk) (p : BitVec 8) (j : Nat) : BitVec 8 := if j = 0 then was 0 ^^^ p else was j
theorem nextKey_first (was : Blk) (p : BitVec 8) (r : Nat) (hr : r < 4) : withPower was p r ^^^ Aes.box (was (12 + (r + 1) % 4)) = Aes.nextKey was p r := by
  have h1 : Aes.nextKey was p r = was r ^^^ Aes.box (was (12 + (r + 1) % 4)) ^^^ (if r = 0 then p else 0) := by
    unfold Aes.nextKey
    rw [show r / 4 = 0 by omega, show r % 4 = r by omega]
    rfl
  rw [h1]
  unfold withPower
  by_cases h0 : r = 0
  · subst h0
    rw [if_pos rfl, if_pos rfl]
    ac_rfl
  · rw [if_neg h0, if_neg h0]
    exact (BitVec.xor_zero).symm
theorem power_in (was : Blk) (p : BitVec 8) {w : World} {b t : Nat} (h : RowB w b t 16 was) (v : Int) (hv : v = ((was 0 ^^^ p).toNat : Int)) : RowB (w.setCell ⟨b, 0, none⟩ (.int .u8 v)) b t 16 (setTo (withPower was p) (Aes.nextKey was p) 0) := by
  refine World.rowIs.congr (World.rowIs.set h 0 (.int .u8 v)) (fun i hi => ?_)
  unfold setTo withPower
  by_cases h1 : i = 0
  · subst h1
    rw [if_pos rfl, hv, if_neg (by omega), if_pos rfl]
  · rw [if_neg h1, if_neg (by omega), if_neg h1]

set_option maxRecDepth 100000 in
set_option maxHeartbeats 1000000 in
theorem nextKey_any (was : Blk) (p : BitVec 8) (X : Array Value) (hX : X.size = 16) (hXi : ∀ i, i < 16 → X[i]? = some (.int .u8 ((was i).toNat : Int))) (w : World) (B : Nat) (hB : RowB w B 123 256 boxAt) :
    Calls Tryd.prog 94 #[.pointer (some ⟨B, 0, none⟩), .agg X, .int .u8 (p.toNat : Int)] w fun r w' => r = .returned (.agg (byteRow 16 (Aes.nextKey was p))) ∧ Below w.heap.size w w' := by
  have HB := Lib.hid hB
  have hlt0 : B < w.heap.size := World.rowIs.lt hB
  have hr : ∀ (Z : Array Value), Z = Array.replicate 16 (.int .u8 0) → ∃ W, W = (w.alloc (.cells X 24)).alloc (.cells Z 24) ∧ W.heap.size = w.heap.size + 2 ∧ RowB W w.heap.size 24 16 was ∧ W.rowIs (w.heap.size + 1) 24 16 (fun _ => .int .u8 0) ∧ Below w.heap.size w W := fun Z hZ => by
    have s1 : (w.alloc (.cells X 24)).heap.size = w.heap.size + 1 := by simp
    have r1 := (row_new w X 24 16 (fun j => .int .u8 ((was j).toNat : Int)) hX hXi).alloc (.cells Z 24)
    have r2 := row_new (w.alloc (.cells X 24)) Z 24 16 _ (by rw [hZ]; simp) (zeros16 Z hZ)
    rw [s1] at r2
    exact ⟨_, rfl, by simp, r1, r2, ((Below.refl _ _).alloc (Nat.le_refl _) _).alloc (by simp) _⟩
  obtain ⟨W, hW, hs, h0, h1, hb⟩ := hr _ rfl
  clear hXi hB hr
  go_enter Tryd.func94, Tryd.ntmps94
  go_wp2_with (first
    | (change wpList _ _ _ _ _ ((w.alloc (.cells X 24)).alloc (.cells (Array.replicate 16 (.int .u8 0)) 24))
       rw [← hW]
       clear hW
       refine load_whole (by rfl) 24 (.tmp 4) (by rfl) _ _ _ _ h0 (by rfl) _ Tryd.underlying24 rfl (by kernel_rfl) ?_)
    | (refine store_whole (by rfl) 24 (.tmp 7) (.tmp 10) (by rfl) (w.heap.size + 2) _ 16 (fun _ => .int .u8 0) (fun j => .int .u8 ((was j).toNat : Int)) (by rw [← hs]; exact row_new W _ _ 16 _ (by rfl) (zeros16 _ (by rfl))) (by rfl) _ (by rfl) (by kernel_rfl) (size_cellsOf _ _) (cellsOf_at _ _) (fun _ _ => rfl) ?_
       intro w3 hr3 ho3
       have T3 : Hid (Three was was w w3) := ⟨ho3.row (World.rowIs.alloc h0 _) (by omega), ho3.row (h1.alloc _) (by omega), hr3, ho3.below (hb.alloc hb.size _) (by omega)⟩
       have c0 : w3.cell? ⟨w.heap.size + 2, 0, none⟩ = some (.int .u8 ((was 0).toNat : Int)) := World.rowIs.cell hr3 (by omega)
       have f0 : w3.frozen? ⟨w.heap.size + 2, 0, none⟩ = false := World.rowIs.frozen hr3 0
       clear h0 h1 hb hs hr3 ho3))
  have h4 := T3.out.set (power_in was p T3.out.r2 _ (xor8 (was 0) p))
  clear c0 f0 T3
  generalize w3.setCell ⟨w.heap.size + 2, 0, none⟩ (.int .u8 (bits .xor .u8 ((was 0).toNat : Int) (p.toNat : Int))) = w4 at *
  obtain ⟨V, hV⟩ : ∃ V : Int, V = bits .xor .u8 ((was 0).toNat : Int) (p.toNat : Int) := ⟨_, rfl⟩
  rw [← hV]
  clear hV
  go_loopw [8, 16] (fun _ r wr => ∃ k : Nat, k ≤ 4 ∧ r = .int .i64 (k : Int) ∧ Hid (Three was (setTo (withPower was p) (Aes.nextKey was p) k) w wr)) (fun _ r _ => 4 - (intOf r).toNat)
  case atStart => exact ⟨0, by omega, rfl, h4⟩
  case round =>
    clear h4
    obtain ⟨i, hi, rfl, h⟩ := hrel
    by_cases hi4 : i < 4
    · obtain ⟨m, hm⟩ : ∃ m, m = (i + 1) % 4 := ⟨_, rfl⟩
      have hm4 : m < 4 := by omega
      have c0 : wr.cell? ⟨w.heap.size + 2, i, none⟩ = some (.int .u8 ((withPower was p i).toNat : Int)) := by
        rw [World.rowIs.cell h.out.r2 (show i < 16 by omega)]
        unfold setTo
        rw [if_neg (by omega)]
      have c1 : wr.cell? ⟨w.heap.size, 12 + m, none⟩ = some (.int .u8 ((was (12 + m)).toNat : Int)) := World.rowIs.cell h.out.r0 (by omega)
      have hby := (was (12 + m)).isLt
      have c2 : wr.cell? ⟨B, (was (12 + m)).toNat, none⟩ = some (.int .u8 ((Aes.box (was (12 + m))).toNat : Int)) := World.rowIs.cell (h.out.box HB.out) hby
      have f3 : wr.frozen? ⟨w.heap.size + 2, i, none⟩ = false := World.rowIs.frozen h.out.r2 i
      have hnx : Hid (∀ v : Int, v = ((Aes.nextKey was p i).toNat : Int) → Three was (setTo (withPower was p) (Aes.nextKey was p) (i + 1)) w (wr.setCell ⟨w.heap.size + 2, i, none⟩ (.int .u8 v))) := fun v hv => h.out.set (setTo_next h.out.r2 v hv)
      have x1 := xor8 (withPower was p i) (Aes.box (was (12 + m)))
      rw [hm, nextKey_first was p i hi4, ← hm] at x1
      have e1 : ((i : Int) + 1).tmod 4 = (m : Int) := by rw [Int.tmod_eq_emod_of_nonneg (by omega)]; omega
      have e2 : ((i : Int) + 1) % 4 = (m : Int) := by omega
      have q3 : (i : Int) < 4 := by omega
      have q4 : (0 : Int) ≤ (i : Int) := by omega
      have q5 : (i : Int) < 16 := by omega
      have q6 : (0 : Int) ≤ 12 + (m : Int) := by omega
      have q7 : 12 + (m : Int) < 16 := by omega
      have q8 : (12 + (m : Int)).toNat = 12 + m := by omega
      have q9 : (0 : Int) ≤ ((was (12 + m)).toNat : Int) := by omega
      have q10 : ((was (12 + m)).toNat : Int) < 256 := by omega
      have w1 : IntKind.i64.wrap ((i : Int) + 1) = (i : Int) + 1 := IntWalk.i64_in _ (by omega)
      have w2 : IntKind.i64.wrap (12 + (m : Int)) = 12 + (m : Int) := IntWalk.i64_in _ (by omega)
      clear hm h hby
      go_wp2
      refine region_tail 15 (by kernel_rfl) (by kernel_rfl) ?_
      simp only [List.take_succ_cons, List.take_zero, List.drop_succ_cons, List.drop_zero]
      repeat still_step
      refine wpStill_nil ?_
      go_wp2
      exact ⟨⟨i + 1, by omega, ival (by omega), (hnx.out _ rfl).drew⟩, by simp [intOf]; omega⟩
    · have q3 : ¬ (i : Int) < 4 := by omega
      have hi4' : i = 4 := by omega
      rw [hi4'] at h
      clear hi4'
      go_wp2
      obtain ⟨I0, hI0⟩ : ∃ I0 : Int, I0 = (i : Int) := ⟨_, rfl⟩
      rw [← hI0]
      clear hI0
      have h4 := h.out
      clear h q3 hi hi4
      go_loopw [9] (fun r wr' => ∃ j : Nat, 4 ≤ j ∧ j ≤ 16 ∧ r = .int .i64 (j : Int) ∧ Hid (Three was (setTo (withPower was p) (Aes.nextKey was p) j) w wr')) (fun r _ => 16 - (intOf r).toNat)
      case atStart => exact ⟨4, by omega, by omega, rfl, h4⟩
      case round =>
        clear h4
        obtain ⟨j, hj4, hj, rfl, h⟩ := hrel
        by_cases hj16 : j < 16
        · have c0 : wr.cell? ⟨w.heap.size + 2, j, none⟩ = some (.int .u8 ((was j).toNat : Int)) := by
            rw [World.rowIs.cell h.out.r2 hj16]
            unfold setTo withPower
            rw [if_neg (by omega), if_neg (by omega)]
          have c1 : wr.cell? ⟨w.heap.size + 2, j - 4, none⟩ = some (.int .u8 ((Aes.nextKey was p (j - 4)).toNat : Int)) := by
            rw [World.rowIs.cell h.out.r2 (show j - 4 < 16 by omega)]
            unfold setTo
            rw [if_pos (by omega)]
          have f3 : wr.frozen? ⟨w.heap.size + 2, j, none⟩ = false := World.rowIs.frozen h.out.r2 j
          have hnx : Hid (∀ v : Int, v = ((Aes.nextKey was p j).toNat : Int) → Three was (setTo (withPower was p) (Aes.nextKey was p) (j + 1)) w (wr.setCell ⟨w.heap.size + 2, j, none⟩ (.int .u8 v))) := fun v hv => h.out.set (setTo_next h.out.r2 v hv)
          have x1 := xor8 (was j) (Aes.nextKey was p (j - 4))
          rw [← nextKey_step was p j hj4] at x1
          have q3 : (j : Int) < 16 := by omega
          have q4 : (0 : Int) ≤ (j : Int) := by omega
          have q6 : (0 : Int) ≤ (j : Int) - 4 := by omega
          have q7 : (j : Int) - 4 < 16 := by omega
          have q8 : ((j : Int) - 4).toNat = j - 4 := by omega
          have q9 : (4 : Int) ≤ (j : Int) := by omega
          have w2 : IntKind.i64.wrap ((j : Int) - 4) = (j : Int) - 4 := IntWalk.i64_in _ (by omega)
          clear h
          go_wp2
          refine region_tail 9 (by kernel_rfl) (by kernel_rfl) ?_
          simp only [List.take_succ_cons, List.take_zero, List.drop_succ_cons, List.drop_zero]
          repeat still_step
          refine wpStill_nil ?_
          go_wp2
          exact ⟨⟨j + 1, by omega, by omega, ival (by omega), (hnx.out _ rfl).drew⟩, by simp [intOf]; omega⟩
        · have q3 : ¬ (j : Int) < 16 := by omega
          have hr : wr.rowIs (w.heap.size + 2) 24 16 (fun t => .int .u8 ((Aes.nextKey was p t).toNat : Int)) := World.rowIs.congr h.out.r2 (fun t ht => by unfold setTo; rw [if_pos (by omega)])
          have hz := h.out.r1
          have hb := h.out.hb
          go_wp2_with (first
            | (refine load_whole (by rfl) 24 (.tmp 7) (by rfl) _ _ _ _ hr (by rfl) _ Tryd.underlying24 rfl (by kernel_rfl) ?_)
            | (refine store_whole (by rfl) 24 (.tmp 6) (.tmp 48) (by rfl) (w.heap.size + 1) _ 16 _ _ hz (by rfl) _ (by rfl) (by kernel_rfl) (size_cellsOf _ _) (cellsOf_at _ _) (fun _ _ => rfl) ?_
               intro w6 hr6 ho6))
          exact bodyPost_ret (results_row rfl _ (w.heap.size + 1) _ _ _ _ (by rfl) hr6 Tryd.underlying24 rfl (by kernel_rfl)) rfl ⟨rfl, ho6.below hb (by omega)⟩
end Go.Proofs.YtaakhldhmoaplaaDoor.Aes

namespace Go.Proofs.YtaakhldhmoaplaaDoor.Aes
open Go Go.RowKit Go.Proofs.YtaakhldhmoaplaaDoor.Aid

set_option maxRecDepth 100000 in
set_option maxHeartbeats 4000000 in
theorem keysBy_any (key : Blk) (X : Array Value) (hX : X.size = 16) (hXi : ∀ i, i < 16 → X[i]? = some (.int .u8 ((key i).toNat : Int))) (w : World) (B : Nat) (hB : RowB w B 123 256 boxAt) :
    Calls Tryd.prog 84 #[.pointer (some ⟨B, 0, none⟩), .agg X] w fun r w' => r = .returned (.agg (byteRow 176 (keysTo key 11))) ∧ Below w.heap.size w w' := by
  obtain ⟨hz1, _⟩ := zero_of_info (keys_zero _ rfl)
  have h1 : ∃ W, W = (w.alloc (.cells X 24)).alloc (.cells (cellsOf 176 fun _ => .int .u8 0) 125) ∧ W.heap.size = w.heap.size + 2 ∧ RowB W w.heap.size 24 16 key ∧ W.rowIs (w.heap.size + 1) 125 176 (fun _ => .int .u8 0) ∧ Below w.heap.size w W := by
    have s1 : (w.alloc (.cells X 24)).heap.size = w.heap.size + 1 := by simp
    have r1 := (row_new w X 24 16 (fun j => .int .u8 ((key j).toNat : Int)) hX hXi).alloc (.cells (cellsOf 176 fun _ => .int .u8 0) 125)
    have r2 := row_new (w.alloc (.cells X 24)) (cellsOf 176 fun _ => .int .u8 0) 125 176 _ (size_cellsOf _ _) (cellsOf_at _ _)
    rw [s1] at r2
    exact ⟨_, rfl, by simp, r1, r2, ((Below.refl _ _).alloc (Nat.le_refl _) _).alloc (by simp) _⟩
  obtain ⟨W, hW, hs, hk0, hz0, hb0⟩ := h1
  have HB := Lib.hid hB
  have hlt0 : B < w.heap.size := World.rowIs.lt hB
  clear hXi hB
  go_enter Tryd.func84, Tryd.ntmps84
  go_wp2_with (first
    | (change wpList _ _ _ _ _ ((w.alloc (.cells X 24)).alloc (.cells (cellsOf 176 fun _ => .int .u8 0) 125))
       rw [← hW]
       clear hW
       refine load_whole (by rfl) 24 (.tmp 3) (by rfl) _ _ _ _ hk0 (by rfl) _ Tryd.underlying24 rfl (by kernel_rfl) ?_)
    | (refine build_named (by rfl) 125 _ (by rfl) (cellsOf 176 fun t => .int .u8 ((keysTo key 1 t).toNat : Int)) (by kernel_rfl) ?_)
    | (refine store_whole (by rfl) 125 (.tmp 5) (.tmp 9) (by rfl) (w.heap.size + 2) _ 176 (fun _ => .int .u8 0) (fun t => .int .u8 ((keysTo key 1 t).toNat : Int)) (by rw [← hs]; exact row_new W _ _ 176 _ (size_cellsOf _ _) (cellsOf_at _ _)) (by rfl) _ (by rfl) (by kernel_rfl) (size_cellsOf _ _) (cellsOf_at _ _) (fun _ _ => rfl) ?_
       intro w3 hr3 ho3
       have h4 : KeysRel key (w.heap.size + 1) B (w.heap.size + 2) 1 w w3 :=
         ⟨ho3.row (hz0.alloc _) (by omega), World.rowIs.of_block HB.out ((ho3.below (hb0.alloc hb0.size _) (by omega)).block _ hlt0), hr3, ho3.below (hb0.alloc hb0.size _) (by omega)⟩
       clear hk0 hz0 hb0 hs hr3 ho3))
  clear hz1
  go_loopw [6, 7, 10] (fun pw _ n wr => ∃ (k : Nat) (p : BitVec 8), k ≤ 10 ∧ pw = .int .u8 (p.toNat : Int) ∧ n = .int .i64 (k : Int) ∧ Hid (p = xpow 1 k) ∧ Hid (KeysRel key (w.heap.size + 1) B (w.heap.size + 2) (k + 1) w wr)) (fun _ _ n _ => 12 - (intOf n).toNat)
  case atStart => exact ⟨0, 1, by omega, rfl, rfl, rfl, h4⟩
  case round =>
    clear h4
    obtain ⟨k, p, hk, rfl, rfl, Hp, h⟩ := hrel
    by_cases hlt : k < 10
    · have q0 : (k : Int) < 10 := by omega
      have q1 : (0 : Int) ≤ (k : Int) := by omega
      have q2 : (k : Int) < 11 := by omega
      have p0 : (0 : Int) ≤ (k : Int) + 1 := by omega
      have p1 : (k : Int) + 1 < 11 := by omega
      have p2 : ((k : Int) + 1).toNat = k + 1 := by omega
      have hr4 := h.out.r4
      have hdb := Lib.hid (fun W => double_any p W)
      go_wp2_with (first
        | (refine load_row (by rfl) 24 (.tmp 17) (by rfl) (w.heap.size + 2) (k * 16) _ 176 16 _ hr4 (by rfl) _ Tryd.underlying24 rfl (by kernel_rfl) (by omega) ?_)
        | (go_at_call 94
           refine (nextKey_any (roundKey key k) p _ (size_cellsOf _ _) (fun i hi => by rw [cellsOf_at _ _ _ hi, Nat.mul_comm, keysTo_at _ _ _ _ (by omega) hi]) wr B h.out.r3).mono ?_
           rintro x w4 ⟨rfl, hb4⟩
           have h5 : Hid (KeysRel key (w.heap.size + 1) B (w.heap.size + 2) (k + 1) w w4) := ⟨h.out.r2.of_block (hb4.block _ h.out.r2.lt), World.rowIs.of_block h.out.r3 (hb4.block _ (World.rowIs.lt h.out.r3)), World.rowIs.of_block h.out.r4 (hb4.block _ (World.rowIs.lt h.out.r4)), h.out.hb.trans (hb4.mono h.out.hb.size)⟩
           have hr5 := h5.out.r4
           clear hr4 hb4 h)
        | (refine store_row (by rfl) 24 (.tmp 21) (.tmp 20) (by rfl) (w.heap.size + 2) ((k + 1) * 16) _ 176 16 _ (fun j => .int .u8 ((Aes.nextKey (roundKey key k) p j).toNat : Int)) hr5 (by rfl) _ (by rfl) (by kernel_rfl) (by omega) (size_cellsOf _ _) (cellsOf_at _ _) (fun _ _ => rfl) ?_
           intro w8 hr8 ho8)
        | (go_at_call 95
           refine (hdb.out _).mono ?_
           rintro x w9 ⟨rfl, rfl⟩))
      have hpn : Hid (xtime p = xpow 1 (k + 1)) := by show xtime p = xtime (xpow 1 k); rw [Hp.out]
      have h9 : KeysRel key (w.heap.size + 1) B (w.heap.size + 2) (k + 1 + 1) w w9 := by
        refine ⟨ho8.row h5.out.r2 (by omega), ho8.row h5.out.r3 (by omega), World.rowIs.congr hr8 (fun t ht => ?_), ho8.below h5.out.hb (by omega)⟩
        rw [← keysTo_next key (k + 1) t (roundKey key (k + 1)) (fun _ _ => rfl), Nat.mul_comm (k + 1) 16, Hp.out]
        by_cases h1 : 16 * (k + 1) ≤ t ∧ t < 16 * (k + 1) + 16
        · rw [if_pos h1, if_pos h1]; rfl
        · rw [if_neg h1, if_neg h1]
      exact ⟨⟨k + 1, xtime p, by omega, rfl, ival (by omega), hpn.out, h9⟩, by simp [intOf]; omega⟩
    · have q0 : ¬ (k : Int) < 10 := by omega
      have hk10 : k = 10 := by omega
      have hr4 : wr.rowIs (w.heap.size + 2) 125 176 (fun t => .int .u8 ((keysTo key 11 t).toNat : Int)) := by
        have := h.out.r4
        rw [hk10] at this
        exact this
      have hr2 := h.out.r2
      have hb := h.out.hb
      clear h hk10
      go_wp2_with (first
        | (refine load_whole (by rfl) 125 (.tmp 5) (by rfl) _ _ _ _ hr4 (by rfl) _ Tryd.underlying125 rfl (by kernel_rfl) ?_)
        | (refine store_whole (by rfl) 125 (.tmp 4) (.tmp 25) (by rfl) (w.heap.size + 1) _ 176 _ _ hr2 (by rfl) _ (by rfl) (by kernel_rfl) (size_cellsOf _ _) (cellsOf_at _ _) (fun _ _ => rfl) ?_
           intro w6 hr6 ho6))
      exact bodyPost_ret (results_row rfl _ (w.heap.size + 1) _ _ _ _ (by rfl) hr6 Tryd.underlying125 rfl (by kernel_rfl)) rfl ⟨rfl, ho6.below hb (by omega)⟩
end Go.Proofs.YtaakhldhmoaplaaDoor.Aes
namespace Go.Proofs.YtaakhldhmoaplaaDoor.Aes
open Go Go.RowKit Go.Proofs.YtaakhldhmoaplaaDoor.Aid

def colSum (t : Blk) (i : Nat) : BitVec 8 := t (4 * i) ^^^ t (4 * i + 1) ^^^ t (4 * i + 2) ^^^ t (4 * i + 3)
theorem mix_by_sum (t : Blk) (i j : Nat) (hj : j < 4) : xtime (t (4 * i + j) ^^^ t (4 * i + (j + 1) % 4)) ^^^ colSum t i ^^^ t (4 * i + j) = mixCols t (4 * i + j) := by
  have h0 : ∀ a b c d : BitVec 8, xtime (a ^^^ b) ^^^ (a ^^^ b ^^^ c ^^^ d) ^^^ a = times 2 a ^^^ times 3 b ^^^ c ^^^ d := fun a b c d => by
    rw [xtime_add, two_times, three_times]
    have : xtime a ^^^ xtime b ^^^ (a ^^^ b ^^^ c ^^^ d) ^^^ a = (xtime a ^^^ (xtime b ^^^ b) ^^^ c ^^^ d) ^^^ (a ^^^ a) := by ac_rfl
    rw [this, BitVec.xor_self, BitVec.xor_zero]
  have hs : colSum t i = t (4 * i + j) ^^^ t (4 * i + (j + 1) % 4) ^^^ t (4 * i + (j + 2) % 4) ^^^ t (4 * i + (j + 3) % 4) := by
    unfold colSum
    have : j = 0 ∨ j = 1 ∨ j = 2 ∨ j = 3 := by omega
    rcases this with rfl | rfl | rfl | rfl
    · rfl
    · show t (4 * i) ^^^ t (4 * i + 1) ^^^ t (4 * i + 2) ^^^ t (4 * i + 3) = t (4 * i + 1) ^^^ t (4 * i + 2) ^^^ t (4 * i + 3) ^^^ t (4 * i); ac_rfl
    · show t (4 * i) ^^^ t (4 * i + 1) ^^^ t (4 * i + 2) ^^^ t (4 * i + 3) = t (4 * i + 2) ^^^ t (4 * i + 3) ^^^ t (4 * i) ^^^ t (4 * i + 1); ac_rfl
    · show t (4 * i) ^^^ t (4 * i + 1) ^^^ t (4 * i + 2) ^^^ t (4 * i + 3) = t (4 * i + 3) ^^^ t (4 * i) ^^^ t (4 * i + 1) ^^^ t (4 * i + 2); ac_rfl
  rw [hs, h0]
  unfold mixCols
  rw [show (4 * i + j) / 4 = i by omega, show (4 * i + j) % 4 = j by omega]

set_option maxRecDepth 100000 in
set_option maxHeartbeats 1000000 in
theorem mix_any (cur : Blk) (X : Array Value) (hX : X.size = 16) (hXi : ∀ i, i < 16 → X[i]? = some (.int .u8 ((cur i).toNat : Int))) (w : World) :
    Calls Tryd.prog 87 #[.agg X] w fun r w' => r = .returned (.agg (byteRow 16 (mixCols cur))) ∧ Below w.heap.size w w' := by
  have hr := Lib.hid (fun Z hZ => three_new cur X Z hX hXi hZ w)
  clear hXi
  go_enter Tryd.func87, Tryd.ntmps87
  go_wp2
  obtain ⟨W, hW, h0⟩ := hr.out _ rfl
  change Code.wp _ _ _ _ (((w.alloc (.cells X 24)).alloc (.cells (Array.replicate 16 (.int .u8 0)) 24)).alloc (.cells (Array.replicate 16 (.int .u8 0)) 24))
  rw [← hW]
  clear hW hr
  go_loopw [4, 5, 6, 7, 8, 31] (fun c _ _ _ _ _ wr => ∃ i : Nat, i ≤ 4 ∧ c = .int .i64 (4 * (i : Int)) ∧ Hid (Three cur (setTo (fun _ => 0) (mixCols cur) (4 * i)) w wr)) (fun c _ _ _ _ _ _ => 20 - (intOf c).toNat)
  case atStart => exact ⟨0, by omega, rfl, h0.congr (fun _ _ => rfl)⟩
  case round =>
    clear h0
    obtain ⟨i, hi, rfl, h⟩ := hrel
    by_cases hi4 : i < 4
    · have cc : ∀ j, j < 4 → wr.cell? ⟨w.heap.size, 4 * i + j, none⟩ = some (.int .u8 ((cur (4 * i + j)).toNat : Int)) := fun j hj => World.rowIs.cell h.out.r0 (by omega)
      have c0 : wr.cell? ⟨w.heap.size, 4 * i, none⟩ = some (.int .u8 ((cur (4 * i)).toNat : Int)) := cc 0 (by omega)
      have c1 := cc 1 (by omega)
      have c2 := cc 2 (by omega)
      have c3 := cc 3 (by omega)
      have q0 : 4 * (i : Int) < 16 := by omega
      have q1 : (0 : Int) ≤ 4 * (i : Int) := by omega
      have q2 : (4 * (i : Int)).toNat = 4 * i := by omega
      have a1 : IntKind.i64.wrap (4 * (i : Int) + 1) = 4 * (i : Int) + 1 := IntWalk.i64_in _ (by omega)
      have a2 : IntKind.i64.wrap (4 * (i : Int) + 2) = 4 * (i : Int) + 2 := IntWalk.i64_in _ (by omega)
      have a3 : IntKind.i64.wrap (4 * (i : Int) + 3) = 4 * (i : Int) + 3 := IntWalk.i64_in _ (by omega)
      have b1 : 4 * (i : Int) + 1 < 16 := by omega
      have b2 : 4 * (i : Int) + 2 < 16 := by omega
      have b3 : 4 * (i : Int) + 3 < 16 := by omega
      have d1 : (0 : Int) ≤ 4 * (i : Int) + 1 := by omega
      have d2 : (0 : Int) ≤ 4 * (i : Int) + 2 := by omega
      have d3 : (0 : Int) ≤ 4 * (i : Int) + 3 := by omega
      have e1 : (4 * (i : Int) + 1).toNat = 4 * i + 1 := by omega
      have e2 : (4 * (i : Int) + 2).toNat = 4 * i + 2 := by omega
      have e3 : (4 * (i : Int) + 3).toNat = 4 * i + 3 := by omega
      clear cc
      go_wp2
      refine region_still (by kernel_rfl) (by kernel_rfl) ?_
      repeat still_step
      refine wpStill_nil ?_
      go_wp2
      rw [xor8, xor8, xor8]
      obtain ⟨S1, hS1⟩ : ∃ S, S = cur (4 * i) ^^^ cur (4 * i + 1) := ⟨_, rfl⟩
      obtain ⟨S2, hS2⟩ : ∃ S, S = S1 ^^^ cur (4 * i + 2) := ⟨_, rfl⟩
      obtain ⟨S, hS⟩ : ∃ S, S = S2 ^^^ cur (4 * i + 3) := ⟨_, rfl⟩
      rw [← hS1, ← hS2, ← hS]
      have HS : Hid (S = colSum cur i) := by show _ = _; rw [hS, hS2, hS1]; rfl
      clear hS1 hS2
      have h1 : Three cur (setTo (fun _ => 0) (mixCols cur) (4 * i + 0)) w wr.drew := h.out.drew
      clear hS h c0 c1 c2 c3 a1 a2 a3 b1 b2 b3 d1 d2 d3 e1 e2 e3
      go_loopw [6, 7, 8, 31] (fun _ _ _ r wr' => ∃ j : Nat, j ≤ 4 ∧ r = .int .i64 (j : Int) ∧ Hid (Three cur (setTo (fun _ => 0) (mixCols cur) (4 * i + j)) w wr')) (fun _ _ _ r _ => 4 - (intOf r).toNat)
      case atStart => exact ⟨0, by omega, rfl, h1⟩
      case round =>
        clear h1
        obtain ⟨j, hj, rfl, h⟩ := hrel
        by_cases hj4 : j < 4
        · obtain ⟨m, hm⟩ : ∃ m, m = (j + 1) % 4 := ⟨_, rfl⟩
          have hm4 : m < 4 := by omega
          obtain ⟨e1, e2, e3, e4, e5, e6, e7⟩ := row_facts i j 1 m 1 rfl hi4 hj4 (by omega) hm
          obtain ⟨_, g2, g3, g4, g5⟩ := row_first i j hi4 hj4
          have c0 : wr.cell? ⟨w.heap.size, 4 * i + j, none⟩ = some (.int .u8 ((cur (4 * i + j)).toNat : Int)) := World.rowIs.cell h.out.r0 (by omega)
          have c1 : wr.cell? ⟨w.heap.size, 4 * i + m, none⟩ = some (.int .u8 ((cur (4 * i + m)).toNat : Int)) := World.rowIs.cell h.out.r0 (by omega)
          have c2 : wr.cell? ⟨w.heap.size + 2, 4 * i + j, none⟩ = some (.int .u8 ((0 : BitVec 8).toNat : Int)) := by
            rw [World.rowIs.cell h.out.r2 (show 4 * i + j < 16 by omega)]
            unfold setTo
            rw [if_neg (by omega)]
          have f2 : wr.frozen? ⟨w.heap.size + 2, 4 * i + j, none⟩ = false := World.rowIs.frozen h.out.r2 _
          have hnx : Hid (∀ v : Int, v = ((mixCols cur (4 * i + j)).toNat : Int) → Three cur (setTo (fun _ => 0) (mixCols cur) (4 * i + (j + 1))) w (wr.setCell ⟨w.heap.size + 2, 4 * i + j, none⟩ (.int .u8 v))) := fun v hv => h.out.set (setTo_next h.out.r2 v hv)
          have hmix : Hid (xtime (cur (4 * i + j) ^^^ cur (4 * i + m)) ^^^ S ^^^ cur (4 * i + j) = mixCols cur (4 * i + j)) := by show _ = _; rw [HS.out, hm, mix_by_sum cur i j hj4]
          have q3 : (j : Int) < 4 := by omega
          have q4 : (0 : Int) ≤ (j : Int) := by omega
          have x1 := xor8 (cur (4 * i + j)) (cur (4 * i + m))
          obtain ⟨B, hB⟩ : ∃ B, B = cur (4 * i + j) ^^^ cur (4 * i + m) := ⟨_, rfl⟩
          rw [← hB] at x1 hmix
          obtain ⟨D, hD⟩ : ∃ D, D = xtime B := ⟨_, rfl⟩
          rw [← hD] at hmix
          have hdb := fun W => double_any B W
          rw [← hD] at hdb
          have HD := Lib.hid hdb
          have x2 := xor8 D S
          obtain ⟨E, hE⟩ : ∃ E, E = D ^^^ S := ⟨_, rfl⟩
          rw [← hE] at x2 hmix
          have x3 := xor8 E (cur (4 * i + j))
          rw [hmix.out] at x3
          clear hB hD hE hdb
          clear hm hm4 h
          go_wp2
          refine region_still (by kernel_rfl) (by kernel_rfl) ?_
          repeat still_step
          refine wpStill_nil ?_
          go_wp2_with (go_at_call 95
                       refine (HD.out _).mono ?_
                       rintro x w9 ⟨rfl, rfl⟩)
          exact ⟨⟨j + 1, by omega, ival (by omega), (hnx.out _ rfl).drew⟩, by simp [intOf]; omega⟩
        · have q3 : ¬ (j : Int) < 4 := by omega
          have hj4' : j = 4 := by omega
          rw [hj4'] at h
          clear hj4'
          have h2 : Hid (Three cur (setTo (fun _ => 0) (mixCols cur) (4 * (i + 1))) w wr) := h
          clear h
          go_wp2
          exact ⟨⟨i + 1, by omega, ival (by omega), h2.out⟩, by simp [intOf]; omega⟩
    · have q0 : ¬ 4 * (i : Int) < 16 := by omega
      have hr : wr.rowIs (w.heap.size + 2) 24 16 (fun j => .int .u8 ((mixCols cur j).toNat : Int)) := World.rowIs.congr h.out.r2 (fun j hj => by unfold setTo; rw [if_pos (by omega)])
      have hz := h.out.r1
      have hb := h.out.hb
      go_wp2_with (first
        | (refine load_whole (by rfl) 24 (.tmp 3) (by rfl) _ _ _ _ hr (by rfl) _ Tryd.underlying24 rfl (by kernel_rfl) ?_)
        | (refine store_whole (by rfl) 24 (.tmp 2) (.tmp 59) (by rfl) (w.heap.size + 1) _ 16 _ _ hz (by rfl) _ (by rfl) (by kernel_rfl) (size_cellsOf _ _) (cellsOf_at _ _) (fun _ _ => rfl) ?_
           intro w6 hr6 ho6))
      exact bodyPost_ret (results_row rfl _ (w.heap.size + 1) _ _ _ _ (by rfl) hr6 Tryd.underlying24 rfl (by kernel_rfl)) rfl ⟨rfl, ho6.below hb (by omega)⟩
end Go.Proofs.YtaakhldhmoaplaaDoor.Aes

namespace Go.Proofs.YtaakhldhmoaplaaDoor.Aes
open Go Go.RowKit Go.Proofs.YtaakhldhmoaplaaDoor.Aid

theorem EncRows.store {key cur new : Blk} {r b5 b6 b7 : Nat} {w wr wr' : World} (h : EncRows key cur r b5 b6 b7 w wr) (ho : Only b7 wr wr') (hr : RowB wr' b7 24 16 new) (h4 : r ≠ b7) (h5 : b5 ≠ b7) (h6 : b6 ≠ b7) (hw : w.heap.size ≤ b7) : EncRows key new r b5 b6 b7 w wr' :=
  ⟨ho.row h.r4 h4, ho.row h.r5 h5, ho.row h.r6 h6, hr, ho.below h.hb hw⟩

set_option maxRecDepth 100000 in
set_option maxHeartbeats 4000000 in
theorem ownEncrypt_any (key block : Blk) (X Y : Array Value) (hX : X.size = 16) (hXi : ∀ i, i < 16 → X[i]? = some (.int .u8 ((key i).toNat : Int))) (hY : Y.size = 16) (hYi : ∀ i, i < 16 → Y[i]? = some (.int .u8 ((block i).toNat : Int))) (w : World) :
    Calls Tryd.prog 70 #[.agg X, .agg Y] w fun x w' => x = .returned (.agg (byteRow 16 (enc key block))) ∧ Below w.heap.size w w' := by
  have hr : ∀ (Z : Array Value), Z = Array.replicate 16 (.int .u8 0) → ∃ W, W = ((w.alloc (.cells X 24)).alloc (.cells Y 24)).alloc (.cells Z 24) ∧ RowB W w.heap.size 24 16 key ∧ RowB W (w.heap.size + 1) 24 16 block ∧ W.rowIs (w.heap.size + 2) 24 16 (fun _ => .int .u8 0) ∧ Below w.heap.size w W := fun Z hZ => by
    have s1 : (w.alloc (.cells X 24)).heap.size = w.heap.size + 1 := by simp
    have s2 : ((w.alloc (.cells X 24)).alloc (.cells Y 24)).heap.size = w.heap.size + 2 := by simp
    have r1 := ((row_new w X 24 16 (fun j => .int .u8 ((key j).toNat : Int)) hX hXi).alloc (.cells Y 24)).alloc (.cells Z 24)
    have r2 := (row_new (w.alloc (.cells X 24)) Y 24 16 (fun j => .int .u8 ((block j).toNat : Int)) hY hYi).alloc (.cells Z 24)
    have r3 := row_new ((w.alloc (.cells X 24)).alloc (.cells Y 24)) Z 24 16 _ (by rw [hZ]; simp) (zeros16 Z hZ)
    rw [s1] at r2
    rw [s2] at r3
    exact ⟨_, rfl, r1, r2, r3, (((Below.refl _ _).alloc (Nat.le_refl _) _).alloc (by simp) _).alloc (by rw [s2]; omega) _⟩
  have hrk : Hid (∀ i, i < 16 → keysTo key 11 i = roundKey key 0 i) := fun i hi => by have := keysTo_at key 11 0 i (by omega) hi; rw [Nat.mul_zero, Nat.zero_add] at this; exact this
  obtain ⟨hz1, _⟩ := zero_of_info (keys_zero _ rfl)
  obtain ⟨hz2, _⟩ := zero_of_info (boxes_zero _ rfl)
  clear hXi hYi
  go_enter Tryd.func70, Tryd.ntmps70
  go_wp2_with fail
  obtain ⟨W, hW, hk0, hb0, hz0, hl0⟩ := hr _ rfl
  change Calls Tryd.prog 83 _ (((w.alloc (.cells X 24)).alloc (.cells Y 24)).alloc (.cells (Array.replicate 16 (.int .u8 0)) 24)) _
  rw [← hW]
  clear hW hr
  refine (values_any W).mono ?_
  rintro x w1 ⟨rfl, hb1⟩
  have hk1 : RowB w1 w.heap.size _ 16 key := World.rowIs.of_block hk0 (hb1.block _ (World.rowIs.lt hk0))
  have hp1 : RowB w1 (w.heap.size + 1) _ 16 block := World.rowIs.of_block hb0 (hb1.block _ (World.rowIs.lt hb0))
  have hz1' := hz0.of_block (hb1.block _ hz0.lt)
  have hl1 := hl0.trans (hb1.mono hl0.size)
  have hs1 : w.heap.size + 2 < w1.heap.size := hz1'.lt
  clear hk0 hb0 hz0 hl0 hb1
  go_wp2_with (first
    | (refine store_whole (by rfl) 123 (.tmp 5) (.tmp 8) (by rfl) w1.heap.size _ 256 (fun _ => .int .u8 0) (fun j => .int .u8 ((boxAt j).toNat : Int)) (by exact row_new w1 _ _ 256 _ (size_cellsOf _ _) (cellsOf_at _ _)) (by rfl) _ (by rfl) (by kernel_rfl) (size_cellsOf _ _) (cellsOf_at _ _) (fun _ _ => rfl) ?_
       intro w2 hr2 ho2
       have hk2 : RowB w2 w.heap.size _ 16 key := ho2.row (World.rowIs.alloc hk1 _) (by omega)
       have hp2 : RowB w2 (w.heap.size + 1) _ 16 block := ho2.row (World.rowIs.alloc hp1 _) (by omega)
       have hz2' := ho2.row (hz1'.alloc _) (by omega)
       have hl2 := ho2.below (hl1.alloc hl1.size _) hl1.size
       have hs2 : w1.heap.size < w2.heap.size := hr2.lt
       clear hk1 hp1 hz1' hl1 ho2)
    | (refine load_whole (by rfl) 24 (.tmp 2) (by rfl) _ _ _ _ hk2 (by rfl) _ Tryd.underlying24 rfl (by kernel_rfl) ?_)
    | (go_at_call 84
       refine (keysBy_any key _ (size_cellsOf _ _) (cellsOf_at _ _) w2 w1.heap.size hr2).mono ?_
       rintro x w3 ⟨rfl, hb3⟩
       have hp3 : RowB w3 (w.heap.size + 1) _ 16 block := World.rowIs.of_block hp2 (hb3.block _ (World.rowIs.lt hp2))
       have hz3 := hz2'.of_block (hb3.block _ hz2'.lt)
       have hr3 : RowB w3 w1.heap.size _ 256 boxAt := World.rowIs.of_block hr2 (hb3.block _ hs2)
       have hl3 := hl2.trans (hb3.mono hl2.size)
       have hs3 := hb3.size
       clear hk2 hp2 hz2' hl2 hb3 hr2)
    | (refine store_whole (by rfl) 125 (.tmp 6) (.tmp 10) (by rfl) w3.heap.size _ 176 (fun _ => .int .u8 0) (fun t => .int .u8 ((keysTo key 11 t).toNat : Int)) (by exact row_new w3 _ _ 176 _ (size_cellsOf _ _) (cellsOf_at _ _)) (by rfl) _ (by rfl) (by kernel_rfl) (size_cellsOf _ _) (cellsOf_at _ _) (fun _ _ => rfl) ?_
       intro w4 hr4 ho4
       have hp4 : RowB w4 (w.heap.size + 1) _ 16 block := ho4.row (World.rowIs.alloc hp3 _) (by omega)
       have hz4 := ho4.row (hz3.alloc _) (by omega)
       have hx4 : RowB w4 w1.heap.size _ 256 boxAt := ho4.row (World.rowIs.alloc hr3 _) (by omega)
       have hl4 := ho4.below (hl3.alloc hl3.size _) hl3.size
       have hs4 : w3.heap.size < w4.heap.size := hr4.lt
       have h4 : Hid (EncRows key block (w.heap.size + 2) w1.heap.size w3.heap.size (w.heap.size + 1) w w4) := ⟨hz4, hx4, hr4, hp4, hl4⟩
       clear hp3 hz3 hr3 hl3 ho4 hz4 hx4 hl4)
    | (refine load_whole (by rfl) 24 (.tmp 3) (by rfl) _ _ _ _ hp4 (by rfl) _ Tryd.underlying24 rfl (by kernel_rfl) ?_)
    | (refine load_row (by rfl) 24 (.tmp 12) (by rfl) w3.heap.size 0 _ 176 16 _ hr4 (by rfl) _ Tryd.underlying24 rfl (by kernel_rfl) (by omega) ?_)
    | (go_at_call 85
       refine (add_any block (roundKey key 0) _ _ (size_cellsOf _ _) (cellsOf_at _ _) (size_cellsOf _ _) (fun i hi => (cellsOf_at _ _ _ hi).trans (by rw [← hrk.out i hi])) w4).mono ?_
       rintro x w5 ⟨rfl, hb5⟩
       have h5 := Lib.hid (h4.out.below hb5)
       have hp5 := h5.out.r7
       clear hp4 hr4 h4 hb5)
    | (refine store_whole (by rfl) 24 (.tmp 3) (.tmp 14) (by rfl) (w.heap.size + 1) _ 16 _ (fun t => .int .u8 ((addKey block (roundKey key 0) t).toNat : Int)) hp5 (by rfl) _ (by rfl) (by kernel_rfl) (size_cellsOf _ _) (cellsOf_at _ _) (fun _ _ => rfl) ?_
       intro w6 hr6 ho6))
  have h6 : EncRows key (encTo key block 0) (w.heap.size + 2) w1.heap.size w3.heap.size (w.heap.size + 1) w w6 := h5.out.store ho6 hr6 (by omega) (by omega) (by omega) (by omega)
  obtain ⟨B5, hB5⟩ : ∃ B, B = w1.heap.size := ⟨_, rfl⟩
  obtain ⟨B6, hB6⟩ : ∃ B, B = w3.heap.size := ⟨_, rfl⟩
  rw [← hB5] at h6 hs1 hs2 ⊢
  rw [← hB6] at h6 hs3 hs4 ⊢
  clear hr6 ho6 hp5 h5 hB5 hB6 hz1 hz2
  go_loopw [7, 15] (fun _ n wr => ∃ k : Nat, k ≤ 10 ∧ n = .int .i64 (k : Int) ∧ Hid (EncRows key (encTo key block k) (w.heap.size + 2) B5 B6 (w.heap.size + 1) w wr)) (fun _ n _ => 12 - (intOf n).toNat)
  case atStart => exact ⟨0, by omega, rfl, h6⟩
  case round =>
    clear h6
    obtain ⟨k, hk, rfl, h⟩ := hrel
    by_cases hlt : k < 10
    · have q0 : (k : Int) < 10 := by omega
      have q1 : (0 : Int) ≤ (k : Int) := by omega
      have p0 : (0 : Int) ≤ (k : Int) + 1 := by omega
      have p1 : (k : Int) + 1 < 11 := by omega
      have p2 : ((k : Int) + 1).toNat = k + 1 := by omega
      have e1 : IntKind.i64.wrap ((k : Int) + 1) = (k : Int) + 1 := IntWalk.i64_in _ (by omega)
      obtain ⟨cur, hcur⟩ : ∃ cur, cur = encTo key block k := ⟨_, rfl⟩
      rw [← hcur] at h
      have Hcur := Lib.hid hcur
      clear hcur
      have hr7 := h.out.r7
      have hr5 := h.out.r5
      by_cases h10 : k + 1 < 10
      · have q9 : (k : Int) < 9 := by omega
        go_wp2_with (first
          | (refine load_whole (by rfl) 24 (.tmp 3) (by rfl) _ _ _ _ hr7 (by rfl) _ Tryd.underlying24 rfl (by kernel_rfl) ?_)
          | (go_at_call 86
             refine (substitute_any cur _ (size_cellsOf _ _) (cellsOf_at _ _) wr B5 hr5).mono ?_
             rintro x w7 ⟨rfl, hb7⟩
             have h7 := Lib.hid (h.out.below hb7)
             have hr7' := h7.out.r7
             clear hr7 hr5 h hb7)
          | (refine store_whole (by rfl) 24 (.tmp 3) (.tmp 19) (by rfl) (w.heap.size + 1) _ 16 _ (fun t => .int .u8 ((subShift cur t).toNat : Int)) hr7' (by rfl) _ (by rfl) (by kernel_rfl) (size_cellsOf _ _) (cellsOf_at _ _) (fun _ _ => rfl) ?_
             intro w8 hr8 ho8
             have h8 : Hid (EncRows key (subShift cur) (w.heap.size + 2) B5 B6 (w.heap.size + 1) w w8) := h7.out.store ho8 hr8 (by omega) (by omega) (by omega) (by omega)
             clear ho8 hr7' h7)
          | (refine load_whole (by rfl) 24 (.tmp 3) (by rfl) _ _ _ _ hr8 (by rfl) _ Tryd.underlying24 rfl (by kernel_rfl) ?_)
          | (go_at_call 87
             refine (mix_any (subShift cur) _ (size_cellsOf _ _) (cellsOf_at _ _) w8).mono ?_
             rintro x w9 ⟨rfl, hb9⟩
             have h9 := Lib.hid (h8.out.below hb9)
             have hr9 := h9.out.r7
             clear hr8 h8 hb9)
          | (refine store_whole (by rfl) 24 (.tmp 3) (.tmp 23) (by rfl) (w.heap.size + 1) _ 16 _ (fun t => .int .u8 ((mixCols (subShift cur) t).toNat : Int)) hr9 (by rfl) _ (by rfl) (by kernel_rfl) (size_cellsOf _ _) (cellsOf_at _ _) (fun _ _ => rfl) ?_
             intro wz hrz hoz
             have hz : Hid (EncRows key (mixCols (subShift cur)) (w.heap.size + 2) B5 B6 (w.heap.size + 1) w wz) := h9.out.store hoz hrz (by omega) (by omega) (by omega) (by omega)
             clear hoz hr9 h9))
        obtain ⟨fin, hfin⟩ : ∃ fin, fin = mixCols (subShift cur) := ⟨_, rfl⟩
        rw [← hfin] at hrz hz
        have Hfin : Hid (encTo key block (k + 1) = addKey fin (roundKey key (k + 1))) := by
          show addKey (if k + 1 < 10 then mixCols (subShift (encTo key block k)) else subShift (encTo key block k)) _ = _
          rw [if_pos h10, hfin, Hcur.out]
        clear hfin
        refine region_tail 5 (by kernel_rfl) (by kernel_rfl) ?_
        simp only [List.take_succ_cons, List.take_zero, List.drop_succ_cons, List.drop_zero]
        have m7 : wz.drew.rowIs (w.heap.size + 1) _ 16 _ := hrz
        have m6 : wz.drew.rowIs B6 _ 176 _ := hz.out.r6
        repeat (first
          | (refine still_row (by rfl) 24 (.tmp 3) (by rfl) (w.heap.size + 1) 0 _ 16 16 _ m7 (by rfl) _ Tryd.underlying24 rfl (by kernel_rfl) (by omega) ?_)
          | (refine still_row (by rfl) 24 (.tmp 27) (by rfl) B6 ((k + 1) * 16) _ 176 16 _ m6 (by rfl) _ Tryd.underlying24 rfl (by kernel_rfl) (by omega) ?_)
          | still_step)
        refine wpStill_nil ?_
        go_wp2_with fail
        refine (add_any fin (roundKey key (k + 1)) _ _ (size_cellsOf _ _) (cellsOf_at _ _) (size_cellsOf _ _) (fun x hx => (cellsOf_at _ _ _ hx).trans (by rw [Nat.mul_comm, keysTo_at _ _ _ _ (by omega) hx])) wz.drew).mono ?_
        rintro x wa ⟨rfl, hba⟩
        have ha := Lib.hid (hz.out.drew.below hba)
        have hra := ha.out.r7
        clear hba hz hrz m6 m7
        go_wp2_with (refine store_whole (by rfl) 24 (.tmp 3) (.tmp 29) (by rfl) (w.heap.size + 1) _ 16 _ (fun x => .int .u8 ((addKey fin (roundKey key (k + 1)) x).toNat : Int)) hra (by rfl) _ (by rfl) (by kernel_rfl) (size_cellsOf _ _) (cellsOf_at _ _) (fun _ _ => rfl) ?_
                     intro wb hrb hob
                     have hb : Hid (EncRows key (encTo key block (k + 1)) (w.heap.size + 2) B5 B6 (w.heap.size + 1) w wb) := by
                       rw [Hfin.out]
                       exact ha.out.store hob hrb (by omega) (by omega) (by omega) (by omega)
                     clear hob hrb hra ha)
        exact ⟨⟨k + 1, by omega, ival (by omega), hb.out⟩, by simp [intOf]; omega⟩
      · have q9 : ¬ (k : Int) < 9 := by omega
        go_wp2_with (first
          | (refine load_whole (by rfl) 24 (.tmp 3) (by rfl) _ _ _ _ hr7 (by rfl) _ Tryd.underlying24 rfl (by kernel_rfl) ?_)
          | (go_at_call 86
             refine (substitute_any cur _ (size_cellsOf _ _) (cellsOf_at _ _) wr B5 hr5).mono ?_
             rintro x w7 ⟨rfl, hb7⟩
             have h7 := Lib.hid (h.out.below hb7)
             have hr7' := h7.out.r7
             clear hr7 hr5 h hb7)
          | (refine store_whole (by rfl) 24 (.tmp 3) (.tmp 19) (by rfl) (w.heap.size + 1) _ 16 _ (fun t => .int .u8 ((subShift cur t).toNat : Int)) hr7' (by rfl) _ (by rfl) (by kernel_rfl) (size_cellsOf _ _) (cellsOf_at _ _) (fun _ _ => rfl) ?_
             intro w8 hr8 ho8
             have h8 : Hid (EncRows key (subShift cur) (w.heap.size + 2) B5 B6 (w.heap.size + 1) w w8) := h7.out.store ho8 hr8 (by omega) (by omega) (by omega) (by omega)
             clear ho8 hr7' h7))
        obtain ⟨fin, hfin⟩ : ∃ fin, fin = subShift cur := ⟨_, rfl⟩
        rw [← hfin] at hr8 h8
        have Hfin : Hid (encTo key block (k + 1) = addKey fin (roundKey key (k + 1))) := by
          show addKey (if k + 1 < 10 then mixCols (subShift (encTo key block k)) else subShift (encTo key block k)) _ = _
          rw [if_neg h10, hfin, Hcur.out]
        clear hfin
        refine region_tail 5 (by kernel_rfl) (by kernel_rfl) ?_
        simp only [List.take_succ_cons, List.take_zero, List.drop_succ_cons, List.drop_zero]
        have m7 : w8.drew.rowIs (w.heap.size + 1) _ 16 _ := hr8
        have m6 : w8.drew.rowIs B6 _ 176 _ := h8.out.r6
        repeat (first
          | (refine still_row (by rfl) 24 (.tmp 3) (by rfl) (w.heap.size + 1) 0 _ 16 16 _ m7 (by rfl) _ Tryd.underlying24 rfl (by kernel_rfl) (by omega) ?_)
          | (refine still_row (by rfl) 24 (.tmp 27) (by rfl) B6 ((k + 1) * 16) _ 176 16 _ m6 (by rfl) _ Tryd.underlying24 rfl (by kernel_rfl) (by omega) ?_)
          | still_step)
        refine wpStill_nil ?_
        go_wp2_with fail
        refine (add_any fin (roundKey key (k + 1)) _ _ (size_cellsOf _ _) (cellsOf_at _ _) (size_cellsOf _ _) (fun x hx => (cellsOf_at _ _ _ hx).trans (by rw [Nat.mul_comm, keysTo_at _ _ _ _ (by omega) hx])) w8.drew).mono ?_
        rintro x wa ⟨rfl, hba⟩
        have ha := Lib.hid (h8.out.drew.below hba)
        have hra := ha.out.r7
        clear hba h8 hr8 m6 m7
        go_wp2_with (refine store_whole (by rfl) 24 (.tmp 3) (.tmp 29) (by rfl) (w.heap.size + 1) _ 16 _ (fun x => .int .u8 ((addKey fin (roundKey key (k + 1)) x).toNat : Int)) hra (by rfl) _ (by rfl) (by kernel_rfl) (size_cellsOf _ _) (cellsOf_at _ _) (fun _ _ => rfl) ?_
                     intro wb hrb hob
                     have hb : Hid (EncRows key (encTo key block (k + 1)) (w.heap.size + 2) B5 B6 (w.heap.size + 1) w wb) := by
                       rw [Hfin.out]
                       exact ha.out.store hob hrb (by omega) (by omega) (by omega) (by omega)
                     clear hob hrb hra ha)
        exact ⟨⟨k + 1, by omega, ival (by omega), hb.out⟩, by simp [intOf]; omega⟩
    · have q0 : ¬ (k : Int) < 10 := by omega
      have hk10 : k = 10 := by omega
      have hr7 : wr.rowIs (w.heap.size + 1) 24 16 (fun x => .int .u8 ((enc key block x).toNat : Int)) := by
        have := h.out.r7
        rw [hk10] at this
        exact this
      have hr4 := h.out.r4
      have hb := h.out.hb
      clear h hk10
      go_wp2_with (first
        | (refine load_whole (by rfl) 24 (.tmp 3) (by rfl) _ _ _ _ hr7 (by rfl) _ Tryd.underlying24 rfl (by kernel_rfl) ?_)
        | (refine store_whole (by rfl) 24 (.tmp 4) (.tmp 31) (by rfl) (w.heap.size + 2) _ 16 _ _ hr4 (by rfl) _ (by rfl) (by kernel_rfl) (size_cellsOf _ _) (cellsOf_at _ _) (fun _ _ => rfl) ?_
           intro w6 hr6 ho6))
      exact bodyPost_ret (results_row rfl _ (w.heap.size + 2) _ _ _ _ (by rfl) hr6 Tryd.underlying24 rfl (by kernel_rfl)) rfl ⟨rfl, ho6.below hb (by omega)⟩
end Go.Proofs.YtaakhldhmoaplaaDoor.Aes
