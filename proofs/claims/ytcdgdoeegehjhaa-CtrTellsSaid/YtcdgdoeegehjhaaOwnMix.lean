/-
  What aes.mix does: each column anew of all four bytes of it.
-/
import Derived.Test.YtcdgdoeegehjhaaOwnThree
import Derived.Test.YtcdgdoeegehjhaaOwnDouble
import Derived.Test.YtcdgdoeegehjhaaRefEncrypt
namespace Go.Proofs.Ytcdgdoeegehjhaa.Aes
open Go Go.RowKit Go.Proofs.Ytcdgdoeegehjhaa.Aid

def colSum (t : Blk) (i : Nat) : BitVec 8 := t (4 * i) ^^^ t (4 * i + 1) ^^^ t (4 * i + 2) ^^^ t (4 * i + 3)
theorem mix_by_sum (t : Blk) (i j : Nat) (hj : j < 4) : xtime (t (4 * i + j) ^^^ t (4 * i + (j + 1) % 4)) ^^^ colSum t i ^^^ t (4 * i + j) = mixCols t (4 * i + j) := by
  have h0 : ∀ a b c d : BitVec 8, xtime (a ^^^ b) ^^^ (a ^^^ b ^^^ c ^^^ d) ^^^ a = times 2 a ^^^ times 3 b ^^^ c ^^^ d := fun a b c d => by
    rw [xtime_add, two_times, three_times]
    have : xtime a ^^^ xtime b ^^^ (a ^^^ b ^^^ c ^^^ d) ^^^ a = (xtime a ^^^ (xtime b ^^^ b) ^^^ c ^^^ d) ^^^ (a ^^^ a) := by ac_rfl
    rw [this, BitVec.xor_self, BitVec.xor_zero]
  have hs : colSum t i = t (4 * i + j) ^^^ t (4 * i + (j + 1) % 4) ^^^ t (4 * i + (j + 2) % 4) ^^^ t (4 * i + (j + 3) % 4) := by
    unfold colSum
    have : j = 0 ∨ j = 1 ∨ j = 2 ∨ j = 3 := by omega
    rcases this with rfl | rfl | rfl | rfl
    · rfl
    · show t (4 * i) ^^^ t (4 * i + 1) ^^^ t (4 * i + 2) ^^^ t (4 * i + 3) = t (4 * i + 1) ^^^ t (4 * i + 2) ^^^ t (4 * i + 3) ^^^ t (4 * i); ac_rfl
    · show t (4 * i) ^^^ t (4 * i + 1) ^^^ t (4 * i + 2) ^^^ t (4 * i + 3) = t (4 * i + 2) ^^^ t (4 * i + 3) ^^^ t (4 * i) ^^^ t (4 * i + 1); ac_rfl
    · show t (4 * i) ^^^ t (4 * i + 1) ^^^ t (4 * i + 2) ^^^ t (4 * i + 3) = t (4 * i + 3) ^^^ t (4 * i) ^^^ t (4 * i + 1) ^^^ t (4 * i + 2); ac_rfl
  rw [hs, h0]
  unfold mixCols
  rw [show (4 * i + j) / 4 = i by omega, show (4 * i + j) % 4 = j by omega]

set_option maxRecDepth 100000 in
set_option maxHeartbeats 1000000 in
theorem mix_any (cur : Blk) (X : Array Value) (hX : X.size = 16) (hXi : ∀ i, i < 16 → X[i]? = some (.int .u8 ((cur i).toNat : Int))) (w : World) :
    Calls Try.prog 20 #[.agg X] w fun r w' => r = .returned (.agg (byteRow 16 (mixCols cur))) ∧ Below w.heap.size w w' := by
  have hr := Lib.hid (fun Z hZ => three_new cur X Z hX hXi hZ w)
  clear hXi
  go_enter Try.func20, Try.ntmps20
  go_wp2
  obtain ⟨W, hW, h0⟩ := hr.out _ rfl
  change Code.wp _ _ _ _ (((w.alloc (.cells X 22)).alloc (.cells (Array.replicate 16 (.int .u8 0)) 22)).alloc (.cells (Array.replicate 16 (.int .u8 0)) 22))
  rw [← hW]
  clear hW hr
  go_loopw [4, 5, 6, 7, 8, 31] (fun c _ _ _ _ _ wr => ∃ i : Nat, i ≤ 4 ∧ c = .int .i64 (4 * (i : Int)) ∧ Hid (Three cur (setTo (fun _ => 0) (mixCols cur) (4 * i)) w wr)) (fun c _ _ _ _ _ _ => 20 - (intOf c).toNat)
  case atStart => exact ⟨0, by omega, rfl, h0.congr (fun _ _ => rfl)⟩
  case round =>
    clear h0
    obtain ⟨i, hi, rfl, h⟩ := hrel
    by_cases hi4 : i < 4
    · have cc : ∀ j, j < 4 → wr.cell? ⟨w.heap.size, 4 * i + j, none⟩ = some (.int .u8 ((cur (4 * i + j)).toNat : Int)) := fun j hj => World.rowIs.cell h.out.r0 (by omega)
      have c0 : wr.cell? ⟨w.heap.size, 4 * i, none⟩ = some (.int .u8 ((cur (4 * i)).toNat : Int)) := cc 0 (by omega)
      have c1 := cc 1 (by omega)
      have c2 := cc 2 (by omega)
      have c3 := cc 3 (by omega)
      have q0 : 4 * (i : Int) < 16 := by omega
      have q1 : (0 : Int) ≤ 4 * (i : Int) := by omega
      have q2 : (4 * (i : Int)).toNat = 4 * i := by omega
      have a1 : IntKind.i64.wrap (4 * (i : Int) + 1) = 4 * (i : Int) + 1 := IntWalk.i64_in _ (by omega)
      have a2 : IntKind.i64.wrap (4 * (i : Int) + 2) = 4 * (i : Int) + 2 := IntWalk.i64_in _ (by omega)
      have a3 : IntKind.i64.wrap (4 * (i : Int) + 3) = 4 * (i : Int) + 3 := IntWalk.i64_in _ (by omega)
      have b1 : 4 * (i : Int) + 1 < 16 := by omega
      have b2 : 4 * (i : Int) + 2 < 16 := by omega
      have b3 : 4 * (i : Int) + 3 < 16 := by omega
      have d1 : (0 : Int) ≤ 4 * (i : Int) + 1 := by omega
      have d2 : (0 : Int) ≤ 4 * (i : Int) + 2 := by omega
      have d3 : (0 : Int) ≤ 4 * (i : Int) + 3 := by omega
      have e1 : (4 * (i : Int) + 1).toNat = 4 * i + 1 := by omega
      have e2 : (4 * (i : Int) + 2).toNat = 4 * i + 2 := by omega
      have e3 : (4 * (i : Int) + 3).toNat = 4 * i + 3 := by omega
      clear cc
      go_wp2
      refine region_still (by kernel_rfl) (by kernel_rfl) ?_
      repeat still_step
      refine wpStill_nil ?_
      go_wp2
      rw [xor8, xor8, xor8]
      obtain ⟨S1, hS1⟩ : ∃ S, S = cur (4 * i) ^^^ cur (4 * i + 1) := ⟨_, rfl⟩
      obtain ⟨S2, hS2⟩ : ∃ S, S = S1 ^^^ cur (4 * i + 2) := ⟨_, rfl⟩
      obtain ⟨S, hS⟩ : ∃ S, S = S2 ^^^ cur (4 * i + 3) := ⟨_, rfl⟩
      rw [← hS1, ← hS2, ← hS]
      have HS : Hid (S = colSum cur i) := by show _ = _; rw [hS, hS2, hS1]; rfl
      clear hS1 hS2
      have h1 : Three cur (setTo (fun _ => 0) (mixCols cur) (4 * i + 0)) w wr.drew := h.out.drew
      clear hS h c0 c1 c2 c3 a1 a2 a3 b1 b2 b3 d1 d2 d3 e1 e2 e3
      go_loopw [6, 7, 8, 31] (fun _ _ _ r wr' => ∃ j : Nat, j ≤ 4 ∧ r = .int .i64 (j : Int) ∧ Hid (Three cur (setTo (fun _ => 0) (mixCols cur) (4 * i + j)) w wr')) (fun _ _ _ r _ => 4 - (intOf r).toNat)
      case atStart => exact ⟨0, by omega, rfl, h1⟩
      case round =>
        clear h1
        obtain ⟨j, hj, rfl, h⟩ := hrel
        by_cases hj4 : j < 4
        · obtain ⟨m, hm⟩ : ∃ m, m = (j + 1) % 4 := ⟨_, rfl⟩
          have hm4 : m < 4 := by omega
          obtain ⟨e1, e2, e3, e4, e5, e6, e7⟩ := row_facts i j 1 m 1 rfl hi4 hj4 (by omega) hm
          obtain ⟨_, g2, g3, g4, g5⟩ := row_first i j hi4 hj4
          have c0 : wr.cell? ⟨w.heap.size, 4 * i + j, none⟩ = some (.int .u8 ((cur (4 * i + j)).toNat : Int)) := World.rowIs.cell h.out.r0 (by omega)
          have c1 : wr.cell? ⟨w.heap.size, 4 * i + m, none⟩ = some (.int .u8 ((cur (4 * i + m)).toNat : Int)) := World.rowIs.cell h.out.r0 (by omega)
          have c2 : wr.cell? ⟨w.heap.size + 2, 4 * i + j, none⟩ = some (.int .u8 ((0 : BitVec 8).toNat : Int)) := by
            rw [World.rowIs.cell h.out.r2 (show 4 * i + j < 16 by omega)]
            unfold setTo
            rw [if_neg (by omega)]
          have f2 : wr.frozen? ⟨w.heap.size + 2, 4 * i + j, none⟩ = false := World.rowIs.frozen h.out.r2 _
          have hnx : Hid (∀ v : Int, v = ((mixCols cur (4 * i + j)).toNat : Int) → Three cur (setTo (fun _ => 0) (mixCols cur) (4 * i + (j + 1))) w (wr.setCell ⟨w.heap.size + 2, 4 * i + j, none⟩ (.int .u8 v))) := fun v hv => h.out.set (setTo_next h.out.r2 v hv)
          have hmix : Hid (xtime (cur (4 * i + j) ^^^ cur (4 * i + m)) ^^^ S ^^^ cur (4 * i + j) = mixCols cur (4 * i + j)) := by show _ = _; rw [HS.out, hm, mix_by_sum cur i j hj4]
          have q3 : (j : Int) < 4 := by omega
          have q4 : (0 : Int) ≤ (j : Int) := by omega
          have x1 := xor8 (cur (4 * i + j)) (cur (4 * i + m))
          obtain ⟨B, hB⟩ : ∃ B, B = cur (4 * i + j) ^^^ cur (4 * i + m) := ⟨_, rfl⟩
          rw [← hB] at x1 hmix
          obtain ⟨D, hD⟩ : ∃ D, D = xtime B := ⟨_, rfl⟩
          rw [← hD] at hmix
          have hdb := fun W => double_any B W
          rw [← hD] at hdb
          have HD := Lib.hid hdb
          have x2 := xor8 D S
          obtain ⟨E, hE⟩ : ∃ E, E = D ^^^ S := ⟨_, rfl⟩
          rw [← hE] at x2 hmix
          have x3 := xor8 E (cur (4 * i + j))
          rw [hmix.out] at x3
          clear hB hD hE hdb
          clear hm hm4 h
          go_wp2
          refine region_still (by kernel_rfl) (by kernel_rfl) ?_
          repeat still_step
          refine wpStill_nil ?_
          go_wp2_with (go_at_call 26
                       refine (HD.out _).mono ?_
                       rintro x w9 ⟨rfl, rfl⟩)
          exact ⟨⟨j + 1, by omega, ival (by omega), (hnx.out _ rfl).drew⟩, by simp [intOf]; omega⟩
        · have q3 : ¬ (j : Int) < 4 := by omega
          have hj4' : j = 4 := by omega
          rw [hj4'] at h
          clear hj4'
          have h2 : Hid (Three cur (setTo (fun _ => 0) (mixCols cur) (4 * (i + 1))) w wr) := h
          clear h
          go_wp2
          exact ⟨⟨i + 1, by omega, ival (by omega), h2.out⟩, by simp [intOf]; omega⟩
    · have q0 : ¬ 4 * (i : Int) < 16 := by omega
      have hr : wr.rowIs (w.heap.size + 2) 22 16 (fun j => .int .u8 ((mixCols cur j).toNat : Int)) := World.rowIs.congr h.out.r2 (fun j hj => by unfold setTo; rw [if_pos (by omega)])
      have hz := h.out.r1
      have hb := h.out.hb
      go_wp2_with (first
        | (refine load_whole (by rfl) 22 (.tmp 3) (by rfl) _ _ _ _ hr (by rfl) _ Try.underlying22 rfl (by kernel_rfl) ?_)
        | (refine store_whole (by rfl) 22 (.tmp 2) (.tmp 59) (by rfl) (w.heap.size + 1) _ 16 _ _ hz (by rfl) _ (by rfl) (by kernel_rfl) (size_cellsOf _ _) (cellsOf_at _ _) (fun _ _ => rfl) ?_
           intro w6 hr6 ho6))
      exact bodyPost_ret (results_row rfl _ (w.heap.size + 1) _ _ _ _ (by rfl) hr6 Try.underlying22 rfl (by kernel_rfl)) rfl ⟨rfl, ho6.below hb (by omega)⟩
end Go.Proofs.Ytcdgdoeegehjhaa.Aes
