/-
  What bartizanref09.Same does of the same parts: true.
-/
import Derived.Test.YtmnddjoncciimaaPartsAt
import Derived.Deep.Draws
namespace Go.Proofs.Ytmnddjoncciimaa.Field
open Go Go.RowKit Go.Proofs.Ytmnddjoncciimaa.Aid Go.Proofs.Ytmnddjoncciimaa.Law01

set_option maxRecDepth 100000 in
set_option maxHeartbeats 2000000 in
theorem refSame_any (len : Nat) (m : Nat → Nat) (e : Nat → Nat → BitVec 8) (a b : Value) (w : World) (ha : PartsOf w len m e a) (hb : PartsOf w len m e b) (hl : len ≤ 1000000) (hm : ∀ i, i < len → m i ≤ 1000000) :
    Calls Try.prog 17 #[a, b] w fun x w' => x = .returned (.bool true) ∧ Below w.heap.size w w' := by
  have HA := Lib.hid ha
  have HB := Lib.hid hb
  obtain ⟨A, c, rfl, -⟩ := ha
  obtain ⟨B, d, rfl, -⟩ := hb
  go_enter Try.func17, Try.ntmps17
  go_wp2
  go_loopw [5, 6] (fun i k wr => ∃ n : Nat, n ≤ len ∧ i = .int .i64 (n : Int) ∧ Hid (Below w.heap.size w wr)) (fun i _ _ => len - (intOf i).toNat)
  case atStart => exact ⟨0, by omega, rfl, Below.refl _ _⟩
  case round =>
    obtain ⟨n, hn, rfl, hbw⟩ := hrel
    by_cases hlt : n < len
    · obtain ⟨sa, sx, A', c', rfl, ca, hsa⟩ := PartsOf.at_ HA.out n hlt
      obtain ⟨sb, sy, B', d', rfl, cb, hsb⟩ := PartsOf.at_ HB.out n hlt
      have q0 : (0 : Int) ≤ (n : Int) := by omega
      have q1 : (n : Int) < (len : Int) := by omega
      have ca' := (hbw.out.cell (p := ⟨sa, sx + n, none⟩) (block_lt_of_cell ca)).trans ca
      have cb' := (hbw.out.cell (p := ⟨sb, sy + n, none⟩) (block_lt_of_cell cb)).trans cb
      have CA := Lib.hid ca
      have CB := Lib.hid cb
      have HSA := Lib.hid hsa
      have HSB := Lib.hid hsb
      clear ca cb hsa hsb HA HB
      go_wp2
      refine region_still (by kernel_rfl) (by kernel_rfl) ?_
      repeat still_step
      refine wpStill_nil ?_
      go_wp2
      have hmn := hm n hlt
      have hbd : Hid (Below w.heap.size w wr.drew) := hbw.out.drew
      clear ca' cb' hbw hm
      go_loopw [6] (fun k wi => ∃ j : Nat, j ≤ m n ∧ k = .int .i64 (j : Int) ∧ Hid (Below w.heap.size w wi)) (fun k _ => m n - (intOf k).toNat)
      case atStart => exact ⟨0, by omega, rfl, hbd⟩
      case round =>
        clear hbd
        obtain ⟨j, hj, rfl, hbi⟩ := hrel
        have ca' := (hbi.out.cell (p := ⟨sa, sx + n, none⟩) (block_lt_of_cell CA.out)).trans CA.out
        have cb' := (hbi.out.cell (p := ⟨sb, sy + n, none⟩) (block_lt_of_cell CB.out)).trans CB.out
        by_cases hjl : j < m n
        · obtain ⟨pa, px, rfl, hpa⟩ := SliceOf.at_ HSA.out (by omega)
          obtain ⟨pb, py, rfl, hpb⟩ := SliceOf.at_ HSB.out (by omega)
          have d0 := (hbi.out.cell (p := ⟨pa, px + j, none⟩) (block_lt_of_cell (hpa j hjl))).trans (hpa j hjl)
          have d1 := (hbi.out.cell (p := ⟨pb, py + j, none⟩) (block_lt_of_cell (hpb j hjl))).trans (hpb j hjl)
          have o0 : (0 : Int) ≤ (j : Int) := by omega
          have o1 : (j : Int) < (m n : Int) := by omega
          clear hpa hpb HSA HSB CA CB
          go_wp2
          refine region_still (by kernel_rfl) (by kernel_rfl) ?_
          repeat still_step
          refine wpStill_nil ?_
          go_wp2
          exact ⟨⟨j + 1, by omega, congrArg (Value.int .i64) (by omega), hbi.out.drew⟩, by simp [intOf]; omega⟩
        · obtain rfl : j = m n := by omega
          clear HSA HSB CA CB
          go_wp2
          exact ⟨⟨n + 1, by omega, congrArg (Value.int .i64) (by omega), hbi⟩, by simp [intOf]; omega⟩
    · obtain rfl : n = len := by omega
      clear HA HB
      go_wp2
      go_ret
      exact ⟨rfl, hbw.out⟩
end Go.Proofs.Ytmnddjoncciimaa.Field
