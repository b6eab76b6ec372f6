/-
  What the iterator of ctr.counters does: it yields the counters one behind the other, till the bytes end or the body stops.
-/
import Derived.Test.YtcdgdoeegehjhaaCtrNext
import Derived.Test.YtcdgdoeegehjhaaCount
import Derived.RangeFuncBound
import Derived.RangeFuncLeaves
import Derived.TacticsInMore
import Derived.OwnWalkIn
import Derived.LoopIn
namespace Go.Proofs.Ytcdgdoeegehjhaa.Ctr
open Go Go.RowKit Go.Proofs.Ytcdgdoeegehjhaa.Aid Go.Proofs.Ytcdgdoeegehjhaa.Aes
attribute [local go_sem] Oper.semAt_some

/-- The k-th pair that is yielded. -/
def pairAt (at_ : Blk) (k : Nat) : Array Value := #[.int .i64 (16 * (k : Int)), .agg (byteRow 16 (nextB at_ k))]
theorem wideF : WideF Fence.wide := .inl rfl
theorem nextB_zero (f : Blk) (i : Nat) (hi : i < 16) : nextB f 0 i = f i := by
  have h := nextB_acc f 0 (15 - i) (by omega)
  rw [show 15 - (15 - i) = i by omega] at h
  rw [h]
  have : acc f 0 (15 - i) = 0 := by unfold acc; exact Nat.div_eq_of_lt (valTo_lt f _)
  rw [this, Nat.zero_add, BitVec.ofNat_toNat, BitVec.setWidth_eq]
theorem ItStep.of_below {B : Nat} {W W' : World} (h : Below W.heap.size W W') : ItStep B W W' := ⟨h.os, h.tape, h.output, h.size, fun k hk _ => h.block k hk⟩

set_option maxRecDepth 100000 in
set_option maxHeartbeats 2000000 in
theorem counters_any (m : Nat) (at_ : Blk) (n : Nat) (hn : n ≤ 1000) (l Ba Bn : Nat) (w : World) (J Jx : Nat → World → Prop)
    (hV : ∀ k W, J k W → W.cell? ⟨Bn, 0, none⟩ = some (.int .i64 (n : Int)))
    (hJ : ∀ k W W', J k W → ItStep w.heap.size W W' → J k W') (hX : ∀ k W W', Jx k W → ItStep w.heap.size W W' → Jx k W')
    (hY : ∀ k W, 16 * k < n → w.heap.size < W.heap.size → J k W → YieldAt Fence.wide (m - 1) Try.prog l (pairAt at_ k) W fun e W' => (e = .returned (.bool true) ∧ J (k + 1) W' ∧ KeepsAt W W' w.heap.size) ∨ (e = .returned (.bool false) ∧ Jx (k + 1) W'))
    (hat : RowB w Ba 22 16 at_) (h0 : J 0 w) :
    CallsIn Fence.wide m Try.prog 15 #[.func (.yield l) #[] #[], .pointer (some ⟨Ba, 0, none⟩), .pointer (some ⟨Bn, 0, none⟩)] w
      fun e W' => (∃ v, e = .returned v) ∧ ((∃ k, n ≤ 16 * k ∧ J k W') ∨ ∃ k, Jx k W') := by
  refine callsIn_of_wp Try.func15 rfl trivial ?_ rfl
  simp only [Try.ntmps15, List.size_toArray, List.length_cons, List.length_nil, Nat.reduceAdd, Nat.reduceSub, Array.replicate_succ, Array.replicate_zero, List.push_toArray, List.append_toArray, List.nil_append, List.cons_append]
  gi_wp2_with (first
    | (refine loadIn_whole wideF (by rfl) 22 (.tmp 1) (by rfl) _ _ _ _ hat (by rfl) _ Try.underlying22 rfl (by kernel_rfl) ?_)
    | (refine storeIn_whole wideF (by rfl) 22 (.tmp 4) (.tmp 6) (by rfl) w.heap.size _ 16 (fun _ => .int .u8 0) (fun j => .int .u8 ((at_ j).toNat : Int)) (by exact row_new w _ _ 16 _ (by rfl) (zeros16 _ (by rfl))) (by rfl) _ (by rfl) (by kernel_rfl) (size_cellsOf _ _) (cellsOf_at _ _) (fun _ _ => rfl) ?_
       intro w1 hr1 ho1))
  have h1 : J 0 w1 := hJ 0 w w1 h0 ⟨ho1.os, ho1.tape, ho1.output, by rw [ho1.size]; simp, fun k hk hne => by rw [ho1.block k hne]; exact Below.heap_alloc _ _ _ hk⟩
  have HJ := Lib.hid hJ
  have HX := Lib.hid hX
  have HY := Lib.hid hY
  have HV := Lib.hid hV
  clear hJ hX hY hV ho1 hat h0
  gi_loopw [5] (fun p wr => ∃ k : Nat, p = .int .i64 (16 * (k : Int)) ∧ 16 * k ≤ n + 15 ∧ J k wr ∧ RowB wr w.heap.size 22 16 (nextB at_ k)) (fun p _ => n + 16 - (intOf p).toNat)
  case atStart => exact ⟨0, rfl, by omega, h1, World.rowIs.congr hr1 (fun i hi => by rw [nextB_zero _ i hi])⟩
  case round =>
    clear h1 hr1
    obtain ⟨k, rfl, hk, hJk, hrow⟩ := hrel
    have c0 := HV.out k wr hJk
    by_cases hlt : 16 * k < n
    · have q0 : 16 * (k : Int) < (n : Int) := by omega
      obtain ⟨fn, tp, asg, bd, hy, hR⟩ := HY.out k wr hlt (World.rowIs.lt hrow) hJk
      have e1 : IntKind.i64.wrap (16 * (k : Int) + 16) = 16 * (k : Int) + 16 := IntWalk.i64_in _ (by omega)
      simp only [pairAt, byteRow] at hy
      gi_wp2_with (first
        | (refine loadIn_whole_if wideF (by rfl) 22 (.tmp 4) (by rfl) _ _ _ _ hrow (by rfl) _ Try.underlying22 rfl (by kernel_rfl) ?_))
      refine ⟨fun hx => by simp [Fence.wide] at hx, hR.mono ?_⟩
      rintro e w2 (⟨rfl, hJ2, hk2⟩ | ⟨rfl, hX2⟩)
      · have hrow2 : RowB w2 w.heap.size 22 16 (nextB at_ k) := World.rowIs.of_block hrow hk2
        gi_wp2_with (first
          | (refine loadIn_whole wideF (by rfl) 22 (.tmp 4) (by rfl) _ _ _ _ hrow2 (by rfl) _ Try.underlying22 rfl (by kernel_rfl) ?_)
          | (refine ⟨trivial, fun hx => by simp [Fence.wide] at hx, ?_⟩
             gi_at_call 10
             refine (callsIn_wide.2 (ctrNext_any (nextB at_ k) 1 (by omega) _ (size_cellsOf _ _) (cellsOf_at _ _) w2)).mono ?_
             rintro x w3 ⟨rfl, hb3⟩
             have hrow3 : RowB w3 w.heap.size 22 16 (nextB at_ k) := World.rowIs.of_block hrow2 (hb3.block _ (World.rowIs.lt hrow2))
             have hJ3 : J (k + 1) w3 := HJ.out _ _ _ hJ2 (ItStep.of_below hb3)
             clear hb3)
          | (refine storeIn_whole wideF (by rfl) 22 (.tmp 4) (.tmp 19) (by rfl) w.heap.size _ 16 _ (fun j => .int .u8 ((nextB (nextB at_ k) 1 j).toNat : Int)) hrow3 (by rfl) _ (by rfl) (by kernel_rfl) (size_cellsOf _ _) (cellsOf_at _ _) (fun _ _ => rfl) ?_
             intro w4 hr4 ho4
             have hJ4 : J (k + 1) w4 := HJ.out _ _ _ hJ3 ⟨ho4.os, ho4.tape, ho4.output, by rw [ho4.size]; exact Nat.le_refl _, fun b _ hne => ho4.block b hne⟩))
        exact ⟨⟨k + 1, ival (by omega), by omega, hJ4, World.rowIs.congr hr4 (fun i _ => by rw [nextB_nextB])⟩, by simp [intOf]; omega⟩
      · gi_wp2
        go_end0
        exact ⟨⟨_, rfl⟩, .inr ⟨k + 1, hX2⟩⟩
    · have q0 : ¬ 16 * (k : Int) < (n : Int) := by omega
      gi_wp2_with (refine skipIn wideF (by rfl) ?_)
      go_end0
      exact ⟨⟨_, rfl⟩, .inl ⟨k, by omega, hJk⟩⟩
end Go.Proofs.Ytcdgdoeegehjhaa.Ctr
