/-
  What ctr.Next does: the program's own counter further on. What the iterator of ctr.counters does: it yields the counters one behind the other, till the bytes end or the body stops. What ctr.Flip does: counter mode, as the program has it.
-/
import Derived.Test.YtnkjoambhmlnbaaGreatDoorBd32
import Derived.Test.YtnkjoambhmlnbaaGreatDoorBd33
import Derived.Test.YtnkjoambhmlnbaaGreatDoorBd28
import Derived.Test.YtnkjoambhmlnbaaGreatDoorBd07
import Derived.Laws.Bits64b
import Derived.RangeFuncBound
import Derived.RangeFuncLeaves
import Derived.TacticsInMore
import Derived.OwnWalkIn
import Derived.LoopIn
import Derived.LoopNIn
import Derived.Shelf.Abstract
namespace Go.Proofs.YtnkjoambhmlnbaaGreatDoor.Ctr
open Go Go.RowKit Go.Proofs.YtnkjoambhmlnbaaGreatDoor.Aid Go.Proofs.YtnkjoambhmlnbaaGreatDoor.Aes

theorem and255 (B : Nat) (h : B < 2 ^ 64) : bits .and .u64 (B : Int) 255 = ((B % 256 : Nat) : Int) := by
  rw [show (255 : Int) = ((255 : Nat) : Int) from rfl, bits_and_u64_nat B 255 (by omega) (by omega), show (255 : Nat) = 2 ^ 8 - 1 by decide, Nat.and_two_pow_sub_one_eq_mod]

set_option maxRecDepth 100000 in
set_option maxHeartbeats 1000000 in
theorem ctrNext_any (at_ : Blk) (by_ : Nat) (hby : by_ < 2 ^ 64) (X : Array Value) (hX : X.size = 16) (hXi : ∀ i, i < 16 → X[i]? = some (.int .u8 ((at_ i).toNat : Int))) (w : World) :
    Calls Tryz.prog 89 #[.agg X, .int .u64 (by_ : Int)] w fun x w' => x = .returned (.agg (byteRow 16 (nextB at_ by_))) ∧ Below w.heap.size w w' := by
  have hr := Lib.hid (fun Z hZ => next_new at_ X Z hX hXi hZ w)
  have Hby := Lib.hid hby
  clear hXi hby
  go_enter Tryz.func89, Tryz.ntmps89
  go_wp2
  obtain ⟨W, hW, h0⟩ := hr.out _ rfl
  change Code.wp _ _ _ _ ((w.alloc (.cells X 24)).alloc (.cells (Array.replicate 16 (.int .u8 0)) 24))
  rw [← hW]
  clear hW hr
  go_loopw [1, 5, 6, 7] (fun b c i _ wr => ∃ k B C : Nat, k ≤ 16 ∧ C ≤ 1 ∧ b = .int .u64 (B : Int) ∧ c = .int .u64 (C : Int) ∧ i = .int .i64 (15 - (k : Int)) ∧ Hid (B < 2 ^ 64) ∧ Hid (acc at_ by_ k = B + C) ∧ Hid (NextRel (downTo at_ (nextB at_ by_) k) w wr)) (fun _ _ i _ _ => (intOf i + 1).toNat)
  case atStart => exact ⟨0, by_, 0, by omega, by omega, rfl, rfl, rfl, Hby.out, acc_zero at_ by_, h0.congr (fun i hi => by unfold downTo; rw [if_neg (by omega)])⟩
  case round =>
    clear h0
    obtain ⟨k, B, C, hk, hC, rfl, rfl, rfl, HB, H, h⟩ := hrel
    by_cases hlt : k < 16
    · obtain ⟨i, hi⟩ : ∃ i, i = 15 - k := ⟨_, rfl⟩
      have hi16 : i < 16 := by omega
      have e0 : (15 : Int) - (k : Int) = (i : Int) := by omega
      have hst := ref_step hlt hC H.out
      have c0 : wr.cell? ⟨w.heap.size, i, none⟩ = some (.int .u8 ((at_ i).toNat : Int)) := by
        rw [World.rowIs.cell h.out.r0 hi16]
        unfold downTo
        rw [if_neg (by omega)]
      have f0 : wr.frozen? ⟨w.heap.size, i, none⟩ = false := World.rowIs.frozen h.out.r0 i
      have hnx : Hid (∀ v : Int, v = ((nextB at_ by_ i).toNat : Int) → NextRel (downTo at_ (nextB at_ by_) (k + 1)) w (wr.setCell ⟨w.heap.size, i, none⟩ (.int .u8 v))) := fun v hv => by
        rw [hi] at hv ⊢
        exact h.out.set (downTo_next hlt h.out.r0 v hv)
      rw [← hi] at hst
      obtain ⟨m, hm⟩ : ∃ m, m = B % 256 := ⟨_, rfl⟩
      rw [← hm] at hst
      have hm256 : m < 256 := by omega
      have hby8 := (at_ i).isLt
      obtain ⟨N, hN⟩ : ∃ N, N = (at_ i).toNat + m + C := ⟨_, rfl⟩
      rw [← hN] at hst
      have e1 : bits .and .u64 (B : Int) 255 = (m : Int) := by rw [and255 B HB.out]; omega
      have e2 : ((at_ i).toNat : Int) + (m : Int) + (C : Int) = (N : Int) := by omega
      have hN600 : N < 600 := by omega
      have q1 : (0 : Int) ≤ (i : Int) := by omega
      have q2 : (i : Int) < 16 := by omega
      have Hst := Lib.hid hst
      have Hm := Lib.hid hm
      have HN := Lib.hid hN
      have Hi := Lib.hid hi
      rw [e0]
      clear hst hm hN h hi e0
      go_wp2
      have hB := HB.out
      exact ⟨⟨k + 1, B / 256, N / 256, by omega, Hst.out.2.2, ival (by omega), ival (by omega), ival (by have := Hi.out; omega), Nat.lt_of_le_of_lt (Nat.div_le_self _ _) hB, Hst.out.2.1, hnx.out _ (by have := Hst.out.1; omega)⟩, by simp [intOf]⟩
    · have q0 : ¬ (0 : Int) ≤ 15 - (k : Int) := by omega
      have hr : wr.rowIs w.heap.size 24 16 (fun j => .int .u8 ((nextB at_ by_ j).toNat : Int)) := World.rowIs.congr h.out.r0 (fun j hj => by unfold downTo; rw [if_pos (by omega)])
      have hz := h.out.r1
      have hb := h.out.hb
      go_wp2_with (first
        | (refine load_whole (by rfl) 24 (.tmp 2) (by rfl) _ _ _ _ hr (by rfl) _ Tryz.underlying24 rfl (by kernel_rfl) ?_)
        | (refine store_whole (by rfl) 24 (.tmp 4) (.tmp 29) (by rfl) (w.heap.size + 1) _ 16 _ _ hz (by rfl) _ (by rfl) (by kernel_rfl) (size_cellsOf _ _) (cellsOf_at _ _) (fun _ _ => rfl) ?_
           intro w6 hr6 ho6))
      exact bodyPost_ret (results_row rfl _ (w.heap.size + 1) _ _ _ _ (by rfl) hr6 Tryz.underlying24 rfl (by kernel_rfl)) rfl ⟨rfl, ho6.below hb (by omega)⟩
end Go.Proofs.YtnkjoambhmlnbaaGreatDoor.Ctr

namespace Go.Proofs.YtnkjoambhmlnbaaGreatDoor.Ctr
open Go Go.RowKit Go.Proofs.YtnkjoambhmlnbaaGreatDoor.Aid Go.Proofs.YtnkjoambhmlnbaaGreatDoor.Aes
attribute [local go_sem] Oper.semAt_some

/-- The k-th pair that is yielded. -/
def pairAt (at_ : Blk) (k : Nat) : Array Value := #[.int .i64 (16 * (k : Int)), .agg (byteRow 16 (nextB at_ k))]
theorem wideF : WideF Fence.wide := .inl rfl
theorem nextB_zero (f : Blk) (i : Nat) (hi : i < 16) : nextB f 0 i = f i := by
  have h := nextB_acc f 0 (15 - i) (by omega)
  rw [show 15 - (15 - i) = i by omega] at h
  rw [h]
  have : acc f 0 (15 - i) = 0 := by unfold acc; exact Nat.div_eq_of_lt (valTo_lt f _)
  rw [this, Nat.zero_add, BitVec.ofNat_toNat, BitVec.setWidth_eq]
theorem ItStep.of_below {B : Nat} {W W' : World} (h : Below W.heap.size W W') : ItStep B W W' := ⟨h.os, h.tape, h.output, h.size, fun k hk _ => h.block k hk⟩

set_option maxRecDepth 100000 in
set_option maxHeartbeats 2000000 in
theorem counters_any (m : Nat) (at_ : Blk) (n : Nat) (hn : n ≤ 1000) (l Ba Bn : Nat) (w : World) (J Jx : Nat → World → Prop)
    (hV : ∀ k W, J k W → W.cell? ⟨Bn, 0, none⟩ = some (.int .i64 (n : Int)))
    (hJ : ∀ k W W', J k W → ItStep w.heap.size W W' → J k W') (hX : ∀ k W W', Jx k W → ItStep w.heap.size W W' → Jx k W')
    (hY : ∀ k W, 16 * k < n → w.heap.size < W.heap.size → J k W → YieldAt Fence.wide (m - 1) Tryz.prog l (pairAt at_ k) W fun e W' => (e = .returned (.bool true) ∧ J (k + 1) W' ∧ KeepsAt W W' w.heap.size) ∨ (e = .returned (.bool false) ∧ Jx (k + 1) W'))
    (hat : RowB w Ba 24 16 at_) (h0 : J 0 w) :
    CallsIn Fence.wide m Tryz.prog 88 #[.func (.yield l) #[] #[], .pointer (some ⟨Ba, 0, none⟩), .pointer (some ⟨Bn, 0, none⟩)] w
      fun e W' => (∃ v, e = .returned v) ∧ ((∃ k, n ≤ 16 * k ∧ J k W') ∨ ∃ k, Jx k W') := by
  refine callsIn_of_wp Tryz.func88 rfl trivial ?_ rfl
  simp only [Tryz.ntmps88, List.size_toArray, List.length_cons, List.length_nil, Nat.reduceAdd, Nat.reduceSub, Array.replicate_succ, Array.replicate_zero, List.push_toArray, List.append_toArray, List.nil_append, List.cons_append]
  gi_wp2_with (first
    | (refine loadIn_whole wideF (by rfl) 24 (.tmp 1) (by rfl) _ _ _ _ hat (by rfl) _ Tryz.underlying24 rfl (by kernel_rfl) ?_)
    | (refine storeIn_whole wideF (by rfl) 24 (.tmp 4) (.tmp 6) (by rfl) w.heap.size _ 16 (fun _ => .int .u8 0) (fun j => .int .u8 ((at_ j).toNat : Int)) (by exact row_new w _ _ 16 _ (by rfl) (zeros16 _ (by rfl))) (by rfl) _ (by rfl) (by kernel_rfl) (size_cellsOf _ _) (cellsOf_at _ _) (fun _ _ => rfl) ?_
       intro w1 hr1 ho1))
  have h1 : J 0 w1 := hJ 0 w w1 h0 ⟨ho1.os, ho1.tape, ho1.output, by rw [ho1.size]; simp, fun k hk hne => by rw [ho1.block k hne]; exact Below.heap_alloc _ _ _ hk⟩
  have HJ := Lib.hid hJ
  have HX := Lib.hid hX
  have HY := Lib.hid hY
  have HV := Lib.hid hV
  clear hJ hX hY hV ho1 hat h0
  gi_loopw [5] (fun p wr => ∃ k : Nat, p = .int .i64 (16 * (k : Int)) ∧ 16 * k ≤ n + 15 ∧ J k wr ∧ RowB wr w.heap.size 24 16 (nextB at_ k)) (fun p _ => n + 16 - (intOf p).toNat)
  case atStart => exact ⟨0, rfl, by omega, h1, World.rowIs.congr hr1 (fun i hi => by rw [nextB_zero _ i hi])⟩
  case round =>
    clear h1 hr1
    obtain ⟨k, rfl, hk, hJk, hrow⟩ := hrel
    have c0 := HV.out k wr hJk
    by_cases hlt : 16 * k < n
    · have q0 : 16 * (k : Int) < (n : Int) := by omega
      obtain ⟨fn, tp, asg, bd, hy, hR⟩ := HY.out k wr hlt (World.rowIs.lt hrow) hJk
      have e1 : IntKind.i64.wrap (16 * (k : Int) + 16) = 16 * (k : Int) + 16 := IntWalk.i64_in _ (by omega)
      simp only [pairAt, byteRow] at hy
      gi_wp2_with (first
        | (refine loadIn_whole_if wideF (by rfl) 24 (.tmp 4) (by rfl) _ _ _ _ hrow (by rfl) _ Tryz.underlying24 rfl (by kernel_rfl) ?_))
      refine ⟨fun hx => by simp [Fence.wide] at hx, hR.mono ?_⟩
      rintro e w2 (⟨rfl, hJ2, hk2⟩ | ⟨rfl, hX2⟩)
      · have hrow2 : RowB w2 w.heap.size 24 16 (nextB at_ k) := World.rowIs.of_block hrow hk2
        gi_wp2_with (first
          | (refine loadIn_whole wideF (by rfl) 24 (.tmp 4) (by rfl) _ _ _ _ hrow2 (by rfl) _ Tryz.underlying24 rfl (by kernel_rfl) ?_)
          | (refine ⟨trivial, fun hx => by simp [Fence.wide] at hx, ?_⟩
             gi_at_call 89
             refine (callsIn_wide.2 (ctrNext_any (nextB at_ k) 1 (by omega) _ (size_cellsOf _ _) (cellsOf_at _ _) w2)).mono ?_
             rintro x w3 ⟨rfl, hb3⟩
             have hrow3 : RowB w3 w.heap.size 24 16 (nextB at_ k) := World.rowIs.of_block hrow2 (hb3.block _ (World.rowIs.lt hrow2))
             have hJ3 : J (k + 1) w3 := HJ.out _ _ _ hJ2 (ItStep.of_below hb3)
             clear hb3)
          | (refine storeIn_whole wideF (by rfl) 24 (.tmp 4) (.tmp 19) (by rfl) w.heap.size _ 16 _ (fun j => .int .u8 ((nextB (nextB at_ k) 1 j).toNat : Int)) hrow3 (by rfl) _ (by rfl) (by kernel_rfl) (size_cellsOf _ _) (cellsOf_at _ _) (fun _ _ => rfl) ?_
             intro w4 hr4 ho4
             have hJ4 : J (k + 1) w4 := HJ.out _ _ _ hJ3 ⟨ho4.os, ho4.tape, ho4.output, by rw [ho4.size]; exact Nat.le_refl _, fun b _ hne => ho4.block b hne⟩))
        exact ⟨⟨k + 1, ival (by omega), by omega, hJ4, World.rowIs.congr hr4 (fun i _ => by rw [nextB_nextB])⟩, by simp [intOf]; omega⟩
      · gi_wp2
        go_end0
        exact ⟨⟨_, rfl⟩, .inr ⟨k + 1, hX2⟩⟩
    · have q0 : ¬ 16 * (k : Int) < (n : Int) := by omega
      gi_wp2_with (refine skipIn wideF (by rfl) ?_)
      go_end0
      exact ⟨⟨_, rfl⟩, .inl ⟨k, by omega, hJk⟩⟩
end Go.Proofs.YtnkjoambhmlnbaaGreatDoor.Ctr

namespace Go.Proofs.YtnkjoambhmlnbaaGreatDoor.Ctr
open Go Go.RowKit Go.Proofs.YtnkjoambhmlnbaaGreatDoor.Aid Go.Proofs.YtnkjoambhmlnbaaGreatDoor.Aes
attribute [local go_sem] Oper.semAt_some

/-- What ctr.counters does: it lays its arguments down, and gives the iterator over them. -/
theorem counters_of (X : Array Value) (n : Nat) (w : World) (g : Nat) (hg : w.heap.size = g) :
    Calls Tryz.prog 81 #[.agg X, .int .i64 (n : Int)] w fun x w' => x = .returned (.func (.func 88) #[] #[.pointer (some ⟨g, 0, none⟩), .pointer (some ⟨g + 1, 0, none⟩)]) ∧
      w' = (w.alloc (.cells X 24)).alloc (.cells #[.int .i64 (n : Int)] 3) := by
  subst hg
  go_enter Tryz.func81, Tryz.ntmps81
  go_wp2
  go_ret
  exact ⟨rfl, rfl⟩

/-- What lies in memory when so many bytes are flipped. -/
structure FlipSt (key at_ e : Nat → BitVec 8) (A : Option Addr) (n c K : Nat) (w wr : World) : Prop where
  r0 : RowB wr w.heap.size 24 16 key
  c2 : wr.cell? ⟨w.heap.size + 2, 0, none⟩ = some (.slice A n c)
  row : RowB wr (w.heap.size + 3) 5 n (fun j => if j < K then flipB key at_ e j else 0)
  c4 : wr.cell? ⟨w.heap.size + 4, 0, none⟩ = some (.slice (some ⟨w.heap.size + 3, 0, none⟩) n n)
  r5 : RowB wr (w.heap.size + 5) 24 16 at_
  c6 : wr.cell? ⟨w.heap.size + 6, 0, none⟩ = some (.int .i64 (n : Int))
  hb : Below w.heap.size w wr
theorem FlipSt.lt {key at_ e : Nat → BitVec 8} {A : Option Addr} {n c K : Nat} {w wr : World} (h : FlipSt key at_ e A n c K w wr) : w.heap.size + 7 ≤ wr.heap.size := by
  have := block_lt_of_cell h.c6
  simp only at this
  omega
theorem FlipSt.below {key at_ e : Nat → BitVec 8} {A : Option Addr} {n c K : Nat} {w wr wr' : World} (h : FlipSt key at_ e A n c K w wr) (hb : Below (w.heap.size + 7) wr wr') : FlipSt key at_ e A n c K w wr' :=
  ⟨World.rowIs.of_block h.r0 (hb.block _ (by omega)), (hb.cell (p := ⟨w.heap.size + 2, 0, none⟩) (by simp)).trans h.c2, World.rowIs.of_block h.row (hb.block _ (by omega)),
   (hb.cell (p := ⟨w.heap.size + 4, 0, none⟩) (by simp)).trans h.c4, World.rowIs.of_block h.r5 (hb.block _ (by omega)), (hb.cell (p := ⟨w.heap.size + 6, 0, none⟩) (by simp)).trans h.c6, h.hb.trans (hb.mono (by omega))⟩
theorem FlipSt.step {key at_ e : Nat → BitVec 8} {A : Option Addr} {n c K B : Nat} {w wr wr' : World} (h : FlipSt key at_ e A n c K w wr) (hs : ItStep B wr wr') (hB : w.heap.size + 7 ≤ B) : FlipSt key at_ e A n c K w wr' :=
  h.below ⟨hs.os, hs.tape, hs.output, hs.size, fun k hk => hs.block k (by have := h.lt; omega) (by omega)⟩
theorem FlipSt.set {key at_ e : Nat → BitVec 8} {A : Option Addr} {n c K : Nat} {w wr : World} (h : FlipSt key at_ e A n c K w wr) (v : Int) (hv : v = ((flipB key at_ e K).toNat : Int)) :
    FlipSt key at_ e A n c (K + 1) w (wr.setCell ⟨w.heap.size + 3, K, none⟩ (.int .u8 v)) := by
  have hb : ∀ b, b ≠ w.heap.size + 3 → (wr.setCell ⟨w.heap.size + 3, K, none⟩ (.int .u8 v)).heap[b]? = wr.heap[b]? := fun b hb => Below.heap_setCell _ _ _ _ hb
  have hc : ∀ b, b ≠ w.heap.size + 3 → (wr.setCell ⟨w.heap.size + 3, K, none⟩ (.int .u8 v)).cell? ⟨b, 0, none⟩ = wr.cell? ⟨b, 0, none⟩ := fun b hb => World.cell?_setCell_other (h := fun h => hb (congrArg Addr.block h).symm) ..
  refine ⟨World.rowIs.of_block h.r0 (hb _ (by omega)), (hc _ (by omega)).trans h.c2, World.rowIs.congr (World.rowIs.set h.row K (.int .u8 v)) (fun j _ => ?_), (hc _ (by omega)).trans h.c4, World.rowIs.of_block h.r5 (hb _ (by omega)), (hc _ (by omega)).trans h.c6, h.hb.setCell (by simp) _⟩
  show (if j = K then Value.int .u8 v else .int .u8 (((if j < K then flipB key at_ e j else 0 : BitVec 8)).toNat : Int)) = .int .u8 (((if j < K + 1 then flipB key at_ e j else 0 : BitVec 8)).toNat : Int)
  by_cases h1 : j = K
  · subst h1
    rw [if_pos rfl, hv, if_pos (by omega)]
  · rw [if_neg h1]
    by_cases h2 : j < K
    · rw [if_pos h2, if_pos (by omega)]
    · rw [if_neg h2, if_neg (by omega)]
theorem FlipSt.drew {key at_ e : Nat → BitVec 8} {A : Option Addr} {n c K : Nat} {w wr : World} (h : FlipSt key at_ e A n c K w wr) : FlipSt key at_ e A n c K w wr.drew := ⟨h.r0, h.c2, h.row, h.c4, h.r5, h.c6, h.hb.drew⟩
theorem below_putObj {b B : Nat} (W : World) (o : Obj) (hb : B ≤ b) : Below B W (W.putObj b o) :=
  ⟨rfl, rfl, rfl, by simp [World.putObj], fun k hk => World.putObj_heap_other (by omega)⟩

/-- What the frame holds behind the round's head. -/
def headFrame (at_ : Blk) (X Y : Array Value) (A : Option Addr) (n c s k c9 : Nat) : Array Value :=
  #[.agg X, .agg Y, .slice A n c, .pointer (some ⟨s, 0, none⟩), .pointer (some ⟨s + 1, 0, none⟩), .pointer (some ⟨s + 2, 0, none⟩), .slice none 0 0, .pointer (some ⟨s + 4, 0, none⟩), .int .i64 (16 * (k : Int)), .pointer (some ⟨c9, 0, none⟩), undef, undef, undef,
    .slice A n c, .int .i64 (n : Int), .slice (some ⟨s + 3, 0, none⟩) n n, .agg (byteRow 16 at_), .slice A n c, .int .i64 (n : Int), .func (.func 88) #[] #[.pointer (some ⟨s + 5, 0, none⟩), .pointer (some ⟨s + 5 + 1, 0, none⟩)],
    .int .i64 (16 * (k : Int)), .agg (byteRow 16 (nextB at_ k)), undef, undef, undef, undef, undef, undef, undef, undef, undef, undef, undef, undef, undef, undef, undef, undef, undef, undef, undef, undef, undef, undef, undef, undef, undef, undef, undef, undef, undef]
def HeadAx (at_ : Blk) (X Y : Array Value) (A : Option Addr) (n c s : Nat) (k : Nat) (a : Act) (W : World) : Prop :=
  ∃ c9, s + 10 ≤ c9 ∧ RowB W c9 24 16 (nextB at_ k) ∧ a = { tmps := headFrame at_ X Y A n c s k c9, defers := [] }

theorem zip_two (t : Array Value) (u v : Value) : (#[20, 21].zip #[u, v]).foldl (fun t (x : Nat × Value) => match x with | (p, v) => t.setIfInBounds p v) t = (t.setIfInBounds 20 u).setIfInBounds 21 v := by simp

set_option maxRecDepth 100000 in
set_option maxHeartbeats 4000000 in
theorem ctrFlip_any (key at_ e : Nat → BitVec 8) (X Y : Array Value) (hX : X.size = 16) (hXi : ∀ i, i < 16 → X[i]? = some (.int .u8 ((key i).toNat : Int))) (hY : Y.size = 16) (hYi : ∀ i, i < 16 → Y[i]? = some (.int .u8 ((at_ i).toNat : Int)))
    (A : Option Addr) (n c : Nat) (w : World) (hs : SliceOf w w.heap.size n e (.slice A n c)) (hn : n ≤ 1000) :
    Calls Tryz.prog 75 #[.agg X, .agg Y, .slice A n c] w fun x w' => ∃ A' c', x = .returned (.slice A' n c') ∧ SliceOf w' w'.heap.size n (flipB key at_ e) (.slice A' n c') ∧ Below w.heap.size w w' := by
  have h0 : ∃ W, W = ((w.alloc (.cells X 24)).alloc (.cells Y 24)).alloc (.cells #[.slice A n c] 28) ∧ W.heap.size = w.heap.size + 3 ∧ RowB W w.heap.size 24 16 key ∧ RowB W (w.heap.size + 1) 24 16 at_ ∧
      W.cell? ⟨w.heap.size + 2, 0, none⟩ = some (.slice A n c) ∧ Below w.heap.size w W := by
    have s1 : (w.alloc (.cells X 24)).heap.size = w.heap.size + 1 := by simp
    have r1 := ((row_new w X 24 16 (fun j => .int .u8 ((key j).toNat : Int)) hX hXi).alloc (.cells Y 24)).alloc (.cells #[.slice A n c] 28)
    have r2 := (row_new (w.alloc (.cells X 24)) Y 24 16 (fun j => .int .u8 ((at_ j).toNat : Int)) hY hYi).alloc (.cells #[.slice A n c] 28)
    rw [s1] at r2
    have c2 := World.cell?_alloc_new ((w.alloc (.cells X 24)).alloc (.cells Y 24)) #[.slice A n c] 28 0
    simp only [World.size_alloc] at c2
    exact ⟨_, rfl, by simp, r1, r2, c2, (((Below.refl _ _).alloc (Nat.le_refl _) _).alloc (by simp) _).alloc (by simp; omega) _⟩
  obtain ⟨i5, hi5, hz5⟩ := Option.map_eq_some_iff.1 info_u8
  simp only [Prod.mk.injEq] at hz5
  obtain ⟨W, hW, hsz, hk0, ha0, hc0, hb0⟩ := h0
  have HS := Lib.hid hs
  clear hXi hYi hs hX hY
  refine (callsIn_wide (n := 5)).1 (callsIn_of_wp_marks Tryz.func75 rfl trivial ?_ rfl)
  simp only [Tryz.ntmps75, List.size_toArray, List.length_cons, List.length_nil, Nat.reduceAdd, Nat.reduceSub, Array.replicate_succ, Array.replicate_zero, List.push_toArray, List.append_toArray, List.nil_append, List.cons_append]
  gi_wp2_with (first
    | (gi_at_make
       change wpListIn _ _ _ _ _ _ _ (((w.alloc (.cells X 24)).alloc (.cells Y 24)).alloc (.cells #[.slice A n c] 28))
       rw [← hW]
       clear hW
       refine make_bytesIn wideF (by rfl) 28 5 _ _ (by rfl) i5 Tryz.underlying28 hi5 hz5.1 hz5.2.1 hz5.2.2 _ _ n (by rfl) (by rfl) (by omega) ?_
       intro Z hZ hZi)
    | (refine loadIn_whole wideF (by rfl) 24 (.tmp 4) (by rfl) _ _ _ _ ((ha0.alloc _).alloc _) (by rfl) _ Tryz.underlying24 rfl (by kernel_rfl) ?_)
    | (refine ⟨trivial, ?_⟩
       gi_at_call 81
       refine (callsIn_wide.2 (counters_of _ n _ (w.heap.size + 5) (by simp [hsz]))).mono ?_
       rintro x w7 ⟨rfl, hw7⟩
       have h7 : FlipSt key at_ e A n c 0 w w7 := by
         have e4 : ((W.alloc (.cells Z 5)).alloc (.cells #[.slice (some ⟨w.heap.size + 3, 0, none⟩) n n] 28)).heap.size = w.heap.size + 5 := by simp [hsz]
         have e3 : (W.alloc (.cells Z 5)).heap.size = w.heap.size + 4 := by simp [hsz]
         have r3 := row_new W Z 5 n (fun j => .int .u8 (((if j < 0 then flipB key at_ e j else 0 : BitVec 8)).toNat : Int)) hZ (fun j hj => by rw [hZi j hj, if_neg (by omega)]; rfl)
         rw [hsz] at r3
         have c4 := World.cell?_alloc_new (W.alloc (.cells Z 5)) #[.slice (some ⟨w.heap.size + 3, 0, none⟩) n n] 28 0
         rw [e3] at c4
         have r5 := row_new ((W.alloc (.cells Z 5)).alloc (.cells #[.slice (some ⟨w.heap.size + 3, 0, none⟩) n n] 28)) (byteRow 16 at_) 24 16 (fun j => .int .u8 ((at_ j).toNat : Int)) (size_cellsOf _ _) (cellsOf_at _ _)
         rw [e4] at r5
         have c6 := World.cell?_alloc_new (((W.alloc (.cells Z 5)).alloc (.cells #[.slice (some ⟨w.heap.size + 3, 0, none⟩) n n] 28)).alloc (.cells (byteRow 16 at_) 24)) #[.int .i64 (n : Int)] 3 0
         rw [World.size_alloc, e4] at c6
         have b3 : Below (w.heap.size + 3) W w7 := by
           rw [hw7]
           exact ((((Below.refl _ _).alloc (by omega) _).alloc (by simp [hsz]) _).alloc (by rw [e4]; omega) _).alloc (by rw [World.size_alloc, e4]; omega) _
         refine ⟨World.rowIs.of_block hk0 (b3.block _ (by omega)), (b3.cell (p := ⟨w.heap.size + 2, 0, none⟩) (by simp)).trans hc0, ?_, ?_, ?_, ?_, hb0.trans (b3.mono (by omega))⟩
         · rw [hw7]; exact ((r3.alloc _).alloc _).alloc _
         · rw [hw7]
           exact (((Below.refl (w.heap.size + 5) _).alloc (by rw [e4]; omega) _).alloc (by rw [World.size_alloc, e4]; omega) _).cell (p := ⟨w.heap.size + 4, 0, none⟩) (by simp) |>.trans c4
         · rw [hw7]; exact r5.alloc _
         · rw [hw7]; exact c6
       have hs7 : w7.heap.size = w.heap.size + 7 := by rw [hw7]; simp [hsz]
       clear hw7 hZ hZi hk0 ha0 hc0 hb0 hsz hz5 hi5))
  refine range_count 5 (gf := 88) (lb := #[.pointer (some ⟨w.heap.size + 5, 0, none⟩), .pointer (some ⟨w.heap.size + 5 + 1, 0, none⟩)]) (by rfl) (Go.Proofs.enters_of Tryz.func88 (by kernel_rfl) rfl) (pairAt at_) (fun k => by rfl)
    (w.heap.size + 9) (by omega) (fun k W => FlipSt key at_ e A n c (min (16 * k) n) w W) (fun _ _ _ => False) (HeadAx at_ X Y A n c w.heap.size) (fun k => n ≤ 16 * k) (fun k => 16 * k < n) (fun _ W => W.cell? ⟨w.heap.size + 6, 0, none⟩ = some (.int .i64 (n : Int)))
    (fun k W h => h.c6) (fun k W r h => h.below (below_putObj _ _ (by omega))) (fun _ _ _ _ h => h.elim) ?hAl (fun k W W' h hs => h.step hs (by omega)) (fun _ _ _ _ h => h.elim) ?h0 ?hseq ?hassign ?hbody ?hdone (fun _ _ _ h => h.elim)
  case hAl =>
    rintro k a' W' r ⟨c9, h9, hr9, rfl⟩
    exact ⟨c9, h9, World.rowIs.of_block hr9 (World.putObj_heap_other (by omega)), rfl⟩
  case h0 =>
    intro r
    simp only [Nat.mul_zero, Nat.zero_min]
    exact h7.below (((Below.refl _ _).alloc (by omega) _).alloc (by simp; omega) _)
  case hseq =>
    intro J Jx hV hJ hX hY W1 hb1 hs1 hj0
    have := counters_any 4 at_ n hn (w7.heap.size + 1) (w.heap.size + 5) (w.heap.size + 6) W1 J Jx hV (by rw [hs1, hs7]; exact hJ) (by rw [hs1, hs7]; exact hX) (fun k W hk hlt hj => by rw [hs1, hs7] at *; exact hY k W hk (by omega) hj) (World.rowIs.of_block h7.r5 (hb1.block _ (by omega))) hj0
    exact this
  case hassign =>
    intro k W K hk hBW hI hK
    have hF : WideF (Fence.wide.inRound (w7.heap.size + 1)) := .inr ⟨_, rfl⟩
    have hlt := hI.lt
    simp only [pairAt, zip_two, List.setIfInBounds_toArray, List.set_cons_zero, List.set_cons_succ]
    gi_wp2_with (refine storeIn_whole hF (by rfl) 24 (.tmp 9) (.tmp 21) (by rfl) W.heap.size _ 16 (fun _ => .int .u8 0) (fun j => .int .u8 ((nextB at_ k j).toNat : Int)) (by exact row_new W _ _ 16 _ (by rfl) (zeros16 _ (by rfl))) (by rfl) _ (by rfl) (by kernel_rfl) (size_cellsOf _ _) (cellsOf_at _ _) (fun _ _ => rfl) ?_
                 intro W1 hr1 ho1)
    have hb1 : Below W.heap.size W W1 := ho1.below (((Below.refl _ _).alloc (Nat.le_refl _) _)) (Nat.le_refl _)
    exact hK _ _ (hI.below (hb1.mono (by omega))) ⟨W.heap.size, by omega, hr1, rfl⟩ (hb1.block _ (by omega)) (hb1.block _ (by omega)) (hb1.block _ (by omega))
  case hbody =>
    rintro k a' W hk hI ⟨c9, h9, hr9, rfl⟩ hsz
    unfold headFrame
    rw [hs7] at hsz ⊢
    have hF : WideF (Fence.wide.inRound (w.heap.size + 7 + 1)) := .inr ⟨_, rfl⟩
    have hlt := hI.lt
    have hltB : w.heap.size + 9 < W.heap.size := by have := World.rowIs.lt hr9; omega
    have hk0 := hI.r0
    obtain ⟨A', c', ea, hcn, hA⟩ := HS.out
    simp only [Value.slice.injEq, true_and] at ea
    obtain ⟨rfl, rfl⟩ := ea
    obtain ⟨sb, so, rfl, hsb, hcell⟩ := hA (by omega)
    have hsbl : sb < w.heap.size := block_lt_of_cell (hcell 0 (by omega))
    obtain ⟨m, hm⟩ : ∃ m, m = min (16 * k + 16) n - 16 * k := ⟨_, rfl⟩
    obtain ⟨hi, hhi⟩ : ∃ hi : Int, (if (n : Int) < 16 * (k : Int) + 16 then (n : Int) else 16 * (k : Int) + 16) = hi := ⟨_, rfl⟩
    have hhi' : hi = ((16 * k + m : Nat) : Int) := by rw [← hhi]; split <;> omega
    have hcut := fun W => mid_at (P := Tryz.prog) 28 5 Tryz.underlying28 (by kernel_rfl) sb so n c (16 * k) m (by omega) (by omega) hcn hi hhi' .i64 .i64 W
    simp only [show ((16 * k : Nat) : Int) = 16 * (k : Int) by omega] at hcut
    have e1 : IntKind.i64.wrap (16 * (k : Int) + 16) = 16 * (k : Int) + 16 := IntWalk.i64_in _ (by omega)
    have HI := Lib.hid hI
    have Hm := Lib.hid hm
    have Hhi := Lib.hid hhi'
    have Hcell := Lib.hid hcell
    have Hcn := Lib.hid hcn
    clear hI hm hhi' hcell hA hcn HS h7
    gi_wp2_with (first
      | (refine loadIn_whole hF (by rfl) 24 (.tmp 3) (by rfl) _ _ _ _ hk0 (by rfl) _ Tryz.underlying24 rfl (by kernel_rfl) ?_)
      | (refine loadIn_whole hF (by rfl) 24 (.tmp 9) (by rfl) _ _ _ _ hr9 (by rfl) _ Tryz.underlying24 rfl (by kernel_rfl) ?_)
      | (refine ⟨trivial, ?_⟩
         gi_at_call 82
         refine (CallsIn.inRound _ (callsIn_wide.2 (ownEncrypt_any key (nextB at_ k) _ _ (size_cellsOf _ _) (cellsOf_at _ _) (size_cellsOf _ _) (cellsOf_at _ _) W))).mono ?_
         rintro x W1 ⟨rfl, hb1⟩)
      | (refine storeIn_whole hF (by rfl) 24 (.tmp 10) (.tmp 24) (by rfl) W1.heap.size _ 16 (fun _ => .int .u8 0) (fun j => .int .u8 ((enc key (nextB at_ k) j).toNat : Int)) (by exact row_new W1 _ _ 16 _ (by rfl) (zeros16 _ (by rfl))) (by rfl) _ (by rfl) (by kernel_rfl) (size_cellsOf _ _) (cellsOf_at _ _) (fun _ _ => rfl) ?_
         intro W2 hr2 ho2
         have hb2 : Below W.heap.size W W2 := hb1.trans (ho2.below ((Below.refl _ _).alloc hb1.size _) hb1.size)
         have h2 := Lib.hid (HI.out.below (hb2.mono (by omega)))
         have hs2 := hb1.size
         have c2 := h2.out.c2
         clear hb1 ho2))
    obtain ⟨M, hM⟩ : ∃ M, M = enc key (nextB at_ k) := ⟨_, rfl⟩
    rw [← hM] at hr2 ⊢
    have HM := Lib.hid hM
    clear hM hk0 hr9 h9 c2
    gi_loopw [34] (fun p wr => ∃ i : Nat, p = .int .i64 (i : Int) ∧ i ≤ m ∧ Hid (FlipSt key at_ e (some ⟨sb, so, none⟩) n c (16 * k + i) w wr) ∧ Hid (∀ b, b ≠ w.heap.size + 3 → wr.heap[b]? = W2.heap[b]?)) (fun p _ => n - (intOf p).toNat)
    case atStart =>
      refine ⟨0, rfl, by omega, ?_, fun _ _ => rfl⟩
      have := h2.out
      rw [show min (16 * k) n = 16 * k + 0 by omega] at this
      exact this
    case round =>
      clear h2
      obtain ⟨i, rfl, him, h, hsame⟩ := hrel
      have hm16 : m ≤ 16 ∧ 16 * k + m ≤ n := by have := Hm.out; omega
      by_cases hlt2 : i < m
      · have q0 : (0 : Int) ≤ (i : Int) := by omega
        have q1 : (i : Int) < (m : Int) := by omega
        have q2 : (i : Int) < 16 := by omega
        have q3 : (0 : Int) ≤ 16 * (k : Int) + (i : Int) := by omega
        have q4 : 16 * (k : Int) + (i : Int) < (n : Int) := by omega
        have e2 : IntKind.i64.wrap (16 * (k : Int) + (i : Int)) = 16 * (k : Int) + (i : Int) := IntWalk.i64_in _ (by omega)
        have e3 : IntKind.i64.wrap ((i : Int) + 1) = (i : Int) + 1 := IntWalk.i64_in _ (by omega)
        have e4 : (16 * (k : Int) + (i : Int)).toNat = 16 * k + i := by omega
        have ce : wr.cell? ⟨sb, so + 16 * k + i, none⟩ = some (.int .u8 ((e (16 * k + i)).toNat : Int)) := by
          rw [Nat.add_assoc]; exact (h.out.hb.cell (p := ⟨sb, so + (16 * k + i), none⟩) hsbl).trans (Hcell.out _ (by omega))
        have cm : wr.cell? ⟨W1.heap.size, i, none⟩ = some (.int .u8 ((M i).toNat : Int)) := World.rowIs.cell (World.rowIs.of_block hr2 (hsame.out _ (by omega))) (by omega)
        have c4 := h.out.c4
        have Hm16 := Lib.hid hm16
        have q5 : 16 * k + i < n := by omega
        clear hm16
        have hx : Hid (bits .xor .u8 ((e (16 * k + i)).toNat : Int) ((M i).toNat : Int) = ((flipB key at_ e (16 * k + i)).toNat : Int)) := by
          show bits .xor .u8 ((e (16 * k + i)).toNat : Int) ((M i).toNat : Int) = ((e (16 * k + i) ^^^ stream key at_ (16 * k + i)).toNat : Int)
          rw [xor8]
          unfold stream
          rw [show (16 * k + i) / 16 = k by omega, show (16 * k + i) % 16 = i by omega, HM.out]
        have f3 : wr.frozen? ⟨w.heap.size + 3, 16 * k + i, none⟩ = false := World.rowIs.frozen h.out.row _
        have c3 : ∃ u, wr.cell? ⟨w.heap.size + 3, 16 * k + i, none⟩ = some (.int .u8 u) := ⟨_, World.rowIs.cell h.out.row q5⟩
        obtain ⟨u3, c3⟩ := c3
        obtain ⟨E, hE⟩ : ∃ E : Nat, E = (e (16 * k + i)).toNat := ⟨_, rfl⟩
        obtain ⟨D, hD⟩ : ∃ D : Nat, D = (M i).toNat := ⟨_, rfl⟩
        rw [← hE, ← hD] at hx
        rw [← hE] at ce
        rw [← hD] at cm
        have HE := Lib.hid hE
        have HD := Lib.hid hD
        clear hE hD
        gi_wp2
        refine round_mix hF (fun W => W.cell? ⟨w.heap.size + 4, 0, none⟩ = some (.slice (some ⟨w.heap.size + 3, 0, none⟩) n n) ∧ W.cell? ⟨W1.heap.size, i, none⟩ = some (.int .u8 (D : Int))) [(0, true), (1, true), (2, true), (3, true), (4, true), (5, true), (6, true), (7, true), (8, true), (9, true), (10, false)]
          (by kernel_rfl) (by kernel_rfl) (by kernel_rfl) ⟨c4, cm⟩ ?_
        refine m_val rfl (by rfl) (.slice (some ⟨w.heap.size + 3, 0, none⟩) n n) (fun W hW => by have cW := hW.1; go_simp) ?_
        simp only [Act.put, List.setIfInBounds_toArray, List.set_cons_zero, List.set_cons_succ]
        refine m_val rfl (by rfl) (.int .i64 (16 * (k : Int))) (fun W _ => by go_simp) ?_
        simp only [Act.put, List.setIfInBounds_toArray, List.set_cons_zero, List.set_cons_succ]
        refine m_val rfl (by rfl) (.int .i64 (i : Int)) (fun W _ => by go_simp) ?_
        simp only [Act.put, List.setIfInBounds_toArray, List.set_cons_zero, List.set_cons_succ]
        refine m_val rfl (by rfl) (.int .i64 (16 * (k : Int) + (i : Int))) (fun W _ => by go_simp) ?_
        simp only [Act.put, List.setIfInBounds_toArray, List.set_cons_zero, List.set_cons_succ]
        refine m_val rfl (by rfl) (.int .u8 (E : Int)) (fun W _ => by go_simp) ?_
        simp only [Act.put, List.setIfInBounds_toArray, List.set_cons_zero, List.set_cons_succ]
        refine m_val rfl (by rfl) (.int .i64 (i : Int)) (fun W _ => by go_simp) ?_
        simp only [Act.put, List.setIfInBounds_toArray, List.set_cons_zero, List.set_cons_succ]
        refine m_val rfl (by rfl) (.pointer (some ⟨W1.heap.size, i, none⟩)) (fun W _ => by go_simp) ?_
        simp only [Act.put, List.setIfInBounds_toArray, List.set_cons_zero, List.set_cons_succ]
        refine m_val rfl (by rfl) (.int .u8 (D : Int)) (fun W hW => by have cW := hW.2; go_simp) ?_
        simp only [Act.put, List.setIfInBounds_toArray, List.set_cons_zero, List.set_cons_succ]
        refine m_val rfl (by rfl) (.int .u8 (bits .xor .u8 (E : Int) (D : Int))) (fun W _ => by go_simp) ?_
        simp only [Act.put, List.setIfInBounds_toArray, List.set_cons_zero, List.set_cons_succ]
        refine m_val rfl (by rfl) (.pointer (some ⟨w.heap.size + 3, 16 * k + i, none⟩)) (fun W _ => by go_simp) ?_
        simp only [Act.put, List.setIfInBounds_toArray, List.set_cons_zero, List.set_cons_succ]
        refine m_go rfl ?_
        go_wp2_with fail
        have h3 := (h.out.set _ hx.out).drew
        have hsame3 : ∀ b, b ≠ w.heap.size + 3 → (wr.setCell ⟨w.heap.size + 3, 16 * k + i, none⟩ (.int .u8 (bits .xor .u8 (E : Int) (D : Int)))).drew.heap[b]? = W2.heap[b]? := fun b hb => (Below.heap_setCell _ _ _ _ hb).trans (hsame.out b hb)
        have cm3 : (wr.setCell ⟨w.heap.size + 3, 16 * k + i, none⟩ (.int .u8 (bits .xor .u8 (E : Int) (D : Int)))).drew.cell? ⟨W1.heap.size, i, none⟩ = some (.int .u8 (D : Int)) :=
          (World.cell?_setCell_other (h := fun h => by have := congrArg Addr.block h; simp only at this; omega) ..).trans cm
        refine m_on ⟨h3.c4, cm3⟩ ?_
        refine m_out ?_
        have h3' := Lib.hid h3
        have hsame3' := Lib.hid hsame3
        clear h3 hsame3 cm3
        gi_wp2
        exact ⟨⟨i + 1, ival (by omega), by omega, h3'.out, hsame3'.out⟩, by simp [intOf]; omega⟩
      · have q1 : ¬ (i : Int) < (m : Int) := by omega
        have hfin : Hid (countPost (w.heap.size + 9) (w.heap.size + 7) (fun k W => FlipSt key at_ e (some ⟨sb, so, none⟩) n c (min (16 * k) n) w W) (fun _ _ _ => False) (k + 1) W .normal { tmps := #[], defers := [] } wr) := by
          have h1 := h.out
          rw [show 16 * k + i = min (16 * (k + 1)) n by have := Hm.out; omega] at h1
          exact ⟨h1, (hsame.out _ (by omega)).trans (hb2.block _ (by omega)), (hsame.out _ (by omega)).trans (hb2.block _ (by omega)), (hsame.out _ (by omega)).trans (hb2.block _ (by omega))⟩
        gi_wp2
        exact hfin.out
  case hdone =>
    intro k W hS hI hd
    have c4 := hI.c4
    gi_wp2
    refine ⟨by simp, .inl ⟨_, _, rfl, run_takeDeferred hd, ?_⟩⟩
    refine ⟨_, results_tmp rfl _ _ _, _, _, rfl, ?_, hI.hb.trans (below_putObj _ _ (by omega))⟩
    refine ⟨_, n, rfl, Nat.le_refl _, fun _ => ⟨w.heap.size + 3, 0, rfl, by have := hI.lt; simp; omega, fun j hj => ?_⟩⟩
    rw [(below_putObj (B := w.heap.size + 7) W (.deferred none) (by omega)).cell (by simp), Nat.zero_add, World.rowIs.cell hI.row hj]
    simp only [show j < min (16 * k) n by omega, if_true]
end Go.Proofs.YtnkjoambhmlnbaaGreatDoor.Ctr
