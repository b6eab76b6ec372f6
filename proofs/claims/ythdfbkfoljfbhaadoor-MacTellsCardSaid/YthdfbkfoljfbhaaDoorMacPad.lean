/-
  What mac.pad and mac.begin do: a key filled up; a Hash to which that was written, byte by byte xored.
-/
import Derived.Test.YthdfbkfoljfbhaaDoorMacPlain
namespace Go.Proofs.YthdfbkfoljfbhaaDoor.Mac
open Go Go.RowKit Go.Proofs.YthdfbkfoljfbhaaDoor.Aid Go.Proofs.YthdfbkfoljfbhaaDoor.Sha

theorem zeros64 (Z : Array Value) (hZ : Z = Array.replicate 64 (.int .u8 0)) (i : Nat) (hi : i < 64) : Z[i]? = some (Value.int .u8 0) := by
  subst hZ; simp [hi]
section
variable {w : World} {ops : Array Oper} {rest : List Oper} {op : Oper} {a : Act} {Q : Exit → Act → World → Prop}
/-- 'copy(x[:], src)': x an array of zeros, src any bytes that fit. -/
theorem copy_zeros (hgd : op.guard = none) (d s : Operand) (ho : op.op = .call { callee := .builtin .copy, args := #[d, s], argTypes := #[22, 22] })
    (g : Nat) (h : w.rowIs g 48 64 (fun _ => .int .u8 0)) (hd : a.eval d = .slice (some ⟨g, 0, none⟩) 64 64) (g' m : Nat) (e : Nat → BitVec 8) (v : Value) (hv : SliceOf w g' m e v) (hs : a.eval s = v) (hm : m ≤ 64)
    (hK : ∀ w', w'.rowIs g 48 64 (fun j => .int .u8 ((if j < m then e j else 0).toNat : Int)) → Only g w w' → wpList Tryd.prog ops Q rest (a.put op.dst (.int .i64 (m : Int))) w') : wpList Tryd.prog ops Q (op :: rest) a w := by
  obtain ⟨A, c, rfl, hc, hr⟩ := hv
  by_cases h0 : 0 < m
  · obtain ⟨sb, so, rfl, _, hcell⟩ := hr h0
    refine copy_row hgd d s _ _ ho 5 Tryd.underlying22 (by kernel_rfl) g 0 _ 64 _ h 64 64 hd (by omega) sb so m c hs (fun j => .int .u8 ((e j).toNat : Int)) hcell (fun _ _ => rfl) m (Nat.min_eq_left hm).symm ?_
    intro w' hr' ho'
    refine hK w' (hr'.congr (fun i hi => ?_)) ho'
    by_cases hi' : i < m
    · rw [if_pos (by omega), if_pos hi', Nat.sub_zero]
    · rw [if_neg (by omega), if_neg hi']; rfl
  · obtain rfl : m = 0 := by omega
    refine wpList_copy_nothing hgd d s _ _ ho 5 Tryd.underlying22 (by kernel_rfl) _ A 64 64 0 c hd hs (by rfl) ?_
    exact hK w (h.congr (fun i _ => by rw [if_neg (by omega)]; rfl)) ⟨rfl, rfl, rfl, rfl, fun _ _ => rfl⟩
end

set_option maxRecDepth 100000 in
set_option maxHeartbeats 1000000 in
theorem pad_any (K : Nat → BitVec 8) (m c g : Nat) (A : Option Addr) (w : World) (hk : Consts w) (hv : SliceOf w g m K (.slice A m c)) (hl : m ≤ 1000000) :
    Calls Tryd.prog 29 #[.slice A m c] w fun e w' => e = .returned (.agg (byteCells 64 (padKey K m))) ∧ Below w.heap.size w w' := by
  have hr2 : ∀ (Z : Array Value) o2, Z = Array.replicate 64 (.int .u8 0) → ((w.alloc (.cells Z 48)).alloc o2).rowIs w.heap.size 48 64 (fun _ => .int .u8 0) :=
    fun Z o2 hZ => (row_new w Z _ 64 _ (by rw [hZ]; simp) (zeros64 Z hZ)).alloc _
  have hr3 : ∀ (Z : Array Value) o2, Z = Array.replicate 64 (.int .u8 0) → ((w.alloc o2).alloc (.cells Z 48)).rowIs (w.heap.size + 1) 48 64 (fun _ => .int .u8 0) :=
    fun Z o2 hZ => by
      have := row_new (w.alloc o2) Z 48 64 _ (by rw [hZ]; simp) (zeros64 Z hZ)
      rw [show (w.alloc o2).heap.size = w.heap.size + 1 by simp] at this
      exact this
  have hb0 : ∀ o1 o2, Below w.heap.size w ((w.alloc o1).alloc o2) := fun o1 o2 => ((Below.refl _ _).alloc (by simp) _).alloc (by simp) _
  have hs0 : ∀ o1 o2, SliceOf ((w.alloc o1).alloc o2) (w.heap.size + 2) m K (.slice A m c) := fun o1 o2 => slice_any (g := g) (slice_below hv (hb0 o1 o2)) (by simp)
  by_cases h64 : 64 < m
  · have q0 : (64 : Int) < (m : Int) := by omega
    go_enter Tryd.func29, Tryd.ntmps29
    go_wp2_with fail
    have hp2 := hr2 _ (.cells (Array.replicate 64 (.int .u8 0)) 48) rfl
    have hp3 := hr3 _ (.cells (Array.replicate 64 (.int .u8 0)) 48) rfl
    have hb2 := hb0 (.cells (Array.replicate 64 (.int .u8 0)) 48) (.cells (Array.replicate 64 (.int .u8 0)) 48)
    have hs2 := hs0 (.cells (Array.replicate 64 (.int .u8 0)) 48) (.cells (Array.replicate 64 (.int .u8 0)) 48)
    change Calls Tryd.prog 10 _ ((w.alloc (.cells (Array.replicate 64 (.int .u8 0)) 48)).alloc (.cells (Array.replicate 64 (.int .u8 0)) 48)) _
    clear hb0 hs0 hr2 hr3
    generalize (w.alloc (.cells (Array.replicate 64 (.int .u8 0)) 48)).alloc (.cells (Array.replicate 64 (.int .u8 0)) 48) = w1 at *
    have hk1 := hk.below hb2 (Nat.le_refl _)
    refine (sum_any K m _ _ w1 hk1 hs2 (by omega)).mono ?_
    rintro e w2 ⟨rfl, hb3⟩
    have hq2 := hp2.of_block (hb3.block _ hp2.lt)
    have hq3 := hp3.of_block (hb3.block _ hp3.lt)
    have hb3' := hb2.trans (hb3.mono hb2.size)
    have hB2 := hb3'.size
    have hB3 : w.heap.size + 1 < w2.heap.size := hq3.lt
    clear hb3 hb2 hp2 hp3 hs2 hk1 hv
    go_wp2_with (first
      | (refine store_whole (by rfl) 24 (.tmp 4) (.tmp 9) (by rfl) w2.heap.size _ 32 (fun _ => .int .u8 0) (fun j => .int .u8 ((digest K m j).toNat : Int)) (by exact row_new w2 _ _ 32 _ (by rfl) (zeros32 _ (by rfl))) (by rfl) _ (by rfl) (by kernel_rfl) (size_cellsOf _ _) (cellsOf_at _ _) (fun _ _ => rfl) ?_
         intro w4 hr4 ho4
         have hq4 := ho4.row (hq3.alloc _) (Nat.ne_of_lt hB3)
         have hq4' := ho4.row (hq2.alloc _) (by omega)
         have hb4 := ho4.below (hb3'.alloc hB2 _) hB2
         have hsl4 : SliceOf w4 w4.heap.size 32 (digest K m) (.slice (some ⟨w2.heap.size, 0, none⟩) 32 32) := ⟨_, _, rfl, by omega, fun _ => ⟨w2.heap.size, 0, rfl, by have := hr4.lt; omega, fun j hj => by rw [Nat.zero_add, hr4.cell hj]⟩⟩
         clear ho4 hr4 hq3 hq2 hb3')
      | (refine copy_zeros (by rfl) (.tmp 11) (.tmp 12) (by rfl) (w.heap.size + 1) hq4 (by rfl) w4.heap.size 32 (digest K m) _ hsl4 (by rfl) (by omega) ?_
         intro w5 hr5 ho5
         have hq5 := ho5.row hq4' (by omega)
         have hb5 := ho5.below hb4 (by omega)
         clear ho5 hq4 hq4' hb4 hsl4)
      | (refine load_whole (by rfl) 48 (.tmp 3) (by rfl) _ _ _ _ hr5 (by rfl) _ Tryd.underlying48 rfl (by kernel_rfl) ?_)
      | (refine store_whole (by rfl) 48 (.tmp 2) (.tmp 14) (by rfl) w.heap.size _ 64 _ _ hq5 (by rfl) _ (by rfl) (by kernel_rfl) (size_cellsOf _ _) (cellsOf_at _ _) (fun _ _ => rfl) ?_
         intro w6 hr6 ho6))
    refine bodyPost_ret (results_row rfl _ w.heap.size _ _ _ _ (by rfl) hr6 Tryd.underlying48 rfl (by kernel_rfl)) rfl ⟨?_, ho6.below hb5 (Nat.le_refl _)⟩
    refine congrArg (fun x => Ending.returned (.agg x)) (cellsOf_congr (fun i hi => ?_))
    unfold padKey
    rw [if_pos h64]
  · have q0 : ¬ (64 : Int) < (m : Int) := by omega
    have hc0 : ∀ (Z Z' : Array Value), Z = Array.replicate 64 (.int .u8 0) → Z' = Array.replicate 64 (.int .u8 0) → ∃ w1, w1 = (w.alloc (.cells Z 48)).alloc (.cells Z' 48) ∧ w1.rowIs w.heap.size 48 64 (fun _ => .int .u8 0) ∧ w1.rowIs (w.heap.size + 1) 48 64 (fun _ => .int .u8 0) ∧ Below w.heap.size w w1 ∧ SliceOf w1 (w.heap.size + 2) m K (.slice A m c) :=
      fun Z Z' h1 h2 => ⟨_, rfl, hr2 Z _ h1, hr3 Z' _ h2, hb0 _ _, hs0 _ _⟩
    have hm64 : m ≤ 64 := by omega
    clear hb0 hs0 hr2 hr3
    go_enter Tryd.func29, Tryd.ntmps29
    go_wp2_with (first
      | (refine copy_zeros (by rfl) (.tmp 11) (.tmp 12) (by rfl) (w.heap.size + 1) (by obtain ⟨w1, rfl, _, h, _⟩ := hc0 _ _ rfl rfl; exact h) (by rfl) (w.heap.size + 2) m K _ (by obtain ⟨w1, rfl, _, _, _, h⟩ := hc0 _ _ rfl rfl; exact h) (by rfl) hm64 ?_
         intro w5 hr5 ho5
         have hq5 := ho5.row (by obtain ⟨w1, rfl, h, _⟩ := hc0 _ _ rfl rfl; exact h) (show w.heap.size ≠ w.heap.size + 1 by omega)
         have hb5 := ho5.below (by obtain ⟨w1, rfl, _, _, h, _⟩ := hc0 _ _ rfl rfl; exact h) (show w.heap.size ≤ w.heap.size + 1 by omega)
         clear ho5 hc0)
      | (refine load_whole (by rfl) 48 (.tmp 3) (by rfl) _ _ _ _ hr5 (by rfl) _ Tryd.underlying48 rfl (by kernel_rfl) ?_)
      | (refine store_whole (by rfl) 48 (.tmp 2) (.tmp 14) (by rfl) w.heap.size _ 64 _ _ hq5 (by rfl) _ (by rfl) (by kernel_rfl) (size_cellsOf _ _) (cellsOf_at _ _) (fun _ _ => rfl) ?_
         intro w6 hr6 ho6))
    refine bodyPost_ret (results_row rfl _ w.heap.size _ _ _ _ (by rfl) hr6 Tryd.underlying48 rfl (by kernel_rfl)) rfl ⟨?_, ho6.below hb5 (Nat.le_refl _)⟩
    refine congrArg (fun x => Ending.returned (.agg x)) (cellsOf_congr (fun i hi => ?_))
    unfold padKey
    rw [if_neg h64]
end Go.Proofs.YthdfbkfoljfbhaaDoor.Mac
