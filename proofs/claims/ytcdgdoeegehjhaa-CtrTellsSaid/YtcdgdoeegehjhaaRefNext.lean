/-
  What bartizanref04.Next does: the document's own counter further on.
-/
import Derived.Test.YtcdgdoeegehjhaaCtrPlain
import Derived.Test.YtcdgdoeegehjhaaRefXored
namespace Go.Proofs.Ytcdgdoeegehjhaa.Ctr
open Go Go.RowKit Go.Proofs.Ytcdgdoeegehjhaa.Aid Go.Proofs.Ytcdgdoeegehjhaa.Aes

/-- The last k bytes are those of g, the others those of f. -/
def downTo (f g : Blk) (k j : Nat) : BitVec 8 := if 16 ≤ j + k then g j else f j
theorem downTo_next {w : World} {b t : Nat} {f g : Blk} {k : Nat} (hk : k < 16) (h : RowB w b t 16 (downTo f g k)) (v : Int) (hv : v = ((g (15 - k)).toNat : Int)) : RowB (w.setCell ⟨b, 15 - k, none⟩ (.int .u8 v)) b t 16 (downTo f g (k + 1)) := by
  refine World.rowIs.congr (World.rowIs.set h (15 - k) (.int .u8 v)) (fun i hi => ?_)
  unfold downTo
  by_cases h1 : i = 15 - k
  · subst h1
    rw [if_pos rfl, hv, if_pos (by omega)]
  · rw [if_neg h1]
    by_cases h2 : 16 ≤ i + k
    · rw [if_pos h2, if_pos (by omega)]
    · rw [if_neg h2, if_neg (by omega)]
/-- The call's two blocks: the counter under way, the result's place. -/
structure NextRel (f : Blk) (w wr : World) : Prop where
  r0 : RowB wr w.heap.size 22 16 f
  r1 : wr.rowIs (w.heap.size + 1) 22 16 (fun _ => .int .u8 0)
  hb : Below w.heap.size w wr
theorem next_new (f : Blk) (X Z : Array Value) (hX : X.size = 16) (hXi : ∀ i, i < 16 → X[i]? = some (.int .u8 ((f i).toNat : Int))) (hZ : Z = Array.replicate 16 (.int .u8 0)) (w : World) :
    ∃ W, W = (w.alloc (.cells X 22)).alloc (.cells Z 22) ∧ NextRel f w W := by
  have s1 : (w.alloc (.cells X 22)).heap.size = w.heap.size + 1 := by simp
  have r1 := (row_new w X 22 16 (fun j => .int .u8 ((f j).toNat : Int)) hX hXi).alloc (.cells Z 22)
  have r2 := row_new (w.alloc (.cells X 22)) Z 22 16 _ (by rw [hZ]; simp) (zeros16 Z hZ)
  rw [s1] at r2
  exact ⟨_, rfl, r1, r2, ((Below.refl _ _).alloc (Nat.le_refl _) _).alloc (by simp) _⟩
theorem NextRel.set {f g : Blk} {i : Nat} {w wr : World} {v : Int} (h : NextRel f w wr) (hs : RowB (wr.setCell ⟨w.heap.size, i, none⟩ (.int .u8 v)) w.heap.size 22 16 g) : NextRel g w (wr.setCell ⟨w.heap.size, i, none⟩ (.int .u8 v)) :=
  ⟨hs, World.rowIs.setOther (a := ⟨w.heap.size, i, none⟩) h.r1 (by simp) _, h.hb.setCell (p := ⟨w.heap.size, i, none⟩) (by simp) _⟩
theorem NextRel.congr {f g : Blk} {w wr : World} (h : NextRel f w wr) (hf : Same16 f g) : NextRel g w wr := ⟨World.rowIs.congr h.r0 (fun i hi => by rw [hf i hi]), h.r1, h.hb⟩

/-- One byte more. -/
theorem ref_step {at_ : Blk} {by_ k B C : Nat} (hk : k < 16) (hC : C ≤ 1) (H : acc at_ by_ k = B + C) :
    (((at_ (15 - k)).toNat + B % 256 + C) % 256 = (nextB at_ by_ (15 - k)).toNat) ∧ acc at_ by_ (k + 1) = B / 256 + ((at_ (15 - k)).toNat + B % 256 + C) / 256 ∧ ((at_ (15 - k)).toNat + B % 256 + C) / 256 ≤ 1 := by
  have h2 := (at_ (15 - k)).isLt
  refine ⟨?_, ?_, by omega⟩
  · rw [nextB_acc at_ by_ k hk, BitVec.toNat_ofNat, H]
    omega
  · rw [acc_succ, H]
    omega

set_option maxRecDepth 100000 in
set_option maxHeartbeats 1000000 in
theorem refNext_any (at_ : Blk) (by_ : Nat) (hby : by_ < 2 ^ 64) (X : Array Value) (hX : X.size = 16) (hXi : ∀ i, i < 16 → X[i]? = some (.int .u8 ((at_ i).toNat : Int))) (w : World) :
    Calls Try.prog 11 #[.agg X, .int .u64 (by_ : Int)] w fun x w' => x = .returned (.agg (byteRow 16 (nextB at_ by_))) ∧ Below w.heap.size w w' := by
  have hr := Lib.hid (fun Z hZ => next_new at_ X Z hX hXi hZ w)
  have Hby := Lib.hid hby
  clear hXi hby
  go_enter Try.func11, Try.ntmps11
  go_wp2
  obtain ⟨W, hW, h0⟩ := hr.out _ rfl
  change Code.wp _ _ _ _ ((w.alloc (.cells X 22)).alloc (.cells (Array.replicate 16 (.int .u8 0)) 22))
  rw [← hW]
  clear hW hr
  go_loopw [1, 5, 6, 7] (fun b c i _ wr => ∃ k B C : Nat, k ≤ 16 ∧ C ≤ 1 ∧ b = .int .u64 (B : Int) ∧ c = .int .u64 (C : Int) ∧ i = .int .i64 (15 - (k : Int)) ∧ Hid (B < 2 ^ 64) ∧ Hid (acc at_ by_ k = B + C) ∧ Hid (NextRel (downTo at_ (nextB at_ by_) k) w wr)) (fun _ _ i _ _ => (intOf i + 1).toNat)
  case atStart => exact ⟨0, by_, 0, by omega, by omega, rfl, rfl, rfl, Hby.out, acc_zero at_ by_, h0.congr (fun i hi => by unfold downTo; rw [if_neg (by omega)])⟩
  case round =>
    clear h0
    obtain ⟨k, B, C, hk, hC, rfl, rfl, rfl, HB, H, h⟩ := hrel
    by_cases hlt : k < 16
    · obtain ⟨i, hi⟩ : ∃ i, i = 15 - k := ⟨_, rfl⟩
      have hi16 : i < 16 := by omega
      have e0 : (15 : Int) - (k : Int) = (i : Int) := by omega
      have hst := ref_step hlt hC H.out
      have c0 : wr.cell? ⟨w.heap.size, i, none⟩ = some (.int .u8 ((at_ i).toNat : Int)) := by
        rw [World.rowIs.cell h.out.r0 hi16]
        unfold downTo
        rw [if_neg (by omega)]
      have f0 : wr.frozen? ⟨w.heap.size, i, none⟩ = false := World.rowIs.frozen h.out.r0 i
      have hnx : Hid (∀ v : Int, v = ((nextB at_ by_ i).toNat : Int) → NextRel (downTo at_ (nextB at_ by_) (k + 1)) w (wr.setCell ⟨w.heap.size, i, none⟩ (.int .u8 v))) := fun v hv => by
        rw [hi] at hv ⊢
        exact h.out.set (downTo_next hlt h.out.r0 v hv)
      rw [← hi] at hst
      obtain ⟨m, hm⟩ : ∃ m, m = B % 256 := ⟨_, rfl⟩
      rw [← hm] at hst
      have hm256 : m < 256 := by omega
      have hby8 := (at_ i).isLt
      obtain ⟨N, hN⟩ : ∃ N, N = (at_ i).toNat + m + C := ⟨_, rfl⟩
      rw [← hN] at hst
      have e1 : (B : Int) % 256 = (m : Int) := by omega
      have e2 : ((at_ i).toNat : Int) + (m : Int) + (C : Int) = (N : Int) := by omega
      have hN600 : N < 600 := by omega
      have q1 : (0 : Int) ≤ (i : Int) := by omega
      have q2 : (i : Int) < 16 := by omega
      have Hst := Lib.hid hst
      have Hm := Lib.hid hm
      have HN := Lib.hid hN
      have Hi := Lib.hid hi
      rw [e0]
      clear hst hm hN h hi e0
      go_wp2
      have hB := HB.out
      have e3 : IntKind.u64.wrap ((B : Int) / 256) = (B : Int) / 256 := IntWalk.u64_in _ (by omega)
      exact ⟨⟨k + 1, B / 256, N / 256, by omega, Hst.out.2.2, ival (by rw [e3]; omega), ival (by omega), ival (by have := Hi.out; omega), Nat.lt_of_le_of_lt (Nat.div_le_self _ _) hB, Hst.out.2.1, hnx.out _ (by have := Hst.out.1; omega)⟩, by simp [intOf]⟩
    · have q0 : ¬ (0 : Int) ≤ 15 - (k : Int) := by omega
      have hr : wr.rowIs w.heap.size 22 16 (fun j => .int .u8 ((nextB at_ by_ j).toNat : Int)) := World.rowIs.congr h.out.r0 (fun j hj => by unfold downTo; rw [if_pos (by omega)])
      have hz := h.out.r1
      have hb := h.out.hb
      go_wp2_with (first
        | (refine load_whole (by rfl) 22 (.tmp 2) (by rfl) _ _ _ _ hr (by rfl) _ Try.underlying22 rfl (by kernel_rfl) ?_)
        | (refine store_whole (by rfl) 22 (.tmp 4) (.tmp 30) (by rfl) (w.heap.size + 1) _ 16 _ _ hz (by rfl) _ (by rfl) (by kernel_rfl) (size_cellsOf _ _) (cellsOf_at _ _) (fun _ _ => rfl) ?_
           intro w6 hr6 ho6))
      exact bodyPost_ret (results_row rfl _ (w.heap.size + 1) _ _ _ _ (by rfl) hr6 Try.underlying22 rfl (by kernel_rfl)) rfl ⟨rfl, ho6.below hb (by omega)⟩
end Go.Proofs.Ytcdgdoeegehjhaa.Ctr
