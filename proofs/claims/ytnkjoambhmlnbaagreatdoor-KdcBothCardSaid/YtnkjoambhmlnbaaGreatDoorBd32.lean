/-
  Pure facts for RefFlip.
-/
import Derived.Test.YtnkjoambhmlnbaaGreatDoorBd01
import Derived.Test.YtnkjoambhmlnbaaGreatDoorBd28
import Derived.Test.YtnkjoambhmlnbaaGreatDoorBd07
import Derived.Test.YtnkjoambhmlnbaaGreatDoorBd13
namespace Go.Proofs.YtnkjoambhmlnbaaGreatDoor.Ctr
open Go Go.RowKit Go.Proofs.YtnkjoambhmlnbaaGreatDoor.Aid Go.Proofs.YtnkjoambhmlnbaaGreatDoor.Aes
/-- The last k bytes are those of g, the others those of f. -/
def downTo (f g : Blk) (k j : Nat) : BitVec 8 := if 16 ≤ j + k then g j else f j
theorem downTo_next {w : World} {b t : Nat} {f g : Blk} {k : Nat} (hk : k < 16) (h : RowB w b t 16 (downTo f g k)) (v : Int) (hv : v = ((g (15 - k)).toNat : Int)) : RowB (w.setCell ⟨b, 15 - k, none⟩ (.int .u8 v)) b t 16 (downTo f g (k + 1)) := by
  refine World.rowIs.congr (World.rowIs.set h (15 - k) (.int .u8 v)) (fun i hi => ?_)
  unfold downTo
  by_cases h1 : i = 15 - k
  · subst h1
    rw [if_pos rfl, hv, if_pos (by omega)]
  · rw [if_neg h1]
    by_cases h2 : 16 ≤ i + k
    · rw [if_pos h2, if_pos (by omega)]
    · rw [if_neg h2, if_neg (by omega)]
/-- The call's two blocks: the counter under way, the result's place. -/
structure NextRel (f : Blk) (w wr : World) : Prop where
  r0 : RowB wr w.heap.size 24 16 f
  r1 : wr.rowIs (w.heap.size + 1) 24 16 (fun _ => .int .u8 0)
  hb : Below w.heap.size w wr
theorem next_new (f : Blk) (X Z : Array Value) (hX : X.size = 16) (hXi : ∀ i, i < 16 → X[i]? = some (.int .u8 ((f i).toNat : Int))) (hZ : Z = Array.replicate 16 (.int .u8 0)) (w : World) :
    ∃ W, W = (w.alloc (.cells X 24)).alloc (.cells Z 24) ∧ NextRel f w W := by
  have s1 : (w.alloc (.cells X 24)).heap.size = w.heap.size + 1 := by simp
  have r1 := (row_new w X 24 16 (fun j => .int .u8 ((f j).toNat : Int)) hX hXi).alloc (.cells Z 24)
  have r2 := row_new (w.alloc (.cells X 24)) Z 24 16 _ (by rw [hZ]; simp) (zeros16 Z hZ)
  rw [s1] at r2
  exact ⟨_, rfl, r1, r2, ((Below.refl _ _).alloc (Nat.le_refl _) _).alloc (by simp) _⟩
theorem NextRel.set {f g : Blk} {i : Nat} {w wr : World} {v : Int} (h : NextRel f w wr) (hs : RowB (wr.setCell ⟨w.heap.size, i, none⟩ (.int .u8 v)) w.heap.size 24 16 g) : NextRel g w (wr.setCell ⟨w.heap.size, i, none⟩ (.int .u8 v)) :=
  ⟨hs, World.rowIs.setOther (a := ⟨w.heap.size, i, none⟩) h.r1 (by simp) _, h.hb.setCell (p := ⟨w.heap.size, i, none⟩) (by simp) _⟩
theorem NextRel.congr {f g : Blk} {w wr : World} (h : NextRel f w wr) (hf : Same16 f g) : NextRel g w wr := ⟨World.rowIs.congr h.r0 (fun i hi => by rw [hf i hi]), h.r1, h.hb⟩

/-- One byte more. -/
theorem ref_step {at_ : Blk} {by_ k B C : Nat} (hk : k < 16) (hC : C ≤ 1) (H : acc at_ by_ k = B + C) :
    (((at_ (15 - k)).toNat + B % 256 + C) % 256 = (nextB at_ by_ (15 - k)).toNat) ∧ acc at_ by_ (k + 1) = B / 256 + ((at_ (15 - k)).toNat + B % 256 + C) / 256 ∧ ((at_ (15 - k)).toNat + B % 256 + C) / 256 ≤ 1 := by
  have h2 := (at_ (15 - k)).isLt
  refine ⟨?_, ?_, by omega⟩
  · rw [nextB_acc at_ by_ k hk, BitVec.toNat_ofNat, H]
    omega
  · rw [acc_succ, H]
    omega

end Go.Proofs.YtnkjoambhmlnbaaGreatDoor.Ctr
namespace Go.Proofs.YtnkjoambhmlnbaaGreatDoor.Ctr
open Go Go.RowKit Go.Proofs.YtnkjoambhmlnbaaGreatDoor.Aid Go.Proofs.YtnkjoambhmlnbaaGreatDoor.Aes
/-- The call's three blocks: the key, the counter, the block of the key stream. -/
structure FlipRel (key at_ M : Blk) (w wr : World) : Prop where
  r0 : RowB wr w.heap.size 24 16 key
  r1 : RowB wr (w.heap.size + 1) 24 16 at_
  r2 : RowB wr (w.heap.size + 2) 24 16 M
  hb : Below w.heap.size w wr
theorem FlipRel.below {key at_ M : Blk} {w wr wr' : World} {B : Nat} (h : FlipRel key at_ M w wr) (hb : Below B wr wr') (hB : w.heap.size + 3 ≤ B) : FlipRel key at_ M w wr' :=
  ⟨World.rowIs.of_block h.r0 (hb.block _ (by omega)), World.rowIs.of_block h.r1 (hb.block _ (by omega)), World.rowIs.of_block h.r2 (hb.block _ (by omega)), h.hb.trans (hb.mono (by omega))⟩
theorem FlipRel.drew {key at_ M : Blk} {w wr : World} (h : FlipRel key at_ M w wr) : FlipRel key at_ M w wr.drew := ⟨h.r0, h.r1, h.r2, h.hb.drew⟩
theorem FlipRel.store {key at_ M N : Blk} {w wr wr' : World} (h : FlipRel key at_ M w wr) (ho : Only (w.heap.size + 2) wr wr') (hr : RowB wr' (w.heap.size + 2) 24 16 N) : FlipRel key at_ N w wr' :=
  ⟨ho.row h.r0 (by omega), ho.row h.r1 (by omega), hr, ho.below h.hb (by omega)⟩
theorem stream_at {key at_ M : Blk} {k : Nat} (h : Same16 M (enc key (nextB at_ (k / 16)))) : M (k % 16) = stream key at_ k := h (k % 16) (by omega)

end Go.Proofs.YtnkjoambhmlnbaaGreatDoor.Ctr
