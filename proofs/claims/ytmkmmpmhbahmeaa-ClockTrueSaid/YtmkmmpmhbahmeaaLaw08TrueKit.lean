/-
  What the walk of ClockTrue wants.
-/
import Derived.Test.YtmkmmpmhbahmeaaClockHas
import Derived.Test.YtmkmmpmhbahmeaaLaw08Parted
import Derived.Test.YtmkmmpmhbahmeaaServersIn
import Derived.Test.YtmkmmpmhbahmeaaOwnSet2
import Derived.Test.YtmkmmpmhbahmeaaSpanHas
import Derived.Test.YtmkmmpmhbahmeaaSpanGrow
import Derived.Test.YtmkmmpmhbahmeaaSpanRefRight
import Derived.Deep.DeepCutAuto
import Derived.Deep.LoopGhost
import Derived.WalkMore
namespace Go.Proofs.Ytmkmmpmhbahmeaa.Clock
open Go Go.RowKit Go.Proofs.Ytmkmmpmhbahmeaa.Aid Go.Proofs.Ytmkmmpmhbahmeaa.Span Go.Proofs.Ytmkmmpmhbahmeaa.Sweep

theorem new_ok {p : Int} (h : ppmB p = true) : newP p = p ∧ newC p = 0 := by
  unfold newP newC
  rw [if_pos h, if_pos h]
  exact ⟨rfl, rfl⟩
theorem Mem.put2 {w W : World} {l : List (Nat × Nat × Value)} {g : Nat} {a b : Value} (h : Mem w ((g, 0, a) :: (g, 1, b) :: l) W) (x y : Value) (hw : w.heap.size ≤ g) (hl : ∀ z ∈ l, z.1 < g) : Mem w ((g, 0, x) :: (g, 1, y) :: l) ((W.setCell ⟨g, 0, none⟩ x).setCell ⟨g, 1, none⟩ y) := by
  have c0 := h.at_ 0 rfl
  have c1 := h.at_ 1 rfl
  have hlt := h.lt 0 rfl
  refine ⟨(h.1.setCell (p := ⟨g, 0, none⟩) hw _).setCell (p := ⟨g, 1, none⟩) hw _, fun z hz => ?_⟩
  rcases List.mem_cons.1 hz with rfl | hz
  · refine ⟨by simpa using hlt, ?_⟩
    rw [World.cell?_setCell_other _ _ _ _ (by simp), World.cell?_setCell_same' _ _ _ (by rw [c0]; rfl)]
  · rcases List.mem_cons.1 hz with rfl | hz
    · refine ⟨by simpa using hlt, ?_⟩
      rw [World.cell?_setCell_same' _ _ _ (by rw [World.cell?_setCell_other _ _ _ _ (by simp), c1]; rfl)]
    · have hz' := h.2 z (List.mem_cons_of_mem _ (List.mem_cons_of_mem _ hz))
      have hne := hl z hz
      refine ⟨by simpa using hz'.1, ?_⟩
      rw [World.cell?_setCell_other _ _ _ _ (by simp <;> omega), World.cell?_setCell_other _ _ _ _ (by simp <;> omega)]
      exact hz'.2
def smallB (early late xto back : Int) : Bool := decide (0 ≤ early ∧ 0 ≤ late ∧ early < 1099511627776 ∧ late < 1099511627776 ∧ 0 ≤ xto ∧ 0 ≤ back ∧ xto < 1073741824 ∧ back < 1073741824)
/-- What is told, whether it is a lie or not. -/
def Told (l : List (Nat × Nat × Value)) (w U : World) (base k gT : Nat) (e : Nat → Int × Int) (smp : Value) (tl at_ : Int) (v : Value) (W : World) : Prop :=
  ∃ a b lz, v = .int .i64 (tl + lz) ∧ (lz = 1 ∨ (lz = 0 ∧ a ≤ at_ ∧ at_ ≤ b)) ∧ Mem w ((gT, 0, .int .i64 a) :: (gT, 1, .int .i64 b) :: l) W ∧ OwnS W base k e smp ∧ Below base U W
/-- The first j are grown. -/
def mixE (e : Nat → Int × Int) (ticks p : Int) (j i : Nat) : Int × Int := if i < j then grown e ticks p i else e i
theorem mix_put (e : Nat → Int × Int) (ticks p : Int) (j i : Nat) : putE (mixE e ticks p j) j (grown e ticks p j) i = mixE e ticks p (j + 1) i := by
  unfold putE mixE
  by_cases h : i = j
  · subst h
    rw [if_pos rfl, if_pos (by omega)]
  · rw [if_neg h]
    by_cases h2 : i < j
    · rw [if_pos h2, if_pos (by omega)]
    · rw [if_neg h2, if_neg (by omega)]
theorem mix_at (e : Nat → Int × Int) (ticks p : Int) (j : Nat) : mixE e ticks p j j = e j := by
  unfold mixE
  rw [if_neg (by omega)]
theorem mix_zero (e : Nat → Int × Int) (ticks p : Int) : mixE e ticks p 0 = e := by
  funext i
  unfold mixE
  rw [if_neg (by omega)]
theorem mix_all (e : Nat → Int × Int) (ticks p : Int) (k : Nat) (s : Int × Int) (i : Nat) (h : i < k) : mixE e ticks p k i = addE (grown e ticks p) k s i := by
  unfold mixE addE
  rw [if_pos h, if_neg (by omega)]
def SCells (g : Nat) (a b : Int) (W : World) : Prop := g < W.heap.size ∧ W.cell? ⟨g, 0, none⟩ = some (.int .i64 a) ∧ W.cell? ⟨g, 1, none⟩ = some (.int .i64 b)
theorem SCells.step {g : Nat} {a b : Int} {W W' : World} (h : SCells g a b W) (hb : Below W.heap.size W W') : SCells g a b W' :=
  ⟨Nat.lt_of_lt_of_le h.1 hb.size, (hb.cell (p := ⟨g, 0, none⟩) h.1).trans h.2.1, (hb.cell (p := ⟨g, 1, none⟩) h.1).trans h.2.2⟩
theorem SCells.other {g : Nat} {a b : Int} {W : World} (h : SCells g a b W) {g' : Nat} (hne : g' ≠ g) (i j : Nat) (x y : Value) : SCells g a b ((W.setCell ⟨g', i, none⟩ x).setCell ⟨g', j, none⟩ y) := by
  refine ⟨by simpa using h.1, ?_, ?_⟩
  · rw [World.cell?_setCell_other _ _ _ _ (by simp <;> omega), World.cell?_setCell_other _ _ _ _ (by simp <;> omega)]
    exact h.2.1
  · rw [World.cell?_setCell_other _ _ _ _ (by simp <;> omega), World.cell?_setCell_other _ _ _ _ (by simp <;> omega)]
    exact h.2.2
theorem sample_ok {lo hi asked got p : Int} (h1 : rightB lo hi = true) (h2 : 0 ≤ asked) (h3 : asked ≤ got) (h4 : got ≤ 1152921504606846976) (h5 : ppmB p = true) :
    sampleLo lo hi asked got p = lo ∧ sampleHi lo hi asked got p = growHi hi (got - asked) p ∧ sampleC lo hi asked got p = 0 := by
  have hb : sampleB lo hi asked got p = true := by
    unfold sampleB readB
    rw [h1, h5, decide_eq_true (show 0 ≤ asked ∧ asked ≤ 1152921504606846976 by omega), decide_eq_true (show 0 ≤ got ∧ got ≤ 1152921504606846976 by omega), decide_eq_true h3]
    rfl
  unfold sampleLo sampleHi sampleC
  rw [if_pos hb, if_pos hb, if_pos hb]
  exact ⟨rfl, rfl, rfl⟩
end Go.Proofs.Ytmkmmpmhbahmeaa.Clock
