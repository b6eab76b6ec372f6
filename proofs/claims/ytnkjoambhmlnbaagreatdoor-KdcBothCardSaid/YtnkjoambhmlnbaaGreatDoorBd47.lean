/-
  The class of all worlds that hold what a world held (calls may have made memory since), spelled so that the walk sees through it; regions that draw their order, walked over that class.
-/
import Derived.Test.YtnkjoambhmlnbaaGreatDoorBd01
import Derived.Test.YtnkjoambhmlnbaaGreatDoorBd12
import Derived.Test.YtnkjoambhmlnbaaGreatDoorBd13
import Derived.Deep.QuietTactic
import Derived.BigQuiet
namespace Go.Proofs.YtnkjoambhmlnbaaGreatDoor.Aid
open Go Go.RowKit
variable {P : Program}

open Classical in
/-- A world that is behind w0 by calls that leave alone what was there. -/
noncomputable def after (w0 x : World) : World := if Below w0.heap.size w0 x then x else w0
theorem after_below (w0 x : World) : Below w0.heap.size w0 (after w0 x) := by
  unfold after
  split
  · assumption
  · exact Below.refl _ _
theorem after_cell (w0 : World) : ∀ (x : World) (b o : Nat), b < w0.heap.size → (after w0 x).cell? ⟨b, o, none⟩ = w0.cell? ⟨b, o, none⟩ := fun x b o h => (after_below w0 x).cell (p := ⟨b, o, none⟩) h
theorem after_frozen (w0 : World) : ∀ (x : World) (b o : Nat), b < w0.heap.size → (after w0 x).frozen? ⟨b, o, none⟩ = w0.frozen? ⟨b, o, none⟩ := fun x b o h => (after_below w0 x).frozen (p := ⟨b, o, none⟩) h
theorem after_mk (w0 w : World) (h : Below w0.heap.size w0 w) : ∃ x, w = after w0 x := ⟨w, by unfold after; rw [if_pos h]⟩

theorem region_after {id : Nat} {Q : Exit → Act → World → Prop} {a : Act} {w : World} {l : List Oper} (hm : P.follows .mixedOrders = true) (hB : Region.lexB .any l.toArray = true)
    (h : wpQuiet P l.toArray (fun W => ∃ x, W = after w x) (fun a' => ∀ w', (∃ x, w' = after w x) → Q .normal a' w') l a) : (Code.region id l.toArray true).wp P Q a w :=
  wp_region_quiet (C := fun W => ∃ x, W = after w x) hm hB (after_mk _ _ ((Below.refl _ _).drew)) (by simpa using h)
/-- A call in such a region, by its contract in any world. -/
theorem after_call {f : FuncId} {args : Array Value} {w0 : World} {x : World} {v : Value}
    (h : ∀ W, Calls P f args W fun e w' => e = .returned v ∧ Below W.heap.size W w') : Calls P f args (after w0 x) fun e w'' => e = .returned v ∧ ∃ y, w'' = after w0 y :=
  (h _).mono fun _ _ ⟨he, hb⟩ => ⟨he, after_mk _ _ ((after_below w0 x).trans (hb.mono (after_below w0 x).size))⟩
theorem after_call_same {f : FuncId} {args : Array Value} {w0 : World} {x : World} {v : Value}
    (h : ∀ W, Calls P f args W fun e w' => e = .returned v ∧ W = w') : Calls P f args (after w0 x) fun e w'' => e = .returned v ∧ ∃ y, w'' = after w0 y :=
  (h _).mono fun _ _ ⟨he, hb⟩ => ⟨he, x, hb.symm⟩
theorem after_call_at {f : FuncId} {args : Array Value} {w0 : World} {x : World} {v : Value}
    (h : Calls P f args (after w0 x) fun e w' => e = .returned v ∧ Below (after w0 x).heap.size (after w0 x) w') : Calls P f args (after w0 x) fun e w'' => e = .returned v ∧ ∃ y, w'' = after w0 y :=
  h.mono fun _ _ ⟨he, hb⟩ => ⟨he, after_mk _ _ ((after_below w0 x).trans (hb.mono (after_below w0 x).size))⟩
end Go.Proofs.YtnkjoambhmlnbaaGreatDoor.Aid
