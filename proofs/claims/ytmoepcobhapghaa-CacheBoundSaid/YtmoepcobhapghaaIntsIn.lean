/-
  Arrays of int64 and structs of two int64 as a law's arguments, as the walks take them.
-/
import Derived.Test.YtmoepcobhapghaaBytesIn
import Derived.Lib.SmallJoins
namespace Go.Proofs.Ytmoepcobhapghaa.Aid
open Go Go.Joins Go.ChangeShapes Go.WideShapes Go.RowKit Go.Deep
section
variable {H : Type} {enc : TypeId × Value → H} {P : Program} {W : World} {base : Nat} {sp : Nat → Bool} {held : Bool}
theorem two_ints_in {r : Reach} {b0 : Nat} {t : TypeId} {f0 f1 : Field} {k0 k1 : IntKind} {v : Value} {d : DataW H} {ps : List MemPlace} (hs : P.underlying t = some (.struct #[f0, f1])) (hone : oneCellFields P #[f0, f1] = true) (hC : P.cellsOf t = 2)
    (h0 : P.underlying f0.type = some (.int k0)) (h1 : P.underlying f1.type = some (.int k1)) (hval : Value.okWide P W r b0 t v) (hd : DataW.Trod enc P W base sp held t v d ps) : ∃ a b : Int, v = .agg #[.int k0 a, .int k1 b] := by
  obtain ⟨v0, v1, y0, y1, n, rfl, -, -, e0, e1⟩ := open_agg2 hs hone hC hval hd
  obtain ⟨a, ha, -, -⟩ := DataW.trod_int h0 e0
  obtain ⟨b, hb, -, -⟩ := DataW.trod_int h1 e1
  simp at ha hb
  exact ⟨a, b, by rw [ha, hb]⟩
def intAt (cs : List Value) (i : Nat) : Int := match cs[i]? with | some (.int _ z) => z | _ => 0
theorem ints_in {r : Reach} {b0 : Nat} {t e : TypeId} {k : IntKind} {n : Nat} {v : Value} {d : DataW H} {ps : List MemPlace} (hu : P.underlying t = some (.array n e)) (he : P.underlying e = some (.int k)) (hc : P.cellsOf e = 1) (hn : P.cellsOf t = n)
    (hval : Value.okWide P W r b0 t v) (hd : DataW.Trod enc P W base sp held t v d ps) : ∃ (X : Array Value) (f : Nat → Int), v = .agg X ∧ X.size = n ∧ ∀ i, i < n → X[i]? = some (.int k (f i)) := by
  simp only [Value.okWide, hu] at hval
  obtain ⟨X, rfl, h2, _⟩ := hval
  obtain ⟨fuel, hf⟩ := hd
  obtain ⟨hl, hp⟩ := arr_pieces hu hf
  refine ⟨X, intAt X.toList, rfl, by rw [h2, hn], fun i hi => ?_⟩
  obtain ⟨m, y, hy⟩ := hp i hi
  rw [hc, Nat.mul_one] at hy
  obtain ⟨z, hz, _, hw⟩ := DataW.trod_int he hy
  have := take_one hz
  simp only [Value.cells] at this
  rw [← Array.getElem?_toList, this]
  unfold intAt
  rw [this]
theorem ints3 {X : Array Value} {f : Nat → Int} {k : IntKind} (hs : X.size = 3) (h : ∀ i, i < 3 → X[i]? = some (.int k (f i))) : X = #[.int k (f 0), .int k (f 1), .int k (f 2)] := by
  apply Array.ext_getElem?
  intro i
  match i with
  | 0 => exact h 0 (by omega)
  | 1 => exact h 1 (by omega)
  | 2 => exact h 2 (by omega)
  | i + 3 => rw [Array.getElem?_eq_none (by omega), Array.getElem?_eq_none (by simp)]
theorem ints4 {X : Array Value} {f : Nat → Int} {k : IntKind} (hs : X.size = 4) (h : ∀ i, i < 4 → X[i]? = some (.int k (f i))) : X = #[.int k (f 0), .int k (f 1), .int k (f 2), .int k (f 3)] := by
  apply Array.ext_getElem?
  intro i
  match i with
  | 0 => exact h 0 (by omega)
  | 1 => exact h 1 (by omega)
  | 2 => exact h 2 (by omega)
  | 3 => exact h 3 (by omega)
  | i + 4 => rw [Array.getElem?_eq_none (by omega), Array.getElem?_eq_none (by simp)]
end
end Go.Proofs.Ytmoepcobhapghaa.Aid
