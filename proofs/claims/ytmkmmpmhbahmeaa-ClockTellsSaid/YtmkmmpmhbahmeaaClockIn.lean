/-
  A clock, and five int64, as a law's arguments.
-/
import Derived.Test.YtmkmmpmhbahmeaaServersIn
import Derived.Test.YtmkmmpmhbahmeaaIntsIn
import Derived.Test.YtmkmmpmhbahmeaaClockPlain
namespace Go.Proofs.Ytmkmmpmhbahmeaa.Clock
open Go Go.Joins Go.ChangeShapes Go.WideShapes Go.ChangeAt Go.RowKit Go.Deep Go.Proofs.Ytmkmmpmhbahmeaa.Aid Go.Proofs.Ytmkmmpmhbahmeaa.Sweep

theorem clock_cells {H : Type} {enc : TypeId × Value → H} {W : World} {base : Nat} {sp : Nat → Bool} {held : Bool} {fuel : Nat} {cs : List Value} {x : DataW H × List MemPlace} (h : DataW.trod enc Try.prog W base sp held fuel 25 cs = some x) :
    ∃ (p : Int) (on : Bool) (t lo hi : Int), cs = [.int .i64 p, .bool on, .int .i64 t, .int .i64 lo, .int .i64 hi] := by
  obtain ⟨xs, n, _, _, hl, hlen, hf⟩ := DataW.trod_struct Try.underlying25 h
  rw [show Try.prog.cellsOf 25 = 5 by kernel_rfl] at hl
  have k0 : Try.prog.cellsOf 3 = 1 := by kernel_rfl
  have k1 : Try.prog.cellsOf 2 = 1 := by kernel_rfl
  have k2 : Try.prog.cellsOf 4 = 1 := by kernel_rfl
  have k3 : Try.prog.cellsOf 23 = 2 := by kernel_rfl
  match xs, hlen with
  | [y0, y1, y2, y3], _ =>
    match cs, hl with
    | [c0, c1, c2, c3, c4], _ =>
      obtain ⟨u0, hu0⟩ := one_int Try.underlying3 (show DataW.trod enc Try.prog W base sp held n 3 [c0] = some y0 from by simpa [k0] using hf 0 _ rfl)
      obtain ⟨b1, hb1, -⟩ := DataW.trod_bool Try.underlying4 (show DataW.trod enc Try.prog W base sp held n 4 [c1] = some y1 from by simpa [k2] using hf 1 _ rfl)
      obtain ⟨u2, hu2⟩ := one_int Try.underlying2 (show DataW.trod enc Try.prog W base sp held n 2 [c2] = some y2 from by simpa [k1] using hf 2 _ rfl)
      obtain ⟨u3, u4, hu3⟩ := two_cells Try.underlying23 (by kernel_rfl) k3 Try.underlying2 Try.underlying2 (show DataW.trod enc Try.prog W base sp held n 23 [c3, c4] = some y3 from by simpa [k3] using hf 3 _ rfl)
      simp at hu0 hb1 hu2 hu3
      obtain ⟨rfl, rfl⟩ := hu3
      subst hu0 hb1 hu2
      exact ⟨u0, b1, u2, u3, u4, rfl⟩
theorem clock_in {H : Type} {enc : TypeId × Value → H} {W : World} {base : Nat} {sp : Nat → Bool} {held : Bool} {r : Reach} {b0 : Nat} {v : Value} {d : DataW H} {ps : List MemPlace}
    (hval : Value.okWide Try.prog W r b0 25 v) (hd : DataW.Trod enc Try.prog W base sp held 25 v d ps) : ∃ (p : Int) (on : Bool) (t lo hi : Int), v = ck p on t lo hi := by
  obtain ⟨fuel, hf⟩ := hd
  obtain ⟨p, on, t, lo, hi, hc⟩ := clock_cells hf
  simp only [Value.okWide, Try.underlying25] at hval
  obtain ⟨X, rfl, h2, _⟩ := hval
  simp only [Value.cells] at hc
  exact ⟨p, on, t, lo, hi, by unfold ck; rw [show X = #[.int .i64 p, .bool on, .int .i64 t, .int .i64 lo, .int .i64 hi] from by apply Array.ext'; rw [hc]]⟩
theorem ints5 {X : Array Value} {f : Nat → Int} {k : IntKind} (hs : X.size = 5) (h : ∀ i, i < 5 → X[i]? = some (.int k (f i))) : X = #[.int k (f 0), .int k (f 1), .int k (f 2), .int k (f 3), .int k (f 4)] := by
  apply Array.ext_getElem?
  intro i
  match i with
  | 0 => exact h 0 (by omega)
  | 1 => exact h 1 (by omega)
  | 2 => exact h 2 (by omega)
  | 3 => exact h 3 (by omega)
  | 4 => exact h 4 (by omega)
  | i + 5 => rw [Array.getElem?_eq_none (by omega), Array.getElem?_eq_none (by simp)]
end Go.Proofs.Ytmkmmpmhbahmeaa.Clock
