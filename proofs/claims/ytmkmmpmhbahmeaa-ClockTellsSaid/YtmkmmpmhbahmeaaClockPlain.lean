/-
  Clocks as plain integers: what the document's chapter on clocks says. No program is named here.
-/
import Derived.Test.YtmkmmpmhbahmeaaSweepPlain
namespace Go.Proofs.Ytmkmmpmhbahmeaa.Clock
open Go Go.Proofs.Ytmkmmpmhbahmeaa.Span Go.Proofs.Ytmkmmpmhbahmeaa.Sweep

/-- A clock's value. -/
def ck (p : Int) (on : Bool) (t lo hi : Int) : Value := .agg #[.int .i64 p, .bool on, .int .i64 t, .int .i64 lo, .int .i64 hi]
def readB (n : Int) : Bool := decide (0 ≤ n ∧ n ≤ 1152921504606846976)
def ppmB (p : Int) : Bool := decide (0 ≤ p ∧ p ≤ 100000)
def mayC (p : Int) (on : Bool) (t lo hi : Int) : Bool := ppmB p && (!on || (readB t && rightB lo hi))
def sampleB (lo hi asked got p : Int) : Bool := rightB lo hi && readB asked && readB got && decide (asked ≤ got) && ppmB p
def sampleLo (lo hi asked got p : Int) : Int := if sampleB lo hi asked got p then lo else 0
def sampleHi (lo hi asked got p : Int) : Int := if sampleB lo hi asked got p then growHi hi (got - asked) p else 0
def sampleC (lo hi asked got p : Int) : Int := if sampleB lo hi asked got p then 0 else 1
def newP (p : Int) : Int := if ppmB p then p else 0
def newC (p : Int) : Int := if ppmB p then 0 else 1
def nowB (p : Int) (on : Bool) (t lo hi n : Int) : Bool := mayC p on t lo hi && on && readB n && decide (t ≤ n)
def nowLo (p : Int) (on : Bool) (t lo hi n : Int) : Int := if nowB p on t lo hi n then growLo lo (n - t) p else 0
def nowHi (p : Int) (on : Bool) (t lo hi n : Int) : Int := if nowB p on t lo hi n then growHi hi (n - t) p else 0
def nowC (p : Int) (on : Bool) (t lo hi n : Int) : Int := if nowB p on t lo hi n then 0 else 11
/-- What Set answers: the error's number, and the clock, if it is 0. -/
noncomputable def setC (n : Int) (e : Nat → Int × Int) (N : Nat) (L : Int) : Int := if readB n then (fuseR e N L).2.2 else 1
noncomputable def setV (p n : Int) (e : Nat → Int × Int) (N : Nat) (L : Int) : Value := if setC n e N L = 0 then ck p true n (fuseR e N L).1 (fuseR e N L).2.1 else ck 0 false 0 0 0
theorem may_of {t p : Int} (h1 : 0 ≤ t) (h2 : t ≤ 1152921504606846976) (h3 : ppmB p = true) : mayB t p = true := by
  unfold ppmB at h3
  unfold mayB
  simp only [decide_eq_true_eq] at h3 ⊢
  omega
theorem sample_at {lo hi asked got p : Int} (h : sampleB lo hi asked got p = true) : rightB lo hi = true ∧ 0 ≤ asked ∧ asked ≤ got ∧ got ≤ 1152921504606846976 ∧ ppmB p = true := by
  unfold sampleB readB at h
  simp only [Bool.and_eq_true, decide_eq_true_eq] at h
  exact ⟨h.1.1.1.1, h.1.1.1.2.1, h.1.2, h.1.1.2.2, h.2⟩
theorem now_at {p : Int} {on : Bool} {t lo hi n : Int} (h : nowB p on t lo hi n = true) : ppmB p = true ∧ on = true ∧ rightB lo hi = true ∧ 0 ≤ t ∧ t ≤ n ∧ n ≤ 1152921504606846976 := by
  unfold nowB mayC readB at h
  simp only [Bool.and_eq_true, Bool.or_eq_true, decide_eq_true_eq, Bool.not_eq_true'] at h
  obtain ⟨⟨⟨⟨a, b⟩, c⟩, d⟩, e⟩ := h
  rcases b with b | b
  · rw [b] at c; cases c
  · exact ⟨a, c, b.2, b.1.1, e, d.2⟩
end Go.Proofs.Ytmkmmpmhbahmeaa.Clock
