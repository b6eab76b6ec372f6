/-
  Spans as plain integers: what the document's chapter on intervals says, and P6.3. No program is named here.
-/
import Derived.Test.YtmkmmpmhbahmeaaAid
import Derived.IntWalk
namespace Go.Proofs.Ytmkmmpmhbahmeaa.Span
open Go Go.RowKit Go.Proofs.Ytmkmmpmhbahmeaa.Aid

/-- A time drawn back to the range. -/
def lim (t : Int) : Int := max (-1152921504606846976) (min t 1152921504606846976)
def sp (a b : Int) : Value := .agg #[.int .i64 a, .int .i64 b]
def rightB (a b : Int) : Bool := decide (-1152921504606846976 ≤ a ∧ b ≤ 1152921504606846976 ∧ a ≤ b)
def hasB (a b t : Int) : Bool := decide (a ≤ t ∧ t ≤ b)
def mayB (t p : Int) : Bool := decide (0 ≤ t ∧ t ≤ 1152921504606846976 ∧ 0 ≤ p ∧ p ≤ 100000)
def meetB (a b c d : Int) : Bool := decide (max a c ≤ min b d)
def meetLo (a b c d : Int) : Int := if meetB a b c d then max a c else 0
def meetHi (a b c d : Int) : Int := if meetB a b c d then min b d else 0
def slackZ (t p : Int) : Int := if mayB t p then t / 1000000 * p + (t % 1000000 * p + 999999) / 1000000 else 0
def growLo (a t p : Int) : Int := if mayB t p then lim (a + t - slackZ t p) else a
def growHi (b t p : Int) : Int := if mayB t p then lim (b + t + slackZ t p) else b

theorem retI {a b : Int} (h : a = b) : Ending.returned (.int .i64 a) = .returned (.int .i64 b) := by rw [h]
theorem retB {a b : Bool} (h : a = b) : Ending.returned (.bool a) = .returned (.bool b) := by rw [h]
theorem retS {a b c d : Int} (h : a = c) (h' : b = d) : Ending.returned (.agg #[.int .i64 a, .int .i64 b]) = .returned (sp c d) := by rw [h, h']; rfl

theorem bcell {W w1 : World} (hb : Below W.heap.size W w1) : (∀ b o, b < W.heap.size → w1.cell? ⟨b, o, none⟩ = W.cell? ⟨b, o, none⟩) ∧ (∀ b o, b < W.heap.size → w1.frozen? ⟨b, o, none⟩ = W.frozen? ⟨b, o, none⟩) :=
  ⟨fun b o h => hb.cell (p := ⟨b, o, none⟩) h, fun b o h => hb.frozen (p := ⟨b, o, none⟩) h⟩
theorem slack_bounds (t p : Int) (h : mayB t p = true) : 0 ≤ slackZ t p ∧ slackZ t p ≤ 115292150460700000 ∧ slackZ t p ≤ t := by
  unfold slackZ
  rw [if_pos h]
  unfold mayB at h
  simp only [decide_eq_true_eq] at h
  obtain ⟨h0, h1, h2, h3⟩ := h
  have a0 : 0 ≤ t / 1000000 := by omega
  have a1 : t / 1000000 ≤ 1152921504606 := by omega
  have b0 : 0 ≤ t % 1000000 := by omega
  have b1 : t % 1000000 ≤ 999999 := by omega
  have ht : t = t / 1000000 * 1000000 + t % 1000000 := by omega
  generalize t / 1000000 = q at *
  generalize t % 1000000 = r at *
  have c0 : 0 ≤ q * p := Int.mul_nonneg a0 h2
  have c1 : q * p ≤ q * 100000 := Int.mul_le_mul_of_nonneg_left h3 a0
  have e0 : 0 ≤ r * p := Int.mul_nonneg b0 h2
  have e1 : r * p ≤ r * 100000 := Int.mul_le_mul_of_nonneg_left h3 b0
  generalize q * p = x at *
  generalize r * p = y at *
  omega
theorem may_range (t p : Int) (h : mayB t p = true) : 0 ≤ t ∧ t ≤ 1152921504606846976 := by
  unfold mayB at h
  simp only [decide_eq_true_eq] at h
  exact ⟨h.1, h.2.1⟩
theorem right_range (a b : Int) (h : rightB a b = true) : -1152921504606846976 ≤ a ∧ b ≤ 1152921504606846976 ∧ a ≤ b := by
  unfold rightB at h
  simp only [decide_eq_true_eq] at h
  exact h

theorem slack_at (t p : Int) (h : mayB t p = true) : slackZ t p = (t * p + 999999) / 1000000 := by
  unfold slackZ
  rw [if_pos h]
  have e : t * p = t / 1000000 * p * 1000000 + t % 1000000 * p := by
    have h1 : t = t / 1000000 * 1000000 + t % 1000000 := by omega
    calc t * p = (t / 1000000 * 1000000 + t % 1000000) * p := by rw [← h1]
      _ = _ := by rw [Int.add_mul, Int.mul_right_comm]
  generalize t / 1000000 * p = x at *
  generalize t % 1000000 * p = y at *
  omega
theorem grow_right (a b t p : Int) (hm : mayB t p = true) (h : rightB a b = true) : rightB (growLo a t p) (growHi b t p) = true := by
  obtain ⟨k0, k1, k2⟩ := slack_bounds t p hm
  obtain ⟨r0, r1, r2⟩ := right_range a b h
  unfold growLo growHi
  rw [if_pos hm, if_pos hm]
  unfold rightB lim
  rw [decide_eq_true_iff]
  omega
theorem meet_sym (a b c d : Int) : meetB c d a b = meetB a b c d ∧ meetLo c d a b = meetLo a b c d ∧ meetHi c d a b = meetHi a b c d := by
  have h1 : max c a = max a c := by omega
  have h2 : min d b = min b d := by omega
  unfold meetLo meetHi meetB
  rw [h1, h2]
  exact ⟨rfl, rfl, rfl⟩

end Go.Proofs.Ytmkmmpmhbahmeaa.Span
