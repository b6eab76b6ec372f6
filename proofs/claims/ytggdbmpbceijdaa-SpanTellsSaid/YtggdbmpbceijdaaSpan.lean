/-
  What the functions of package span do, and those of the document's answer: contracts over plain integers.
-/
import Derived.Test.YtggdbmpbceijdaaProg
import Derived.Test.YtggdbmpbceijdaaAid
import Derived.Test.YtggdbmpbceijdaaHeld
import Derived.Test.YtggdbmpbceijdaaMix
namespace Go.Proofs.Ytggdbmpbceijdaa.Span
open Go Go.RowKit Go.Proofs.Ytggdbmpbceijdaa.Aid

/-- A time drawn back to the range. -/
def lim (t : Int) : Int := max (-1152921504606846976) (min t 1152921504606846976)
def sp (a b : Int) : Value := .agg #[.int .i64 a, .int .i64 b]
def rightB (a b : Int) : Bool := decide (-1152921504606846976 ≤ a ∧ b ≤ 1152921504606846976 ∧ a ≤ b)
def hasB (a b t : Int) : Bool := decide (a ≤ t ∧ t ≤ b)
def mayB (t p : Int) : Bool := decide (0 ≤ t ∧ t ≤ 1152921504606846976 ∧ 0 ≤ p ∧ p ≤ 100000)
def meetB (a b c d : Int) : Bool := decide (max a c ≤ min b d)
def meetLo (a b c d : Int) : Int := if meetB a b c d then max a c else 0
def meetHi (a b c d : Int) : Int := if meetB a b c d then min b d else 0
def slackZ (t p : Int) : Int := if mayB t p then t / 1000000 * p + (t % 1000000 * p + 999999) / 1000000 else 0
def growLo (a t p : Int) : Int := if mayB t p then lim (a + t - slackZ t p) else a
def growHi (b t p : Int) : Int := if mayB t p then lim (b + t + slackZ t p) else b

theorem retI {a b : Int} (h : a = b) : Ending.returned (.int .i64 a) = .returned (.int .i64 b) := by rw [h]
theorem retB {a b : Bool} (h : a = b) : Ending.returned (.bool a) = .returned (.bool b) := by rw [h]
theorem retS {a b c d : Int} (h : a = c) (h' : b = d) : Ending.returned (.agg #[.int .i64 a, .int .i64 b]) = .returned (sp c d) := by rw [h, h']; rfl

theorem limit_same (t : Int) (w : World) : Calls Try.prog 23 #[.int .i64 t] w fun e w' => e = .returned (.int .i64 (lim t)) ∧ w = w' := by
  go_enter Try.func23, Try.ntmps23
  go_wp2
  all_goals
    go_ret
    exact ⟨retI (by unfold lim; omega), rfl⟩

theorem may_any (t p : Int) (w : World) : Calls Try.prog 21 #[.int .i64 t, .int .i64 p] w fun e w' => e = .returned (.bool (mayB t p)) ∧ w = w' := by
  by_cases h0 : 0 ≤ t <;> by_cases h1 : t ≤ 1152921504606846976 <;> by_cases h2 : 0 ≤ p <;> by_cases h3 : p ≤ 100000
  all_goals
    go_enter Try.func21, Try.ntmps21
    go_wp2
    go_ret
    exact ⟨retB (by unfold mayB; simp [*]), rfl⟩
theorem refMay_any (t p : Int) (w : World) : Calls Try.prog 22 #[.int .i64 t, .int .i64 p] w fun e w' => e = .returned (.bool (mayB t p)) ∧ w = w' := by
  by_cases h0 : 0 ≤ t <;> by_cases h1 : t ≤ 1152921504606846976 <;> by_cases h2 : 0 ≤ p <;> by_cases h3 : p ≤ 100000
  all_goals
    go_enter Try.func22, Try.ntmps22
    go_wp2
    go_ret
    exact ⟨retB (by unfold mayB; simp [*]), rfl⟩

theorem has_any (a b t : Int) (w : World) : Calls Try.prog 12 #[sp a b, .int .i64 t] w fun e w' => e = .returned (.bool (hasB a b t)) ∧ Below w.heap.size w w' := by
  unfold sp
  by_cases h0 : a ≤ t <;> by_cases h1 : t ≤ b
  all_goals
    go_enter Try.func12, Try.ntmps12
    go_wp2
    go_ret
    exact ⟨retB (by unfold hasB; simp [*]), (Below.refl _ _).alloc (Nat.le_refl _) _⟩
theorem refHas_any (a b t : Int) (w : World) : Calls Try.prog 13 #[sp a b, .int .i64 t] w fun e w' => e = .returned (.bool (hasB a b t)) ∧ Below w.heap.size w w' := by
  unfold sp
  by_cases h0 : a ≤ t <;> by_cases h1 : t ≤ b
  all_goals
    go_enter Try.func13, Try.ntmps13
    go_wp2
    go_ret
    exact ⟨retB (by unfold hasB; simp [*]), (Below.refl _ _).alloc (Nat.le_refl _) _⟩
theorem refRight_any (a b : Int) (w : World) : Calls Try.prog 11 #[sp a b] w fun e w' => e = .returned (.bool (rightB a b)) ∧ Below w.heap.size w w' := by
  unfold sp
  by_cases h0 : -1152921504606846976 ≤ a <;> by_cases h1 : b ≤ 1152921504606846976 <;> by_cases h2 : a ≤ b
  all_goals first
    | (exfalso; omega)
    | (go_enter Try.func11, Try.ntmps11
       go_wp2
       go_ret
       exact ⟨retB (by unfold rightB; simp [*]), (Below.refl _ _).alloc (Nat.le_refl _) _⟩)

/-- '==' of two spans. -/
theorem run_eql_sp (a b c d : Int) (W : World) : (binOp .eql 23 (sp a b) (sp c d)).run Try.prog W = .ok (.bool (decide (a = c ∧ b = d))) W := by
  unfold sp
  by_cases h0 : a = c <;> by_cases h1 : b = d <;> go_simp
theorem run_neq_sp (a b c d : Int) (W : World) : (binOp .neq 23 (sp a b) (sp c d)).run Try.prog W = .ok (.bool (!decide (a = c ∧ b = d))) W := by
  unfold sp
  by_cases h0 : a = c <;> by_cases h1 : b = d <;> go_simp
theorem width_any (a b : Int) (h : IntKind.i64.wrap (b - a) = b - a) (w : World) : Calls Try.prog 17 #[sp a b] w fun e w' => e = .returned (.int .i64 (b - a)) ∧ Below w.heap.size w w' := by
  unfold sp
  go_enter Try.func17, Try.ntmps17
  go_wp2
  go_ret
  exact ⟨rfl, (Below.refl _ _).alloc (Nat.le_refl _) _⟩
theorem hull_any (a b c d : Int) (w : World) : Calls Try.prog 16 #[sp a b, sp c d] w fun e w' => e = .returned (sp (min a c) (max b d)) ∧ Below w.heap.size w w' := by
  have e1 : (if c < a then c else a) = min a c := by omega
  have e2 : (if b < d then d else b) = max b d := by omega
  generalize min a c = x at *
  generalize max b d = y at *
  unfold sp
  go_enter Try.func16, Try.ntmps16
  go_wp2
  exact bodyPost_ret (v := sp x y) (by simp [sp, results, Try.results16, go_sem]) rfl ⟨rfl, (((Below.refl _ _).alloc (Nat.le_refl _) _).alloc (by simp) _).alloc (by simp; omega) _⟩
theorem meet_no (a b c d : Int) (h : meetB a b c d = false) (w : World) : Calls Try.prog 8 #[sp a b, sp c d] w fun e w' => e = .returned (.tuple #[sp 0 0, .bool false]) ∧ Below w.heap.size w w' := by
  have e1 : (if a < c then c else a) = max a c := by omega
  have e2 : (if d < b then d else b) = min b d := by omega
  have h' : min b d < max a c := by unfold meetB at h; simp only [decide_eq_false_iff_not] at h; omega
  clear h
  generalize max a c = x at *
  generalize min b d = y at *
  unfold sp
  go_enter Try.func8, Try.ntmps8
  go_wp2
  exact bodyPost_ret (v := .tuple #[sp 0 0, .bool false]) (by simp [sp, results, Try.results8, go_sem]) rfl ⟨rfl, ((((Below.refl _ _).alloc (Nat.le_refl _) _).alloc (by simp) _).alloc (by simp; omega) _).alloc (by simp; omega) _⟩
theorem meet_yes (a b c d : Int) (h : meetB a b c d = true) (w : World) : Calls Try.prog 8 #[sp a b, sp c d] w fun e w' => e = .returned (.tuple #[sp (max a c) (min b d), .bool true]) ∧ Below w.heap.size w w' := by
  have e1 : (if a < c then c else a) = max a c := by omega
  have e2 : (if d < b then d else b) = min b d := by omega
  have h' : max a c ≤ min b d := by unfold meetB at h; simp only [decide_eq_true_eq] at h; omega
  clear h
  generalize max a c = x at *
  generalize min b d = y at *
  unfold sp
  go_enter Try.func8, Try.ntmps8
  go_wp2
  exact bodyPost_ret (v := .tuple #[sp x y, .bool true]) (by simp [sp, results, Try.results8, go_sem]) rfl ⟨rfl, ((((Below.refl _ _).alloc (Nat.le_refl _) _).alloc (by simp) _).alloc (by simp; omega) _).alloc (by simp; omega) _⟩
theorem slack_no (t p : Int) (h : mayB t p = false) (w : World) : Calls Try.prog 14 #[.int .i64 t, .int .i64 p] w fun e w' => e = .returned (.int .i64 0) ∧ w = w' := by
  have hm := fun w => may_any t p w
  simp only [h] at hm
  have HM := Lib.hid hm
  clear hm h
  go_enter Try.func14, Try.ntmps14
  go_wp2_with (go_at_call 21; refine (HM.out _).mono ?_; rintro x w' ⟨rfl, rfl⟩)
  go_ret
  exact ⟨rfl, rfl⟩
theorem slack_yes (t p : Int) (h : mayB t p = true) (w : World) : Calls Try.prog 14 #[.int .i64 t, .int .i64 p] w fun e w' => e = .returned (.int .i64 (slackZ t p)) ∧ w = w' := by
  have hm := fun w => may_any t p w
  simp only [h] at hm
  have HM := Lib.hid hm
  clear hm
  have hS : slackZ t p = t / 1000000 * p + (t % 1000000 * p + 999999) / 1000000 := by unfold slackZ; rw [if_pos h]
  unfold mayB at h
  simp only [decide_eq_true_eq] at h
  obtain ⟨h0, h1, h2, h3⟩ := h
  have a0 : 0 ≤ t / 1000000 := by omega
  have a1 : t / 1000000 ≤ 1152921504606 := by omega
  have b0 : 0 ≤ t % 1000000 := by omega
  have b1 : t % 1000000 ≤ 999999 := by omega
  have d1 : t.tdiv 1000000 = t / 1000000 := Int.tdiv_eq_ediv_of_nonneg h0
  have m1 : t.tmod 1000000 = t % 1000000 := Int.tmod_eq_emod_of_nonneg h0
  generalize t / 1000000 = q at *
  generalize t % 1000000 = r at *
  have c0 : 0 ≤ q * p := Int.mul_nonneg a0 h2
  have c1 : q * p ≤ 1152921504606 * 100000 := Int.mul_le_mul a1 h3 h2 (by omega)
  have e0 : 0 ≤ r * p := Int.mul_nonneg b0 h2
  have e1 : r * p ≤ 999999 * 100000 := Int.mul_le_mul b1 h3 h2 (by omega)
  have d2 : (r * p + 999999).tdiv 1000000 = (r * p + 999999) / 1000000 := Int.tdiv_eq_ediv_of_nonneg (by omega)
  have f0 : 0 ≤ (r * p + 999999) / 1000000 := by omega
  have f1 : (r * p + 999999) / 1000000 ≤ 100000 := by omega
  have HS := Lib.hid hS
  clear hS
  go_enter Try.func14, Try.ntmps14
  go_wp2_with (go_at_call 21; refine (HM.out _).mono ?_; rintro x w' ⟨rfl, rfl⟩)
  go_ret
  exact ⟨retI (by rw [HS.out]; omega), rfl⟩
theorem refSlack_no (t p : Int) (h : mayB t p = false) (w : World) : Calls Try.prog 15 #[.int .i64 t, .int .i64 p] w fun e w' => e = .returned (.int .i64 0) ∧ w = w' := by
  have hm := fun w => refMay_any t p w
  simp only [h] at hm
  have HM := Lib.hid hm
  clear hm h
  go_enter Try.func15, Try.ntmps15
  go_wp2_with (go_at_call 22; refine (HM.out _).mono ?_; rintro x w' ⟨rfl, rfl⟩)
  go_ret
  exact ⟨rfl, rfl⟩
theorem refSlack_yes (t p : Int) (h : mayB t p = true) (w : World) : Calls Try.prog 15 #[.int .i64 t, .int .i64 p] w fun e w' => e = .returned (.int .i64 (slackZ t p)) ∧ w = w' := by
  have hm := fun w => refMay_any t p w
  simp only [h] at hm
  have HM := Lib.hid hm
  clear hm
  have hS : slackZ t p = t / 1000000 * p + (t % 1000000 * p + 999999) / 1000000 := by unfold slackZ; rw [if_pos h]
  unfold mayB at h
  simp only [decide_eq_true_eq] at h
  obtain ⟨h0, h1, h2, h3⟩ := h
  have a0 : 0 ≤ t / 1000000 := by omega
  have a1 : t / 1000000 ≤ 1152921504606 := by omega
  have b0 : 0 ≤ t % 1000000 := by omega
  have b1 : t % 1000000 ≤ 999999 := by omega
  have d1 : t.tdiv 1000000 = t / 1000000 := Int.tdiv_eq_ediv_of_nonneg h0
  have m1 : t.tmod 1000000 = t % 1000000 := Int.tmod_eq_emod_of_nonneg h0
  generalize t / 1000000 = q at *
  generalize t % 1000000 = r at *
  have c0 : 0 ≤ q * p := Int.mul_nonneg a0 h2
  have c1 : q * p ≤ 1152921504606 * 100000 := Int.mul_le_mul a1 h3 h2 (by omega)
  have e0 : 0 ≤ r * p := Int.mul_nonneg b0 h2
  have e1 : r * p ≤ 999999 * 100000 := Int.mul_le_mul b1 h3 h2 (by omega)
  have d2 : (r * p).tdiv 1000000 = (r * p) / 1000000 := Int.tdiv_eq_ediv_of_nonneg (by omega)
  have d3 : (r * p).tmod 1000000 = (r * p) % 1000000 := Int.tmod_eq_emod_of_nonneg (by omega)
  have f0 : 0 ≤ (r * p) / 1000000 := by omega
  have f1 : (r * p) / 1000000 ≤ 100000 := by omega
  have HS := Lib.hid hS
  clear hS
  go_enter Try.func15, Try.ntmps15
  go_wp2_with (go_at_call 22; refine (HM.out _).mono ?_; rintro x w' ⟨rfl, rfl⟩)
  all_goals
    go_ret
    exact ⟨retI (by rw [HS.out]; omega), rfl⟩
theorem refMeet_no (a b c d : Int) (h : meetB a b c d = false) (w : World) : Calls Try.prog 9 #[sp a b, sp c d] w fun e w' => e = .returned (.tuple #[sp 0 0, .bool false]) ∧ Below w.heap.size w w' := by
  have e1 : (if a < c then c else a) = max a c := by omega
  have e2 : (if d < b then d else b) = min b d := by omega
  have h' : min b d < max a c := by unfold meetB at h; simp only [decide_eq_false_iff_not] at h; omega
  clear h
  generalize max a c = x at *
  generalize min b d = y at *
  unfold sp
  go_enter Try.func9, Try.ntmps9
  go_wp2
  exact bodyPost_ret (v := .tuple #[sp 0 0, .bool false]) (by simp [sp, results, Try.results9, go_sem]) rfl ⟨rfl, ((((Below.refl _ _).alloc (Nat.le_refl _) _).alloc (by simp) _).alloc (by simp; omega) _).alloc (by simp; omega) _⟩
theorem refMeet_yes (a b c d : Int) (h : meetB a b c d = true) (w : World) : Calls Try.prog 9 #[sp a b, sp c d] w fun e w' => e = .returned (.tuple #[sp (max a c) (min b d), .bool true]) ∧ Below w.heap.size w w' := by
  have e1 : (if a < c then c else a) = max a c := by omega
  have e2 : (if d < b then d else b) = min b d := by omega
  have h' : max a c ≤ min b d := by unfold meetB at h; simp only [decide_eq_true_eq] at h; omega
  clear h
  generalize max a c = x at *
  generalize min b d = y at *
  unfold sp
  go_enter Try.func9, Try.ntmps9
  go_wp2
  exact bodyPost_ret (v := .tuple #[sp x y, .bool true]) (by simp [sp, results, Try.results9, go_sem]) rfl ⟨rfl, ((((Below.refl _ _).alloc (Nat.le_refl _) _).alloc (by simp) _).alloc (by simp; omega) _).alloc (by simp; omega) _⟩
theorem bcell {W w1 : World} (hb : Below W.heap.size W w1) : (∀ b o, b < W.heap.size → w1.cell? ⟨b, o, none⟩ = W.cell? ⟨b, o, none⟩) ∧ (∀ b o, b < W.heap.size → w1.frozen? ⟨b, o, none⟩ = W.frozen? ⟨b, o, none⟩) :=
  ⟨fun b o h => hb.cell (p := ⟨b, o, none⟩) h, fun b o h => hb.frozen (p := ⟨b, o, none⟩) h⟩
end Go.Proofs.Ytggdbmpbceijdaa.Span
