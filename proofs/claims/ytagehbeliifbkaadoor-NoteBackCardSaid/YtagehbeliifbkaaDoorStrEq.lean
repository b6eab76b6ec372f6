/-
  '==' and '!=' of texts: with the empty one, and of any two.
-/
import Derived.Test.YtagehbeliifbkaaDoorProg
import Derived.Test.YtagehbeliifbkaaDoorAid
import Derived.WalkMore
namespace Go.Proofs.YtagehbeliifbkaaDoor.Note
open Go Go.RowKit Go.Proofs.YtagehbeliifbkaaDoor.Aid

theorem toList_nil (s : ByteArray) : s.toList = [] ↔ s.size = 0 := by
  rw [ByteArray.toList_eq]
  constructor
  · intro h
    have := congrArg List.length h
    simpa using this
  · intro h
    exact List.eq_nil_of_length_eq_zero (by simpa using h)
theorem toList_empty (s : ByteArray) : (s.toList == (⟨#[]⟩ : ByteArray).toList) = decide (s.size = 0) := by
  have h0 : (⟨#[]⟩ : ByteArray).toList = [] := (toList_nil _).2 rfl
  rw [h0]
  by_cases h : s.size = 0
  · rw [(toList_nil s).2 h, decide_eq_true h]; rfl
  · rw [decide_eq_false h]
    have : s.toList ≠ [] := fun e => h ((toList_nil s).1 e)
    simpa using this
theorem run_eql_str (s t : ByteArray) (W : World) : (binOp .eql 9 (.string s) (.string t)).run Tryd.prog W = .ok (.bool (s.toList == t.toList)) W := by
  simp [binOp, Op.stringOp]
theorem run_eql_empty (s : ByteArray) (W : World) : (binOp .eql 9 (.string s) (.string ⟨#[]⟩)).run Tryd.prog W = .ok (.bool (decide (s.size = 0))) W := by
  rw [run_eql_str, toList_empty]
theorem run_neq_empty (s : ByteArray) (W : World) : (binOp .neq 9 (.string s) (.string ⟨#[]⟩)).run Tryd.prog W = .ok (.bool (decide (0 < s.size))) W := by
  have h : (!decide (s.size = 0)) = decide (0 < s.size) := by
    by_cases h : s.size = 0
    · rw [decide_eq_true h, decide_eq_false (by omega)]; rfl
    · rw [decide_eq_false h, decide_eq_true (by omega)]; rfl
  rw [← h, ← toList_empty]
  simp [binOp, Op.stringOp]
end Go.Proofs.YtagehbeliifbkaaDoor.Note
