/-
  Help for the laws of layer 15: operations as arguments, books in blocks of their own.
-/
import Derived.Test.YtnkjoambhmlnbaaGreatDoorBd05
import Derived.Test.YtnkjoambhmlnbaaGreatDoorBd13
import Derived.Test.YtnkjoambhmlnbaaGreatDoorBd01
import Derived.Test.YtnkjoambhmlnbaaGreatDoorBd12
namespace Go.Proofs.YtnkjoambhmlnbaaGreatDoor.Book
open Go Go.RowKit Go.Proofs.YtnkjoambhmlnbaaGreatDoor.Aid

def ox (x : OpB) : List Value := (List.range 19).map (opF x)
structure OpsBIn (W : World) (n : Nat) (X : Nat → OpB) (v : Value) : Prop where
  rows : RowsAt W 19 n (fun i => ox (X i)) v
  ok : ∀ i, i < n → (X i).key.length = 16 ∧ (X i).name.size ≤ 9000000000000000000
theorem zero19 (C : Array Value) (h : C = #[.slice none 0 0, .slice none 0 0, .int .i64 0, .int .u8 0, .int .u8 0, .int .u8 0, .int .u8 0, .int .u8 0, .int .u8 0, .int .u8 0, .int .u8 0, .int .u8 0, .int .u8 0, .int .u8 0, .int .u8 0, .int .u8 0, .int .u8 0, .int .u8 0, .int .u8 0]) : ∀ i, i < 19 → C[i]? = some (bookF bk0 (.slice none 0 0) (.slice none 0 0) i) := by
  subst h
  intro i hi
  match i, hi with
  | 0, _ => rfl
  | 1, _ => rfl
  | 2, _ => rfl
  | 3, _ => rfl
  | 4, _ => rfl
  | 5, _ => rfl
  | 6, _ => rfl
  | 7, _ => rfl
  | 8, _ => rfl
  | 9, _ => rfl
  | 10, _ => rfl
  | 11, _ => rfl
  | 12, _ => rfl
  | 13, _ => rfl
  | 14, _ => rfl
  | 15, _ => rfl
  | 16, _ => rfl
  | 17, _ => rfl
  | 18, _ => rfl
  | _ + 19, hi => exact absurd hi (by omega)
theorem slice_one {W : World} {s n : Nat} {V : Nat → List Value} {v : Value} (h : RowsAt W s n V v) : v.oneCell' = true := by
  obtain ⟨A, c, rfl, _⟩ := h
  rfl
theorem book_one {W : World} {b : Bk} {Lv Rv : Value} (h : BookAt W b Lv Rv) (j : Nat) : (bookF b Lv Rv j).oneCell' = true := by
  have h1 := slice_one h.ents
  have h2 := slice_one h.revs
  unfold bookF
  split
  · exact h1
  · split
    · exact h2
    · split
      · rfl
      · rfl
/-- Ops, one by one. -/
theorem run_step {l : List OpB} {b c : Bk} (h : runB bk0 l = some b) {k : Nat} (hk : k < l.length) (hc : runB bk0 (l.take k) = some c) (x : OpB) (hx : l[k]? = some x) : applyC c x = 0 ∧ runB bk0 (l.take (k + 1)) = some (applyB c x) := by
  have h2 : l = l.take k ++ x :: l.drop (k + 1) := by
    have h0 := List.getElem?_eq_getElem hk
    rw [h0] at hx
    obtain rfl := Option.some.inj hx
    rw [← List.drop_eq_getElem_cons hk, List.take_append_drop]
  have h3 : applyC c x = 0 := by
    rw [h2, run_append, hc, Option.bind_some, runB] at h
    by_cases h4 : applyC c x = 0
    · exact h4
    · rw [if_neg h4] at h; cases h
  refine ⟨h3, ?_⟩
  rw [List.take_add_one, hx, run_append, hc, Option.bind_some]
  show runB c [x] = _
  rw [runB, if_pos h3, runB]
theorem run_end {l : List OpB} {b c : Bk} (h : runB bk0 l = some b) (hc : runB bk0 (l.take l.length) = some c) : c = b := by
  rw [List.take_length, h] at hc
  exact (Option.some.inj hc).symm
theorem ops_ok {b : Bk} (h : Reach b) : ∀ x ∈ opsB b, x.key.length = 16 ∧ x.name.size ≤ 9000000000000000000 := fun x hx => by
  unfold opsB at hx
  rcases List.mem_append.1 hx with h1 | h1
  · obtain ⟨p, hp, rfl⟩ := List.mem_map.1 h1
    have h2 := h.right p hp
    refine ⟨h2.2, ?_⟩
    have h3 := h2.1
    have h4 := (of_decide_eq_true h3).1
    have h5 := (of_decide_eq_true h3).2.1
    show p.1.size ≤ _
    omega
  · rcases List.mem_append.1 h1 with h1 | h1
    · obtain ⟨p, hp, rfl⟩ := List.mem_map.1 h1
      exact ⟨h.words p hp, Nat.zero_le _⟩
    · split at h1
      · rw [List.mem_singleton.1 h1]
        exact ⟨h.ownLen, Nat.zero_le _⟩
      · cases h1
theorem ops_len {b : Bk} (h : Reach b) : (opsB b).length ≤ 251 := by
  have h1 := h.most
  have h2 := h.revs
  unfold opsB
  rw [List.length_append, List.length_append, List.length_map, List.length_map]
  split
  · simp; omega
  · simp; omega
theorem wrap64_id {x : Int} (h1 : -9223372036854775808 ≤ x) (h2 : x ≤ 9223372036854775807) : wrap64 x = x := by
  unfold wrap64
  omega
theorem own_cells (b : Bk) (Lv Rv : Value) : cellsOf 16 (fun j => bookF b Lv Rv (3 + j)) = cellsOf 16 (wordF b.own) :=
  cellsOf_congr fun j _ => by
    unfold bookF
    rw [if_neg (by omega), if_neg (by omega), if_neg (by omega), show 3 + j - 3 = j by omega]
theorem range_row {w : World} {g t n : Nat} {f : Nat → Value} (h : w.rowIs g t n f) : w.rangeAt g 0 ((List.range n).map f) := by
  have := row_range h 0 n (by omega)
  simpa only [Nat.zero_add] using this
section
variable {P : Program} {ops : Array Oper} {Q : Exit → Act → World → Prop} {S : World → Prop} {l : List (Nat × Bool)} {i : Nat} {op : Oper} {a : Act} {w : World}
/-- Cells from the middle of a block, whatever the block. -/
theorem m_range (hi : ops.toList[i]? = some op) (hw : Region.wanted op (yielded ops a.tmps) = true) (ty : TypeId) (x : Operand) (ho : op.op = .load ty x) (g o m : Nat) (f : Nat → Value) (hr : ∀ w, S w → w.rangeAt g o ((List.range m).map f))
    (hx : a.eval x = .pointer (some ⟨g, o, none⟩)) (d : TypeDesc) (hu : P.underlying ty = some d) (hd : d.isRow = true) (hi' : (P.info? ty).map (·.size) = some m)
    (h : wpMix P ops Q S l (a.put op.dst (.agg (cellsOf m f))) w) : wpMix P ops Q S ((i, true) :: l) a w :=
  m_val hi hw _ (fun w hC => by
    unfold execOp
    simp only [ho, hx, Instr.loadAt, Instr.sureAddr, Sem.run_bind, Sem.run_pure, Result.andThen_ok, run_loadVar_mid w g o ty _ d (hr w hC) hu hd (by simpa using hi')]
    rfl) h
theorem f_range {md : Region.Mode} {ls : List Oper} {n : Nat} {listed : Array Bool} (i : Nat) (hi : ls[i]? = some op) (hB : (Region.noSelect ls.toArray && (Region.free md ls.toArray listed i && (Region.ready md ls.toArray listed).contains i)) = true)
    (hw : Region.wanted op (yielded ls.toArray a.tmps) = true) (ty : TypeId) (x : Operand) (ho : op.op = .load ty x) (g o m : Nat) (f : Nat → Value) (hr : ∀ w, S w → w.rangeAt g o ((List.range m).map f))
    (hx : a.eval x = .pointer (some ⟨g, o, none⟩)) (d : TypeDesc) (hu : P.underlying ty = some d) (hd : d.isRow = true) (hi' : (P.info? ty).map (·.size) = some m) (hS : S w)
    (h : wpAnyH P md ls.toArray (NoPanic Q) S n (listed.setIfInBounds i true) (a.put op.dst (.agg (cellsOf m f))) w) : wpAnyH P md ls.toArray (NoPanic Q) S (n + 1) listed a w :=
  f_take i hi hB hw _ (fun w hC => by
    unfold execOp
    simp only [ho, hx, Instr.loadAt, Instr.sureAddr, Sem.run_bind, Sem.run_pure, Result.andThen_ok, run_loadVar_mid w g o ty _ d (hr w hC) hu hd (by simpa using hi')]
    rfl) hS h
end
end Go.Proofs.YtnkjoambhmlnbaaGreatDoor.Book
