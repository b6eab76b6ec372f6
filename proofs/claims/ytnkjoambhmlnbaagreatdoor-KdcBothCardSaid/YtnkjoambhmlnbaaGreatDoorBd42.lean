/-
  Help for the program's own functions on books: lists in blocks of the call's own; a name's place in a list.
-/
import Derived.Test.YtnkjoambhmlnbaaGreatDoorBd41
import Derived.Test.YtnkjoambhmlnbaaGreatDoorBd07
import Derived.Test.YtnkjoambhmlnbaaGreatDoorBd02
namespace Go.Proofs.YtnkjoambhmlnbaaGreatDoor.Book
open Go Go.RowKit Go.Proofs.YtnkjoambhmlnbaaGreatDoor.Aid
open Go.Proofs.YtnkjoambhmlnbaaGreatDoor.Cache (idxK idx_none idx_found atN hasK at_has at_key at_before)

def entR (p : ByteArray × Wd) : List Value := (List.range 17).map (entF p)
def wordR (k : Wd) : List Value := (List.range 16).map (wordF k)
theorem entR_len (p : ByteArray × Wd) : (entR p).length = 17 := by unfold entR; simp
theorem wordR_len (k : Wd) : (wordR k).length = 16 := by unfold wordR; simp
theorem entR_one (p : ByteArray × Wd) : ∀ q ∈ entR p, q.oneCell' = true := fun q hq => by
  obtain ⟨j, _, rfl⟩ := List.mem_map.1 hq
  unfold entF
  split
  · rfl
  · rfl
theorem wordR_one (k : Wd) : ∀ q ∈ wordR k, q.oneCell' = true := fun q hq => by
  obtain ⟨j, _, rfl⟩ := List.mem_map.1 hq
  rfl
theorem ents_map (L : List (ByteArray × Wd)) : (List.range L.length).map (fun i => entR (L.getD i (nos, zw))) = L.map entR := by
  apply List.ext_getElem?
  intro i
  by_cases h : i < L.length
  · rw [List.getElem?_map, List.getElem?_range h, List.getElem?_map, List.getElem?_eq_getElem h]
    show some (entR (L.getD i (nos, zw))) = _
    rw [List.getD_eq_getElem?_getD, List.getElem?_eq_getElem h]
    rfl
  · rw [List.getElem?_eq_none (by simp; omega), List.getElem?_eq_none (by simp; omega)]
theorem revs_map (L : List Wd) : (List.range L.length).map (fun i => wordR (L.getD i zw)) = L.map wordR := by
  apply List.ext_getElem?
  intro i
  by_cases h : i < L.length
  · rw [List.getElem?_map, List.getElem?_range h, List.getElem?_map, List.getElem?_eq_getElem h]
    show some (wordR (L.getD i zw)) = _
    rw [List.getD_eq_getElem?_getD, List.getElem?_eq_getElem h]
    rfl
  · rw [List.getElem?_eq_none (by simp; omega), List.getElem?_eq_none (by simp; omega)]
theorem rowsB_congr {W : World} {s n n' : Nat} {V V' : Nat → List Value} {v : Value} (h : RowsAt W s n V v) (hn : n' = n) (hV : ∀ i, i < n → V' i = V i) : RowsAt W s n' V' v := by
  subst hn
  obtain ⟨A, c, rfl, hr⟩ := h
  refine ⟨A, c, rfl, fun h1 => ?_⟩
  obtain ⟨b, o, hA, hlt, hc⟩ := hr h1
  exact ⟨b, o, hA, hlt, fun i hi j u hu => hc i hi j u (by rw [← hV i hi]; exact hu)⟩
/-- A book whose lists are the call's own. -/
structure OwnBk (W : World) (base : Nat) (b : Bk) (Lv Rv : Value) : Prop where
  eL : OwnE W base 47 17 (b.L.map entR) Lv
  eR : OwnE W base 25 16 (b.rev.map wordR) Rv
section
variable {W W' : World} {base : Nat} {b : Bk} {Lv Rv : Value}
theorem OwnBk.below (h : OwnBk W base b Lv Rv) (hb : Below W.heap.size W W') : OwnBk W' base b Lv Rv := ⟨h.eL.below hb, h.eR.below hb⟩
theorem OwnBk.keep (h : OwnBk W base b Lv Rv) (hk : ∀ g, (Lv.ownBlock = some g ∨ Rv.ownBlock = some g) → W'.heap[g]? = W.heap[g]?) : OwnBk W' base b Lv Rv := ⟨h.eL.keep (fun g hg => hk g (.inl hg)), h.eR.keep (fun g hg => hk g (.inr hg))⟩
theorem OwnBk.lt (h : OwnBk W base b Lv Rv) : ∀ g, (Lv.ownBlock = some g ∨ Rv.ownBlock = some g) → base ≤ g ∧ g < W.heap.size := fun g hg => hg.elim (h.eL.lt g) (h.eR.lt g)
theorem OwnBk.ents (h : OwnBk W base b Lv Rv) : RowsAt W 17 b.L.length (entsL b) Lv := rowsB_congr h.eL.rows (by simp) (fun i hi => by
  rw [List.length_map] at hi
  rw [List.getD_eq_getElem?_getD, List.getElem?_map, List.getElem?_eq_getElem hi]
  show entR _ = entR _
  rw [List.getD_eq_getElem?_getD, List.getElem?_eq_getElem hi]
  rfl)
theorem OwnBk.revs (h : OwnBk W base b Lv Rv) : RowsAt W 16 b.rev.length (revsL b) Rv := rowsB_congr h.eR.rows (by simp) (fun i hi => by
  rw [List.length_map] at hi
  rw [List.getD_eq_getElem?_getD, List.getElem?_map, List.getElem?_eq_getElem hi]
  show wordR _ = wordR _
  rw [List.getD_eq_getElem?_getD, List.getElem?_eq_getElem hi]
  rfl)
theorem OwnBk.apart (h : OwnBk W base b Lv Rv) {g : Nat} (hg : g < base ∨ W.heap.size ≤ g) : Apart Lv Rv g :=
  ⟨fun e => by have := h.eL.lt g e; omega, fun e => by have := h.eR.lt g e; omega⟩
theorem OwnBk.book (h : OwnBk W base b Lv Rv) (hr : Reach b) : BookAt W b Lv Rv :=
  ⟨h.ents, h.revs, hr, fun _ hg => h.apart (.inr hg), fun _ _ _ hv => hv.elim (fun e => h.eL.cap e) (fun e => h.eR.cap e)⟩
theorem OwnBk.nil (W : World) (base : Nat) : OwnBk W base bk0 (.slice none 0 0) (.slice none 0 0) := ⟨OwnE.nil _ _ _ _, OwnE.nil _ _ _ _⟩
end
/-! ### A name's place -/
theorem idx_at {α : Type} [DecidableEq α] {c : List α} {k : α} {i : Nat} (hi : c[i]? = some k) (h : ∀ j, j < i → c[j]? ≠ some k) : idxK c k = (i : Int) := by
  obtain ⟨hl, he⟩ := List.getElem?_eq_some_iff.1 hi
  exact idx_found hl he (fun j hj hjl e => h j hj (List.getElem?_eq_some_iff.2 ⟨hjl, e⟩))
theorem idx_no {α : Type} [DecidableEq α] {c : List α} {k : α} (h : ∀ j, j < c.length → c[j]? ≠ some k) : idxK c k = -1 :=
  idx_none (fun j hj e => h j hj (List.getElem?_eq_some_iff.2 ⟨hj, e⟩))
theorem names_len (L : List (ByteArray × Wd)) : (namesB L).length = L.length := by unfold namesB; simp
theorem names_at {L : List (ByteArray × Wd)} {i : Nat} {p : ByteArray × Wd} (h : L[i]? = some p) : (namesB L)[i]? = some p.1 := by unfold namesB; rw [List.getElem?_map, h]; rfl
def atL (L : List (ByteArray × Wd)) (n : ByteArray) : Nat := atN (namesB L) n
theorem idx_has {L : List (ByteArray × Wd)} {n : ByteArray} (h : hasN L n = true) : idxK (namesB L) n = (atL L n : Int) ∧ atL L n < L.length := by
  have h1 : hasK (namesB L) n = true := h
  refine ⟨by unfold idxK; rw [h1, if_pos rfl]; rfl, ?_⟩
  rw [at_has] at h1
  have := of_decide_eq_true h1
  rw [names_len] at this
  exact this
theorem idx_not {L : List (ByteArray × Wd)} {n : ByteArray} (h : hasN L n = false) : idxK (namesB L) n = -1 := by
  have h1 : hasK (namesB L) n = false := h
  unfold idxK
  rw [h1]
  rfl
theorem at_zero {p : ByteArray × Wd} {L : List (ByteArray × Wd)} {n : ByteArray} (h : p.1 = n) : atL (p :: L) n = 0 := by
  unfold atL namesB atN
  rw [List.map_cons, List.findIdx_cons, decide_eq_true h]
  rfl
theorem at_succ {p : ByteArray × Wd} {L : List (ByteArray × Wd)} {n : ByteArray} (h : p.1 ≠ n) : atL (p :: L) n = atL L n + 1 := by
  unfold atL namesB atN
  rw [List.map_cons, List.findIdx_cons, decide_eq_false h]
  rfl
theorem has_cons {p : ByteArray × Wd} {L : List (ByteArray × Wd)} {n : ByteArray} (h : p.1 ≠ n) (hh : hasN (p :: L) n = true) : hasN L n = true := by
  unfold hasN hasG namesB at *
  simp only [List.map_cons, List.mem_cons, decide_eq_true_eq] at *
  exact hh.resolve_left (fun e => h e.symm)
theorem rmN_at {n : ByteArray} : ∀ {L : List (ByteArray × Wd)}, hasN L n = true → rmN n L = L.take (atL L n) ++ L.drop (atL L n + 1)
  | [], h => by cases h
  | p :: L, h => by
    unfold rmN
    by_cases he : p.1 = n
    · rw [if_pos he, at_zero he]; rfl
    · rw [if_neg he, at_succ he, rmN_at (has_cons he h)]; rfl
theorem reN_at {n : ByteArray} {k : Wd} : ∀ {L : List (ByteArray × Wd)}, hasN L n = true → reN n k L = L.set (atL L n) ((L.getD (atL L n) (nos, zw)).1, k)
  | [], h => by cases h
  | p :: L, h => by
    unfold reN
    by_cases he : p.1 = n
    · rw [if_pos he, at_zero he]; rfl
    · rw [if_neg he, at_succ he, reN_at (has_cons he h)]; rfl
theorem keyN_at {n : ByteArray} : ∀ {L : List (ByteArray × Wd)}, hasN L n = true → keyB n L = (L.getD (atL L n) (nos, zw)).2
  | [], h => by cases h
  | p :: L, h => by
    unfold keyB
    by_cases he : p.1 = n
    · rw [if_pos he, at_zero he]; rfl
    · rw [if_neg he, at_succ he, keyN_at (has_cons he h)]; rfl
theorem keyN_none {n : ByteArray} : ∀ {L : List (ByteArray × Wd)}, hasN L n = false → keyB n L = zw
  | [], _ => rfl
  | p :: L, h => by
    have h1 : n ∉ namesB (p :: L) := hasG_no h
    have h2 : p.1 ≠ n := fun e => h1 (by unfold namesB; simp [e])
    unfold keyB
    rw [if_neg h2]
    exact keyN_none (hasG_none (fun hm => h1 (by unfold namesB at *; simp only [List.map_cons, List.mem_cons]; exact .inr hm)))
end Go.Proofs.YtnkjoambhmlnbaaGreatDoor.Book
