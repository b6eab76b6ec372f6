/-
  One place cut out of a table's list; what is left under each key.
-/
import Derived.Test.YtmoepcobhapghaaCachePlain
namespace Go.Proofs.Ytmoepcobhapghaa.Cache
open Go Go.RowKit

def cutI {γ : Type} (c : List γ) (i : Nat) : List γ := c.take i ++ c.drop (i + 1)
section
variable {α β : Type}
theorem cut_zero {γ : Type} (c : List γ) : cutI c 0 = c.tail := by
  unfold cutI
  rw [List.take_zero, List.nil_append, List.drop_one]
theorem cut_len {γ : Type} {c : List γ} {i : Nat} (h : i < c.length) : (cutI c i).length + 1 = c.length := by
  unfold cutI
  rw [List.length_append, List.length_take, List.length_drop]
  omega
theorem cut_sub {γ : Type} {c : List γ} {i : Nat} {x : γ} (h : x ∈ cutI c i) : x ∈ c := by
  unfold cutI at h
  rcases List.mem_append.1 h with h | h
  · exact List.mem_of_mem_take h
  · exact List.mem_of_mem_drop h
theorem cut_nodup {γ : Type} {c : List γ} (h : c.Nodup) (i : Nat) : (cutI c i).Nodup := by
  refine List.Nodup.sublist ?_ h
  have h1 : (c.take i ++ c.drop (i + 1)).Sublist (c.take i ++ c.drop i) := by
    refine List.Sublist.append_left ?_ _
    rw [← List.drop_drop]
    exact List.drop_sublist 1 _
  rw [List.take_append_drop] at h1
  exact h1
theorem cut_map {γ δ : Type} (f : γ → δ) (c : List γ) (i : Nat) : (cutI c i).map f = cutI (c.map f) i := by
  unfold cutI
  rw [List.map_append, List.map_take, List.map_drop]
theorem cut_cons {γ : Type} (a : γ) (c : List γ) (i : Nat) : cutI (a :: c) (i + 1) = a :: cutI c i := by
  unfold cutI
  simp
theorem keys_cut (l : List (α × β)) (i : Nat) : keysL (cutI l i) = cutI (keysL l) i := cut_map Prod.fst l i
variable [DecidableEq α]
theorem get_cons (p : α × β) (l : List (α × β)) (c : α) : getL (p :: l) c = if p.1 = c then some p.2 else getL l c := by
  unfold getL
  rw [List.find?_cons]
  by_cases h : p.1 = c
  · rw [decide_eq_true h, if_pos h]; rfl
  · rw [decide_eq_false h, if_neg h]
theorem get_none {l : List (α × β)} {c : α} (h : c ∉ keysL l) : getL l c = none := by
  have := get_some (l := l) (k := c)
  rw [show hasK (keysL l) c = false from decide_eq_false h] at this
  exact Option.not_isSome_iff_eq_none.1 (by rw [this]; exact Bool.false_ne_true)
theorem drop_not {l : List (α × β)} {k : α} (h : k ∉ keysL l) : dropL l k = l := by
  unfold dropL
  refine List.filter_eq_self.2 fun p hp => decide_eq_true fun e => h ?_
  exact List.mem_map.2 ⟨p, hp, e⟩
/-- What a key's drop is: its place cut out. -/
theorem drop_cut : ∀ {l : List (α × β)} {k : α} {i : Nat}, (keysL l).Nodup → (keysL l)[i]? = some k → dropL l k = cutI l i
  | [], k, i, _, hi => by simp [keysL] at hi
  | p :: l, k, 0, hn, hi => by
    have hk : p.1 = k := by simpa [keysL] using hi
    have hn' : p.1 ∉ keysL l := (List.nodup_cons.1 hn).1
    rw [cut_zero, List.tail_cons]
    have : dropL (p :: l) k = dropL l k := by
      unfold dropL
      rw [List.filter_cons, decide_eq_false (fun e => e hk)]
      rfl
    rw [this, drop_not (hk ▸ hn')]
  | p :: l, k, i + 1, hn, hi => by
    have hi' : (keysL l)[i]? = some k := by simpa [keysL] using hi
    have hne : p.1 ≠ k := fun e => (List.nodup_cons.1 hn).1 (e ▸ List.mem_of_getElem? hi')
    have : dropL (p :: l) k = p :: dropL l k := by
      unfold dropL
      rw [List.filter_cons, decide_eq_true hne]
      rfl
    rw [this, cut_cons, drop_cut (List.nodup_cons.1 hn).2 hi']
theorem get_dropL (l : List (α × β)) (k c : α) : getL (dropL l k) c = if c = k then none else getL l c := by
  by_cases h : c = k
  · subst h; rw [if_pos rfl]; exact get_drop l c
  · rw [if_neg h]
    induction l with
    | nil => rfl
    | cons p l ih =>
      by_cases hp : p.1 = k
      · have : dropL (p :: l) k = dropL l k := by
          unfold dropL
          rw [List.filter_cons, decide_eq_false (fun e => e hp)]
          rfl
        rw [this, ih, get_cons, if_neg (fun e => h (by rw [← e, hp]))]
      · have : dropL (p :: l) k = p :: dropL l k := by
          unfold dropL
          rw [List.filter_cons, decide_eq_true hp]
          rfl
        rw [this, get_cons, get_cons, ih]
theorem get_cut {l : List (α × β)} {k : α} {i : Nat} (hn : (keysL l).Nodup) (hi : (keysL l)[i]? = some k) (c : α) : getL (cutI l i) c = if c = k then none else getL l c := by
  rw [← drop_cut hn hi]
  exact get_dropL l k c
theorem get_setL (l : List (α × β)) (k c : α) (v : β) (h : k ∈ keysL l) : getL (setL l k v) c = if c = k then some v else getL l c := by
  by_cases hc : c = k
  · subst hc; rw [if_pos rfl]; exact get_set l c v (decide_eq_true h)
  · rw [if_neg hc]
    clear h
    induction l with
    | nil => rfl
    | cons p l ih =>
      unfold setL at *
      rw [List.map_cons, get_cons, get_cons, ih]
      by_cases hp : p.1 = k
      · rw [if_pos hp, if_neg (fun e => hc e.symm), if_neg (fun e => hc (by rw [← e, hp]))]
      · rw [if_neg hp]
theorem get_snoc (l : List (α × β)) (k c : α) (v : β) (h : k ∉ keysL l) : getL (l ++ [(k, v)]) c = if c = k then some v else getL l c := by
  induction l with
  | nil =>
    rw [List.nil_append, get_cons]
    by_cases hc : c = k
    · rw [if_pos hc, if_pos hc.symm]
    · rw [if_neg hc, if_neg (fun e => hc e.symm)]
  | cons p l ih =>
    have h1 : ¬ k = p.1 ∧ k ∉ keysL l := by
      unfold keysL at h ⊢
      rw [List.map_cons, List.mem_cons] at h
      exact ⟨fun e => h (.inl e), fun e => h (.inr e)⟩
    rw [List.cons_append, get_cons, get_cons, ih h1.2]
    by_cases hp : p.1 = c
    · rw [if_pos hp, if_pos hp, if_neg (fun e => h1.1 (by rw [← e, hp]))]
    · rw [if_neg hp, if_neg hp]
theorem len_set (l : List (α × β)) (k : α) (v : β) : (setL l k v).length = l.length := List.length_map _
theorem not_has {c : List α} {k : α} (h : hasK c k = false) : k ∉ c := of_decide_eq_false h
theorem mem_keys {l : List (α × β)} {k : α} : hasK (keysL l) k = true ↔ k ∈ keysL l := decide_eq_true_iff
end
end Go.Proofs.Ytmoepcobhapghaa.Cache
