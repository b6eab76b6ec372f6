/-
  Tables as lists, the oldest first: what Put, Get and Drop make of them; the keys alone.
-/
import Derived.Test.YtmoepcobhapghaaAid
namespace Go.Proofs.Ytmoepcobhapghaa.Cache
open Go Go.RowKit

section
variable {α β : Type}
def roomK {γ : Type} (most : Nat) (c : List γ) : List γ := if c.length = most then c.tail else c
def keysL (l : List (α × β)) : List α := l.map Prod.fst
theorem keys_room (most : Nat) (l : List (α × β)) : keysL (roomK most l) = roomK most (keysL l) := by
  unfold roomK keysL
  rw [List.length_map]
  split
  · rw [List.map_tail]
  · rfl
theorem keys_len (l : List (α × β)) : (keysL l).length = l.length := List.length_map _
theorem len_room {γ : Type} (most : Nat) (c : List γ) (h : c.length ≤ most) (h1 : 1 ≤ most) : (roomK most c).length + 1 ≤ most := by
  unfold roomK
  split
  · rw [List.length_tail]; omega
  · omega
theorem room_sub {γ : Type} {most : Nat} {c : List γ} {x : γ} (h : x ∈ roomK most c) : x ∈ c := by
  unfold roomK at h
  split at h
  · exact List.mem_of_mem_tail h
  · exact h
end
section
variable {α β : Type} [DecidableEq α]
def hasK (c : List α) (k : α) : Bool := decide (k ∈ c)
def putK (most : Nat) (c : List α) (k : α) : List α := if hasK c k then c else roomK most c ++ [k]
def dropK (c : List α) (k : α) : List α := c.filter fun x => decide (x ≠ k)
/-- Was a key put out? -/
def goneB (most : Nat) (c : List α) (k : α) : Bool := !hasK c k && decide (c.length = most)
def goneK (z : α) (most : Nat) (c : List α) (k : α) : α := if goneB most c k then c.headD z else z

def setL (l : List (α × β)) (k : α) (v : β) : List (α × β) := l.map fun p => if p.1 = k then (k, v) else p
def putL (most : Nat) (l : List (α × β)) (k : α) (v : β) : List (α × β) := if hasK (keysL l) k then setL l k v else roomK most l ++ [(k, v)]
def getL (l : List (α × β)) (k : α) : Option β := (l.find? fun p => decide (p.1 = k)).map Prod.snd
def dropL (l : List (α × β)) (k : α) : List (α × β) := l.filter fun p => decide (p.1 ≠ k)

theorem keys_set (l : List (α × β)) (k : α) (v : β) : keysL (setL l k v) = keysL l := by
  unfold keysL setL
  rw [List.map_map]
  refine List.map_congr_left fun p _ => ?_
  simp only [Function.comp]
  split
  · rename_i h; exact h.symm
  · rfl
theorem keys_put (most : Nat) (l : List (α × β)) (k : α) (v : β) : keysL (putL most l k v) = putK most (keysL l) k := by
  unfold putL putK
  split
  · exact keys_set l k v
  · show List.map Prod.fst _ = _
    rw [List.map_append, ← keys_room]
    rfl
theorem keys_drop (l : List (α × β)) (k : α) : keysL (dropL l k) = dropK (keysL l) k := by
  unfold keysL dropL dropK
  rw [List.filter_map]
  rfl

theorem has_drop (c : List α) (k : α) : hasK (dropK c k) k = false := by
  unfold hasK dropK
  simp
theorem has_put (most : Nat) (c : List α) (k : α) : hasK (putK most c k) k = true := by
  unfold putK
  by_cases h : hasK c k = true
  · rw [if_pos h]; exact h
  · rw [if_neg h]
    unfold hasK
    simp
theorem len_put (most : Nat) (c : List α) (k : α) (h : c.length ≤ most) (h1 : 1 ≤ most) : (putK most c k).length ≤ most := by
  unfold putK
  split
  · exact h
  · rw [List.length_append]
    have := len_room most c h h1
    simpa using this
theorem len_drop (c : List α) (k : α) : (dropK c k).length ≤ c.length := List.length_filter_le _ _
theorem len_more (most : Nat) (c : List α) (k : α) (h : goneB most c k = false) : c.length ≤ (putK most c k).length := by
  unfold goneB at h
  unfold putK
  by_cases hk : hasK c k = true
  · rw [if_pos hk]; exact Nat.le_refl _
  · rw [if_neg hk, List.length_append]
    have hl : ¬ c.length = most := fun e => by
      rw [show hasK c k = false by simpa using hk, decide_eq_true e] at h
      cases h
    unfold roomK
    rw [if_neg hl]
    omega
theorem gone_len {most : Nat} {c : List α} {k : α} (h : goneB most c k = true) : c.length = most := by
  unfold goneB at h
  simp at h
  exact h.2
theorem gone_head {z : α} {most : Nat} {c : List α} {k : α} (h : goneB most c k = true) : goneK z most c k = c.headD z := by
  unfold goneK
  rw [if_pos h]
theorem gone_not {z : α} {most : Nat} {c : List α} {k : α} (h : goneB most c k = false) : goneK z most c k = z := by
  unfold goneK
  rw [h]
  rfl

theorem get_some {l : List (α × β)} {k : α} : (getL l k).isSome = hasK (keysL l) k := by
  unfold getL hasK keysL
  rw [Option.isSome_map]
  by_cases h : k ∈ l.map Prod.fst
  · rw [decide_eq_true h]
    obtain ⟨p, hp, e⟩ := List.mem_map.1 h
    exact List.find?_isSome.2 ⟨p, hp, decide_eq_true e⟩
  · rw [decide_eq_false h]
    cases hf : l.find? (fun p => decide (p.1 = k)) with
    | none => rfl
    | some p =>
      have h1 := List.find?_some hf
      have h2 := List.mem_of_find?_eq_some hf
      exact absurd (List.mem_map.2 ⟨p, h2, by simpa using h1⟩) h
theorem get_set (l : List (α × β)) (k : α) (v : β) (h : hasK (keysL l) k = true) : getL (setL l k v) k = some v := by
  unfold hasK keysL at h
  simp only [decide_eq_true_eq] at h
  induction l with
  | nil => simp at h
  | cons p l ih =>
    unfold getL setL at *
    rw [List.map_cons, List.find?_cons]
    by_cases hp : p.1 = k
    · simp [hp]
    · rw [if_neg hp, decide_eq_false hp]
      refine ih ?_
      rw [List.map_cons, List.mem_cons] at h
      rcases h with h | h
      · exact absurd h.symm hp
      · exact h
theorem get_put (most : Nat) (l : List (α × β)) (k : α) (v : β) : getL (putL most l k v) k = some v := by
  unfold putL
  by_cases h : hasK (keysL l) k = true
  · rw [if_pos h]; exact get_set l k v h
  · rw [if_neg h]
    unfold getL
    rw [List.find?_append]
    have hn : (roomK most l).find? (fun p => decide (p.1 = k)) = none := List.find?_eq_none.2 fun p hp => by
      simp only [decide_eq_true_eq]
      intro e
      refine h ?_
      unfold hasK keysL
      exact decide_eq_true (List.mem_map.2 ⟨p, room_sub hp, e⟩)
    rw [hn]
    simp
theorem get_drop (l : List (α × β)) (k : α) : getL (dropL l k) k = none := by
  unfold getL dropL
  rw [List.find?_eq_none.2 (fun p hp => by simp at hp ⊢; exact hp.2)]
  rfl

/-- The keys under another name. -/
theorem has_map {γ : Type} [DecidableEq γ] (f : α → γ) (hf : ∀ x y, f x = f y → x = y) (c : List α) (k : α) : hasK (c.map f) (f k) = hasK c k := by
  unfold hasK
  congr 1
  simp only [List.mem_map, eq_iff_iff]
  exact ⟨fun ⟨x, hx, e⟩ => hf _ _ e ▸ hx, fun h => ⟨k, h, rfl⟩⟩
theorem put_map {γ : Type} [DecidableEq γ] (f : α → γ) (hf : ∀ x y, f x = f y → x = y) (most : Nat) (c : List α) (k : α) : putK most (c.map f) (f k) = (putK most c k).map f := by
  unfold putK
  rw [has_map f hf]
  split
  · rfl
  · rw [List.map_append]
    congr 1
    unfold roomK
    rw [List.length_map]
    split
    · rw [List.map_tail]
    · rfl
theorem drop_map {γ : Type} [DecidableEq γ] (f : α → γ) (hf : ∀ x y, f x = f y → x = y) (c : List α) (k : α) : dropK (c.map f) (f k) = (dropK c k).map f := by
  unfold dropK
  rw [List.filter_map]
  congr 1
  refine List.filter_congr fun x _ => ?_
  simp only [Function.comp]
  congr 1
  simp only [eq_iff_iff]
  exact ⟨fun h e => h (congrArg f e), fun h e => h (hf _ _ e)⟩
theorem gone_map {γ : Type} [DecidableEq γ] (f : α → γ) (hf : ∀ x y, f x = f y → x = y) (most : Nat) (c : List α) (k : α) : goneB most (c.map f) (f k) = goneB most c k := by
  unfold goneB
  rw [has_map f hf, List.length_map]

/-- Where a key stands; the length: nowhere. -/
def atN (c : List α) (k : α) : Nat := c.findIdx fun x => decide (x = k)
theorem at_le (c : List α) (k : α) : atN c k ≤ c.length := List.findIdx_le_length
theorem at_has {c : List α} {k : α} : hasK c k = decide (atN c k < c.length) := by
  unfold hasK atN
  congr 1
  rw [List.findIdx_lt_length]
  simp
theorem at_key {c : List α} {k : α} (h : atN c k < c.length) : c[atN c k]? = some k := by
  have := List.findIdx_getElem (p := fun x => decide (x = k)) (xs := c) (w := h)
  rw [List.getElem?_eq_getElem h]
  simp only [decide_eq_true_eq] at this
  exact congrArg some this
theorem at_before {c : List α} {k : α} {j : Nat} (h : j < atN c k) : c[j]? ≠ some k := fun e => by
  have hj : j < c.length := (List.getElem?_eq_some_iff.1 e).1
  have := List.not_of_lt_findIdx (p := fun x => decide (x = k)) (xs := c) h
  rw [List.getElem?_eq_getElem hj] at e
  simp only [Option.some.injEq] at e
  rw [e] at this
  simp at this
end
end Go.Proofs.Ytmoepcobhapghaa.Cache
