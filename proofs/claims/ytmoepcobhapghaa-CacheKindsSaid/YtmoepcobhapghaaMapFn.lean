/-
  A map of the call's own (or of a table's) that holds a function: look-up, store, delete, make; whatever the elements are.
-/
import Derived.Test.YtmoepcobhapghaaAid
import Derived.Maps.OwnSet
import Derived.Maps.OwnOps
import Derived.StringKeys
namespace Go.Proofs.Ytmoepcobhapghaa.Aid
open Go Go.RowKit Go.Maps Go.WideMaps

/-- Elements stand for themselves. -/
def heldR (v : Value) : Option (DataW Value × List MemPlace) := some (.held v, [])
/-- How keys read. -/
structure KeyIs {α : Type} (P : Program) (k : TypeId) (ok : α → Prop) (kv : α → Value) (kl : α → Lit) : Prop where
  keyed : Keyed P k
  key : ∀ x, ok x → keyOf P k (kv x) = some (kl x)
  inj : ∀ x y, kv x = kv y → x = y
section
variable {α : Type} {P : Program} {k : TypeId} {ok : α → Prop} {kv : α → Value} {kl : α → Lit}
theorem KeyIs.ne (I : KeyIs P k ok kv kl) {x y : α} (hx : ok x) (hy : ok y) (h : x ≠ y) : kl x ≠ kl y := fun e =>
  h (I.inj _ _ (I.keyed.inj (I.key x hx) (by rw [e]; exact I.key y hy)))
theorem KeyIs.lit (I : KeyIs P k ok kv kl) {x : α} (hx : ok x) : WideAt.IsKeyLit (kl x) := I.keyed.key (I.key x hx)
end
theorem key_int {P : Program} {k : TypeId} (hk : P.underlying k = some (.int .i64)) : KeyIs P k (fun z : Int => -9223372036854775808 ≤ z ∧ z ≤ 9223372036854775807) (Value.int .i64) (Lit.int .i64) :=
  ⟨int_keyed hk, fun x hx => keyOf_int_mk hk (by simp [Lit.wf, IntKind.min, IntKind.max, IntKind.bits, IntKind.signed]; omega), fun x y h => by injection h⟩
theorem key_str {P : Program} {k : TypeId} (hk : P.underlying k = some .string) {N : Nat} (hN : N ≤ maxLen) : KeyIs P k (fun s : ByteArray => s.size ≤ N) Value.string (fun s => Lit.string s.data.toList) :=
  ⟨string_keyed hk, fun x hx => keyOf_string_mk hk (Nat.le_trans hx hN), fun x y h => by injection h⟩
/-- Block b is a map that holds f, N keys in all. -/
def MapFn {α : Type} (P : Program) (k : TypeId) (ok : α → Prop) (kl : α → Lit) (W : World) (b : Nat) (f : α → Option Value) (N : Nat) : Prop :=
  ∃ D : DataW Value, W.ownsMap P k heldR b N D ∧ size D = N ∧ ∀ x, ok x → has D (kl x) = (f x).isSome ∧ ∀ v, f x = some v → ∀ z, D.atKey (kl x) z = .held v
section
variable {α : Type} {P : Program} {k : TypeId} {ok : α → Prop} {kv : α → Value} {kl : α → Lit} {W W' : World} {b N : Nat} {f : α → Option Value}
theorem MapFn.lt (h : MapFn P k ok kl W b f N) : b < W.heap.size := by obtain ⟨D, h, _⟩ := h; exact h.lt
theorem MapFn.keep (h : MapFn P k ok kl W b f N) (hk : W'.heap[b]? = W.heap[b]?) : MapFn P k ok kl W' b f N := by
  obtain ⟨D, ⟨es, clock, hb, rest⟩, h2⟩ := h
  exact ⟨D, ⟨es, clock, hk.trans hb, rest⟩, h2⟩
theorem MapFn.made (W : World) : MapFn P k ok kl (W.alloc (.map #[] 0)) W.heap.size (fun _ => none) 0 :=
  ⟨.map [], World.ownsMap_made W P k heldR, rfl, fun x _ => ⟨rfl, fun v h => by cases h⟩⟩
theorem MapFn.congr {g : α → Option Value} (h : MapFn P k ok kl W b f N) (hg : ∀ x, ok x → g x = f x) : MapFn P k ok kl W b g N := by
  obtain ⟨D, h1, h2, h3⟩ := h
  exact ⟨D, h1, h2, fun x hx => by rw [hg x hx]; exact h3 x hx⟩
def setF {α : Type} [DecidableEq α] (f : α → Option Value) (y : α) (u : Value) (c : α) : Option Value := if c = y then some u else f c
def cutF {α : Type} [DecidableEq α] (f : α → Option Value) (y : α) (c : α) : Option Value := if c = y then none else f c
theorem setF_same {α : Type} [DecidableEq α] (f : α → Option Value) (y : α) (u : Value) : setF f y u y = some u := if_pos rfl
theorem setF_other {α : Type} [DecidableEq α] {f : α → Option Value} {y c : α} {u : Value} (h : c ≠ y) : setF f y u c = f c := if_neg h
theorem cutF_same {α : Type} [DecidableEq α] (f : α → Option Value) (y : α) : cutF f y y = none := if_pos rfl
theorem cutF_other {α : Type} [DecidableEq α] {f : α → Option Value} {y c : α} (h : c ≠ y) : cutF f y c = f c := if_neg h
/-- The map as n bounds it anew. -/
theorem owns_size {P : Program} {k : TypeId} {R : Value → Option (DataW Value × List MemPlace)} {n : Nat} {D : DataW Value} (h : W.ownsMap P k R b n D) : W.ownsMap P k R b (size D) D := by
  obtain ⟨es, clock, hb, F, _, rfl⟩ := h
  exact ⟨es, clock, hb, F, by simp [size, length_sorted], rfl⟩
end
section
variable {α : Type} {P : Program} {k e : TypeId} {ok : α → Prop} {kv : α → Value} {kl : α → Lit} {b N : Nat} {f : α → Option Value}
  {w : World} {ops : Array Oper} {rest : List Oper} {o : Oper} {a : Act} {Q : Exit → Act → World → Prop}
/-- 'v, ok := m[k]'. -/
theorem map_look (hg : o.guard = none) (m x : Operand) (t : TypeId) (hop : o.op = .lookup t m x true) (I : KeyIs P k ok kv kl) (ht : P.underlying t = some (.map k e)) {z : Value} (hz : (zeroValue e).run P w = .ok z w)
    (h : MapFn P k ok kl w b f N) (hm : a.eval m = .map (some b)) (y : α) (hy : ok y) (hx : a.eval x = kv y)
    (hK : wpList P ops Q rest (a.put o.dst (.tuple #[(f y).getD z, .bool (f y).isSome])) w) : wpList P ops Q (o :: rest) a w := by
  obtain ⟨D, h1, h2, h3⟩ := h
  refine wpList_lookup_own_ok w hg m x t hop k e I.keyed ht heldR hz (.held z) [] rfl b N D hm h1 _ _ hx (I.key y hy) ?_
  intro v ps hv
  obtain ⟨h4, h5⟩ := h3 y hy
  have hv' : v = (f y).getD z := by
    have e1 : DataW.held v = D.atKey (kl y) (.held z) := congrArg Prod.fst (Option.some.inj hv)
    cases hf : f y with
    | none =>
      rw [hf] at h4
      rw [atKey_of_not_has h4] at e1
      injection e1
    | some u =>
      rw [h5 u hf] at e1
      injection e1
  rw [hv', h4]
  exact hK
/-- 'len(m)'. -/
theorem map_len (hg : o.guard = none) (m : Operand) (t : TypeId) (hop : o.op = .call { callee := .builtin .len, args := #[m], argTypes := #[t] }) (ht : P.underlying t = some (.map k e))
    (h : MapFn P k ok kl w b f N) (hm : a.eval m = .map (some b)) (hK : wpList P ops Q rest (a.put o.dst (.int .i64 N)) w) : wpList P ops Q (o :: rest) a w := by
  obtain ⟨D, h1, h2, _⟩ := h
  refine wpList_len_own w hg m t hop k e ht heldR b N D hm h1 ?_
  rw [h2]
  exact hK
end
section
variable {α : Type} [DecidableEq α] {P : Program} {k e : TypeId} {ok : α → Prop} {kv : α → Value} {kl : α → Lit} {b N : Nat} {f : α → Option Value}
  {w : World} {ops : Array Oper} {rest : List Oper} {o : Oper} {a : Act} {Q : Exit → Act → World → Prop}
/-- 'm[k] = v'. -/
theorem map_store (hg : o.guard = none) (m x v : Operand) (t : TypeId) (hop : o.op = .mapUpdate t m x v) (I : KeyIs P k ok kv kl) (ht : P.underlying t = some (.map k e))
    (h : MapFn P k ok kl w b f N) (hN : N ≤ 1000000) (hm : a.eval m = .map (some b)) (y : α) (hy : ok y) (hx : a.eval x = kv y) (u : Value) (hu : a.eval v = u)
    (hK : ∀ w', MapFn P k ok kl w' b (setF f y u) (if (f y).isSome then N else N + 1) → w.grownBy w' (some b) → wpList P ops Q rest (a.put o.dst undef) w') : wpList P ops Q (o :: rest) a w := by
  obtain ⟨D, h1, h2, h3⟩ := h
  refine wpList_mapUpdate_in w hg m x v t hop k e I.keyed ht heldR b N D hm h1 (by simp only [maxLen]; omega) _ _ _ hx hu (I.key y hy) (.held u) [] rfl ?_
  intro w' h4 h5
  refine hK w' ⟨D.put (kl y) (.held u), ?_, ?_, fun c hc => ?_⟩ h5.grown
  · have h6 := owns_size h4
    rw [size_put (h1.tidy I.keyed), h2, (h3 y hy).1] at h6
    exact h6
  · rw [size_put (h1.tidy I.keyed), h2, (h3 y hy).1]
  · by_cases hcy : c = y
    · subst hcy
      refine ⟨by rw [has_put_same h1.isMap (I.lit hc), setF_same]; rfl, fun v hv z => ?_⟩
      rw [setF_same] at hv
      cases hv
      exact atKey_put_same h1.isMap (I.lit hc) _ _
    · have hne := I.ne hc hy hcy
      rw [setF_other hcy, has_put_other hne]
      refine ⟨(h3 c hc).1, fun v hv z => ?_⟩
      rw [atKey_put_other hne]
      exact (h3 c hc).2 v hv z
/-- 'delete(m, k)'. -/
theorem map_delete (hg : o.guard = none) (m x : Operand) (t : TypeId) (hop : o.op = .call { callee := .builtin .delete, args := #[m, x], argTypes := #[t, k] }) (I : KeyIs P k ok kv kl) (ht : P.underlying t = some (.map k e))
    (h : MapFn P k ok kl w b f N) (hm : a.eval m = .map (some b)) (y : α) (hy : ok y) (hx : a.eval x = kv y)
    (hK : ∀ w', MapFn P k ok kl w' b (cutF f y) (if (f y).isSome then N - 1 else N) → w.grownBy w' (some b) → wpList P ops Q rest (a.put o.dst (.tuple #[])) w') : wpList P ops Q (o :: rest) a w := by
  obtain ⟨D, h1, h2, h3⟩ := h
  refine wpList_delete_own w hg m x t k hop e I.keyed ht heldR b N D hm h1 _ _ hx (I.key y hy) ?_
  intro w' h4 h5
  have hs : size (D.del (kl y)) = if (f y).isSome then N - 1 else N := by
    have := size_del (k := kl y) (h1.tidy I.keyed)
    rw [(h3 y hy).1, h2] at this
    split at this
    · rename_i hh; rw [if_pos hh]; omega
    · rename_i hh; rw [if_neg hh]; omega
  refine hK w' ⟨D.del (kl y), ?_, hs, fun c hc => ?_⟩ h5.grown
  · have h6 := owns_size h4
    rw [hs] at h6
    exact h6
  · by_cases hcy : c = y
    · subst hcy
      refine ⟨by rw [has_del_same, cutF_same]; rfl, fun v hv => ?_⟩
      rw [cutF_same] at hv
      cases hv
    · have hne := I.ne hc hy hcy
      rw [cutF_other hcy, has_del_other hne]
      refine ⟨(h3 c hc).1, fun v hv z => ?_⟩
      rw [atKey_del_other hne]
      exact (h3 c hc).2 v hv z
end
end Go.Proofs.Ytmoepcobhapghaa.Aid
