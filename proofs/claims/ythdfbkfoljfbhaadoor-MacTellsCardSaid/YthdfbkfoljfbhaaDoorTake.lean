/-
  A region that draws its order: two operations that yield the same in every world are taken first; the rest comes in one order, whatever the numbers.
-/
import Derived.Test.YthdfbkfoljfbhaaDoorFirst
namespace Go.Proofs.YthdfbkfoljfbhaaDoor.Aid
open Go Go.RowKit
variable {P : Program} {ops : Array Oper} {md : Region.Mode}

/-- From here on each operation comes up alone, in this order. -/
def onlyB (md : Region.Mode) (ops : Array Oper) : List Nat → Array Bool → Bool
  | [], listed => (Region.ready md ops listed).isEmpty
  | i :: l, listed => decide (Region.ready md ops listed = [i]) && onlyB md ops l (listed.setIfInBounds i true)
def opsOf (ops : Array Oper) (l : List Nat) : List Oper := l.filterMap fun i => ops[i]?
theorem wpAny_of_only {Q : Exit → Act → World → Prop} : ∀ (l : List Nat) (listed : Array Bool) (a : Act) (w : World), (∀ i ∈ l, i < ops.size) → onlyB md ops l listed = true → wpList P ops Q (opsOf ops l) a w → wpAny P md ops Q l.length listed a w
  | [], _, _, _, _, hB, h => ⟨by simpa [onlyB] using hB, h⟩
  | i :: l, listed, a, w, hl, hB, h => by
    have hi : i < ops.size := hl i (by simp)
    have h0 : ops[i]? = some ops[i] := Array.getElem?_eq_getElem hi
    simp only [onlyB, Bool.and_eq_true, decide_eq_true_eq] at hB
    have ho : opsOf ops (i :: l) = ops[i] :: opsOf ops l := by simp [opsOf, h0]
    rw [ho] at h
    refine ⟨fun h1 => (by rw [hB.1] at h1; cases h1), fun j hj => ?_⟩
    rw [hB.1] at hj
    have hij : j = i := by simpa using hj
    subst hij
    have hw : wpOp P ops Q j (wpList P ops Q (opsOf ops l)) a w := by unfold wpOp; simp only [h0]; exact h
    exact wpOp_mono (fun a' w' h' => wpAny_of_only l _ a' w' (fun k hk => hl k (by simp [hk])) hB.2 h') hw

def twoB (ops : Array Oper) (i j : Nat) (l : List Nat) : Bool :=
  Region.noSelect ops && decide (ops.size = l.length + 2) && l.all (fun k => decide (k < ops.size)) &&
  Region.free .any ops (Array.replicate ops.size false) i && (Region.ready .any ops (Array.replicate ops.size false)).contains i &&
  Region.free .any ops ((Array.replicate ops.size false).setIfInBounds i true) j && (Region.ready .any ops ((Array.replicate ops.size false).setIfInBounds i true)).contains j &&
  onlyB .any ops l (((Array.replicate ops.size false).setIfInBounds i true).setIfInBounds j true)

theorem region_two {id : Nat} {Q : Exit → Act → World → Prop} {a : Act} {w : World} {ls : List Oper} (i j : Nat) (l : List Nat) {oi oj : Oper} (vi vj : Value) (hm : P.follows .mixedOrders = true) (hB : twoB ls.toArray i j l = true)
    (hi : ls.toArray[i]? = some oi) (hj : ls.toArray[j]? = some oj)
    (hQi : ∀ c a w, Q (.panic c) (a.put oi.dst vi) w → Q (.panic c) a w) (hQj : ∀ c a w, Q (.panic c) (a.put oj.dst vj) w → Q (.panic c) a w)
    (hyi : Yields P ls.toArray oi vi a) (hyj : Yields P ls.toArray oj vj (a.put oi.dst vi))
    (h : wpList P ls.toArray Q (opsOf ls.toArray l) ((a.put oi.dst vi).put oj.dst vj) w.drew) : (Code.region id ls.toArray true).wp P Q a w := by
  simp only [twoB, Bool.and_eq_true, decide_eq_true_eq, List.all_eq_true] at hB
  obtain ⟨⟨⟨⟨⟨⟨⟨hsel, hsz⟩, hall⟩, hf1⟩, hr1⟩, hf2⟩, hr2⟩, honly⟩ := hB
  refine wp_region_any hm ?_
  rw [hsz] at hf1 hr1 hf2 hr2 honly ⊢
  refine wpAny_take (i := i) hi hsel hf1 hr1 hQi hyi ?_
  refine wpAny_take (i := j) hj hsel hf2 hr2 hQj hyj ?_
  exact wpAny_of_only l _ _ _ (fun k hk => by have := hall k hk; simpa using this) honly h

theorem opsOf_range (ls : List Oper) : ∀ (n k : Nat), k + n = ls.length → opsOf ls.toArray (List.range' k n) = ls.drop k
  | 0, k, h => by rw [List.drop_eq_nil_of_le (by omega)]; rfl
  | n + 1, k, h => by
    have hk : k < ls.length := by omega
    have ih := opsOf_range ls n (k + 1) (by omega)
    rw [List.range'_succ, List.drop_eq_getElem_cons hk, ← ih]
    simp [opsOf, List.getElem?_eq_getElem hk]
/-- The first and the third operation are taken first. -/
theorem region_02 {id : Nat} {Q : Exit → Act → World → Prop} {a : Act} {w : World} {o0 o1 o2 : Oper} {r : List Oper} (v0 v2 : Value) (hm : P.follows .mixedOrders = true) (hB : twoB (o0 :: o1 :: o2 :: r).toArray 0 2 (1 :: List.range' 3 r.length) = true)
    (hQ0 : ∀ c a w, Q (.panic c) (a.put o0.dst v0) w → Q (.panic c) a w) (hQ2 : ∀ c a w, Q (.panic c) (a.put o2.dst v2) w → Q (.panic c) a w)
    (hy0 : Yields P (o0 :: o1 :: o2 :: r).toArray o0 v0 a) (hy2 : Yields P (o0 :: o1 :: o2 :: r).toArray o2 v2 (a.put o0.dst v0))
    (h : wpList P (o0 :: o1 :: o2 :: r).toArray Q (o1 :: r) ((a.put o0.dst v0).put o2.dst v2) w.drew) : (Code.region id (o0 :: o1 :: o2 :: r).toArray true).wp P Q a w := by
  refine region_two 0 2 (1 :: List.range' 3 r.length) v0 v2 hm hB rfl rfl hQ0 hQ2 hy0 hy2 ?_
  have e1 := opsOf_range (o0 :: o1 :: o2 :: r) r.length 3 (by simp; omega)
  have e2 : opsOf (o0 :: o1 :: o2 :: r).toArray (1 :: List.range' 3 r.length) = o1 :: opsOf (o0 :: o1 :: o2 :: r).toArray (List.range' 3 r.length) := by simp [opsOf]
  rw [e2, e1]
  exact h
end Go.Proofs.YthdfbkfoljfbhaaDoor.Aid
