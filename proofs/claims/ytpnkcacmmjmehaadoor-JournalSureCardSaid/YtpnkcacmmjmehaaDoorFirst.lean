/-
  A region that draws its order, whose first operation yields the same in every world ('h.f = g(h.f)': h is looked up first, and used last), whose others read before one that writes, and whose rest comes in one order.
  The thought: once the first operation is done, an edge more from the first writing operation to it changes nothing; with that edge the library's theorem on regions that read and then write serves.
  '==' between two arrays of numbers that are the same.
  A region that draws its order: two operations that yield the same in every world are taken first; the rest comes in one order, whatever the numbers.
-/
import Derived.Test.YtpnkcacmmjmehaaDoorAid
namespace Go.Proofs.YtpnkcacmmjmehaaDoor.Aid
open Go Go.RowKit
variable {P : Program} {ops : Array Oper} {md : Region.Mode}

def addEdge (ops : Array Oper) (n : Nat) (e : Edge) : Array Oper := ops.modify n fun o => { o with after := o.after.push e }
theorem size_addEdge (n : Nat) (e : Edge) : (addEdge ops n e).size = ops.size := by simp [addEdge]
theorem addEdge_ne (n : Nat) (e : Edge) (i : Nat) (h : n ≠ i) : (addEdge ops n e)[i]? = ops[i]? := by
  unfold addEdge; rw [Array.getElem?_modify, if_neg h]
theorem addEdge_eq (n : Nat) (e : Edge) : (addEdge ops n e)[n]? = (ops[n]?).map fun o => { o with after := o.after.push e } := by
  unfold addEdge; rw [Array.getElem?_modify, if_pos rfl]
theorem yielded_addEdge (n : Nat) (e : Edge) (tmps : Array Value) : yielded (addEdge ops n e) tmps = yielded ops tmps := by
  funext j
  unfold yielded
  by_cases h : n = j
  · subst h
    rw [addEdge_eq]
    cases ops[n]? <;> rfl
  · rw [addEdge_ne n e j h]
theorem ready_addEdge (n : Nat) (e : Edge) (listed : Array Bool) (he : listed.getD e.on false = true) : Region.ready md (addEdge ops n e) listed = Region.ready md ops listed := by
  unfold Region.ready
  rw [size_addEdge]
  refine List.filter_congr (fun i _ => ?_)
  by_cases h : n = i
  · subst h
    rw [addEdge_eq]
    cases ops[n]? with
    | none => rfl
    | some o => simp only [Option.map_some, Option.getD_some, Array.all_push, he, Bool.or_true, Bool.and_true]
  · rw [addEdge_ne n e i h]
theorem wp_after (o : Oper) (x : Array Edge) (a : Act) (w : World) (K : Act → World → Prop) (Q : Exit → Act → World → Prop) : Oper.wp P { o with after := x } a w K Q = Oper.wp P o a w K Q := by
  cases o; rfl
theorem asks_after (o : Oper) (x : Array Edge) (a : Act) (w : World) : Oper.asks P { o with after := x } a w = Oper.asks P o a w := by
  cases o; rfl
theorem wpOp_addEdge (n : Nat) (e : Edge) (Q : Exit → Act → World → Prop) (i : Nat) (K : Act → World → Prop) (a : Act) (w : World) : wpOp P (addEdge ops n e) Q i K a w = wpOp P ops Q i K a w := by
  unfold wpOp
  rw [yielded_addEdge]
  by_cases h : n = i
  · subst h
    rw [addEdge_eq]
    cases ops[n]? with
    | none => rfl
    | some o => simp only [Option.map_some, wp_after, asks_after]; rfl
  · rw [addEdge_ne n e i h]
theorem wpAny_addEdge (n : Nat) (e : Edge) (Q : Exit → Act → World → Prop) : ∀ (f : Nat) (listed : Array Bool) (a : Act) (w : World), listed.getD e.on false = true →
    wpAny P md (addEdge ops n e) Q f listed a w → wpAny P md ops Q f listed a w
  | 0, listed, a, w, he, h => by
    unfold wpAny at h ⊢
    rw [ready_addEdge n e listed he] at h
    exact h
  | f + 1, listed, a, w, he, h => by
    unfold wpAny at h ⊢
    rw [ready_addEdge n e listed he] at h
    refine ⟨h.1, fun i hi => ?_⟩
    have h2 := h.2 i hi
    rw [wpOp_addEdge] at h2
    exact wpOp_mono (fun a' w' h3 => wpAny_addEdge n e Q f _ a' w' (getD_set_true he) h3) h2
theorem wpStill_addEdge (n : Nat) (e : Edge) (w : World) (Q : Act → Prop) : ∀ l : List Oper, wpStill P (addEdge ops n e) w Q l = wpStill P ops w Q l
  | [] => rfl
  | o :: l => by
    funext a
    simp only [wpStill, yielded_addEdge, wpStill_addEdge n e w Q l]
theorem wpList_addEdge (n : Nat) (e : Edge) (Q : Exit → Act → World → Prop) : ∀ l : List Oper, wpList P (addEdge ops n e) Q l = wpList P ops Q l
  | [] => rfl
  | o :: l => by
    funext a w
    simp only [wpList, yielded_addEdge, wpList_addEdge n e Q l]

def onFirst : Edge := { on := 0, ground := .data }
def Region.firstB (ops : Array Oper) (n : Nat) : Bool :=
  Region.noSelect ops && decide (0 < n) && decide (n < ops.size) && Region.free .any ops (Array.replicate ops.size false) 0 && (Region.ready .any ops (Array.replicate ops.size false)).contains 0 &&
  Region.noSelect (addEdge ops n onFirst) && Region.sinkB .any (addEdge ops n onFirst) n && Region.chainB .any (addEdge ops n onFirst) n &&
  Region.lexHead .any (addEdge ops n onFirst) (ops.size - n) (n - 1) 1 ((Array.replicate ops.size false).setIfInBounds 0 true) &&
  ((ops[0]?).map fun o => o.after.isEmpty).getD false

theorem region_first {id : Nat} {Q : Exit → Act → World → Prop} {a : Act} {w : World} {o0 : Oper} {l : List Oper} {v : Value} (n : Nat) (hm : P.follows .mixedOrders = true) (hB : Region.firstB (o0 :: l).toArray n = true)
    (hQ : ∀ c a w, Q (.panic c) (a.put o0.dst v) w → Q (.panic c) a w) (hy : Yields P (o0 :: l).toArray o0 v a)
    (h : wpStill P (o0 :: l).toArray w.drew (fun a' => wpList P (o0 :: l).toArray Q (l.drop (n - 1)) a' w.drew) (l.take (n - 1)) (a.put o0.dst v)) : (Code.region id (o0 :: l).toArray true).wp P Q a w := by
  simp only [Region.firstB, Bool.and_eq_true, decide_eq_true_eq] at hB
  obtain ⟨⟨⟨⟨⟨⟨⟨⟨⟨hsel, h0n⟩, hn⟩, hfree⟩, hready⟩, hsel'⟩, hs⟩, hc⟩, hlex⟩, hemp⟩ := hB
  have hsz : (o0 :: l).toArray.size = l.length + 1 := by simp
  have hnl : n < l.length + 1 := by rw [hsz] at hn; exact hn
  refine wp_region_any hm ?_
  rw [hsz] at hfree hready hlex ⊢
  refine wpAny_take (i := 0) (oi := o0) rfl hsel hfree hready hQ hy ?_
  refine wpAny_addEdge n onFirst Q _ _ _ _ (by simp [onFirst]) ?_
  have inv : HeadInv .any (addEdge (o0 :: l).toArray n onFirst) n ((Array.replicate (l.length + 1) false).setIfInBounds 0 true) := by
    refine ⟨by simp [size_addEdge], fun j oj hj hl e he hb => ?_, fun t ht ht' => ?_⟩
    · by_cases hj0 : 0 = j
      · subst hj0
        rw [addEdge_ne n onFirst 0 (by omega)] at hj
        have ho : oj = o0 := by simpa using hj.symm
        subst ho
        have : oj.after = #[] := by simpa using hemp
        rw [this] at he
        simp at he
      · rw [getD_set_ne false hj0, getD_replicate_false] at hl
        cases hl
    · rw [size_addEdge, hsz] at ht'
      rw [getD_set_ne true (by omega)]
      exact getD_in (by simpa using ht') (getD_replicate_false _ _)
  obtain ⟨on, lr, hd⟩ : ∃ on lr, l.drop (n - 1) = on :: lr := by
    cases hq : l.drop (n - 1) with
    | nil => have := congrArg List.length hq; simp at this; omega
    | cons x y => exact ⟨x, y, rfl⟩
  have hget : ∀ j, (o0 :: l).toArray[n + j]? = (on :: lr)[j]? := fun j => by
    rw [← hd, List.getElem?_toArray, List.getElem?_drop, show n + j = (n - 1 + j) + 1 by omega, List.getElem?_cons_succ]
  have hlt : (l.take (n - 1)).length = n - 1 := by simp; omega
  have hlr : (on :: lr).length = l.length + 1 - n := by rw [← hd]; simp; omega
  have htail : ∀ j, ({ on with after := on.after.push onFirst } :: lr : List Oper)[j]? = (addEdge (o0 :: l).toArray n onFirst)[n + j]? := fun j => by
    cases j with
    | zero =>
      rw [Nat.add_zero, addEdge_eq]
      have := hget 0
      rw [Nat.add_zero] at this
      rw [this]
      rfl
    | succ j =>
      rw [addEdge_ne n onFirst _ (by omega), hget (j + 1)]
      rfl
  have hW : wpList P (o0 :: l).toArray Q ({ on with after := on.after.push onFirst } :: lr) = wpList P (o0 :: l).toArray Q (on :: lr) := by
    funext a' w'
    simp only [wpList, wp_after, asks_after]
    rfl
  have H := wpAnyL_lex (P := P) (md := .any) (ops := addEdge (o0 :: l).toArray n onFirst) (w := w.drew) (n := n) (g := l.length + 1 - n)
    (Lq := fun a' => wpList P (addEdge (o0 :: l).toArray n onFirst) Q ({ on with after := on.after.push onFirst } :: lr) a' w.drew) hsel' hs hc (by rw [size_addEdge]; exact hn) (l.take (n - 1)) 1 _ (a.put o0.dst v)
    (fun j hj => by
      rw [hlt] at hj
      rw [addEdge_ne n onFirst _ (by omega), List.getElem?_take_of_lt hj, List.getElem?_toArray, Nat.add_comm 1 j, List.getElem?_cons_succ])
    (by rw [hlt]; omega) inv (by rw [hlt]; exact hlex)
    (by rw [wpStill_addEdge, wpList_addEdge, hW, ← hd]; exact h)
  have H2 := wpAny_of_head (Q' := Q) (g := l.length + 1 - n) (fun listed a' hL => by
    have := wpAny_of_seq (P := P) (md := .any) (Q' := Q) ({ on with after := on.after.push onFirst } :: lr) n listed a' w.drew htail (by rw [List.length_cons, ← List.length_cons (a := on), hlr]; exact hL.1) hL.2
    rwa [List.length_cons, ← List.length_cons (a := on), hlr] at this) _ _ _ H
  rw [hlt, show n - 1 + (l.length + 1 - n) = l.length by omega] at H2
  exact H2

/-- A whole array, read in a region that stands still. -/
theorem still_load {rest : List Oper} {op : Oper} {a : Act} {w : World} {Q : Act → Prop} (hgd : op.guard = none) (ty : TypeId) (x : Operand) (ho : op.op = .load ty x)
    (b o : Nat) (hx : a.eval x = .pointer (some ⟨b, o, none⟩)) (cs : List Value) (d : TypeDesc) (hc : w.rangeAt b o cs)
    (hu : P.underlying ty = some d) (hd : d.isRow = true) (hi : (P.info? ty).map (·.size) = some cs.length)
    (h : wpStill P ops w Q rest (a.put op.dst (.agg cs.toArray))) : wpStill P ops w Q (op :: rest) a := by
  have hw : Region.wanted op (yielded ops a.tmps) = true := by simp [Region.wanted, hgd]
  refine wpStill_step (fun K hK => ?_)
  rw [if_pos hw]
  unfold Oper.still execOp
  simp only [ho, hx, Instr.loadAt, Instr.sureAddr, Sem.run_bind, Sem.run_pure, Result.andThen_ok, run_loadVar_mid w b o ty cs d hc hu hd hi, Oper.stillUpon]
  exact ⟨trivial, hK _ h⟩
theorem still_row {rest : List Oper} {op : Oper} {a : Act} {w : World} {Q : Act → Prop} (hgd : op.guard = none) (ty : TypeId) (x : Operand) (ho : op.op = .load ty x)
    (g o t n m : Nat) (f : Nat → Value) (hr : w.rowIs g t n f) (hx : a.eval x = .pointer (some ⟨g, o, none⟩)) (d : TypeDesc)
    (hu : P.underlying ty = some d) (hd : d.isRow = true) (hi : (P.info? ty).map (·.size) = some m) (hm : o + m ≤ n)
    (h : wpStill P ops w Q rest (a.put op.dst (.agg (cellsOf m fun j => f (o + j))))) : wpStill P ops w Q (op :: rest) a :=
  still_load hgd ty x ho g o hx _ d (row_range hr o m hm) hu hd (by simpa using hi) h
end Go.Proofs.YtpnkcacmmjmehaaDoor.Aid

namespace Go.Proofs.YtpnkcacmmjmehaaDoor.Aid
open Go Go.RowKit
variable {P : Program}

theorem run_equalIn_int (d : Nat) {t : TypeId} {k : IntKind} (h : P.underlying t = some (.int k)) (n : Int) (w : World) : (Op.equalIn (d + 1) t (.int k n) (.int k n)).run P w = .ok true w := by
  simp [Op.equalIn, Sem.run_bind, run_underlying h w, Result.andThen]
theorem run_part_int {t : TypeId} {k : IntKind} (h : P.underlying t = some (.int k)) (cs : Array Value) (o : Nat) (v : Value) (hv : cs[o]? = some v) (w : World) : (part t cs o).run P w = .ok v w := by
  have hagg : (isAgg t).run P w = .ok false w := by
    unfold isAgg
    rw [Sem.run_bind, run_underlying h w]
    rfl
  simp [part, Sem.run_bind, hagg, Result.andThen, hv]
theorem run_equalIn_same (d : Nat) {ty len elem : TypeId} {k : IntKind} (hu : P.underlying ty = some (.array len elem)) (he : P.underlying elem = some (.int k)) (hsz : (P.info? elem).map (·.size) = some 1)
    (X : Array Value) (hX : ∀ i, i < len → ∃ n, X[i]? = some (.int k n)) (w : World) : (Op.equalIn (d + 2) ty (.agg X) (.agg X)).run P w = .ok true w := by
  cases hq : P.info? elem with
  | none => simp [hq] at hsz
  | some t =>
    have hs : t.size = 1 := by simpa [hq] using hsz
    have hS : (sizeOf elem).run P w = .ok 1 w := by simp [sizeOf, typeInfo, hq, hs]
    rw [show d + 2 = (d + 1) + 1 from rfl, Op.equalIn]
    simp only [Sem.run_bind, run_underlying hu w, Result.andThen_ok, hS, Nat.mul_one]
    rw [Std.Legacy.Range.forIn_eq_forIn_range']
    simp only [Std.Legacy.Range.size, Nat.sub_zero, Nat.add_sub_cancel, Nat.div_one]
    have key : ∀ (l : List Nat), (∀ i ∈ l, i < len) → (forIn l ((none, ()) : Option Bool × Unit) (fun i (_ : Option Bool × Unit) => (do
        let a ← part elem X i
        let b ← part elem X i
        let r ← Op.equalIn (d + 1) elem a b
        if (!r) = true then pure (ForInStep.done (some false, ())) else pure (ForInStep.yield (none, ())) : Sem (ForInStep (Option Bool × Unit))))).run P w = .ok (none, ()) w := by
      intro l
      induction l with
      | nil => intro _; simp
      | cons i l ih =>
        intro hl
        obtain ⟨n, hn⟩ := hX i (hl i (by simp))
        simp only [List.forIn_cons, Sem.run_bind, run_part_int he X i _ hn w, Result.andThen_ok, run_equalIn_int d he n w, Bool.not_true, Bool.false_eq_true, if_false, Sem.run_pure]
        exact ih (fun j hj => hl j (by simp [hj]))
    have := key (List.range' 0 len 1) (fun i hi => by simp at hi; omega)
    rw [this]
    rfl
/-- 'x == x', 'x != x'. -/
theorem run_eql_same {ty len elem : TypeId} {k : IntKind} (hu : P.underlying ty = some (.array len elem)) (he : P.underlying elem = some (.int k)) (hsz : (P.info? elem).map (·.size) = some 1)
    (X : Array Value) (hX : ∀ i, i < len → ∃ n, X[i]? = some (.int k n)) (w : World) : (binOp .eql ty (.agg X) (.agg X)).run P w = .ok (.bool true) w := by
  simp only [binOp]
  simp [Op.equal, Op.maxDepth, run_equalIn_same 9998 hu he hsz X hX w]
theorem run_neq_same {ty len elem : TypeId} {k : IntKind} (hu : P.underlying ty = some (.array len elem)) (he : P.underlying elem = some (.int k)) (hsz : (P.info? elem).map (·.size) = some 1)
    (X : Array Value) (hX : ∀ i, i < len → ∃ n, X[i]? = some (.int k n)) (w : World) : (binOp .neq ty (.agg X) (.agg X)).run P w = .ok (.bool false) w := by
  simp only [binOp]
  simp [Op.equal, Op.maxDepth, run_equalIn_same 9998 hu he hsz X hX w]
end Go.Proofs.YtpnkcacmmjmehaaDoor.Aid

namespace Go.Proofs.YtpnkcacmmjmehaaDoor.Aid
open Go Go.RowKit
variable {P : Program} {ops : Array Oper} {md : Region.Mode}

/-- From here on each operation comes up alone, in this order. -/
def onlyB (md : Region.Mode) (ops : Array Oper) : List Nat → Array Bool → Bool
  | [], listed => (Region.ready md ops listed).isEmpty
  | i :: l, listed => decide (Region.ready md ops listed = [i]) && onlyB md ops l (listed.setIfInBounds i true)
def opsOf (ops : Array Oper) (l : List Nat) : List Oper := l.filterMap fun i => ops[i]?
theorem wpAny_of_only {Q : Exit → Act → World → Prop} : ∀ (l : List Nat) (listed : Array Bool) (a : Act) (w : World), (∀ i ∈ l, i < ops.size) → onlyB md ops l listed = true → wpList P ops Q (opsOf ops l) a w → wpAny P md ops Q l.length listed a w
  | [], _, _, _, _, hB, h => ⟨by simpa [onlyB] using hB, h⟩
  | i :: l, listed, a, w, hl, hB, h => by
    have hi : i < ops.size := hl i (by simp)
    have h0 : ops[i]? = some ops[i] := Array.getElem?_eq_getElem hi
    simp only [onlyB, Bool.and_eq_true, decide_eq_true_eq] at hB
    have ho : opsOf ops (i :: l) = ops[i] :: opsOf ops l := by simp [opsOf, h0]
    rw [ho] at h
    refine ⟨fun h1 => (by rw [hB.1] at h1; cases h1), fun j hj => ?_⟩
    rw [hB.1] at hj
    have hij : j = i := by simpa using hj
    subst hij
    have hw : wpOp P ops Q j (wpList P ops Q (opsOf ops l)) a w := by unfold wpOp; simp only [h0]; exact h
    exact wpOp_mono (fun a' w' h' => wpAny_of_only l _ a' w' (fun k hk => hl k (by simp [hk])) hB.2 h') hw

def twoB (ops : Array Oper) (i j : Nat) (l : List Nat) : Bool :=
  Region.noSelect ops && decide (ops.size = l.length + 2) && l.all (fun k => decide (k < ops.size)) &&
  Region.free .any ops (Array.replicate ops.size false) i && (Region.ready .any ops (Array.replicate ops.size false)).contains i &&
  Region.free .any ops ((Array.replicate ops.size false).setIfInBounds i true) j && (Region.ready .any ops ((Array.replicate ops.size false).setIfInBounds i true)).contains j &&
  onlyB .any ops l (((Array.replicate ops.size false).setIfInBounds i true).setIfInBounds j true)

theorem region_two {id : Nat} {Q : Exit → Act → World → Prop} {a : Act} {w : World} {ls : List Oper} (i j : Nat) (l : List Nat) {oi oj : Oper} (vi vj : Value) (hm : P.follows .mixedOrders = true) (hB : twoB ls.toArray i j l = true)
    (hi : ls.toArray[i]? = some oi) (hj : ls.toArray[j]? = some oj)
    (hQi : ∀ c a w, Q (.panic c) (a.put oi.dst vi) w → Q (.panic c) a w) (hQj : ∀ c a w, Q (.panic c) (a.put oj.dst vj) w → Q (.panic c) a w)
    (hyi : Yields P ls.toArray oi vi a) (hyj : Yields P ls.toArray oj vj (a.put oi.dst vi))
    (h : wpList P ls.toArray Q (opsOf ls.toArray l) ((a.put oi.dst vi).put oj.dst vj) w.drew) : (Code.region id ls.toArray true).wp P Q a w := by
  simp only [twoB, Bool.and_eq_true, decide_eq_true_eq, List.all_eq_true] at hB
  obtain ⟨⟨⟨⟨⟨⟨⟨hsel, hsz⟩, hall⟩, hf1⟩, hr1⟩, hf2⟩, hr2⟩, honly⟩ := hB
  refine wp_region_any hm ?_
  rw [hsz] at hf1 hr1 hf2 hr2 honly ⊢
  refine wpAny_take (i := i) hi hsel hf1 hr1 hQi hyi ?_
  refine wpAny_take (i := j) hj hsel hf2 hr2 hQj hyj ?_
  exact wpAny_of_only l _ _ _ (fun k hk => by have := hall k hk; simpa using this) honly h

theorem opsOf_range (ls : List Oper) : ∀ (n k : Nat), k + n = ls.length → opsOf ls.toArray (List.range' k n) = ls.drop k
  | 0, k, h => by rw [List.drop_eq_nil_of_le (by omega)]; rfl
  | n + 1, k, h => by
    have hk : k < ls.length := by omega
    have ih := opsOf_range ls n (k + 1) (by omega)
    rw [List.range'_succ, List.drop_eq_getElem_cons hk, ← ih]
    simp [opsOf, List.getElem?_eq_getElem hk]
/-- The first and the third operation are taken first. -/
theorem region_02 {id : Nat} {Q : Exit → Act → World → Prop} {a : Act} {w : World} {o0 o1 o2 : Oper} {r : List Oper} (v0 v2 : Value) (hm : P.follows .mixedOrders = true) (hB : twoB (o0 :: o1 :: o2 :: r).toArray 0 2 (1 :: List.range' 3 r.length) = true)
    (hQ0 : ∀ c a w, Q (.panic c) (a.put o0.dst v0) w → Q (.panic c) a w) (hQ2 : ∀ c a w, Q (.panic c) (a.put o2.dst v2) w → Q (.panic c) a w)
    (hy0 : Yields P (o0 :: o1 :: o2 :: r).toArray o0 v0 a) (hy2 : Yields P (o0 :: o1 :: o2 :: r).toArray o2 v2 (a.put o0.dst v0))
    (h : wpList P (o0 :: o1 :: o2 :: r).toArray Q (o1 :: r) ((a.put o0.dst v0).put o2.dst v2) w.drew) : (Code.region id (o0 :: o1 :: o2 :: r).toArray true).wp P Q a w := by
  refine region_two 0 2 (1 :: List.range' 3 r.length) v0 v2 hm hB rfl rfl hQ0 hQ2 hy0 hy2 ?_
  have e1 := opsOf_range (o0 :: o1 :: o2 :: r) r.length 3 (by simp; omega)
  have e2 : opsOf (o0 :: o1 :: o2 :: r).toArray (1 :: List.range' 3 r.length) = o1 :: opsOf (o0 :: o1 :: o2 :: r).toArray (List.range' 3 r.length) := by simp [opsOf]
  rw [e2, e1]
  exact h
end Go.Proofs.YtpnkcacmmjmehaaDoor.Aid
