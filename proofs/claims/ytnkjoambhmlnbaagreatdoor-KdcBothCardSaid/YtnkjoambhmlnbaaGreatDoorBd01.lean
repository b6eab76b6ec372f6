/-
  Small aids for walks: regions that draw their order and only read, or read and then write in one order (the world behind the draw as 'w.drew'); whole arrays out of rows and into rows, the content by the index. What a name is, as a function. A region that draws its order, whose first operation yields the same in every world ('h.f = g(h.f)': h is looked up first, and used last), whose others read before one that writes, and whose rest comes in one order. The thought: once the first operation is done, an edge more from the first writing operation to it changes nothing; with that edge the library's theorem on regions that read and then write serves. '==' between two arrays of numbers that are the same. A region that draws its order: two operations that yield the same in every world are taken first; the rest comes in one order, whatever the numbers. '==' between any two arrays of bytes; between two arrays of arrays of bytes that are the same. 'b[lo:]' and 'b[:m]' of a slice whose elements are one cell each, of none too. Books as lists: which operations may be, what each makes of a book, which operations make a book of nothing. A slice of elements of several cells each. The field of 256 and the S-box as plain functions over bytes: what the document's chapter on aes says, and the laws of P3.3. No program is named here. AES-128 as plain functions over bytes: what the document's chapter on aes says, and that unlike blocks stay unlike (P3.3). No program is named here. The block that the laws of layer 3 ask first: FIPS 197's appendix C.1, round by round. Counters and the key stream as plain functions: what the document's chapter on ctr says, and the laws of P4.2. No program is named here. The block of zeros under the key of zeros, which the laws of layer 4 ask first, round by round; a counter at its end. Tables as lists, the oldest first: what Put, Get and Drop make of them; the keys alone.
-/
import Derived.WalkKit
import Derived.StillTailTactics
import Derived.Deep.OwnRows
import Derived.Deep.MidRow
import Derived.Lib.Hide
import Derived.IntWalk
namespace Go.Proofs.YtnkjoambhmlnbaaGreatDoor.Aid
open Go Go.RowKit
variable {P : Program}
theorem region_still {id : Nat} {Q : Exit → Act → World → Prop} {a : Act} {w : World} {l : List Oper} (hm : P.follows .mixedOrders = true) (hB : Region.lexB .any l.toArray = true)
    (h : wpStill P l.toArray w.drew (fun a' => Q .normal a' w.drew) l a) : (Code.region id l.toArray true).wp P Q a w :=
  wp_region_still_lit hm hB h
theorem region_tail {id : Nat} {Q : Exit → Act → World → Prop} {a : Act} {w : World} {l : List Oper} (n : Nat) (hm : P.follows .mixedOrders = true) (hB : Region.lexTailB .any l.toArray n = true)
    (h : wpStill P l.toArray w.drew (fun a' => wpList P l.toArray Q (l.drop n) a' w.drew) (l.take n) a) : (Code.region id l.toArray true).wp P Q a w :=
  wp_region_still_tail n hm hB h

/-- Only block g may have turned; nothing was made. -/
structure Only (g : Nat) (w w' : World) : Prop where
  os : w'.os = w.os
  tape : w'.tape = w.tape
  output : w'.output = w.output
  size : w'.heap.size = w.heap.size
  block : ∀ k, k ≠ g → w'.heap[k]? = w.heap[k]?
theorem Only.below {g B : Nat} {w0 w w' : World} (h : Only g w w') (hb : Below B w0 w) (hg : B ≤ g) : Below B w0 w' :=
  hb.trans ⟨h.os, h.tape, h.output, by rw [h.size]; exact Nat.le_refl _, fun k hk => h.block k (by omega)⟩
theorem Only.row {g b t n : Nat} {f : Nat → Value} {w w' : World} (h : Only g w w') (hr : w.rowIs b t n f) (hne : b ≠ g) : w'.rowIs b t n f := hr.of_block (h.block b hne)

def cellsOf (n : Nat) (f : Nat → Value) : Array Value := ((List.range n).map f).toArray
theorem size_cellsOf (n : Nat) (f : Nat → Value) : (cellsOf n f).size = n := by simp [cellsOf]
theorem cellsOf_at (n : Nat) (f : Nat → Value) (i : Nat) (h : i < n) : (cellsOf n f)[i]? = some (f i) := by simp [cellsOf, h]
theorem eq_cellsOf {n : Nat} {f : Nat → Value} {c : Array Value} (hs : c.size = n) (hc : ∀ i, i < n → c[i]? = some (f i)) : c = cellsOf n f := by
  apply Array.ext_getElem?
  intro i
  by_cases h : i < n
  · rw [hc i h, cellsOf_at n f i h]
  · rw [Array.getElem?_eq_none (by omega), Array.getElem?_eq_none (by rw [size_cellsOf]; omega)]
theorem cellsOf_congr {n : Nat} {f g : Nat → Value} (h : ∀ i, i < n → f i = g i) : cellsOf n f = cellsOf n g :=
  eq_cellsOf (size_cellsOf n f) (fun i hi => by rw [cellsOf_at n f i hi, h i hi])
theorem row_heap {w : World} {g t n : Nat} {f : Nat → Value} (h : w.rowIs g t n f) : w.heap[g]? = some (.cells (cellsOf n f) t (0, 0)) := by
  obtain ⟨c, hb, hn, hc⟩ := h
  rw [hb, eq_cellsOf hn hc]
theorem row_mk {w : World} {g t n : Nat} {f : Nat → Value} (h : w.heap[g]? = some (.cells (cellsOf n f) t (0, 0))) : w.rowIs g t n f :=
  ⟨_, h, size_cellsOf n f, fun i hi => cellsOf_at n f i hi⟩
theorem row_new (w : World) (c : Array Value) (t n : Nat) (f : Nat → Value) (hn : c.size = n) (hc : ∀ i, i < n → c[i]? = some (f i)) : (w.alloc (.cells c t)).rowIs w.heap.size t n f := by
  subst hn; exact w.rowIs_alloc c t f hc
theorem row_range {w : World} {g t n : Nat} {f : Nat → Value} (h : w.rowIs g t n f) (o m : Nat) (hm : o + m ≤ n) : w.rangeAt g o ((List.range m).map fun j => f (o + j)) := by
  intro j v hv
  have hj : j < m := by
    have := (List.getElem?_eq_some_iff.1 hv).1
    simpa using this
  rw [h.cell (by omega)]
  simpa [hj] using hv

section
variable {w : World} {ops : Array Oper} {rest : List Oper} {op : Oper} {a : Act} {Q : Exit → Act → World → Prop}
theorem load_row (hgd : op.guard = none) (ty : TypeId) (x : Operand) (ho : op.op = .load ty x) (g o t n m : Nat) (f : Nat → Value) (h : w.rowIs g t n f)
    (hx : a.eval x = .pointer (some ⟨g, o, none⟩)) (d : TypeDesc) (hu : P.underlying ty = some d) (hd : d.isRow = true) (hi : (P.info? ty).map (·.size) = some m) (hm : o + m ≤ n)
    (hK : wpList P ops Q rest (a.put op.dst (.agg (cellsOf m fun j => f (o + j)))) w) : wpList P ops Q (op :: rest) a w :=
  wpList_load_mid hgd ty x ho g o hx _ d (row_range h o m hm) hu hd (by simpa using hi) hK
theorem load_whole (hgd : op.guard = none) (ty : TypeId) (x : Operand) (ho : op.op = .load ty x) (g t n : Nat) (f : Nat → Value) (h : w.rowIs g t n f)
    (hx : a.eval x = .pointer (some ⟨g, 0, none⟩)) (d : TypeDesc) (hu : P.underlying ty = some d) (hd : d.isRow = true) (hi : (P.info? ty).map (·.size) = some n)
    (hK : wpList P ops Q rest (a.put op.dst (.agg (cellsOf n f))) w) : wpList P ops Q (op :: rest) a w := by
  refine load_row hgd ty x ho g 0 t n n f h hx d hu hd hi (by omega) ?_
  simpa only [Nat.zero_add] using hK
theorem heap_setCells_other (b : Nat) : ∀ (vs : List Value) (o : Nat) (w : World) (k : Nat), k ≠ b → (w.setCells b o vs).heap[k]? = w.heap[k]?
  | [], _, _, _, _ => rfl
  | v :: r, o, w, k, h => by
    rw [World.setCells, heap_setCells_other b r (o + 1) _ k h]
    exact Below.heap_setCell w ⟨b, o, none⟩ v k h
theorem size_setCells (b : Nat) : ∀ (vs : List Value) (o : Nat) (w : World), (w.setCells b o vs).heap.size = w.heap.size
  | [], _, _ => rfl
  | v :: r, o, w => by
    rw [World.setCells, size_setCells b r (o + 1) _]
    simp [World.setCell]
theorem only_setCells (b : Nat) : ∀ (vs : List Value) (o : Nat) (w : World), Only b w (w.setCells b o vs)
  | [], _, w => ⟨rfl, rfl, rfl, rfl, fun _ _ => rfl⟩
  | v :: r, o, w => by
    have h := only_setCells b r (o + 1) (w.setCell ⟨b, o, none⟩ v)
    rw [World.setCells]
    exact ⟨h.os, h.tape, h.output, by rw [h.size]; simp [World.setCell], fun k hk => (h.block k hk).trans (Below.heap_setCell w ⟨b, o, none⟩ v k hk)⟩
theorem row_setCells {g t n : Nat} : ∀ (vs : List Value) (o : Nat) (w : World) (f c : Nat → Value), w.rowIs g t n f → (∀ i, i < vs.length → vs[i]? = some (c i)) →
    (w.setCells g o vs).rowIs g t n (fun j => if o ≤ j ∧ j < o + vs.length then c (j - o) else f j)
  | [], o, w, f, c, h, _ => h.congr (fun i _ => by rw [if_neg (by intro hh; have := hh.2; simp at this; omega)])
  | v :: r, o, w, f, c, h, hc => by
    rw [World.setCells]
    have h1 := h.set o v
    have h2 := row_setCells (g := g) (t := t) (n := n) r (o + 1) _ _ (fun i => c (i + 1)) h1 (fun i hi => by
      have := hc (i + 1) (by simp; omega)
      simpa using this)
    refine h2.congr (fun j hj => ?_)
    have h0 : v = c 0 := by have := hc 0 (by simp); simpa using this
    by_cases e1 : o + 1 ≤ j ∧ j < o + 1 + r.length
    · rw [if_pos e1, if_pos (by simp; omega), show j - (o + 1) + 1 = j - o by omega]
    · rw [if_neg e1]
      by_cases e2 : j = o
      · subst e2
        rw [if_pos rfl, if_pos (by simp), Nat.sub_self, h0]
      · rw [if_neg e2, if_neg (by simp; omega)]
theorem store_row (hgd : op.guard = none) (ty : TypeId) (x y : Operand) (ho : op.op = .store ty x y) (g o t n m : Nat) (f c : Nat → Value) (h : w.rowIs g t n f)
    (hx : a.eval x = .pointer (some ⟨g, o, none⟩)) (cells : Array Value) (hy : a.eval y = .agg cells) (hi : (P.info? ty).map (·.size) = some m) (hm : o + m ≤ n)
    (hs : cells.size = m) (hc : ∀ i, i < m → cells[i]? = some (c i)) (h1 : ∀ i, i < m → (c i).oneCell' = true)
    (hK : ∀ w', w'.rowIs g t n (fun j => if o ≤ j ∧ j < o + m then c (j - o) else f j) → Only g w w' → wpList P ops Q rest (a.put op.dst undef) w') : wpList P ops Q (op :: rest) a w := by
  refine wpList_store_mid hgd ty x y ho g o cells hx hy (fun j hj => ?_) (by rw [hs]; exact hi) ?_ (hK _ ?_ (only_setCells g _ o w))
  · rw [h.cell (by omega)]; exact ⟨rfl, h.frozen _⟩
  · refine Array.all_eq_true_iff_forall_mem.2 (fun v hv => ?_)
    obtain ⟨i, hi', rfl⟩ := Array.mem_iff_getElem.1 hv
    have := hc i (by omega)
    rw [Array.getElem?_eq_getElem hi'] at this
    rw [Option.some.inj this]
    exact h1 i (by omega)
  · have := row_setCells (g := g) (t := t) (n := n) cells.toList o w f c h (fun i hi' => by
      have := hc i (by simp at hi'; omega)
      simpa using this)
    simpa [hs] using this
theorem store_whole (hgd : op.guard = none) (ty : TypeId) (x y : Operand) (ho : op.op = .store ty x y) (g t n : Nat) (f c : Nat → Value) (h : w.rowIs g t n f)
    (hx : a.eval x = .pointer (some ⟨g, 0, none⟩)) (cells : Array Value) (hy : a.eval y = .agg cells) (hi : (P.info? ty).map (·.size) = some n)
    (hs : cells.size = n) (hc : ∀ i, i < n → cells[i]? = some (c i)) (h1 : ∀ i, i < n → (c i).oneCell' = true)
    (hK : ∀ w', w'.rowIs g t n c → Only g w w' → wpList P ops Q rest (a.put op.dst undef) w') : wpList P ops Q (op :: rest) a w := by
  refine store_row hgd ty x y ho g 0 t n n f c h hx cells hy hi (by omega) hs hc h1 (fun w' hr ho' => hK w' (hr.congr (fun i hi' => ?_)) ho')
  rw [if_pos (by omega)]; rfl
theorem results_row {fn : Func} {p : Tmp} {ty : TypeId} (hf : fn.results = #[.cell p ty]) (tmps : Array Value) (g t n : Nat) (f : Nat → Value) (d : TypeDesc)
    (hp : tmps.getD p undef = .pointer (some ⟨g, 0, none⟩)) (h : w.rowIs g t n f) (hu : P.underlying ty = some d) (hd : d.isRow = true) (hi : (P.info? ty).map (·.size) = some n) :
    (results fn tmps).run P w = .ok (.agg (cellsOf n f)) w :=
  results_cell_row hf tmps w g t _ (0, 0) d hp (row_heap h) hu (by cases d <;> simp_all [TypeDesc.isRow]) (by rw [size_cellsOf]; exact hi)
/-- An array's element, the array a value. -/
theorem run_index (ty len elem : Nat) (hu : P.underlying ty = some (.array len elem)) (d : TypeDesc) (he : P.underlying elem = some d) (hd : d.isRow = false) (hi : (P.info? elem).map (·.size) = some 1)
    (C : Array Value) (i : Nat) (hlt : i < len) (v : Value) (hv : C[i]? = some v) (k : IntKind) (W : World) : (Instr.index ty (.agg C) (.int k (i : Int))).run P W = .ok v W := by
  cases hq : P.info? elem with
  | none => simp [hq] at hi
  | some t =>
    have hs : t.size = 1 := by simpa [hq] using hi
    have hagg : (isAgg elem).run P W = .ok false W := by
      unfold isAgg
      rw [Sem.run_bind, run_underlying he W]
      cases d <;> simp_all
    simp [Instr.index, asIntOf, Sem.run_bind, run_underlying hu W, Result.andThen, sizeOf, typeInfo, hq, hs, part, hagg, hv]
    intro hge
    omega
theorem results_row_tmp {fn : Func} {p u : Tmp} {ty : TypeId} (hf : fn.results = #[.cell p ty, .tmp u]) (tmps : Array Value) (g t n : Nat) (f : Nat → Value) (d : TypeDesc)
    (hp : tmps.getD p undef = .pointer (some ⟨g, 0, none⟩)) (h : w.rowIs g t n f) (hu : P.underlying ty = some d) (hd : d.isRow = true) (hi : (P.info? ty).map (·.size) = some n) :
    (results fn tmps).run P w = .ok (.tuple #[.agg (cellsOf n f), tmps.getD u undef]) w := by
  have hl : (loadVar ty ⟨g, 0, none⟩).run P w = .ok (.agg (cellsOf n f)) w :=
    run_loadVar_row w g t ty _ (0, 0) d (row_heap h) hu (by cases d <;> simp_all [TypeDesc.isRow]) (by rw [size_cellsOf]; exact hi)
  rw [results_cell_tmp hf tmps P w, hp]
  simp [asAddr, Result.andThen, hl]
end
end Go.Proofs.YtnkjoambhmlnbaaGreatDoor.Aid
namespace Go.Proofs.YtnkjoambhmlnbaaGreatDoor.Field
open Go Go.RowKit

/-- May a byte stand in a name? -/
def charB (x : Nat) : Bool := decide (97 ≤ x ∧ x ≤ 122) || decide (48 ≤ x ∧ x ≤ 57)
def nameB (s : ByteArray) : Bool := decide (1 ≤ s.size ∧ s.size ≤ 20 ∧ ∀ j, (h : j < s.size) → charB s[j].toNat = true)
end Go.Proofs.YtnkjoambhmlnbaaGreatDoor.Field
namespace Go.Proofs.YtnkjoambhmlnbaaGreatDoor.Aid
open Go Go.RowKit
variable {P : Program} {ops : Array Oper} {md : Region.Mode}

def addEdge (ops : Array Oper) (n : Nat) (e : Edge) : Array Oper := ops.modify n fun o => { o with after := o.after.push e }
theorem size_addEdge (n : Nat) (e : Edge) : (addEdge ops n e).size = ops.size := by simp [addEdge]
theorem addEdge_ne (n : Nat) (e : Edge) (i : Nat) (h : n ≠ i) : (addEdge ops n e)[i]? = ops[i]? := by
  unfold addEdge; rw [Array.getElem?_modify, if_neg h]
theorem addEdge_eq (n : Nat) (e : Edge) : (addEdge ops n e)[n]? = (ops[n]?).map fun o => { o with after := o.after.push e } := by
  unfold addEdge; rw [Array.getElem?_modify, if_pos rfl]
theorem yielded_addEdge (n : Nat) (e : Edge) (tmps : Array Value) : yielded (addEdge ops n e) tmps = yielded ops tmps := by
  funext j
  unfold yielded
  by_cases h : n = j
  · subst h
    rw [addEdge_eq]
    cases ops[n]? <;> rfl
  · rw [addEdge_ne n e j h]
theorem ready_addEdge (n : Nat) (e : Edge) (listed : Array Bool) (he : listed.getD e.on false = true) : Region.ready md (addEdge ops n e) listed = Region.ready md ops listed := by
  unfold Region.ready
  rw [size_addEdge]
  refine List.filter_congr (fun i _ => ?_)
  by_cases h : n = i
  · subst h
    rw [addEdge_eq]
    cases ops[n]? with
    | none => rfl
    | some o => simp only [Option.map_some, Option.getD_some, Array.all_push, he, Bool.or_true, Bool.and_true]
  · rw [addEdge_ne n e i h]
theorem wp_after (o : Oper) (x : Array Edge) (a : Act) (w : World) (K : Act → World → Prop) (Q : Exit → Act → World → Prop) : Oper.wp P { o with after := x } a w K Q = Oper.wp P o a w K Q := by
  cases o; rfl
theorem asks_after (o : Oper) (x : Array Edge) (a : Act) (w : World) : Oper.asks P { o with after := x } a w = Oper.asks P o a w := by
  cases o; rfl
theorem wpOp_addEdge (n : Nat) (e : Edge) (Q : Exit → Act → World → Prop) (i : Nat) (K : Act → World → Prop) (a : Act) (w : World) : wpOp P (addEdge ops n e) Q i K a w = wpOp P ops Q i K a w := by
  unfold wpOp
  rw [yielded_addEdge]
  by_cases h : n = i
  · subst h
    rw [addEdge_eq]
    cases ops[n]? with
    | none => rfl
    | some o => simp only [Option.map_some, wp_after, asks_after]; rfl
  · rw [addEdge_ne n e i h]
theorem wpAny_addEdge (n : Nat) (e : Edge) (Q : Exit → Act → World → Prop) : ∀ (f : Nat) (listed : Array Bool) (a : Act) (w : World), listed.getD e.on false = true →
    wpAny P md (addEdge ops n e) Q f listed a w → wpAny P md ops Q f listed a w
  | 0, listed, a, w, he, h => by
    unfold wpAny at h ⊢
    rw [ready_addEdge n e listed he] at h
    exact h
  | f + 1, listed, a, w, he, h => by
    unfold wpAny at h ⊢
    rw [ready_addEdge n e listed he] at h
    refine ⟨h.1, fun i hi => ?_⟩
    have h2 := h.2 i hi
    rw [wpOp_addEdge] at h2
    exact wpOp_mono (fun a' w' h3 => wpAny_addEdge n e Q f _ a' w' (getD_set_true he) h3) h2
theorem wpStill_addEdge (n : Nat) (e : Edge) (w : World) (Q : Act → Prop) : ∀ l : List Oper, wpStill P (addEdge ops n e) w Q l = wpStill P ops w Q l
  | [] => rfl
  | o :: l => by
    funext a
    simp only [wpStill, yielded_addEdge, wpStill_addEdge n e w Q l]
theorem wpList_addEdge (n : Nat) (e : Edge) (Q : Exit → Act → World → Prop) : ∀ l : List Oper, wpList P (addEdge ops n e) Q l = wpList P ops Q l
  | [] => rfl
  | o :: l => by
    funext a w
    simp only [wpList, yielded_addEdge, wpList_addEdge n e Q l]

def onFirst : Edge := { on := 0, ground := .data }
def Region.firstB (ops : Array Oper) (n : Nat) : Bool :=
  Region.noSelect ops && decide (0 < n) && decide (n < ops.size) && Region.free .any ops (Array.replicate ops.size false) 0 && (Region.ready .any ops (Array.replicate ops.size false)).contains 0 &&
  Region.noSelect (addEdge ops n onFirst) && Region.sinkB .any (addEdge ops n onFirst) n && Region.chainB .any (addEdge ops n onFirst) n &&
  Region.lexHead .any (addEdge ops n onFirst) (ops.size - n) (n - 1) 1 ((Array.replicate ops.size false).setIfInBounds 0 true) &&
  ((ops[0]?).map fun o => o.after.isEmpty).getD false

theorem region_first {id : Nat} {Q : Exit → Act → World → Prop} {a : Act} {w : World} {o0 : Oper} {l : List Oper} {v : Value} (n : Nat) (hm : P.follows .mixedOrders = true) (hB : Region.firstB (o0 :: l).toArray n = true)
    (hQ : ∀ c a w, Q (.panic c) (a.put o0.dst v) w → Q (.panic c) a w) (hy : Yields P (o0 :: l).toArray o0 v a)
    (h : wpStill P (o0 :: l).toArray w.drew (fun a' => wpList P (o0 :: l).toArray Q (l.drop (n - 1)) a' w.drew) (l.take (n - 1)) (a.put o0.dst v)) : (Code.region id (o0 :: l).toArray true).wp P Q a w := by
  simp only [Region.firstB, Bool.and_eq_true, decide_eq_true_eq] at hB
  obtain ⟨⟨⟨⟨⟨⟨⟨⟨⟨hsel, h0n⟩, hn⟩, hfree⟩, hready⟩, hsel'⟩, hs⟩, hc⟩, hlex⟩, hemp⟩ := hB
  have hsz : (o0 :: l).toArray.size = l.length + 1 := by simp
  have hnl : n < l.length + 1 := by rw [hsz] at hn; exact hn
  refine wp_region_any hm ?_
  rw [hsz] at hfree hready hlex ⊢
  refine wpAny_take (i := 0) (oi := o0) rfl hsel hfree hready hQ hy ?_
  refine wpAny_addEdge n onFirst Q _ _ _ _ (by simp [onFirst]) ?_
  have inv : HeadInv .any (addEdge (o0 :: l).toArray n onFirst) n ((Array.replicate (l.length + 1) false).setIfInBounds 0 true) := by
    refine ⟨by simp [size_addEdge], fun j oj hj hl e he hb => ?_, fun t ht ht' => ?_⟩
    · by_cases hj0 : 0 = j
      · subst hj0
        rw [addEdge_ne n onFirst 0 (by omega)] at hj
        have ho : oj = o0 := by simpa using hj.symm
        subst ho
        have : oj.after = #[] := by simpa using hemp
        rw [this] at he
        simp at he
      · rw [getD_set_ne false hj0, getD_replicate_false] at hl
        cases hl
    · rw [size_addEdge, hsz] at ht'
      rw [getD_set_ne true (by omega)]
      exact getD_in (by simpa using ht') (getD_replicate_false _ _)
  obtain ⟨on, lr, hd⟩ : ∃ on lr, l.drop (n - 1) = on :: lr := by
    cases hq : l.drop (n - 1) with
    | nil => have := congrArg List.length hq; simp at this; omega
    | cons x y => exact ⟨x, y, rfl⟩
  have hget : ∀ j, (o0 :: l).toArray[n + j]? = (on :: lr)[j]? := fun j => by
    rw [← hd, List.getElem?_toArray, List.getElem?_drop, show n + j = (n - 1 + j) + 1 by omega, List.getElem?_cons_succ]
  have hlt : (l.take (n - 1)).length = n - 1 := by simp; omega
  have hlr : (on :: lr).length = l.length + 1 - n := by rw [← hd]; simp; omega
  have htail : ∀ j, ({ on with after := on.after.push onFirst } :: lr : List Oper)[j]? = (addEdge (o0 :: l).toArray n onFirst)[n + j]? := fun j => by
    cases j with
    | zero =>
      rw [Nat.add_zero, addEdge_eq]
      have := hget 0
      rw [Nat.add_zero] at this
      rw [this]
      rfl
    | succ j =>
      rw [addEdge_ne n onFirst _ (by omega), hget (j + 1)]
      rfl
  have hW : wpList P (o0 :: l).toArray Q ({ on with after := on.after.push onFirst } :: lr) = wpList P (o0 :: l).toArray Q (on :: lr) := by
    funext a' w'
    simp only [wpList, wp_after, asks_after]
    rfl
  have H := wpAnyL_lex (P := P) (md := .any) (ops := addEdge (o0 :: l).toArray n onFirst) (w := w.drew) (n := n) (g := l.length + 1 - n)
    (Lq := fun a' => wpList P (addEdge (o0 :: l).toArray n onFirst) Q ({ on with after := on.after.push onFirst } :: lr) a' w.drew) hsel' hs hc (by rw [size_addEdge]; exact hn) (l.take (n - 1)) 1 _ (a.put o0.dst v)
    (fun j hj => by
      rw [hlt] at hj
      rw [addEdge_ne n onFirst _ (by omega), List.getElem?_take_of_lt hj, List.getElem?_toArray, Nat.add_comm 1 j, List.getElem?_cons_succ])
    (by rw [hlt]; omega) inv (by rw [hlt]; exact hlex)
    (by rw [wpStill_addEdge, wpList_addEdge, hW, ← hd]; exact h)
  have H2 := wpAny_of_head (Q' := Q) (g := l.length + 1 - n) (fun listed a' hL => by
    have := wpAny_of_seq (P := P) (md := .any) (Q' := Q) ({ on with after := on.after.push onFirst } :: lr) n listed a' w.drew htail (by rw [List.length_cons, ← List.length_cons (a := on), hlr]; exact hL.1) hL.2
    rwa [List.length_cons, ← List.length_cons (a := on), hlr] at this) _ _ _ H
  rw [hlt, show n - 1 + (l.length + 1 - n) = l.length by omega] at H2
  exact H2

/-- A whole array, read in a region that stands still. -/
theorem still_load {rest : List Oper} {op : Oper} {a : Act} {w : World} {Q : Act → Prop} (hgd : op.guard = none) (ty : TypeId) (x : Operand) (ho : op.op = .load ty x)
    (b o : Nat) (hx : a.eval x = .pointer (some ⟨b, o, none⟩)) (cs : List Value) (d : TypeDesc) (hc : w.rangeAt b o cs)
    (hu : P.underlying ty = some d) (hd : d.isRow = true) (hi : (P.info? ty).map (·.size) = some cs.length)
    (h : wpStill P ops w Q rest (a.put op.dst (.agg cs.toArray))) : wpStill P ops w Q (op :: rest) a := by
  have hw : Region.wanted op (yielded ops a.tmps) = true := by simp [Region.wanted, hgd]
  refine wpStill_step (fun K hK => ?_)
  rw [if_pos hw]
  unfold Oper.still execOp
  simp only [ho, hx, Instr.loadAt, Instr.sureAddr, Sem.run_bind, Sem.run_pure, Result.andThen_ok, run_loadVar_mid w b o ty cs d hc hu hd hi, Oper.stillUpon]
  exact ⟨trivial, hK _ h⟩
theorem still_row {rest : List Oper} {op : Oper} {a : Act} {w : World} {Q : Act → Prop} (hgd : op.guard = none) (ty : TypeId) (x : Operand) (ho : op.op = .load ty x)
    (g o t n m : Nat) (f : Nat → Value) (hr : w.rowIs g t n f) (hx : a.eval x = .pointer (some ⟨g, o, none⟩)) (d : TypeDesc)
    (hu : P.underlying ty = some d) (hd : d.isRow = true) (hi : (P.info? ty).map (·.size) = some m) (hm : o + m ≤ n)
    (h : wpStill P ops w Q rest (a.put op.dst (.agg (cellsOf m fun j => f (o + j))))) : wpStill P ops w Q (op :: rest) a :=
  still_load hgd ty x ho g o hx _ d (row_range hr o m hm) hu hd (by simpa using hi) h
end Go.Proofs.YtnkjoambhmlnbaaGreatDoor.Aid

namespace Go.Proofs.YtnkjoambhmlnbaaGreatDoor.Aid
open Go Go.RowKit
variable {P : Program}

theorem run_equalIn_int (d : Nat) {t : TypeId} {k : IntKind} (h : P.underlying t = some (.int k)) (n : Int) (w : World) : (Op.equalIn (d + 1) t (.int k n) (.int k n)).run P w = .ok true w := by
  simp [Op.equalIn, Sem.run_bind, run_underlying h w, Result.andThen]
theorem run_part_int {t : TypeId} {k : IntKind} (h : P.underlying t = some (.int k)) (cs : Array Value) (o : Nat) (v : Value) (hv : cs[o]? = some v) (w : World) : (part t cs o).run P w = .ok v w := by
  have hagg : (isAgg t).run P w = .ok false w := by
    unfold isAgg
    rw [Sem.run_bind, run_underlying h w]
    rfl
  simp [part, Sem.run_bind, hagg, Result.andThen, hv]
theorem run_equalIn_same (d : Nat) {ty len elem : TypeId} {k : IntKind} (hu : P.underlying ty = some (.array len elem)) (he : P.underlying elem = some (.int k)) (hsz : (P.info? elem).map (·.size) = some 1)
    (X : Array Value) (hX : ∀ i, i < len → ∃ n, X[i]? = some (.int k n)) (w : World) : (Op.equalIn (d + 2) ty (.agg X) (.agg X)).run P w = .ok true w := by
  cases hq : P.info? elem with
  | none => simp [hq] at hsz
  | some t =>
    have hs : t.size = 1 := by simpa [hq] using hsz
    have hS : (sizeOf elem).run P w = .ok 1 w := by simp [sizeOf, typeInfo, hq, hs]
    rw [show d + 2 = (d + 1) + 1 from rfl, Op.equalIn]
    simp only [Sem.run_bind, run_underlying hu w, Result.andThen_ok, hS, Nat.mul_one]
    rw [Std.Legacy.Range.forIn_eq_forIn_range']
    simp only [Std.Legacy.Range.size, Nat.sub_zero, Nat.add_sub_cancel, Nat.div_one]
    have key : ∀ (l : List Nat), (∀ i ∈ l, i < len) → (forIn l ((none, ()) : Option Bool × Unit) (fun i (_ : Option Bool × Unit) => (do
        let a ← part elem X i
        let b ← part elem X i
        let r ← Op.equalIn (d + 1) elem a b
        if (!r) = true then pure (ForInStep.done (some false, ())) else pure (ForInStep.yield (none, ())) : Sem (ForInStep (Option Bool × Unit))))).run P w = .ok (none, ()) w := by
      intro l
      induction l with
      | nil => intro _; simp
      | cons i l ih =>
        intro hl
        obtain ⟨n, hn⟩ := hX i (hl i (by simp))
        simp only [List.forIn_cons, Sem.run_bind, run_part_int he X i _ hn w, Result.andThen_ok, run_equalIn_int d he n w, Bool.not_true, Bool.false_eq_true, if_false, Sem.run_pure]
        exact ih (fun j hj => hl j (by simp [hj]))
    have := key (List.range' 0 len 1) (fun i hi => by simp at hi; omega)
    rw [this]
    rfl
/-- 'x == x', 'x != x'. -/
theorem run_eql_same {ty len elem : TypeId} {k : IntKind} (hu : P.underlying ty = some (.array len elem)) (he : P.underlying elem = some (.int k)) (hsz : (P.info? elem).map (·.size) = some 1)
    (X : Array Value) (hX : ∀ i, i < len → ∃ n, X[i]? = some (.int k n)) (w : World) : (binOp .eql ty (.agg X) (.agg X)).run P w = .ok (.bool true) w := by
  simp only [binOp]
  simp [Op.equal, Op.maxDepth, run_equalIn_same 9998 hu he hsz X hX w]
theorem run_neq_same {ty len elem : TypeId} {k : IntKind} (hu : P.underlying ty = some (.array len elem)) (he : P.underlying elem = some (.int k)) (hsz : (P.info? elem).map (·.size) = some 1)
    (X : Array Value) (hX : ∀ i, i < len → ∃ n, X[i]? = some (.int k n)) (w : World) : (binOp .neq ty (.agg X) (.agg X)).run P w = .ok (.bool false) w := by
  simp only [binOp]
  simp [Op.equal, Op.maxDepth, run_equalIn_same 9998 hu he hsz X hX w]
end Go.Proofs.YtnkjoambhmlnbaaGreatDoor.Aid

namespace Go.Proofs.YtnkjoambhmlnbaaGreatDoor.Aid
open Go Go.RowKit
variable {P : Program} {ops : Array Oper} {md : Region.Mode}

/-- From here on each operation comes up alone, in this order. -/
def onlyB (md : Region.Mode) (ops : Array Oper) : List Nat → Array Bool → Bool
  | [], listed => (Region.ready md ops listed).isEmpty
  | i :: l, listed => decide (Region.ready md ops listed = [i]) && onlyB md ops l (listed.setIfInBounds i true)
def opsOf (ops : Array Oper) (l : List Nat) : List Oper := l.filterMap fun i => ops[i]?
theorem wpAny_of_only {Q : Exit → Act → World → Prop} : ∀ (l : List Nat) (listed : Array Bool) (a : Act) (w : World), (∀ i ∈ l, i < ops.size) → onlyB md ops l listed = true → wpList P ops Q (opsOf ops l) a w → wpAny P md ops Q l.length listed a w
  | [], _, _, _, _, hB, h => ⟨by simpa [onlyB] using hB, h⟩
  | i :: l, listed, a, w, hl, hB, h => by
    have hi : i < ops.size := hl i (by simp)
    have h0 : ops[i]? = some ops[i] := Array.getElem?_eq_getElem hi
    simp only [onlyB, Bool.and_eq_true, decide_eq_true_eq] at hB
    have ho : opsOf ops (i :: l) = ops[i] :: opsOf ops l := by simp [opsOf, h0]
    rw [ho] at h
    refine ⟨fun h1 => (by rw [hB.1] at h1; cases h1), fun j hj => ?_⟩
    rw [hB.1] at hj
    have hij : j = i := by simpa using hj
    subst hij
    have hw : wpOp P ops Q j (wpList P ops Q (opsOf ops l)) a w := by unfold wpOp; simp only [h0]; exact h
    exact wpOp_mono (fun a' w' h' => wpAny_of_only l _ a' w' (fun k hk => hl k (by simp [hk])) hB.2 h') hw

def twoB (ops : Array Oper) (i j : Nat) (l : List Nat) : Bool :=
  Region.noSelect ops && decide (ops.size = l.length + 2) && l.all (fun k => decide (k < ops.size)) &&
  Region.free .any ops (Array.replicate ops.size false) i && (Region.ready .any ops (Array.replicate ops.size false)).contains i &&
  Region.free .any ops ((Array.replicate ops.size false).setIfInBounds i true) j && (Region.ready .any ops ((Array.replicate ops.size false).setIfInBounds i true)).contains j &&
  onlyB .any ops l (((Array.replicate ops.size false).setIfInBounds i true).setIfInBounds j true)

theorem region_two {id : Nat} {Q : Exit → Act → World → Prop} {a : Act} {w : World} {ls : List Oper} (i j : Nat) (l : List Nat) {oi oj : Oper} (vi vj : Value) (hm : P.follows .mixedOrders = true) (hB : twoB ls.toArray i j l = true)
    (hi : ls.toArray[i]? = some oi) (hj : ls.toArray[j]? = some oj)
    (hQi : ∀ c a w, Q (.panic c) (a.put oi.dst vi) w → Q (.panic c) a w) (hQj : ∀ c a w, Q (.panic c) (a.put oj.dst vj) w → Q (.panic c) a w)
    (hyi : Yields P ls.toArray oi vi a) (hyj : Yields P ls.toArray oj vj (a.put oi.dst vi))
    (h : wpList P ls.toArray Q (opsOf ls.toArray l) ((a.put oi.dst vi).put oj.dst vj) w.drew) : (Code.region id ls.toArray true).wp P Q a w := by
  simp only [twoB, Bool.and_eq_true, decide_eq_true_eq, List.all_eq_true] at hB
  obtain ⟨⟨⟨⟨⟨⟨⟨hsel, hsz⟩, hall⟩, hf1⟩, hr1⟩, hf2⟩, hr2⟩, honly⟩ := hB
  refine wp_region_any hm ?_
  rw [hsz] at hf1 hr1 hf2 hr2 honly ⊢
  refine wpAny_take (i := i) hi hsel hf1 hr1 hQi hyi ?_
  refine wpAny_take (i := j) hj hsel hf2 hr2 hQj hyj ?_
  exact wpAny_of_only l _ _ _ (fun k hk => by have := hall k hk; simpa using this) honly h

theorem opsOf_range (ls : List Oper) : ∀ (n k : Nat), k + n = ls.length → opsOf ls.toArray (List.range' k n) = ls.drop k
  | 0, k, h => by rw [List.drop_eq_nil_of_le (by omega)]; rfl
  | n + 1, k, h => by
    have hk : k < ls.length := by omega
    have ih := opsOf_range ls n (k + 1) (by omega)
    rw [List.range'_succ, List.drop_eq_getElem_cons hk, ← ih]
    simp [opsOf, List.getElem?_eq_getElem hk]
/-- The first and the third operation are taken first. -/
theorem region_02 {id : Nat} {Q : Exit → Act → World → Prop} {a : Act} {w : World} {o0 o1 o2 : Oper} {r : List Oper} (v0 v2 : Value) (hm : P.follows .mixedOrders = true) (hB : twoB (o0 :: o1 :: o2 :: r).toArray 0 2 (1 :: List.range' 3 r.length) = true)
    (hQ0 : ∀ c a w, Q (.panic c) (a.put o0.dst v0) w → Q (.panic c) a w) (hQ2 : ∀ c a w, Q (.panic c) (a.put o2.dst v2) w → Q (.panic c) a w)
    (hy0 : Yields P (o0 :: o1 :: o2 :: r).toArray o0 v0 a) (hy2 : Yields P (o0 :: o1 :: o2 :: r).toArray o2 v2 (a.put o0.dst v0))
    (h : wpList P (o0 :: o1 :: o2 :: r).toArray Q (o1 :: r) ((a.put o0.dst v0).put o2.dst v2) w.drew) : (Code.region id (o0 :: o1 :: o2 :: r).toArray true).wp P Q a w := by
  refine region_two 0 2 (1 :: List.range' 3 r.length) v0 v2 hm hB rfl rfl hQ0 hQ2 hy0 hy2 ?_
  have e1 := opsOf_range (o0 :: o1 :: o2 :: r) r.length 3 (by simp; omega)
  have e2 : opsOf (o0 :: o1 :: o2 :: r).toArray (1 :: List.range' 3 r.length) = o1 :: opsOf (o0 :: o1 :: o2 :: r).toArray (List.range' 3 r.length) := by simp [opsOf]
  rw [e2, e1]
  exact h
end Go.Proofs.YtnkjoambhmlnbaaGreatDoor.Aid
namespace Go.Proofs.YtnkjoambhmlnbaaGreatDoor.Aid
open Go Go.RowKit
variable {P : Program}

theorem run_equalIn_byte (d : Nat) {t : TypeId} (h : P.underlying t = some (.int .u8)) (x y : BitVec 8) (w : World) : (Op.equalIn (d + 1) t (.int .u8 (x.toNat : Int)) (.int .u8 (y.toNat : Int))).run P w = .ok (decide (x = y)) w := by
  have hd : decide ((x.toNat : Int) = (y.toNat : Int)) = decide (x = y) := by
    by_cases hxy : x = y
    · subst hxy; simp
    · have : ¬ (x.toNat : Int) = (y.toNat : Int) := fun e => hxy (BitVec.eq_of_toNat_eq (by omega))
      rw [decide_eq_false this, decide_eq_false hxy]
  simp [Op.equalIn, Sem.run_bind, run_underlying h w, Result.andThen]
  exact hd
/-- The first n bytes are the same. -/
def sameUpto (e f : Nat → BitVec 8) (n : Nat) : Bool := decide (∀ i, i < n → e i = f i)
theorem run_equalIn_bytes (d : Nat) {ty len elem : TypeId} (hu : P.underlying ty = some (.array len elem)) (he : P.underlying elem = some (.int .u8)) (hsz : (P.info? elem).map (·.size) = some 1)
    (X Y : Array Value) (e f : Nat → BitVec 8) (hX : ∀ i, i < len → X[i]? = some (.int .u8 ((e i).toNat : Int))) (hY : ∀ i, i < len → Y[i]? = some (.int .u8 ((f i).toNat : Int))) (w : World) : (Op.equalIn (d + 2) ty (.agg X) (.agg Y)).run P w = .ok (sameUpto e f len) w := by
  cases hq : P.info? elem with
  | none => simp [hq] at hsz
  | some t =>
    have hs : t.size = 1 := by simpa [hq] using hsz
    have hS : (sizeOf elem).run P w = .ok 1 w := by simp [sizeOf, typeInfo, hq, hs]
    rw [show d + 2 = (d + 1) + 1 from rfl, Op.equalIn]
    simp only [Sem.run_bind, run_underlying hu w, Result.andThen_ok, hS, Nat.mul_one]
    rw [Std.Legacy.Range.forIn_eq_forIn_range']
    simp only [Std.Legacy.Range.size, Nat.sub_zero, Nat.add_sub_cancel, Nat.div_one]
    have key : ∀ (l : List Nat), (∀ i ∈ l, i < len) → (forIn l ((none, ()) : Option Bool × Unit) (fun i (_ : Option Bool × Unit) => (do
        let a ← part elem X i
        let b ← part elem Y i
        let r ← Op.equalIn (d + 1) elem a b
        if (!r) = true then pure (ForInStep.done (some false, ())) else pure (ForInStep.yield (none, ())) : Sem (ForInStep (Option Bool × Unit))))).run P w = .ok (if ∀ i ∈ l, e i = f i then (none, ()) else (some false, ())) w := by
      intro l
      induction l with
      | nil => intro _; simp
      | cons i l ih =>
        intro hl
        have hi := hl i (by simp)
        simp only [List.forIn_cons, Sem.run_bind, run_part_int he X i _ (hX i hi) w, run_part_int he Y i _ (hY i hi) w, Result.andThen_ok, run_equalIn_byte d he (e i) (f i) w]
        by_cases h : e i = f i
        · simp only [h, decide_true, Bool.not_true, Bool.false_eq_true, if_false, Sem.run_pure, Result.andThen_ok, List.mem_cons, forall_eq_or_imp, true_and]
          exact ih (fun j hj => hl j (by simp [hj]))
        · simp [h]
    have := key (List.range' 0 len 1) (fun i hi => by simp at hi; omega)
    rw [this]
    unfold sameUpto
    by_cases h : ∀ i, i < len → e i = f i
    · rw [if_pos (fun i hi => h i (by simp at hi; omega)), decide_eq_true h]; rfl
    · rw [if_neg (fun h' => h (fun i hi => h' i (by simp; omega))), decide_eq_false h]; rfl
/-- 'x == y' between any two arrays of bytes. -/
theorem run_eql_bytes {ty len elem : TypeId} (hu : P.underlying ty = some (.array len elem)) (he : P.underlying elem = some (.int .u8)) (hsz : (P.info? elem).map (·.size) = some 1)
    (X Y : Array Value) (e f : Nat → BitVec 8) (hX : ∀ i, i < len → X[i]? = some (.int .u8 ((e i).toNat : Int))) (hY : ∀ i, i < len → Y[i]? = some (.int .u8 ((f i).toNat : Int))) (w : World) : (binOp .eql ty (.agg X) (.agg Y)).run P w = .ok (.bool (sameUpto e f len)) w := by
  simp only [binOp]
  simp [Op.equal, Op.maxDepth, run_equalIn_bytes 9998 hu he hsz X Y e f hX hY w]
/-- 'x == x', x an array of arrays of bytes. -/
theorem run_equalIn_rows (d : Nat) {ty row elem : TypeId} {len n : Nat} (hu : P.underlying ty = some (.array len row)) (hr : P.underlying row = some (.array n elem)) (he : P.underlying elem = some (.int .u8)) (hsz : (P.info? elem).map (·.size) = some 1) (hrs : (P.info? row).map (·.size) = some n)
    (X : Array Value) (e : Nat → BitVec 8) (hs : X.size = len * n) (hX : ∀ i, i < len * n → X[i]? = some (.int .u8 ((e i).toNat : Int))) (w : World) : (Op.equalIn (d + 3) ty (.agg X) (.agg X)).run P w = .ok true w := by
  cases hq : P.info? row with
  | none => simp [hq] at hrs
  | some t =>
    have hts : t.size = n := by simpa [hq] using hrs
    have hS : (sizeOf row).run P w = .ok n w := by simp [sizeOf, typeInfo, hq, hts]
    have hagg : (isAgg row).run P w = .ok true w := by
      unfold isAgg
      rw [Sem.run_bind, run_underlying hr w]
      rfl
    have hpart : ∀ i, (part row X (i * n)).run P w = .ok (.agg (X.extract (i * n) (i * n + n))) w := fun i => by
      simp [part, Sem.run_bind, hagg, hS, Result.andThen]
    have heq : ∀ i, i < len → (Op.equalIn (d + 2) row (.agg (X.extract (i * n) (i * n + n))) (.agg (X.extract (i * n) (i * n + n)))).run P w = .ok true w := fun i hi => by
      refine run_equalIn_same d hr he hsz _ (fun j hj => ⟨((e (i * n + j)).toNat : Int), ?_⟩) w
      · have hle : i * n + n ≤ len * n := by rw [← Nat.succ_mul]; exact Nat.mul_le_mul_right n hi
        have hmin : min (i * n + n) X.size = i * n + n := Nat.min_eq_left (by rw [hs]; exact hle)
        rw [Array.getElem?_extract, if_pos (by rw [hmin, Nat.add_sub_cancel_left]; exact hj)]
        exact hX _ (Nat.lt_of_lt_of_le (Nat.add_lt_add_left hj _) hle)
    rw [show d + 3 = (d + 2) + 1 from rfl, Op.equalIn]
    simp only [Sem.run_bind, run_underlying hu w, Result.andThen_ok, hS]
    rw [Std.Legacy.Range.forIn_eq_forIn_range']
    simp only [Std.Legacy.Range.size, Nat.sub_zero, Nat.add_sub_cancel, Nat.div_one]
    have key : ∀ (l : List Nat), (∀ i ∈ l, i < len) → (forIn l ((none, ()) : Option Bool × Unit) (fun i (_ : Option Bool × Unit) => (do
        let a ← part row X (i * n)
        let b ← part row X (i * n)
        let r ← Op.equalIn (d + 2) row a b
        if (!r) = true then pure (ForInStep.done (some false, ())) else pure (ForInStep.yield (none, ())) : Sem (ForInStep (Option Bool × Unit))))).run P w = .ok (none, ()) w := by
      intro l
      induction l with
      | nil => intro _; simp
      | cons i l ih =>
        intro hl
        simp only [List.forIn_cons, Sem.run_bind, hpart i, Result.andThen_ok, heq i (hl i (by simp)), Bool.not_true, Bool.false_eq_true, if_false, Sem.run_pure]
        exact ih (fun j hj => hl j (by simp [hj]))
    have := key (List.range' 0 len 1) (fun i hi => by simp at hi; omega)
    rw [this]
    rfl
theorem run_eql_rows {ty row elem : TypeId} {len n : Nat} (hu : P.underlying ty = some (.array len row)) (hr : P.underlying row = some (.array n elem)) (he : P.underlying elem = some (.int .u8)) (hsz : (P.info? elem).map (·.size) = some 1) (hrs : (P.info? row).map (·.size) = some n)
    (X : Array Value) (e : Nat → BitVec 8) (hs : X.size = len * n) (hX : ∀ i, i < len * n → X[i]? = some (.int .u8 ((e i).toNat : Int))) (w : World) : (binOp .eql ty (.agg X) (.agg X)).run P w = .ok (.bool true) w := by
  simp only [binOp]
  simp [Op.equal, Op.maxDepth, run_equalIn_rows 9997 hu hr he hsz hrs X e hs hX w]
end Go.Proofs.YtnkjoambhmlnbaaGreatDoor.Aid
namespace Go.Proofs.YtnkjoambhmlnbaaGreatDoor.Aid
open Go Go.RowKit

/-- 'b[lo:]'. -/
theorem from_run {P : Program} (t e : TypeId) (hu : P.underlying t = some (.slice e)) (hsz : (P.info? e).map (·.size) = some 1) (sb so M c lo : Nat) (h2 : lo ≤ M) (h3 : M ≤ c) :
    ∃ o : Nat, (lo < M → o = so + lo) ∧ ∀ (l : Int) (kd : IntKind) (W : World), l = (lo : Int) → (Instr.sliceAt t (.slice (some ⟨sb, so, none⟩) M c) (some (.int kd l)) none none).run P W = .ok (.slice (some ⟨sb, o, none⟩) (M - lo) (c - lo)) W := by
  refine ⟨if c = lo then so else so + lo, fun h => by rw [if_neg (by omega)], fun l kd W hl => ?_⟩
  subst hl
  cases hq : P.info? e with
  | none => simp [hq] at hsz
  | some i =>
    have hs : i.size = 1 := by simpa [hq] using hsz
    by_cases hck : c = lo
    · subst hck
      obtain rfl : M = c := by omega
      simp [Instr.sliceAt, Instr.slice, Instr.sliceBounds, Instr.sliceBound, asIntOf, Sem.run_bind, run_underlying hu W, Result.andThen, sizeOf, typeInfo, hq]
    · simp [Instr.sliceAt, Instr.slice, Instr.sliceBounds, Instr.sliceBound, asIntOf, Sem.run_bind, run_underlying hu W, Result.andThen, sizeOf, typeInfo, hq, hs, Addr.add_mid, hck, h2]
/-- 'b[lo:]', and where it begins. -/
theorem from_at {P : Program} (t e : TypeId) (hu : P.underlying t = some (.slice e)) (hsz : (P.info? e).map (·.size) = some 1) (sb so M c lo : Nat) (h2 : lo ≤ M) :
    ∀ (l : Int) (kd : IntKind) (W : World), l = (lo : Int) → (Instr.sliceAt t (.slice (some ⟨sb, so, none⟩) M c) (some (.int kd l)) none none).run P W = .ok (.slice (some ⟨sb, if c = lo then so else so + lo, none⟩) (M - lo) (c - lo)) W := by
  intro l kd W hl
  subst hl
  cases hq : P.info? e with
  | none => simp [hq] at hsz
  | some i =>
    have hs : i.size = 1 := by simpa [hq] using hsz
    by_cases hck : c = lo
    · simp [Instr.sliceAt, Instr.slice, Instr.sliceBounds, Instr.sliceBound, asIntOf, Sem.run_bind, run_underlying hu W, Result.andThen, sizeOf, typeInfo, hq, hck, h2]
    · simp [Instr.sliceAt, Instr.slice, Instr.sliceBounds, Instr.sliceBound, asIntOf, Sem.run_bind, run_underlying hu W, Result.andThen, sizeOf, typeInfo, hq, hs, Addr.add_mid, hck, h2]
/-- 'b[lo:hi]', hi as far as the capacity goes. -/
theorem midc_at {P : Program} (t e : TypeId) (hu : P.underlying t = some (.slice e)) (hsz : (P.info? e).map (·.size) = some 1) (sb so M c lo hi : Nat) (h1 : lo ≤ hi) (h2 : hi ≤ c) (h3 : lo < c) :
    ∀ (l h : Int) (kd kd' : IntKind) (W : World), l = (lo : Int) → h = (hi : Int) → (Instr.sliceAt t (.slice (some ⟨sb, so, none⟩) M c) (some (.int kd l)) (some (.int kd' h)) none).run P W = .ok (.slice (some ⟨sb, so + lo, none⟩) (hi - lo) (c - lo)) W := by
  intro l h kd kd' W hl hh
  subst hl hh
  cases hq : P.info? e with
  | none => simp [hq] at hsz
  | some i =>
    have hs : i.size = 1 := by simpa [hq] using hsz
    simp [Instr.sliceAt, Instr.slice, Instr.sliceBounds, Instr.sliceBound, asIntOf, Sem.run_bind, run_underlying hu W, Result.andThen, sizeOf, typeInfo, hq, hs, Addr.add_mid, show ¬ c = lo by omega, h1, h2]
/-- 'b[lo:hi:mx]' is there. -/
theorem full_run {P : Program} (t e : TypeId) (hu : P.underlying t = some (.slice e)) (hsz : (P.info? e).map (·.size) = some 1) (A : Option Addr) (M c lo hi mx : Nat) (h1 : lo ≤ hi) (h2 : hi ≤ mx) (h3 : mx ≤ c) :
    ∃ v, ∀ (l h x : Int) (k1 k2 k3 : IntKind) (W : World), l = (lo : Int) → h = (hi : Int) → x = (mx : Int) → (Instr.sliceAt t (.slice A M c) (some (.int k1 l)) (some (.int k2 h)) (some (.int k3 x))).run P W = .ok v W := by
  cases hq : P.info? e with
  | none => simp [hq] at hsz
  | some i =>
    refine ⟨.slice (if mx = lo then A else A.map (·.add (lo * i.size))) (hi - lo) (mx - lo), fun l h x k1 k2 k3 W hl hh hx => ?_⟩
    subst hl hh hx
    simp [Instr.sliceAt, Instr.slice, Instr.sliceBounds, Instr.sliceBound, asIntOf, Sem.run_bind, run_underlying hu W, Result.andThen, sizeOf, typeInfo, hq, h1, h2, h3]
/-- 'b[:m]'. -/
theorem upto_run {P : Program} (t e : TypeId) (hu : P.underlying t = some (.slice e)) (hsz : (P.info? e).map (·.size) = some 1) (sb so M c m : Nat) (h2 : m ≤ M) (h3 : M ≤ c) :
    ∀ (l : Int) (kd : IntKind) (W : World), l = (m : Int) → (Instr.sliceAt t (.slice (some ⟨sb, so, none⟩) M c) none (some (.int kd l)) none).run P W = .ok (.slice (some ⟨sb, so, none⟩) m c) W := by
  intro l kd W hl
  subst hl
  cases hq : P.info? e with
  | none => simp [hq] at hsz
  | some i =>
    have hs : i.size = 1 := by simpa [hq] using hsz
    by_cases hc0 : c = 0
    · subst hc0
      obtain rfl : m = 0 := by omega
      simp [Instr.sliceAt, Instr.slice, Instr.sliceBounds, Instr.sliceBound, asIntOf, Sem.run_bind, run_underlying hu W, Result.andThen, sizeOf, typeInfo, hq]
    · simp [Instr.sliceAt, Instr.slice, Instr.sliceBounds, Instr.sliceBound, asIntOf, Sem.run_bind, run_underlying hu W, Result.andThen, sizeOf, typeInfo, hq, Addr.add_mid, hc0, show m ≤ c by omega]
end Go.Proofs.YtnkjoambhmlnbaaGreatDoor.Aid
namespace Go.Proofs.YtnkjoambhmlnbaaGreatDoor.Book
open Go Go.RowKit Go.Proofs.YtnkjoambhmlnbaaGreatDoor.Field

abbrev Wd := List (BitVec 8)
def zw : Wd := List.replicate 16 0
def nos : ByteArray := ⟨#[]⟩
structure OpB where
  kind : Int
  name : ByteArray
  key : Wd
  gen : Int
structure Bk where
  L : List (ByteArray × Wd)
  rev : List Wd
  gen : Int
  own : Wd
def bk0 : Bk := ⟨[], [], 0, zw⟩
def rightB (x : OpB) : Bool :=
  decide (1 ≤ x.kind ∧ x.kind ≤ 5) && ((if x.kind ≤ 3 then nameB x.name else decide (x.name = nos)) && (decide (x.kind = 2 → x.key = zw) && (if x.kind = 5 then decide (1 ≤ x.gen ∧ x.gen ≤ 2147483647) else decide (x.gen = 0))))
def namesB (L : List (ByteArray × Wd)) : List ByteArray := L.map Prod.fst
def hasG {α : Type} [DecidableEq α] (l : List α) (n : α) : Bool := decide (n ∈ l)
theorem hasG_no {α : Type} [DecidableEq α] {l : List α} {n : α} (h : hasG l n = false) : n ∉ l := of_decide_eq_false h
theorem hasG_none {α : Type} [DecidableEq α] {l : List α} {n : α} (h : n ∉ l) : hasG l n = false := decide_eq_false h
def hasN (L : List (ByteArray × Wd)) (n : ByteArray) : Bool := hasG (namesB L) n
def rmN (n : ByteArray) : List (ByteArray × Wd) → List (ByteArray × Wd)
  | [] => []
  | p :: l => if p.1 = n then l else p :: rmN n l
def reN (n : ByteArray) (k : Wd) : List (ByteArray × Wd) → List (ByteArray × Wd)
  | [] => []
  | p :: l => if p.1 = n then (p.1, k) :: l else p :: reN n k l
def keyB (n : ByteArray) : List (ByteArray × Wd) → Wd
  | [] => zw
  | p :: l => if p.1 = n then p.2 else keyB n l
def applyC (b : Bk) (x : OpB) : Int :=
  if rightB x = false then 3
  else if x.kind = 1 then (if hasN b.L x.name then 5 else if 50 ≤ b.L.length then 7 else 0)
  else if x.kind = 2 ∨ x.kind = 3 then (if hasN b.L x.name then 0 else 4)
  else if x.kind = 4 then (if x.key ∈ b.rev then 5 else if 200 ≤ b.rev.length then 7 else 0)
  else if x.gen ≤ b.gen then 5 else 0
def doneB (b : Bk) (x : OpB) : Bk :=
  if x.kind = 1 then { b with L := b.L ++ [(x.name, x.key)] }
  else if x.kind = 2 then { b with L := rmN x.name b.L }
  else if x.kind = 3 then { b with L := reN x.name x.key b.L }
  else if x.kind = 4 then { b with rev := b.rev ++ [x.key] }
  else { b with gen := x.gen, own := x.key }
def applyB (b : Bk) (x : OpB) : Bk := if applyC b x = 0 then doneB b x else b
def opsB (b : Bk) : List OpB :=
  b.L.map (fun p => ⟨1, p.1, p.2, 0⟩) ++ (b.rev.map (fun k => ⟨4, nos, k, 0⟩) ++ if 0 < b.gen then [⟨5, nos, b.own, b.gen⟩] else [])
/-- All operations, none with an error. -/
def runB : Bk → List OpB → Option Bk
  | b, [] => some b
  | b, x :: l => if applyC b x = 0 then runB (applyB b x) l else none
structure Reach (b : Bk) : Prop where
  names : (namesB b.L).Nodup
  right : ∀ p ∈ b.L, nameB p.1 = true ∧ p.2.length = 16
  most : b.L.length ≤ 50
  rev : b.rev.Nodup
  words : ∀ k ∈ b.rev, k.length = 16
  revs : b.rev.length ≤ 200
  gen : 0 ≤ b.gen ∧ b.gen ≤ 2147483647
  own : b.gen = 0 → b.own = zw
  ownLen : b.own.length = 16
theorem reach0 : Reach bk0 := ⟨List.nodup_nil, fun _ h => (by cases h), by decide, List.nodup_nil, fun _ h => (by cases h), by decide, ⟨by decide, by decide⟩, fun _ => rfl, rfl⟩
theorem right_kind {x : OpB} (h : rightB x = true) : 1 ≤ x.kind ∧ x.kind ≤ 5 := by
  unfold rightB at h
  simp only [Bool.and_eq_true, decide_eq_true_eq] at h
  exact h.1
theorem right_name {x : OpB} (h : rightB x = true) (hk : x.kind ≤ 3) : nameB x.name = true := by
  unfold rightB at h
  rw [if_pos hk] at h
  simp only [Bool.and_eq_true] at h
  exact h.2.1
theorem right_gen {x : OpB} (h : rightB x = true) (hk : x.kind = 5) : 1 ≤ x.gen ∧ x.gen ≤ 2147483647 := by
  unfold rightB at h
  rw [if_pos hk] at h
  simp only [Bool.and_eq_true, decide_eq_true_eq] at h
  exact h.2.2.2
theorem apply_right {b : Bk} {x : OpB} (h : applyC b x = 0) : rightB x = true := by
  unfold applyC at h
  cases hr : rightB x with
  | true => rfl
  | false => rw [hr, if_pos rfl] at h; cases h
theorem rm_sub (n : ByteArray) : ∀ (l : List (ByteArray × Wd)), (rmN n l).Sublist l
  | [] => List.Sublist.refl _
  | p :: l => by
    unfold rmN
    split
    · exact List.sublist_cons_self _ _
    · exact (rm_sub n l).cons_cons _
theorem re_names (n : ByteArray) (k : Wd) : ∀ (l : List (ByteArray × Wd)), namesB (reN n k l) = namesB l
  | [] => rfl
  | p :: l => by
    unfold reN
    split
    · rfl
    · show p.1 :: namesB (reN n k l) = p.1 :: namesB l
      rw [re_names n k l]
theorem re_len (n : ByteArray) (k : Wd) (l : List (ByteArray × Wd)) : (reN n k l).length = l.length := by
  have := congrArg List.length (re_names n k l)
  simpa [namesB] using this
theorem re_mem (n : ByteArray) (k : Wd) : ∀ (l : List (ByteArray × Wd)) (p : ByteArray × Wd), p ∈ reN n k l → (∃ q ∈ l, q.1 = p.1) ∧ (p.2 = k ∨ p ∈ l)
  | [], p, h => by cases h
  | q :: l, p, h => by
    unfold reN at h
    split at h
    · rcases List.mem_cons.1 h with rfl | h1
      · exact ⟨⟨q, List.mem_cons_self .., rfl⟩, .inl rfl⟩
      · exact ⟨⟨p, List.mem_cons_of_mem _ h1, rfl⟩, .inr (List.mem_cons_of_mem _ h1)⟩
    · rcases List.mem_cons.1 h with rfl | h1
      · exact ⟨⟨p, List.mem_cons_self .., rfl⟩, .inr (List.mem_cons_self ..)⟩
      · obtain ⟨⟨r, hr, e⟩, h2⟩ := re_mem n k l p h1
        exact ⟨⟨r, List.mem_cons_of_mem _ hr, e⟩, h2.imp_right (List.mem_cons_of_mem _)⟩
theorem reach_apply {b : Bk} (h : Reach b) (x : OpB) (hx : x.key.length = 16) : Reach (applyB b x) := by
  unfold applyB
  by_cases hc : applyC b x = 0
  · rw [if_pos hc]
    have hr := apply_right hc
    have hk := right_kind hr
    unfold applyC at hc
    rw [hr] at hc
    simp only [Bool.true_eq_false, if_false] at hc
    unfold doneB
    by_cases h1 : x.kind = 1
    · rw [if_pos h1] at hc ⊢
      cases hh : hasN b.L x.name with
      | true => rw [hh] at hc; simp at hc
      | false =>
        rw [hh] at hc
        simp only [Bool.false_eq_true, if_false] at hc
        have hn : x.name ∉ namesB b.L := hasG_no hh
        have hl : ¬ 50 ≤ b.L.length := fun h50 => by rw [if_pos h50] at hc; cases hc
        refine ⟨?_, fun p hp => ?_, by simp; omega, h.rev, h.words, h.revs, h.gen, h.own, h.ownLen⟩
        · show ((b.L ++ [(x.name, x.key)]).map Prod.fst).Nodup
          rw [List.map_append]
          refine List.nodup_append.2 ⟨h.names, by simp, fun a ha c hc' => ?_⟩
          simp at hc'
          subst hc'
          exact fun e => hn (e ▸ ha)
        · rcases List.mem_append.1 hp with h2 | h2
          · exact h.right p h2
          · rw [List.mem_singleton.1 h2]
            exact ⟨right_name hr (by omega), hx⟩
    · rw [if_neg h1] at hc ⊢
      by_cases h2 : x.kind = 2
      · rw [if_pos h2]
        have hs := rm_sub x.name b.L
        exact ⟨List.Nodup.sublist (hs.map _) h.names, fun p hp => h.right p (hs.subset hp), Nat.le_trans hs.length_le h.most, h.rev, h.words, h.revs, h.gen, h.own, h.ownLen⟩
      · rw [if_neg h2]
        by_cases h3 : x.kind = 3
        · rw [if_pos h3]
          refine ⟨by show (namesB (reN x.name x.key b.L)).Nodup; rw [re_names]; exact h.names, fun p hp => ?_, by show (reN x.name x.key b.L).length ≤ 50; rw [re_len]; exact h.most, h.rev, h.words, h.revs, h.gen, h.own, h.ownLen⟩
          obtain ⟨⟨q, hq, e⟩, h4⟩ := re_mem x.name x.key b.L p hp
          refine ⟨by rw [← e]; exact (h.right q hq).1, ?_⟩
          rcases h4 with h4 | h4
          · rw [h4]; exact hx
          · exact (h.right p h4).2
        · rw [if_neg h3]
          rw [if_neg (by omega)] at hc
          by_cases h4 : x.kind = 4
          · rw [if_pos h4] at hc ⊢
            have hn : x.key ∉ b.rev := fun hm => by rw [if_pos hm] at hc; cases hc
            rw [if_neg hn] at hc
            have hl : ¬ 200 ≤ b.rev.length := fun h50 => by rw [if_pos h50] at hc; cases hc
            refine ⟨h.names, h.right, h.most, List.nodup_append.2 ⟨h.rev, by simp, fun a ha c hc' => ?_⟩, fun k hk' => ?_, by simp; omega, h.gen, h.own, h.ownLen⟩
            · rw [List.mem_singleton.1 hc']
              exact fun e => hn (e ▸ ha)
            · rcases List.mem_append.1 hk' with h5 | h5
              · exact h.words k h5
              · rw [List.mem_singleton.1 h5]; exact hx
          · rw [if_neg h4]
            have hg := right_gen hr (by omega)
            exact ⟨h.names, h.right, h.most, h.rev, h.words, h.revs, by show 0 ≤ x.gen ∧ x.gen ≤ 2147483647; omega, fun e => by have : x.gen = 0 := e; omega, hx⟩
  · rw [if_neg hc]; exact h
/-- Generations never fall; what is revoked stays so. -/
theorem apply_gen (b : Bk) (x : OpB) : b.gen ≤ (applyB b x).gen ∧ ((applyB b x).gen = b.gen → (applyB b x).own = b.own) := by
  unfold applyB
  by_cases hc : applyC b x = 0
  · rw [if_pos hc]
    have hr := apply_right hc
    have hk := right_kind hr
    unfold applyC at hc
    rw [hr] at hc
    simp only [Bool.true_eq_false, if_false] at hc
    unfold doneB
    by_cases h1 : x.kind = 1
    · rw [if_pos h1]; exact ⟨Int.le_refl _, fun _ => rfl⟩
    · rw [if_neg h1] at hc ⊢
      by_cases h2 : x.kind = 2
      · rw [if_pos h2]; exact ⟨Int.le_refl _, fun _ => rfl⟩
      · rw [if_neg h2]
        by_cases h3 : x.kind = 3
        · rw [if_pos h3]; exact ⟨Int.le_refl _, fun _ => rfl⟩
        · rw [if_neg h3]
          rw [if_neg (by omega)] at hc
          by_cases h4 : x.kind = 4
          · rw [if_pos h4]; exact ⟨Int.le_refl _, fun _ => rfl⟩
          · rw [if_neg h4] at hc ⊢
            have hl : ¬ x.gen ≤ b.gen := fun h5 => by rw [if_pos h5] at hc; cases hc
            exact ⟨by show b.gen ≤ x.gen; omega, fun e => by have e' : x.gen = b.gen := e; omega⟩
  · rw [if_neg hc]; exact ⟨Int.le_refl _, fun _ => rfl⟩
theorem apply_dead (b : Bk) (x : OpB) (k : Wd) (hk : k ∈ b.rev) : k ∈ (applyB b x).rev := by
  unfold applyB doneB
  repeat' split
  all_goals first
    | exact hk
    | exact List.mem_append_left _ hk
theorem apply_err {b : Bk} {x : OpB} (h : applyC b x ≠ 0) : applyB b x = b := if_neg h
/-- Ops, applied to nothing, make the book. -/
theorem run_append (b : Bk) (l l' : List OpB) : runB b (l ++ l') = (runB b l).bind fun c => runB c l' := by
  induction l generalizing b with
  | nil => rfl
  | cons x l ih =>
    rw [List.cons_append, runB, runB]
    split
    · exact ih _
    · rfl
theorem run_adds : ∀ (l : List (ByteArray × Wd)) (c : Bk), (namesB (c.L ++ l)).Nodup → (∀ p ∈ l, nameB p.1 = true) → (c.L ++ l).length ≤ 50 → runB c (l.map fun p => ⟨1, p.1, p.2, 0⟩) = some { c with L := c.L ++ l }
  | [], c, _, _, _ => by rw [List.map_nil, runB, List.append_nil]
  | p :: l, c, hn, hr, hl => by
    have hrt : rightB ⟨1, p.1, p.2, 0⟩ = true := by
      unfold rightB
      simp [hr p (List.mem_cons_self ..)]
    have hnot : hasN c.L p.1 = false := by
      refine hasG_none fun hm => ?_
      unfold namesB at hn
      rw [List.map_append] at hn
      exact (List.nodup_append.1 hn).2.2 p.1 hm p.1 (List.mem_cons_self ..) rfl
    have hc : applyC c ⟨1, p.1, p.2, 0⟩ = 0 := by
      unfold applyC
      rw [hrt, if_neg (by simp), if_pos rfl, hnot, if_neg (by simp), if_neg (by simp at hl; omega)]
    rw [List.map_cons, runB, if_pos hc]
    unfold applyB
    rw [if_pos hc]
    unfold doneB
    rw [if_pos rfl, run_adds l _ (by simpa using hn) (fun q hq => hr q (List.mem_cons_of_mem _ hq)) (by simpa using hl)]
    simp
theorem run_revs : ∀ (l : List Wd) (c : Bk), (c.rev ++ l).Nodup → (c.rev ++ l).length ≤ 200 → runB c (l.map fun k => ⟨4, nos, k, 0⟩) = some { c with rev := c.rev ++ l }
  | [], c, _, _ => by rw [List.map_nil, runB, List.append_nil]
  | k :: l, c, hn, hl => by
    have hrt : rightB ⟨4, nos, k, 0⟩ = true := by
      unfold rightB
      simp
    have hnot : k ∉ c.rev := fun hm => (List.nodup_append.1 hn).2.2 k hm k (List.mem_cons_self ..) rfl
    have hc : applyC c ⟨4, nos, k, 0⟩ = 0 := by
      unfold applyC
      rw [hrt, if_neg (by simp), if_neg (by show ¬ (4 : Int) = 1; omega), if_neg (by show ¬ ((4 : Int) = 2 ∨ (4 : Int) = 3); omega), if_pos rfl, if_neg hnot, if_neg (by simp at hl; omega)]
    rw [List.map_cons, runB, if_pos hc]
    unfold applyB
    rw [if_pos hc]
    unfold doneB
    rw [if_neg (by show ¬ (4 : Int) = 1; omega), if_neg (by show ¬ (4 : Int) = 2; omega), if_neg (by show ¬ (4 : Int) = 3; omega), if_pos rfl, run_revs l _ (by simpa using hn) (by simpa using hl)]
    simp
theorem ops_restore {b : Bk} (h : Reach b) : runB bk0 (opsB b) = some b := by
  unfold opsB
  rw [run_append, run_adds b.L bk0 (by simpa [bk0] using h.names) (fun p hp => (h.right p hp).1) (by simpa [bk0] using h.most), Option.bind_some, run_append, run_revs b.rev _ (by simpa [bk0] using h.rev) (by simpa [bk0] using h.revs), Option.bind_some]
  by_cases hg : 0 < b.gen
  · rw [if_pos hg]
    have hrt : rightB ⟨5, nos, b.own, b.gen⟩ = true := by
      unfold rightB
      have := h.gen
      simp
      omega
    have hc : applyC ⟨b.L, b.rev, 0, zw⟩ ⟨5, nos, b.own, b.gen⟩ = 0 := by
      unfold applyC
      rw [hrt, if_neg (by simp), if_neg (by show ¬ (5 : Int) = 1; omega), if_neg (by show ¬ ((5 : Int) = 2 ∨ (5 : Int) = 3); omega), if_neg (by show ¬ (5 : Int) = 4; omega), if_neg (by show ¬ b.gen ≤ 0; omega)]
    show runB ⟨b.L, b.rev, 0, zw⟩ _ = _
    rw [runB, if_pos hc, runB]
    unfold applyB
    rw [if_pos hc]
    unfold doneB
    rw [if_neg (by show ¬ (5 : Int) = 1; omega), if_neg (by show ¬ (5 : Int) = 2; omega), if_neg (by show ¬ (5 : Int) = 3; omega), if_neg (by show ¬ (5 : Int) = 4; omega)]
  · rw [if_neg hg]
    have h0 : b.gen = 0 := by have := h.gen; omega
    have ho := h.own h0
    show some (⟨b.L, b.rev, 0, zw⟩ : Bk) = some b
    rw [← ho, ← h0]
end Go.Proofs.YtnkjoambhmlnbaaGreatDoor.Book
namespace Go.Proofs.YtnkjoambhmlnbaaGreatDoor.Aid
open Go Go.RowKit

/-- A slice of n elements of s cells each. -/
def RowsAt (W : World) (s n : Nat) (V : Nat → List Value) (v : Value) : Prop :=
  ∃ (A : Option Addr) (c : Nat), v = .slice A n c ∧ (1 ≤ n → ∃ b o, A = some ⟨b, o, none⟩ ∧ b < W.heap.size ∧ ∀ i, i < n → ∀ j u, (V i)[j]? = some u → W.cell? ⟨b, o + i * s + j, none⟩ = some u)
end Go.Proofs.YtnkjoambhmlnbaaGreatDoor.Aid
namespace Go.Proofs.YtnkjoambhmlnbaaGreatDoor.Aes
open Go

def xtime (x : BitVec 8) : BitVec 8 := if x.getLsbD 7 then x <<< 1 ^^^ 27 else x <<< 1
def xpow (x : BitVec 8) : Nat → BitVec 8
  | 0 => x
  | n + 1 => xtime (xpow x n)
/-- The product by the first n bits of b. -/
def timesTo (a b : BitVec 8) : Nat → BitVec 8
  | 0 => 0
  | n + 1 => timesTo a b n ^^^ (if b.getLsbD n then xpow a n else 0)
def times (a b : BitVec 8) : BitVec 8 := timesTo a b 8

theorem xtime_add : ∀ x y : BitVec 8, xtime (x ^^^ y) = xtime x ^^^ xtime y := by
  intro x y
  unfold xtime
  have h1 : (x ^^^ y) <<< 1 = x <<< 1 ^^^ y <<< 1 := by
    apply BitVec.eq_of_getLsbD_eq
    intro i hi
    simp only [BitVec.getLsbD_xor, BitVec.getLsbD_shiftLeft]
    cases decide (i < 8) <;> cases decide (i < 1) <;> simp
  rw [BitVec.getLsbD_xor, h1]
  cases x.getLsbD 7 <;> cases y.getLsbD 7 <;> simp
  · rw [BitVec.xor_assoc]
  · rw [BitVec.xor_assoc, BitVec.xor_assoc, BitVec.xor_comm 27#8]
  · rw [BitVec.xor_assoc, BitVec.xor_comm 27#8, BitVec.xor_assoc, BitVec.xor_self, BitVec.xor_zero]
theorem xpow_add (x y : BitVec 8) : ∀ n, xpow (x ^^^ y) n = xpow x n ^^^ xpow y n
  | 0 => rfl
  | n + 1 => by
    show xtime (xpow (x ^^^ y) n) = _
    rw [xpow_add x y n, xtime_add]
    rfl
theorem xor4 (p q r s : BitVec 8) : p ^^^ q ^^^ (r ^^^ s) = p ^^^ r ^^^ (q ^^^ s) := by
  rw [BitVec.xor_assoc, BitVec.xor_assoc, ← BitVec.xor_assoc q, BitVec.xor_comm q r, BitVec.xor_assoc r]
theorem times_add_left (a a' b : BitVec 8) : times (a ^^^ a') b = times a b ^^^ times a' b := by
  have h : ∀ n, timesTo (a ^^^ a') b n = timesTo a b n ^^^ timesTo a' b n := by
    intro n
    induction n with
    | zero => simp [timesTo]
    | succ n ih =>
      show timesTo (a ^^^ a') b n ^^^ _ = (timesTo a b n ^^^ _) ^^^ (timesTo a' b n ^^^ _)
      rw [ih, xor4, xpow_add]
      congr 1
      cases b.getLsbD n <;> simp
  exact h 8
theorem times_add_right (a b b' : BitVec 8) : times a (b ^^^ b') = times a b ^^^ times a b' := by
  have h : ∀ n, timesTo a (b ^^^ b') n = timesTo a b n ^^^ timesTo a b' n := by
    intro n
    induction n with
    | zero => simp [timesTo]
    | succ n ih =>
      show timesTo a (b ^^^ b') n ^^^ _ = (timesTo a b n ^^^ _) ^^^ (timesTo a b' n ^^^ _)
      rw [ih, xor4, BitVec.getLsbD_xor]
      congr 1
      cases b.getLsbD n <;> cases b'.getLsbD n <;> simp
  exact h 8

/-! Two functions over bytes that respect sums are the same if they are the same at the eight powers of x. -/
def Additive (f : BitVec 8 → BitVec 8) : Prop := ∀ x y, f (x ^^^ y) = f x ^^^ f y
theorem Additive.zero {f : BitVec 8 → BitVec 8} (h : Additive f) : f 0 = 0 := by
  have := h 0 0
  rw [BitVec.xor_self, BitVec.xor_self] at this
  exact this
def bitOf (x : BitVec 8) (i : Nat) : BitVec 8 := if x.getLsbD i then 1 <<< i else 0
theorem bits_of : ∀ x : BitVec 8, x = bitOf x 0 ^^^ (bitOf x 1 ^^^ (bitOf x 2 ^^^ (bitOf x 3 ^^^ (bitOf x 4 ^^^ (bitOf x 5 ^^^ (bitOf x 6 ^^^ bitOf x 7)))))) := by decide +kernel
theorem Additive.bit {f g : BitVec 8 → BitVec 8} (hf : Additive f) (hg : Additive g) (x : BitVec 8) (i : Nat) (h : f (1 <<< i) = g (1 <<< i)) : f (bitOf x i) = g (bitOf x i) := by
  unfold bitOf
  cases x.getLsbD i
  · exact hf.zero.trans hg.zero.symm
  · exact h
theorem Additive.ext {f g : BitVec 8 → BitVec 8} (hf : Additive f) (hg : Additive g) (h : ∀ i, i < 8 → f (1 <<< i) = g (1 <<< i)) (x : BitVec 8) : f x = g x := by
  rw [bits_of x, hf, hf, hf, hf, hf, hf, hf, hg, hg, hg, hg, hg, hg, hg,
    hf.bit hg x 0 (h 0 (by omega)), hf.bit hg x 1 (h 1 (by omega)), hf.bit hg x 2 (h 2 (by omega)), hf.bit hg x 3 (h 3 (by omega)), hf.bit hg x 4 (h 4 (by omega)), hf.bit hg x 5 (h 5 (by omega)), hf.bit hg x 6 (h 6 (by omega)), hf.bit hg x 7 (h 7 (by omega))]
theorem add_left (b : BitVec 8) : Additive (fun a => times a b) := fun x y => times_add_left x y b
theorem add_right (a : BitVec 8) : Additive (fun b => times a b) := fun x y => times_add_right a x y
theorem Additive.comp {f g : BitVec 8 → BitVec 8} (hf : Additive f) (hg : Additive g) : Additive (fun x => f (g x)) := fun x y => by
  show f (g (x ^^^ y)) = _
  rw [hg, hf]

theorem times_comm (a b : BitVec 8) : times a b = times b a := by
  have h0 : ∀ i, i < 8 → ∀ j, j < 8 → times ((1 : BitVec 8) <<< i) ((1 : BitVec 8) <<< j) = times ((1 : BitVec 8) <<< j) ((1 : BitVec 8) <<< i) := by decide +kernel
  refine (add_left b).ext (add_right b) (fun i hi => ?_) a
  exact (add_right _).ext (add_left _) (fun j hj => h0 i hi j hj) b
theorem times_assoc (a b c : BitVec 8) : times (times a b) c = times a (times b c) := by
  have h0 : ∀ i, i < 8 → ∀ j, j < 8 → ∀ k, k < 8 → times (times ((1 : BitVec 8) <<< i) ((1 : BitVec 8) <<< j)) ((1 : BitVec 8) <<< k) = times ((1 : BitVec 8) <<< i) (times ((1 : BitVec 8) <<< j) ((1 : BitVec 8) <<< k)) := by decide +kernel
  refine ((add_left c).comp (add_left b)).ext (add_left (times b c)) (fun i hi => ?_) a
  refine ((add_left c).comp (add_right _)).ext ((add_right _).comp (add_left c)) (fun j hj => ?_) b
  exact (add_right _).ext ((add_right _).comp (add_right _)) (fun k hk => h0 i hi j hj k hk) c
theorem times_one (a : BitVec 8) : times 1 a = a := by
  have h0 : ∀ i, i < 8 → times 1 ((1 : BitVec 8) <<< i) = (1 : BitVec 8) <<< i := by decide +kernel
  exact (add_right 1).ext (g := fun x => x) (fun _ _ => rfl) (fun i hi => h0 i hi) a
theorem one_times (a : BitVec 8) : times a 1 = a := by rw [times_comm, times_one]
theorem times_zero (a : BitVec 8) : times a 0 = 0 := (add_right a).zero
theorem zero_times (a : BitVec 8) : times 0 a = 0 := (add_left a).zero

/-- The published S-box. -/
def boxL : List (BitVec 8) := [99, 124, 119, 123, 242, 107, 111, 197, 48, 1, 103, 43, 254, 215, 171, 118, 202, 130, 201, 125, 250, 89, 71, 240, 173, 212, 162, 175, 156, 164, 114, 192, 183, 253, 147, 38, 54, 63, 247, 204, 52, 165, 229, 241, 113, 216, 49, 21, 4, 199, 35, 195, 24, 150, 5, 154, 7, 18, 128, 226, 235, 39, 178, 117, 9, 131, 44, 26, 27, 110, 90, 160, 82, 59, 214, 179, 41, 227, 47, 132, 83, 209, 0, 237, 32, 252, 177, 91, 106, 203, 190, 57, 74, 76, 88, 207, 208, 239, 170, 251, 67, 77, 51, 133, 69, 249, 2, 127, 80, 60, 159, 168, 81, 163, 64, 143, 146, 157, 56, 245, 188, 182, 218, 33, 16, 255, 243, 210, 205, 12, 19, 236, 95, 151, 68, 23, 196, 167, 126, 61, 100, 93, 25, 115, 96, 129, 79, 220, 34, 42, 144, 136, 70, 238, 184, 20, 222, 94, 11, 219, 224, 50, 58, 10, 73, 6, 36, 92, 194, 211, 172, 98, 145, 149, 228, 121, 231, 200, 55, 109, 141, 213, 78, 169, 108, 86, 244, 234, 101, 122, 174, 8, 186, 120, 37, 46, 28, 166, 180, 198, 232, 221, 116, 31, 75, 189, 139, 138, 112, 62, 181, 102, 72, 3, 246, 14, 97, 53, 87, 185, 134, 193, 29, 158, 225, 248, 152, 17, 105, 217, 142, 148, 155, 30, 135, 233, 206, 85, 40, 223, 140, 161, 137, 13, 191, 230, 66, 104, 65, 153, 45, 15, 176, 84, 187, 22]
def box (b : BitVec 8) : BitVec 8 := boxL.getD b.toNat 0
/-- The inverses (0 for 0). -/
def invL : List (BitVec 8) := [0, 1, 141, 246, 203, 82, 123, 209, 232, 79, 41, 192, 176, 225, 229, 199, 116, 180, 170, 75, 153, 43, 96, 95, 88, 63, 253, 204, 255, 64, 238, 178, 58, 110, 90, 241, 85, 77, 168, 201, 193, 10, 152, 21, 48, 68, 162, 194, 44, 69, 146, 108, 243, 57, 102, 66, 242, 53, 32, 111, 119, 187, 89, 25, 29, 254, 55, 103, 45, 49, 245, 105, 167, 100, 171, 19, 84, 37, 233, 9, 237, 92, 5, 202, 76, 36, 135, 191, 24, 62, 34, 240, 81, 236, 97, 23, 22, 94, 175, 211, 73, 166, 54, 67, 244, 71, 145, 223, 51, 147, 33, 59, 121, 183, 151, 133, 16, 181, 186, 60, 182, 112, 208, 6, 161, 250, 129, 130, 131, 126, 127, 128, 150, 115, 190, 86, 155, 158, 149, 217, 247, 2, 185, 164, 222, 106, 50, 109, 216, 138, 132, 114, 42, 20, 159, 136, 249, 220, 137, 154, 251, 124, 46, 195, 143, 184, 101, 72, 38, 200, 18, 74, 206, 231, 210, 98, 12, 224, 31, 239, 17, 117, 120, 113, 165, 142, 118, 61, 189, 188, 134, 87, 11, 40, 47, 163, 218, 212, 228, 15, 169, 39, 83, 4, 27, 252, 172, 230, 122, 7, 174, 99, 197, 219, 226, 234, 148, 139, 196, 213, 157, 248, 144, 107, 177, 13, 214, 235, 198, 14, 207, 173, 8, 78, 215, 227, 93, 80, 30, 179, 91, 35, 56, 52, 104, 70, 3, 140, 221, 156, 125, 160, 205, 26, 65, 28]
def inv (b : BitVec 8) : BitVec 8 := invL.getD b.toNat 0
/-- The way back. -/
def unboxL : List (BitVec 8) := [82, 9, 106, 213, 48, 54, 165, 56, 191, 64, 163, 158, 129, 243, 215, 251, 124, 227, 57, 130, 155, 47, 255, 135, 52, 142, 67, 68, 196, 222, 233, 203, 84, 123, 148, 50, 166, 194, 35, 61, 238, 76, 149, 11, 66, 250, 195, 78, 8, 46, 161, 102, 40, 217, 36, 178, 118, 91, 162, 73, 109, 139, 209, 37, 114, 248, 246, 100, 134, 104, 152, 22, 212, 164, 92, 204, 93, 101, 182, 146, 108, 112, 72, 80, 253, 237, 185, 218, 94, 21, 70, 87, 167, 141, 157, 132, 144, 216, 171, 0, 140, 188, 211, 10, 247, 228, 88, 5, 184, 179, 69, 6, 208, 44, 30, 143, 202, 63, 15, 2, 193, 175, 189, 3, 1, 19, 138, 107, 58, 145, 17, 65, 79, 103, 220, 234, 151, 242, 207, 206, 240, 180, 230, 115, 150, 172, 116, 34, 231, 173, 53, 133, 226, 249, 55, 232, 28, 117, 223, 110, 71, 241, 26, 113, 29, 41, 197, 137, 111, 183, 98, 14, 170, 24, 190, 27, 252, 86, 62, 75, 198, 210, 121, 32, 154, 219, 192, 254, 120, 205, 90, 244, 31, 221, 168, 51, 136, 7, 199, 49, 177, 18, 16, 89, 39, 128, 236, 95, 96, 81, 127, 169, 25, 181, 74, 13, 45, 229, 122, 159, 147, 201, 156, 239, 160, 224, 59, 77, 174, 42, 245, 176, 200, 235, 187, 60, 131, 83, 153, 97, 23, 43, 4, 126, 186, 119, 214, 38, 225, 105, 20, 99, 85, 33, 12, 125]
def unbox (b : BitVec 8) : BitVec 8 := unboxL.getD b.toNat 0
theorem unbox_box : ∀ b : BitVec 8, unbox (box b) = b := by decide +kernel
theorem box_inj {a b : BitVec 8} (h : box a = box b) : a = b := by rw [← unbox_box a, h, unbox_box]
theorem box_eq (a b : BitVec 8) : (box a = box b) ↔ a = b := ⟨box_inj, fun h => by rw [h]⟩
theorem times_inv : ∀ b : BitVec 8, b ≠ 0 → times b (inv b) = 1 := by decide +kernel
theorem inv_of_times {b i : BitVec 8} (h : times b i = 1) : i = inv b := by
  have hb : b ≠ 0 := fun h0 => by rw [h0, zero_times] at h; exact absurd h (by decide)
  rw [← times_one i, ← times_inv b hb, times_comm b, times_assoc, h, one_times]
/-- The S-box's second half: bit by bit of the inverse. -/
def aff (r : BitVec 8) (i : Nat) : Bool := (((r.getLsbD i ^^ r.getLsbD ((i + 4) % 8)) ^^ r.getLsbD ((i + 5) % 8)) ^^ r.getLsbD ((i + 6) % 8)) ^^ r.getLsbD ((i + 7) % 8) ^^ (99 : BitVec 8).getLsbD i
theorem box_aff : ∀ b : BitVec 8, ∀ i, i < 8 → (box b).getLsbD i = aff (inv b) i := by decide +kernel
end Go.Proofs.YtnkjoambhmlnbaaGreatDoor.Aes

namespace Go.Proofs.YtnkjoambhmlnbaaGreatDoor.Aes
open Go

abbrev Blk := Nat → BitVec 8
/-- The first column of the next round key. -/
def keyFirst (was : Blk) (p : BitVec 8) (r : Nat) : BitVec 8 := was r ^^^ box (was (12 + (r + 1) % 4)) ^^^ (if r = 0 then p else 0)
def keyCol (was : Blk) (p : BitVec 8) : Nat → Nat → BitVec 8
  | 0, r => keyFirst was p r
  | c + 1, r => was (4 * (c + 1) + r) ^^^ keyCol was p c r
def nextKey (was : Blk) (p : BitVec 8) (i : Nat) : BitVec 8 := keyCol was p (i / 4) (i % 4)
/-- Round key n. -/
def roundKey (key : Blk) : Nat → Blk
  | 0 => key
  | n + 1 => nextKey (roundKey key n) (xpow 1 n)
def addKey (b k : Blk) (i : Nat) : BitVec 8 := b i ^^^ k i
def subShift (b : Blk) (i : Nat) : BitVec 8 := box (b (4 * ((i / 4 + i % 4) % 4) + i % 4))
def mixCols (t : Blk) (i : Nat) : BitVec 8 :=
  times 2 (t (4 * (i / 4) + i % 4)) ^^^ times 3 (t (4 * (i / 4) + (i % 4 + 1) % 4)) ^^^ t (4 * (i / 4) + (i % 4 + 2) % 4) ^^^ t (4 * (i / 4) + (i % 4 + 3) % 4)
/-- The block behind n rounds. -/
def encTo (key block : Blk) : Nat → Blk
  | 0 => addKey block (roundKey key 0)
  | n + 1 => addKey (if n + 1 < 10 then mixCols (subShift (encTo key block n)) else subShift (encTo key block n)) (roundKey key (n + 1))
def enc (key block : Blk) : Blk := encTo key block 10

/-! The same at all sixteen places. -/
def Same16 (x y : Blk) : Prop := ∀ i, i < 16 → x i = y i
theorem addKey_inj {x y k : Blk} (h : Same16 (addKey x k) (addKey y k)) : Same16 x y := fun i hi => by
  have h1 : x i ^^^ k i = y i ^^^ k i := h i hi
  have h2 : x i ^^^ k i ^^^ k i = y i ^^^ k i ^^^ k i := by rw [h1]
  rw [BitVec.xor_assoc, BitVec.xor_assoc, BitVec.xor_self, BitVec.xor_zero, BitVec.xor_zero] at h2
  exact h2
theorem subShift_inj {x y : Blk} (h : Same16 (subShift x) (subShift y)) : Same16 x y := fun i hi => by
  have h1 := h (4 * ((i / 4 + 4 - i % 4) % 4) + i % 4) (by omega)
  unfold subShift at h1
  have e : 4 * (((4 * ((i / 4 + 4 - i % 4) % 4) + i % 4) / 4 + (4 * ((i / 4 + 4 - i % 4) % 4) + i % 4) % 4) % 4) + (4 * ((i / 4 + 4 - i % 4) % 4) + i % 4) % 4 = i := by omega
  rw [e] at h1
  exact box_inj h1
theorem un_a : ∀ a : BitVec 8, times 14 (times 2 a) ^^^ times 11 a ^^^ times 13 a ^^^ times 9 (times 3 a) = a := by decide +kernel
theorem un_b : ∀ b : BitVec 8, times 14 (times 3 b) ^^^ times 11 (times 2 b) ^^^ times 13 b ^^^ times 9 b = 0 := by decide +kernel
theorem un_c : ∀ c : BitVec 8, times 14 c ^^^ times 11 (times 3 c) ^^^ times 13 (times 2 c) ^^^ times 9 c = 0 := by decide +kernel
theorem un_d : ∀ d : BitVec 8, times 14 d ^^^ times 11 d ^^^ times 13 (times 3 d) ^^^ times 9 (times 2 d) = 0 := by decide +kernel
theorem unmix (a b c d : BitVec 8) : times 14 (times 2 a ^^^ times 3 b ^^^ c ^^^ d) ^^^ times 11 (times 2 b ^^^ times 3 c ^^^ d ^^^ a) ^^^ times 13 (times 2 c ^^^ times 3 d ^^^ a ^^^ b) ^^^ times 9 (times 2 d ^^^ times 3 a ^^^ b ^^^ c) = a := by
  have h : times 14 (times 2 a ^^^ times 3 b ^^^ c ^^^ d) ^^^ times 11 (times 2 b ^^^ times 3 c ^^^ d ^^^ a) ^^^ times 13 (times 2 c ^^^ times 3 d ^^^ a ^^^ b) ^^^ times 9 (times 2 d ^^^ times 3 a ^^^ b ^^^ c) =
      (times 14 (times 2 a) ^^^ times 11 a ^^^ times 13 a ^^^ times 9 (times 3 a)) ^^^ (times 14 (times 3 b) ^^^ times 11 (times 2 b) ^^^ times 13 b ^^^ times 9 b) ^^^ (times 14 c ^^^ times 11 (times 3 c) ^^^ times 13 (times 2 c) ^^^ times 9 c) ^^^ (times 14 d ^^^ times 11 d ^^^ times 13 (times 3 d) ^^^ times 9 (times 2 d)) := by
    simp only [times_add_right]
    ac_rfl
  rw [h, un_a, un_b, un_c, un_d]
  simp
theorem mixCols_inj {x y : Blk} (h : Same16 (mixCols x) (mixCols y)) : Same16 x y := fun i hi => by
  have key : ∀ t : Blk, times 14 (mixCols t (4 * (i / 4) + i % 4)) ^^^ times 11 (mixCols t (4 * (i / 4) + (i % 4 + 1) % 4)) ^^^ times 13 (mixCols t (4 * (i / 4) + (i % 4 + 2) % 4)) ^^^ times 9 (mixCols t (4 * (i / 4) + (i % 4 + 3) % 4)) = t i := fun t => by
    have e : ∀ k, k < 4 → mixCols t (4 * (i / 4) + (i % 4 + k) % 4) = times 2 (t (4 * (i / 4) + (i % 4 + k) % 4)) ^^^ times 3 (t (4 * (i / 4) + (i % 4 + (k + 1)) % 4)) ^^^ t (4 * (i / 4) + (i % 4 + (k + 2)) % 4) ^^^ t (4 * (i / 4) + (i % 4 + (k + 3)) % 4) := fun k hk => by
      unfold mixCols
      have e1 : (4 * (i / 4) + (i % 4 + k) % 4) / 4 = i / 4 := by omega
      have e2 : (4 * (i / 4) + (i % 4 + k) % 4) % 4 = (i % 4 + k) % 4 := by omega
      rw [e1, e2, show ((i % 4 + k) % 4 + 1) % 4 = (i % 4 + (k + 1)) % 4 by omega, show ((i % 4 + k) % 4 + 2) % 4 = (i % 4 + (k + 2)) % 4 by omega, show ((i % 4 + k) % 4 + 3) % 4 = (i % 4 + (k + 3)) % 4 by omega]
    have e0 := e 0 (by omega)
    rw [show 4 * (i / 4) + (i % 4 + 0) % 4 = 4 * (i / 4) + i % 4 by omega] at e0
    rw [e0, e 1 (by omega), e 2 (by omega), e 3 (by omega)]
    simp only [Nat.zero_add, Nat.reduceAdd]
    rw [show (i % 4 + 4) % 4 = i % 4 by omega, show (i % 4 + 5) % 4 = (i % 4 + 1) % 4 by omega, show (i % 4 + 6) % 4 = (i % 4 + 2) % 4 by omega, unmix, show 4 * (i / 4) + i % 4 = i by omega]
  rw [← key x, ← key y, h _ (by omega), h _ (by omega), h _ (by omega), h _ (by omega)]
theorem encTo_inj (key b b' : Blk) : ∀ n, Same16 (encTo key b n) (encTo key b' n) → Same16 b b'
  | 0, h => addKey_inj h
  | n + 1, h => by
    have h1 := addKey_inj h
    refine encTo_inj key b b' n ?_
    by_cases h10 : n + 1 < 10
    · rw [if_pos h10, if_pos h10] at h1
      exact subShift_inj (mixCols_inj h1)
    · rw [if_neg h10, if_neg h10] at h1
      exact subShift_inj h1
theorem enc_inj (key b b' : Blk) (h : Same16 (enc key b) (enc key b')) : Same16 b b' := encTo_inj key b b' 10 h

/-! What a block's bytes beyond the sixteenth are does not matter. -/
theorem subShift_congr {x y : Blk} (h : Same16 x y) : Same16 (subShift x) (subShift y) := fun i hi => by unfold subShift; rw [h _ (by omega)]
theorem mixCols_congr {x y : Blk} (h : Same16 x y) : Same16 (mixCols x) (mixCols y) := fun i hi => by
  unfold mixCols
  rw [h _ (by omega), h (4 * (i / 4) + (i % 4 + 1) % 4) (by omega), h (4 * (i / 4) + (i % 4 + 2) % 4) (by omega), h (4 * (i / 4) + (i % 4 + 3) % 4) (by omega)]
theorem addKey_congr {x y k k' : Blk} (h : Same16 x y) (hk : Same16 k k') : Same16 (addKey x k) (addKey y k') := fun i hi => by unfold addKey; rw [h i hi, hk i hi]
theorem keyCol_congr {x y : Blk} (h : Same16 x y) (p : BitVec 8) : ∀ c r, c < 4 → r < 4 → keyCol x p c r = keyCol y p c r
  | 0, r, _, hr => by show keyFirst x p r = keyFirst y p r; unfold keyFirst; rw [h r (by omega), h _ (by omega)]
  | c + 1, r, hc, hr => by
    show x _ ^^^ keyCol x p c r = y _ ^^^ keyCol y p c r
    rw [h _ (by omega), keyCol_congr h p c r (by omega) hr]
theorem nextKey_congr {x y : Blk} (h : Same16 x y) (p : BitVec 8) : Same16 (nextKey x p) (nextKey y p) := fun i hi => keyCol_congr h p _ _ (by omega) (by omega)
theorem roundKey_congr {x y : Blk} (h : Same16 x y) : ∀ n, Same16 (roundKey x n) (roundKey y n)
  | 0 => h
  | n + 1 => nextKey_congr (roundKey_congr h n) _
theorem encTo_congr {k k' b b' : Blk} (hk : Same16 k k') (hb : Same16 b b') : ∀ n, Same16 (encTo k b n) (encTo k' b' n)
  | 0 => addKey_congr hb (roundKey_congr hk 0)
  | n + 1 => by
    refine addKey_congr ?_ (roundKey_congr hk (n + 1))
    by_cases h10 : n + 1 < 10
    · rw [if_pos h10, if_pos h10]; exact mixCols_congr (subShift_congr (encTo_congr hk hb n))
    · rw [if_neg h10, if_neg h10]; exact subShift_congr (encTo_congr hk hb n)
theorem enc_congr {k k' b b' : Blk} (hk : Same16 k k') (hb : Same16 b b') : Same16 (enc k b) (enc k' b') := encTo_congr hk hb 10

/-! Steps of the program's arithmetic. -/
theorem times_two : ∀ a : BitVec 8, times a 2 = xtime a := by decide +kernel
theorem two_times (a : BitVec 8) : times 2 a = xtime a := by rw [times_comm, times_two]
theorem three_times (a : BitVec 8) : times 3 a = xtime a ^^^ a := by
  rw [show (3 : BitVec 8) = 2 ^^^ 1 from rfl, times_add_left, two_times, times_one]
end Go.Proofs.YtnkjoambhmlnbaaGreatDoor.Aes

namespace Go.Proofs.YtnkjoambhmlnbaaGreatDoor.Aes
open Go

def listB (l : List (BitVec 8)) (i : Nat) : BitVec 8 := l.getD i 0
def key0 : List (BitVec 8) := [0, 1, 2, 3, 4, 5, 6, 7, 8, 9, 10, 11, 12, 13, 14, 15]
def block0 : List (BitVec 8) := [0, 17, 34, 51, 68, 85, 102, 119, 136, 153, 170, 187, 204, 221, 238, 255]
def rkL : List (List (BitVec 8)) := [[0, 1, 2, 3, 4, 5, 6, 7, 8, 9, 10, 11, 12, 13, 14, 15],
  [214, 170, 116, 253, 210, 175, 114, 250, 218, 166, 120, 241, 214, 171, 118, 254],
  [182, 146, 207, 11, 100, 61, 189, 241, 190, 155, 197, 0, 104, 48, 179, 254],
  [182, 255, 116, 78, 210, 194, 201, 191, 108, 89, 12, 191, 4, 105, 191, 65],
  [71, 247, 247, 188, 149, 53, 62, 3, 249, 108, 50, 188, 253, 5, 141, 253],
  [60, 170, 163, 232, 169, 159, 157, 235, 80, 243, 175, 87, 173, 246, 34, 170],
  [94, 57, 15, 125, 247, 166, 146, 150, 167, 85, 61, 193, 10, 163, 31, 107],
  [20, 249, 112, 26, 227, 95, 226, 140, 68, 10, 223, 77, 78, 169, 192, 38],
  [71, 67, 135, 53, 164, 28, 101, 185, 224, 22, 186, 244, 174, 191, 122, 210],
  [84, 153, 50, 209, 240, 133, 87, 104, 16, 147, 237, 156, 190, 44, 151, 78],
  [19, 17, 29, 127, 227, 148, 74, 23, 243, 7, 167, 139, 77, 43, 48, 197]]
def encL : List (List (BitVec 8)) := [[0, 16, 32, 48, 64, 80, 96, 112, 128, 144, 160, 176, 192, 208, 224, 240],
  [137, 216, 16, 232, 133, 90, 206, 104, 45, 24, 67, 216, 203, 18, 143, 228],
  [73, 21, 89, 143, 85, 229, 215, 160, 218, 202, 148, 250, 31, 10, 99, 247],
  [250, 99, 106, 40, 37, 179, 57, 201, 64, 102, 138, 49, 87, 36, 77, 23],
  [36, 114, 64, 35, 105, 102, 179, 250, 110, 210, 117, 50, 136, 66, 91, 108],
  [200, 22, 119, 188, 155, 122, 201, 59, 37, 2, 121, 146, 176, 38, 25, 150],
  [198, 47, 225, 9, 247, 94, 237, 195, 204, 121, 57, 93, 132, 249, 207, 93],
  [209, 135, 108, 15, 121, 196, 48, 10, 180, 85, 148, 173, 214, 111, 244, 31],
  [253, 227, 186, 210, 5, 229, 208, 215, 53, 71, 150, 78, 241, 254, 55, 241],
  [189, 110, 124, 61, 242, 181, 119, 158, 11, 97, 33, 110, 139, 16, 182, 137],
  [105, 196, 224, 216, 106, 123, 4, 48, 216, 205, 183, 128, 112, 180, 197, 90]]
def rkAt (n : Nat) : Blk := listB (rkL.getD n [])
def encAt (n : Nat) : Blk := listB (encL.getD n [])
theorem rk_ok : ∀ n, n < 10 → ∀ i, i < 16 → nextKey (rkAt n) (xpow 1 n) i = rkAt (n + 1) i := by decide +kernel
theorem enc_ok : ∀ n, n < 10 → ∀ i, i < 16 → addKey (if n + 1 < 10 then mixCols (subShift (encAt n)) else subShift (encAt n)) (rkAt (n + 1)) i = encAt (n + 1) i := by decide +kernel
theorem rk_known : ∀ n, n ≤ 10 → Same16 (roundKey (listB key0) n) (rkAt n)
  | 0, _ => by intro i hi; rfl
  | n + 1, h => fun i hi => by
    rw [← rk_ok n (by omega) i hi]
    exact nextKey_congr (rk_known n (by omega)) _ i hi
theorem enc0_ok : ∀ i, i < 16 → addKey (listB block0) (rkAt 0) i = encAt 0 i := by decide +kernel
theorem enc_known : ∀ n, n ≤ 10 → Same16 (encTo (listB key0) (listB block0) n) (encAt n)
  | 0, _ => fun i hi => by rw [← enc0_ok i hi]; rfl
  | n + 1, h => fun i hi => by
    rw [← enc_ok n (by omega) i hi]
    refine addKey_congr ?_ (rk_known (n + 1) h) i hi
    by_cases h10 : n + 1 < 10
    · rw [if_pos h10, if_pos h10]; exact mixCols_congr (subShift_congr (enc_known n (by omega)))
    · rw [if_neg h10, if_neg h10]; exact subShift_congr (enc_known n (by omega))
theorem known_0 : enc (listB key0) (listB block0) 0 = 0x69 := (enc_known 10 (Nat.le_refl _) 0 (by omega)).trans (by decide +kernel)
theorem known_15 : enc (listB key0) (listB block0) 15 = 0x5a := (enc_known 10 (Nat.le_refl _) 15 (by omega)).trans (by decide +kernel)
theorem known_key : roundKey (listB key0) 10 15 = 0xc5 := (rk_known 10 (Nat.le_refl _) 15 (by omega)).trans (by decide +kernel)
theorem known_box : box 0 = 99 := by decide +kernel
theorem known_times : times 2 128 = 27 := by decide +kernel
end Go.Proofs.YtnkjoambhmlnbaaGreatDoor.Aes
namespace Go.Proofs.YtnkjoambhmlnbaaGreatDoor.Ctr
open Go Go.Proofs.YtnkjoambhmlnbaaGreatDoor.Aes

/-- The number of the last k bytes of a counter. -/
def valTo (at_ : Blk) : Nat → Nat
  | 0 => 0
  | k + 1 => valTo at_ k + (at_ (15 - k)).toNat * 256 ^ k
def num (at_ : Blk) : Nat := valTo at_ 16
/-- The counter by more. -/
def nextB (at_ : Blk) (by_ : Nat) (i : Nat) : BitVec 8 := BitVec.ofNat 8 ((num at_ + by_) / 256 ^ (15 - i))
/-- What is carried to byte 15 - k and beyond. -/
def acc (at_ : Blk) (by_ k : Nat) : Nat := (valTo at_ k + by_) / 256 ^ k

theorem valTo_lt (at_ : Blk) : ∀ k, valTo at_ k < 256 ^ k
  | 0 => by simp [valTo]
  | k + 1 => by
    have h1 := valTo_lt at_ k
    have h2 := (at_ (15 - k)).isLt
    show valTo at_ k + (at_ (15 - k)).toNat * 256 ^ k < 256 ^ (k + 1)
    have h3 : (at_ (15 - k)).toNat * 256 ^ k ≤ 255 * 256 ^ k := Nat.mul_le_mul_right _ (by omega)
    rw [Nat.pow_succ]
    omega
/-- The last k bytes, and the rest. -/
theorem valTo_split (at_ : Blk) (k : Nat) : ∀ d, ∃ q, valTo at_ (k + d) = valTo at_ k + 256 ^ k * q
  | 0 => ⟨0, by simp⟩
  | d + 1 => by
    obtain ⟨q, hq⟩ := valTo_split at_ k d
    refine ⟨q + (at_ (15 - (k + d))).toNat * 256 ^ d, ?_⟩
    show valTo at_ (k + d) + _ * 256 ^ (k + d) = _
    rw [hq, Nat.mul_add, Nat.pow_add, Nat.add_assoc]
    congr 2
    rw [Nat.mul_left_comm]
    rfl
theorem acc_zero (at_ : Blk) (by_ : Nat) : acc at_ by_ 0 = by_ := by simp [acc, valTo]
theorem acc_succ (at_ : Blk) (by_ k : Nat) : acc at_ by_ (k + 1) = (acc at_ by_ k + (at_ (15 - k)).toNat) / 256 := by
  unfold acc
  show (valTo at_ k + (at_ (15 - k)).toNat * 256 ^ k + by_) / 256 ^ (k + 1) = _
  rw [Nat.pow_succ, ← Nat.div_div_eq_div_mul, show valTo at_ k + (at_ (15 - k)).toNat * 256 ^ k + by_ = valTo at_ k + by_ + 256 ^ k * (at_ (15 - k)).toNat by rw [Nat.mul_comm (256 ^ k)]; omega,
    Nat.add_mul_div_left _ _ (Nat.pow_pos (by omega))]
theorem nextB_acc (at_ : Blk) (by_ k : Nat) (hk : k < 16) : nextB at_ by_ (15 - k) = BitVec.ofNat 8 (acc at_ by_ k + (at_ (15 - k)).toNat) := by
  unfold nextB
  rw [show 15 - (15 - k) = k by omega]
  obtain ⟨q, hq⟩ := valTo_split at_ (k + 1) (15 - k)
  rw [show k + 1 + (15 - k) = 16 by omega] at hq
  unfold num
  rw [hq, show valTo at_ (k + 1) + 256 ^ (k + 1) * q + by_ = valTo at_ k + by_ + 256 ^ k * ((at_ (15 - k)).toNat + 256 * q) by
    show valTo at_ k + (at_ (15 - k)).toNat * 256 ^ k + 256 ^ (k + 1) * q + by_ = _
    rw [Nat.mul_add, Nat.pow_succ, Nat.mul_assoc, Nat.mul_comm (256 ^ k) (at_ (15 - k)).toNat]; omega, Nat.add_mul_div_left _ _ (Nat.pow_pos (by omega))]
  apply BitVec.eq_of_toNat_eq
  simp only [BitVec.toNat_ofNat]
  unfold acc
  omega

theorem valTo_nextB (at_ : Blk) (by_ : Nat) : ∀ k, k ≤ 16 → valTo (nextB at_ by_) k = (num at_ + by_) % 256 ^ k
  | 0, _ => by simp [valTo, Nat.mod_one]
  | k + 1, hk => by
    show valTo (nextB at_ by_) k + (nextB at_ by_ (15 - k)).toNat * 256 ^ k = _
    rw [valTo_nextB at_ by_ k (by omega)]
    unfold nextB
    have h := @Nat.mod_mul (256 ^ k) 256 (num at_ + by_)
    rw [← Nat.pow_succ] at h
    rw [show 15 - (15 - k) = k by omega, BitVec.toNat_ofNat, h, Nat.mul_comm (256 ^ k)]
theorem num_nextB (at_ : Blk) (by_ : Nat) : num (nextB at_ by_) = (num at_ + by_) % 256 ^ 16 := valTo_nextB at_ by_ 16 (Nat.le_refl _)
/-- Counters add up. -/
theorem nextB_nextB (at_ : Blk) (m n i : Nat) : nextB (nextB at_ m) n i = nextB at_ (m + n) i := by
  show BitVec.ofNat 8 ((num (nextB at_ m) + n) / 256 ^ (15 - i)) = BitVec.ofNat 8 ((num at_ + (m + n)) / 256 ^ (15 - i))
  rw [num_nextB]
  apply BitVec.eq_of_toNat_eq
  simp only [BitVec.toNat_ofNat]
  have hd := Nat.div_add_mod (num at_ + m) (256 ^ 16)
  generalize (num at_ + m) / 256 ^ 16 = q at hd
  generalize (num at_ + m) % 256 ^ 16 = r at hd
  rw [show num at_ + (m + n) = r + n + 256 ^ 16 * q by omega]
  obtain ⟨d, hd15, he⟩ : ∃ d, d ≤ 15 ∧ 15 - i = d := ⟨15 - i, by omega, rfl⟩
  rw [he, show (256 : Nat) ^ 16 * q = 256 ^ d * (256 ^ (15 - d) * 256 * q) by rw [← Nat.pow_succ, ← Nat.mul_assoc, ← Nat.pow_add, show d + (15 - d).succ = 16 by omega], Nat.add_mul_div_left _ _ (Nat.pow_pos (by omega)),
    show 256 ^ (15 - d) * 256 * q = 256 * (256 ^ (15 - d) * q) by rw [Nat.mul_comm (256 ^ (15 - d)) 256, Nat.mul_assoc]]
  omega
theorem valTo_congr {x y : Blk} (h : Same16 x y) : ∀ k, k ≤ 16 → valTo x k = valTo y k
  | 0, _ => rfl
  | k + 1, hk => by
    show valTo x k + (x (15 - k)).toNat * _ = valTo y k + (y (15 - k)).toNat * _
    rw [valTo_congr h k (by omega), h (15 - k) (by omega)]
theorem nextB_congr {x y : Blk} (h : Same16 x y) (n i : Nat) : nextB x n i = nextB y n i := by
  unfold nextB num
  rw [valTo_congr h 16 (Nat.le_refl _)]

/-- Byte j of the key stream. -/
def stream (key at_ : Blk) (j : Nat) : BitVec 8 := enc key (nextB at_ (j / 16)) (j % 16)
def flipB (key at_ e : Nat → BitVec 8) (j : Nat) : BitVec 8 := e j ^^^ stream key at_ j
theorem flip_flip (key at_ e : Nat → BitVec 8) (j : Nat) : flipB key at_ (flipB key at_ e) j = e j := by
  unfold flipB
  rw [BitVec.xor_assoc, BitVec.xor_self, BitVec.xor_zero]
theorem stream_part (key at_ : Blk) (n j : Nat) : stream key (nextB at_ n) j = stream key at_ (16 * n + j) := by
  unfold stream
  rw [show (16 * n + j) / 16 = n + j / 16 by omega, show (16 * n + j) % 16 = j % 16 by omega]
  rw [show nextB (nextB at_ n) (j / 16) = nextB at_ (n + j / 16) from funext fun i => nextB_nextB at_ n (j / 16) i]
/-- A part from a block on, by its own counter. -/
theorem flip_part (key at_ e : Nat → BitVec 8) (n j : Nat) : flipB key (nextB at_ n) (fun i => e (16 * n + i)) j = flipB key at_ e (16 * n + j) := by
  unfold flipB
  rw [stream_part]
/-- What two flips part in is what the bytes part in. -/
theorem flip_turn (key at_ e f : Nat → BitVec 8) (j : Nat) : flipB key at_ e j ^^^ flipB key at_ f j = e j ^^^ f j := by
  unfold flipB
  have : e j ^^^ stream key at_ j ^^^ (f j ^^^ stream key at_ j) = e j ^^^ f j ^^^ (stream key at_ j ^^^ stream key at_ j) := by ac_rfl
  rw [this, BitVec.xor_self, BitVec.xor_zero]
end Go.Proofs.YtnkjoambhmlnbaaGreatDoor.Ctr

namespace Go.Proofs.YtnkjoambhmlnbaaGreatDoor.Ctr
open Go Go.Proofs.YtnkjoambhmlnbaaGreatDoor.Aes

def zk : Blk := fun _ => 0
def zrL : List (List (BitVec 8)) := [[0, 0, 0, 0, 0, 0, 0, 0, 0, 0, 0, 0, 0, 0, 0, 0],
  [98, 99, 99, 99, 98, 99, 99, 99, 98, 99, 99, 99, 98, 99, 99, 99],
  [155, 152, 152, 201, 249, 251, 251, 170, 155, 152, 152, 201, 249, 251, 251, 170],
  [144, 151, 52, 80, 105, 108, 207, 250, 242, 244, 87, 51, 11, 15, 172, 153],
  [238, 6, 218, 123, 135, 106, 21, 129, 117, 158, 66, 178, 126, 145, 238, 43],
  [127, 46, 43, 136, 248, 68, 62, 9, 141, 218, 124, 187, 243, 75, 146, 144],
  [236, 97, 75, 133, 20, 37, 117, 140, 153, 255, 9, 55, 106, 180, 155, 167],
  [33, 117, 23, 135, 53, 80, 98, 11, 172, 175, 107, 60, 198, 27, 240, 155],
  [14, 249, 3, 51, 59, 169, 97, 56, 151, 6, 10, 4, 81, 29, 250, 159],
  [177, 212, 216, 226, 138, 125, 185, 218, 29, 123, 179, 222, 76, 102, 73, 65],
  [180, 239, 91, 203, 62, 146, 226, 17, 35, 233, 81, 207, 111, 143, 24, 142]]
def zeL : List (List (BitVec 8)) := [[0, 0, 0, 0, 0, 0, 0, 0, 0, 0, 0, 0, 0, 0, 0, 0],
  [1, 0, 0, 0, 1, 0, 0, 0, 1, 0, 0, 0, 1, 0, 0, 0],
  [198, 228, 228, 139, 164, 135, 135, 232, 198, 228, 228, 139, 164, 135, 135, 232],
  [40, 45, 243, 196, 106, 243, 134, 37, 74, 78, 144, 167, 8, 144, 229, 70],
  [171, 210, 205, 254, 55, 90, 181, 73, 80, 160, 175, 192, 117, 154, 106, 95],
  [212, 111, 79, 108, 85, 184, 150, 51, 126, 5, 187, 61, 121, 121, 222, 35],
  [4, 242, 202, 151, 7, 120, 40, 69, 226, 47, 1, 150, 73, 197, 215, 16],
  [183, 170, 228, 197, 29, 37, 45, 79, 108, 146, 15, 129, 148, 229, 129, 80],
  [35, 231, 140, 60, 19, 33, 99, 219, 170, 192, 198, 87, 46, 3, 203, 149],
  [127, 254, 14, 149, 81, 165, 102, 53, 14, 52, 124, 71, 41, 41, 236, 203],
  [102, 233, 75, 212, 239, 138, 44, 59, 136, 76, 250, 89, 202, 52, 43, 46]]
def zrAt (n : Nat) : Blk := listB (zrL.getD n [])
def zeAt (n : Nat) : Blk := listB (zeL.getD n [])
theorem zr_ok : ∀ n, n < 10 → ∀ i, i < 16 → nextKey (zrAt n) (xpow 1 n) i = zrAt (n + 1) i := by decide +kernel
theorem ze_ok : ∀ n, n < 10 → ∀ i, i < 16 → addKey (if n + 1 < 10 then mixCols (subShift (zeAt n)) else subShift (zeAt n)) (zrAt (n + 1)) i = zeAt (n + 1) i := by decide +kernel
theorem zr_zero : ∀ i, i < 16 → zk i = zrAt 0 i := by decide +kernel
theorem zr_known : ∀ n, n ≤ 10 → Same16 (roundKey zk n) (zrAt n)
  | 0, _ => zr_zero
  | n + 1, h => fun i hi => by
    rw [← zr_ok n (by omega) i hi]
    exact nextKey_congr (zr_known n (by omega)) _ i hi
theorem ze0_ok : ∀ i, i < 16 → addKey zk (zrAt 0) i = zeAt 0 i := by decide +kernel
theorem ze_known : ∀ n, n ≤ 10 → Same16 (encTo zk zk n) (zeAt n)
  | 0, _ => fun i hi => by
    rw [← ze0_ok i hi]
    exact addKey_congr (fun _ _ => rfl) zr_zero i hi
  | n + 1, h => fun i hi => by
    rw [← ze_ok n (by omega) i hi]
    refine addKey_congr ?_ (zr_known (n + 1) h) i hi
    by_cases h10 : n + 1 < 10
    · rw [if_pos h10, if_pos h10]; exact mixCols_congr (subShift_congr (ze_known n (by omega)))
    · rw [if_neg h10, if_neg h10]; exact subShift_congr (ze_known n (by omega))
theorem zero_num : num zk = 0 := by decide +kernel
theorem next_zero (i : Nat) : nextB zk 0 i = 0 := by
  unfold nextB
  rw [zero_num]
  simp
theorem next_zk : nextB zk 0 = zk := funext next_zero
theorem zero_0 : flipB zk zk zk 0 = 102 := by
  unfold flipB stream
  rw [show 0 / 16 = 0 from rfl, show 0 % 16 = 0 from rfl, next_zk]
  show 0 ^^^ encTo zk zk 10 0 = _
  rw [ze_known 10 (Nat.le_refl _) 0 (by omega)]
  decide +kernel
theorem zero_1 : flipB zk zk zk 1 = 233 := by
  unfold flipB stream
  rw [show 1 / 16 = 0 from rfl, show 1 % 16 = 1 from rfl, next_zk]
  show 0 ^^^ encTo zk zk 10 1 = _
  rw [ze_known 10 (Nat.le_refl _) 1 (by omega)]
  decide +kernel
/-- A counter at its end. -/
theorem full_num : num (fun _ => 255) = 256 ^ 16 - 1 := by decide +kernel
theorem full_next : ∀ i, i < 16 → nextB (fun _ => 255) 1 i = 0 := by
  intro i hi
  unfold nextB
  rw [full_num, show 256 ^ 16 - 1 + 1 = 256 ^ (15 - i) * 256 ^ (i + 1) by rw [← Nat.pow_add, show 15 - i + (i + 1) = 16 by omega], Nat.mul_div_cancel_left _ (Nat.pow_pos (by omega)), Nat.pow_succ]
  apply BitVec.eq_of_toNat_eq
  simp
end Go.Proofs.YtnkjoambhmlnbaaGreatDoor.Ctr
namespace Go.Proofs.YtnkjoambhmlnbaaGreatDoor.Cache
open Go Go.RowKit

section
variable {α β : Type}
def roomK {γ : Type} (most : Nat) (c : List γ) : List γ := if c.length = most then c.tail else c
def keysL (l : List (α × β)) : List α := l.map Prod.fst
theorem keys_room (most : Nat) (l : List (α × β)) : keysL (roomK most l) = roomK most (keysL l) := by
  unfold roomK keysL
  rw [List.length_map]
  split
  · rw [List.map_tail]
  · rfl
theorem keys_len (l : List (α × β)) : (keysL l).length = l.length := List.length_map _
theorem len_room {γ : Type} (most : Nat) (c : List γ) (h : c.length ≤ most) (h1 : 1 ≤ most) : (roomK most c).length + 1 ≤ most := by
  unfold roomK
  split
  · rw [List.length_tail]; omega
  · omega
theorem room_sub {γ : Type} {most : Nat} {c : List γ} {x : γ} (h : x ∈ roomK most c) : x ∈ c := by
  unfold roomK at h
  split at h
  · exact List.mem_of_mem_tail h
  · exact h
end
section
variable {α β : Type} [DecidableEq α]
def hasK (c : List α) (k : α) : Bool := decide (k ∈ c)
def putK (most : Nat) (c : List α) (k : α) : List α := if hasK c k then c else roomK most c ++ [k]
def dropK (c : List α) (k : α) : List α := c.filter fun x => decide (x ≠ k)
/-- Was a key put out? -/
def goneB (most : Nat) (c : List α) (k : α) : Bool := !hasK c k && decide (c.length = most)
def goneK (z : α) (most : Nat) (c : List α) (k : α) : α := if goneB most c k then c.headD z else z

def setL (l : List (α × β)) (k : α) (v : β) : List (α × β) := l.map fun p => if p.1 = k then (k, v) else p
def putL (most : Nat) (l : List (α × β)) (k : α) (v : β) : List (α × β) := if hasK (keysL l) k then setL l k v else roomK most l ++ [(k, v)]
def getL (l : List (α × β)) (k : α) : Option β := (l.find? fun p => decide (p.1 = k)).map Prod.snd
def dropL (l : List (α × β)) (k : α) : List (α × β) := l.filter fun p => decide (p.1 ≠ k)

theorem keys_set (l : List (α × β)) (k : α) (v : β) : keysL (setL l k v) = keysL l := by
  unfold keysL setL
  rw [List.map_map]
  refine List.map_congr_left fun p _ => ?_
  simp only [Function.comp]
  split
  · rename_i h; exact h.symm
  · rfl
theorem keys_put (most : Nat) (l : List (α × β)) (k : α) (v : β) : keysL (putL most l k v) = putK most (keysL l) k := by
  unfold putL putK
  split
  · exact keys_set l k v
  · show List.map Prod.fst _ = _
    rw [List.map_append, ← keys_room]
    rfl
theorem keys_drop (l : List (α × β)) (k : α) : keysL (dropL l k) = dropK (keysL l) k := by
  unfold keysL dropL dropK
  rw [List.filter_map]
  rfl

theorem has_drop (c : List α) (k : α) : hasK (dropK c k) k = false := by
  unfold hasK dropK
  simp
theorem has_put (most : Nat) (c : List α) (k : α) : hasK (putK most c k) k = true := by
  unfold putK
  by_cases h : hasK c k = true
  · rw [if_pos h]; exact h
  · rw [if_neg h]
    unfold hasK
    simp
theorem len_put (most : Nat) (c : List α) (k : α) (h : c.length ≤ most) (h1 : 1 ≤ most) : (putK most c k).length ≤ most := by
  unfold putK
  split
  · exact h
  · rw [List.length_append]
    have := len_room most c h h1
    simpa using this
theorem len_drop (c : List α) (k : α) : (dropK c k).length ≤ c.length := List.length_filter_le _ _
theorem len_more (most : Nat) (c : List α) (k : α) (h : goneB most c k = false) : c.length ≤ (putK most c k).length := by
  unfold goneB at h
  unfold putK
  by_cases hk : hasK c k = true
  · rw [if_pos hk]; exact Nat.le_refl _
  · rw [if_neg hk, List.length_append]
    have hl : ¬ c.length = most := fun e => by
      rw [show hasK c k = false by simpa using hk, decide_eq_true e] at h
      cases h
    unfold roomK
    rw [if_neg hl]
    omega
theorem gone_len {most : Nat} {c : List α} {k : α} (h : goneB most c k = true) : c.length = most := by
  unfold goneB at h
  simp at h
  exact h.2
theorem gone_head {z : α} {most : Nat} {c : List α} {k : α} (h : goneB most c k = true) : goneK z most c k = c.headD z := by
  unfold goneK
  rw [if_pos h]
theorem gone_not {z : α} {most : Nat} {c : List α} {k : α} (h : goneB most c k = false) : goneK z most c k = z := by
  unfold goneK
  rw [h]
  rfl

theorem get_some {l : List (α × β)} {k : α} : (getL l k).isSome = hasK (keysL l) k := by
  unfold getL hasK keysL
  rw [Option.isSome_map]
  by_cases h : k ∈ l.map Prod.fst
  · rw [decide_eq_true h]
    obtain ⟨p, hp, e⟩ := List.mem_map.1 h
    exact List.find?_isSome.2 ⟨p, hp, decide_eq_true e⟩
  · rw [decide_eq_false h]
    cases hf : l.find? (fun p => decide (p.1 = k)) with
    | none => rfl
    | some p =>
      have h1 := List.find?_some hf
      have h2 := List.mem_of_find?_eq_some hf
      exact absurd (List.mem_map.2 ⟨p, h2, by simpa using h1⟩) h
theorem get_set (l : List (α × β)) (k : α) (v : β) (h : hasK (keysL l) k = true) : getL (setL l k v) k = some v := by
  unfold hasK keysL at h
  simp only [decide_eq_true_eq] at h
  induction l with
  | nil => simp at h
  | cons p l ih =>
    unfold getL setL at *
    rw [List.map_cons, List.find?_cons]
    by_cases hp : p.1 = k
    · simp [hp]
    · rw [if_neg hp, decide_eq_false hp]
      refine ih ?_
      rw [List.map_cons, List.mem_cons] at h
      rcases h with h | h
      · exact absurd h.symm hp
      · exact h
theorem get_put (most : Nat) (l : List (α × β)) (k : α) (v : β) : getL (putL most l k v) k = some v := by
  unfold putL
  by_cases h : hasK (keysL l) k = true
  · rw [if_pos h]; exact get_set l k v h
  · rw [if_neg h]
    unfold getL
    rw [List.find?_append]
    have hn : (roomK most l).find? (fun p => decide (p.1 = k)) = none := List.find?_eq_none.2 fun p hp => by
      simp only [decide_eq_true_eq]
      intro e
      refine h ?_
      unfold hasK keysL
      exact decide_eq_true (List.mem_map.2 ⟨p, room_sub hp, e⟩)
    rw [hn]
    simp
theorem get_drop (l : List (α × β)) (k : α) : getL (dropL l k) k = none := by
  unfold getL dropL
  rw [List.find?_eq_none.2 (fun p hp => by simp at hp ⊢; exact hp.2)]
  rfl

/-- The keys under another name. -/
theorem has_map {γ : Type} [DecidableEq γ] (f : α → γ) (hf : ∀ x y, f x = f y → x = y) (c : List α) (k : α) : hasK (c.map f) (f k) = hasK c k := by
  unfold hasK
  congr 1
  simp only [List.mem_map, eq_iff_iff]
  exact ⟨fun ⟨x, hx, e⟩ => hf _ _ e ▸ hx, fun h => ⟨k, h, rfl⟩⟩
theorem put_map {γ : Type} [DecidableEq γ] (f : α → γ) (hf : ∀ x y, f x = f y → x = y) (most : Nat) (c : List α) (k : α) : putK most (c.map f) (f k) = (putK most c k).map f := by
  unfold putK
  rw [has_map f hf]
  split
  · rfl
  · rw [List.map_append]
    congr 1
    unfold roomK
    rw [List.length_map]
    split
    · rw [List.map_tail]
    · rfl
theorem drop_map {γ : Type} [DecidableEq γ] (f : α → γ) (hf : ∀ x y, f x = f y → x = y) (c : List α) (k : α) : dropK (c.map f) (f k) = (dropK c k).map f := by
  unfold dropK
  rw [List.filter_map]
  congr 1
  refine List.filter_congr fun x _ => ?_
  simp only [Function.comp]
  congr 1
  simp only [eq_iff_iff]
  exact ⟨fun h e => h (congrArg f e), fun h e => h (hf _ _ e)⟩
theorem gone_map {γ : Type} [DecidableEq γ] (f : α → γ) (hf : ∀ x y, f x = f y → x = y) (most : Nat) (c : List α) (k : α) : goneB most (c.map f) (f k) = goneB most c k := by
  unfold goneB
  rw [has_map f hf, List.length_map]

/-- Where a key stands; the length: nowhere. -/
def atN (c : List α) (k : α) : Nat := c.findIdx fun x => decide (x = k)
theorem at_le (c : List α) (k : α) : atN c k ≤ c.length := List.findIdx_le_length
theorem at_has {c : List α} {k : α} : hasK c k = decide (atN c k < c.length) := by
  unfold hasK atN
  congr 1
  rw [List.findIdx_lt_length]
  simp
theorem at_key {c : List α} {k : α} (h : atN c k < c.length) : c[atN c k]? = some k := by
  have := List.findIdx_getElem (p := fun x => decide (x = k)) (xs := c) (w := h)
  rw [List.getElem?_eq_getElem h]
  simp only [decide_eq_true_eq] at this
  exact congrArg some this
theorem at_before {c : List α} {k : α} {j : Nat} (h : j < atN c k) : c[j]? ≠ some k := fun e => by
  have hj : j < c.length := (List.getElem?_eq_some_iff.1 e).1
  have := List.not_of_lt_findIdx (p := fun x => decide (x = k)) (xs := c) h
  rw [List.getElem?_eq_getElem hj] at e
  simp only [Option.some.injEq] at e
  rw [e] at this
  simp at this
end
end Go.Proofs.YtnkjoambhmlnbaaGreatDoor.Cache
