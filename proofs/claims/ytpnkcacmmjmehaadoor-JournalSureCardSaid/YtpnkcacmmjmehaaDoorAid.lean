/-
  Small aids for walks: regions that draw their order and only read, or read and then write in one order (the world behind the draw as 'w.drew'); whole arrays out of rows and into rows, the content by the index.
-/
import Derived.WalkKit
import Derived.StillTailTactics
import Derived.Deep.OwnRows
import Derived.Deep.MidRow
import Derived.Lib.Hide
import Derived.IntWalk
namespace Go.Proofs.YtpnkcacmmjmehaaDoor.Aid
open Go Go.RowKit
variable {P : Program}
theorem region_still {id : Nat} {Q : Exit → Act → World → Prop} {a : Act} {w : World} {l : List Oper} (hm : P.follows .mixedOrders = true) (hB : Region.lexB .any l.toArray = true)
    (h : wpStill P l.toArray w.drew (fun a' => Q .normal a' w.drew) l a) : (Code.region id l.toArray true).wp P Q a w :=
  wp_region_still_lit hm hB h
theorem region_tail {id : Nat} {Q : Exit → Act → World → Prop} {a : Act} {w : World} {l : List Oper} (n : Nat) (hm : P.follows .mixedOrders = true) (hB : Region.lexTailB .any l.toArray n = true)
    (h : wpStill P l.toArray w.drew (fun a' => wpList P l.toArray Q (l.drop n) a' w.drew) (l.take n) a) : (Code.region id l.toArray true).wp P Q a w :=
  wp_region_still_tail n hm hB h

/-- Only block g may have turned; nothing was made. -/
structure Only (g : Nat) (w w' : World) : Prop where
  os : w'.os = w.os
  tape : w'.tape = w.tape
  output : w'.output = w.output
  size : w'.heap.size = w.heap.size
  block : ∀ k, k ≠ g → w'.heap[k]? = w.heap[k]?
theorem Only.below {g B : Nat} {w0 w w' : World} (h : Only g w w') (hb : Below B w0 w) (hg : B ≤ g) : Below B w0 w' :=
  hb.trans ⟨h.os, h.tape, h.output, by rw [h.size]; exact Nat.le_refl _, fun k hk => h.block k (by omega)⟩
theorem Only.row {g b t n : Nat} {f : Nat → Value} {w w' : World} (h : Only g w w') (hr : w.rowIs b t n f) (hne : b ≠ g) : w'.rowIs b t n f := hr.of_block (h.block b hne)

def cellsOf (n : Nat) (f : Nat → Value) : Array Value := ((List.range n).map f).toArray
theorem size_cellsOf (n : Nat) (f : Nat → Value) : (cellsOf n f).size = n := by simp [cellsOf]
theorem cellsOf_at (n : Nat) (f : Nat → Value) (i : Nat) (h : i < n) : (cellsOf n f)[i]? = some (f i) := by simp [cellsOf, h]
theorem eq_cellsOf {n : Nat} {f : Nat → Value} {c : Array Value} (hs : c.size = n) (hc : ∀ i, i < n → c[i]? = some (f i)) : c = cellsOf n f := by
  apply Array.ext_getElem?
  intro i
  by_cases h : i < n
  · rw [hc i h, cellsOf_at n f i h]
  · rw [Array.getElem?_eq_none (by omega), Array.getElem?_eq_none (by rw [size_cellsOf]; omega)]
theorem cellsOf_congr {n : Nat} {f g : Nat → Value} (h : ∀ i, i < n → f i = g i) : cellsOf n f = cellsOf n g :=
  eq_cellsOf (size_cellsOf n f) (fun i hi => by rw [cellsOf_at n f i hi, h i hi])
theorem row_heap {w : World} {g t n : Nat} {f : Nat → Value} (h : w.rowIs g t n f) : w.heap[g]? = some (.cells (cellsOf n f) t (0, 0)) := by
  obtain ⟨c, hb, hn, hc⟩ := h
  rw [hb, eq_cellsOf hn hc]
theorem row_mk {w : World} {g t n : Nat} {f : Nat → Value} (h : w.heap[g]? = some (.cells (cellsOf n f) t (0, 0))) : w.rowIs g t n f :=
  ⟨_, h, size_cellsOf n f, fun i hi => cellsOf_at n f i hi⟩
theorem row_new (w : World) (c : Array Value) (t n : Nat) (f : Nat → Value) (hn : c.size = n) (hc : ∀ i, i < n → c[i]? = some (f i)) : (w.alloc (.cells c t)).rowIs w.heap.size t n f := by
  subst hn; exact w.rowIs_alloc c t f hc
theorem row_range {w : World} {g t n : Nat} {f : Nat → Value} (h : w.rowIs g t n f) (o m : Nat) (hm : o + m ≤ n) : w.rangeAt g o ((List.range m).map fun j => f (o + j)) := by
  intro j v hv
  have hj : j < m := by
    have := (List.getElem?_eq_some_iff.1 hv).1
    simpa using this
  rw [h.cell (by omega)]
  simpa [hj] using hv

section
variable {w : World} {ops : Array Oper} {rest : List Oper} {op : Oper} {a : Act} {Q : Exit → Act → World → Prop}
theorem load_row (hgd : op.guard = none) (ty : TypeId) (x : Operand) (ho : op.op = .load ty x) (g o t n m : Nat) (f : Nat → Value) (h : w.rowIs g t n f)
    (hx : a.eval x = .pointer (some ⟨g, o, none⟩)) (d : TypeDesc) (hu : P.underlying ty = some d) (hd : d.isRow = true) (hi : (P.info? ty).map (·.size) = some m) (hm : o + m ≤ n)
    (hK : wpList P ops Q rest (a.put op.dst (.agg (cellsOf m fun j => f (o + j)))) w) : wpList P ops Q (op :: rest) a w :=
  wpList_load_mid hgd ty x ho g o hx _ d (row_range h o m hm) hu hd (by simpa using hi) hK
theorem load_whole (hgd : op.guard = none) (ty : TypeId) (x : Operand) (ho : op.op = .load ty x) (g t n : Nat) (f : Nat → Value) (h : w.rowIs g t n f)
    (hx : a.eval x = .pointer (some ⟨g, 0, none⟩)) (d : TypeDesc) (hu : P.underlying ty = some d) (hd : d.isRow = true) (hi : (P.info? ty).map (·.size) = some n)
    (hK : wpList P ops Q rest (a.put op.dst (.agg (cellsOf n f))) w) : wpList P ops Q (op :: rest) a w := by
  refine load_row hgd ty x ho g 0 t n n f h hx d hu hd hi (by omega) ?_
  simpa only [Nat.zero_add] using hK
theorem heap_setCells_other (b : Nat) : ∀ (vs : List Value) (o : Nat) (w : World) (k : Nat), k ≠ b → (w.setCells b o vs).heap[k]? = w.heap[k]?
  | [], _, _, _, _ => rfl
  | v :: r, o, w, k, h => by
    rw [World.setCells, heap_setCells_other b r (o + 1) _ k h]
    exact Below.heap_setCell w ⟨b, o, none⟩ v k h
theorem size_setCells (b : Nat) : ∀ (vs : List Value) (o : Nat) (w : World), (w.setCells b o vs).heap.size = w.heap.size
  | [], _, _ => rfl
  | v :: r, o, w => by
    rw [World.setCells, size_setCells b r (o + 1) _]
    simp [World.setCell]
theorem only_setCells (b : Nat) : ∀ (vs : List Value) (o : Nat) (w : World), Only b w (w.setCells b o vs)
  | [], _, w => ⟨rfl, rfl, rfl, rfl, fun _ _ => rfl⟩
  | v :: r, o, w => by
    have h := only_setCells b r (o + 1) (w.setCell ⟨b, o, none⟩ v)
    rw [World.setCells]
    exact ⟨h.os, h.tape, h.output, by rw [h.size]; simp [World.setCell], fun k hk => (h.block k hk).trans (Below.heap_setCell w ⟨b, o, none⟩ v k hk)⟩
theorem row_setCells {g t n : Nat} : ∀ (vs : List Value) (o : Nat) (w : World) (f c : Nat → Value), w.rowIs g t n f → (∀ i, i < vs.length → vs[i]? = some (c i)) →
    (w.setCells g o vs).rowIs g t n (fun j => if o ≤ j ∧ j < o + vs.length then c (j - o) else f j)
  | [], o, w, f, c, h, _ => h.congr (fun i _ => by rw [if_neg (by intro hh; have := hh.2; simp at this; omega)])
  | v :: r, o, w, f, c, h, hc => by
    rw [World.setCells]
    have h1 := h.set o v
    have h2 := row_setCells (g := g) (t := t) (n := n) r (o + 1) _ _ (fun i => c (i + 1)) h1 (fun i hi => by
      have := hc (i + 1) (by simp; omega)
      simpa using this)
    refine h2.congr (fun j hj => ?_)
    have h0 : v = c 0 := by have := hc 0 (by simp); simpa using this
    by_cases e1 : o + 1 ≤ j ∧ j < o + 1 + r.length
    · rw [if_pos e1, if_pos (by simp; omega), show j - (o + 1) + 1 = j - o by omega]
    · rw [if_neg e1]
      by_cases e2 : j = o
      · subst e2
        rw [if_pos rfl, if_pos (by simp), Nat.sub_self, h0]
      · rw [if_neg e2, if_neg (by simp; omega)]
theorem store_row (hgd : op.guard = none) (ty : TypeId) (x y : Operand) (ho : op.op = .store ty x y) (g o t n m : Nat) (f c : Nat → Value) (h : w.rowIs g t n f)
    (hx : a.eval x = .pointer (some ⟨g, o, none⟩)) (cells : Array Value) (hy : a.eval y = .agg cells) (hi : (P.info? ty).map (·.size) = some m) (hm : o + m ≤ n)
    (hs : cells.size = m) (hc : ∀ i, i < m → cells[i]? = some (c i)) (h1 : ∀ i, i < m → (c i).oneCell' = true)
    (hK : ∀ w', w'.rowIs g t n (fun j => if o ≤ j ∧ j < o + m then c (j - o) else f j) → Only g w w' → wpList P ops Q rest (a.put op.dst undef) w') : wpList P ops Q (op :: rest) a w := by
  refine wpList_store_mid hgd ty x y ho g o cells hx hy (fun j hj => ?_) (by rw [hs]; exact hi) ?_ (hK _ ?_ (only_setCells g _ o w))
  · rw [h.cell (by omega)]; exact ⟨rfl, h.frozen _⟩
  · refine Array.all_eq_true_iff_forall_mem.2 (fun v hv => ?_)
    obtain ⟨i, hi', rfl⟩ := Array.mem_iff_getElem.1 hv
    have := hc i (by omega)
    rw [Array.getElem?_eq_getElem hi'] at this
    rw [Option.some.inj this]
    exact h1 i (by omega)
  · have := row_setCells (g := g) (t := t) (n := n) cells.toList o w f c h (fun i hi' => by
      have := hc i (by simp at hi'; omega)
      simpa using this)
    simpa [hs] using this
theorem store_whole (hgd : op.guard = none) (ty : TypeId) (x y : Operand) (ho : op.op = .store ty x y) (g t n : Nat) (f c : Nat → Value) (h : w.rowIs g t n f)
    (hx : a.eval x = .pointer (some ⟨g, 0, none⟩)) (cells : Array Value) (hy : a.eval y = .agg cells) (hi : (P.info? ty).map (·.size) = some n)
    (hs : cells.size = n) (hc : ∀ i, i < n → cells[i]? = some (c i)) (h1 : ∀ i, i < n → (c i).oneCell' = true)
    (hK : ∀ w', w'.rowIs g t n c → Only g w w' → wpList P ops Q rest (a.put op.dst undef) w') : wpList P ops Q (op :: rest) a w := by
  refine store_row hgd ty x y ho g 0 t n n f c h hx cells hy hi (by omega) hs hc h1 (fun w' hr ho' => hK w' (hr.congr (fun i hi' => ?_)) ho')
  rw [if_pos (by omega)]; rfl
theorem results_row {fn : Func} {p : Tmp} {ty : TypeId} (hf : fn.results = #[.cell p ty]) (tmps : Array Value) (g t n : Nat) (f : Nat → Value) (d : TypeDesc)
    (hp : tmps.getD p undef = .pointer (some ⟨g, 0, none⟩)) (h : w.rowIs g t n f) (hu : P.underlying ty = some d) (hd : d.isRow = true) (hi : (P.info? ty).map (·.size) = some n) :
    (results fn tmps).run P w = .ok (.agg (cellsOf n f)) w :=
  results_cell_row hf tmps w g t _ (0, 0) d hp (row_heap h) hu (by cases d <;> simp_all [TypeDesc.isRow]) (by rw [size_cellsOf]; exact hi)
/-- An array's element, the array a value. -/
theorem run_index (ty len elem : Nat) (hu : P.underlying ty = some (.array len elem)) (d : TypeDesc) (he : P.underlying elem = some d) (hd : d.isRow = false) (hi : (P.info? elem).map (·.size) = some 1)
    (C : Array Value) (i : Nat) (hlt : i < len) (v : Value) (hv : C[i]? = some v) (k : IntKind) (W : World) : (Instr.index ty (.agg C) (.int k (i : Int))).run P W = .ok v W := by
  cases hq : P.info? elem with
  | none => simp [hq] at hi
  | some t =>
    have hs : t.size = 1 := by simpa [hq] using hi
    have hagg : (isAgg elem).run P W = .ok false W := by
      unfold isAgg
      rw [Sem.run_bind, run_underlying he W]
      cases d <;> simp_all
    simp [Instr.index, asIntOf, Sem.run_bind, run_underlying hu W, Result.andThen, sizeOf, typeInfo, hq, hs, part, hagg, hv]
    intro hge
    omega
theorem results_row_tmp {fn : Func} {p u : Tmp} {ty : TypeId} (hf : fn.results = #[.cell p ty, .tmp u]) (tmps : Array Value) (g t n : Nat) (f : Nat → Value) (d : TypeDesc)
    (hp : tmps.getD p undef = .pointer (some ⟨g, 0, none⟩)) (h : w.rowIs g t n f) (hu : P.underlying ty = some d) (hd : d.isRow = true) (hi : (P.info? ty).map (·.size) = some n) :
    (results fn tmps).run P w = .ok (.tuple #[.agg (cellsOf n f), tmps.getD u undef]) w := by
  have hl : (loadVar ty ⟨g, 0, none⟩).run P w = .ok (.agg (cellsOf n f)) w :=
    run_loadVar_row w g t ty _ (0, 0) d (row_heap h) hu (by cases d <;> simp_all [TypeDesc.isRow]) (by rw [size_cellsOf]; exact hi)
  rw [results_cell_tmp hf tmps P w, hp]
  simp [asAddr, Result.andThen, hl]
end
end Go.Proofs.YtpnkcacmmjmehaaDoor.Aid
