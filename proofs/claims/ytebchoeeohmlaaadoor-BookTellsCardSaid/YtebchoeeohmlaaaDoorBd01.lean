/-
  Small aids for walks: regions that draw their order and only read, or read and then write in one order (the world behind the draw as 'w.drew'); whole arrays out of rows and into rows, the content by the index. What a name is, as a function. Books as lists: which operations may be, what each makes of a book, which operations make a book of nothing. A slice of elements of several cells each. A region that draws its order, whose first operation yields the same in every world ('h.f = g(h.f)': h is looked up first, and used last), whose others read before one that writes, and whose rest comes in one order. The thought: once the first operation is done, an edge more from the first writing operation to it changes nothing; with that edge the library's theorem on regions that read and then write serves. '==' between two arrays of numbers that are the same. A region that draws its order: two operations that yield the same in every world are taken first; the rest comes in one order, whatever the numbers. '==' between any two arrays of bytes; between two arrays of arrays of bytes that are the same. Tables as lists, the oldest first: what Put, Get and Drop make of them; the keys alone. A key's place in a list of keys; a list of values that lies anywhere. 'b[lo:]' and 'b[:m]' of a slice whose elements are one cell each, of none too.
-/
import Derived.WalkKit
import Derived.StillTailTactics
import Derived.Deep.OwnRows
import Derived.Deep.MidRow
import Derived.Lib.Hide
import Derived.IntWalk
namespace Go.Proofs.YtebchoeeohmlaaaDoor.Aid
open Go Go.RowKit
variable {P : Program}
theorem region_still {id : Nat} {Q : Exit → Act → World → Prop} {a : Act} {w : World} {l : List Oper} (hm : P.follows .mixedOrders = true) (hB : Region.lexB .any l.toArray = true)
    (h : wpStill P l.toArray w.drew (fun a' => Q .normal a' w.drew) l a) : (Code.region id l.toArray true).wp P Q a w :=
  wp_region_still_lit hm hB h
theorem region_tail {id : Nat} {Q : Exit → Act → World → Prop} {a : Act} {w : World} {l : List Oper} (n : Nat) (hm : P.follows .mixedOrders = true) (hB : Region.lexTailB .any l.toArray n = true)
    (h : wpStill P l.toArray w.drew (fun a' => wpList P l.toArray Q (l.drop n) a' w.drew) (l.take n) a) : (Code.region id l.toArray true).wp P Q a w :=
  wp_region_still_tail n hm hB h

/-- Only block g may have turned; nothing was made. -/
structure Only (g : Nat) (w w' : World) : Prop where
  os : w'.os = w.os
  tape : w'.tape = w.tape
  output : w'.output = w.output
  size : w'.heap.size = w.heap.size
  block : ∀ k, k ≠ g → w'.heap[k]? = w.heap[k]?
theorem Only.below {g B : Nat} {w0 w w' : World} (h : Only g w w') (hb : Below B w0 w) (hg : B ≤ g) : Below B w0 w' :=
  hb.trans ⟨h.os, h.tape, h.output, by rw [h.size]; exact Nat.le_refl _, fun k hk => h.block k (by omega)⟩
theorem Only.row {g b t n : Nat} {f : Nat → Value} {w w' : World} (h : Only g w w') (hr : w.rowIs b t n f) (hne : b ≠ g) : w'.rowIs b t n f := hr.of_block (h.block b hne)

def cellsOf (n : Nat) (f : Nat → Value) : Array Value := ((List.range n).map f).toArray
theorem size_cellsOf (n : Nat) (f : Nat → Value) : (cellsOf n f).size = n := by simp [cellsOf]
theorem cellsOf_at (n : Nat) (f : Nat → Value) (i : Nat) (h : i < n) : (cellsOf n f)[i]? = some (f i) := by simp [cellsOf, h]
theorem eq_cellsOf {n : Nat} {f : Nat → Value} {c : Array Value} (hs : c.size = n) (hc : ∀ i, i < n → c[i]? = some (f i)) : c = cellsOf n f := by
  apply Array.ext_getElem?
  intro i
  by_cases h : i < n
  · rw [hc i h, cellsOf_at n f i h]
  · rw [Array.getElem?_eq_none (by omega), Array.getElem?_eq_none (by rw [size_cellsOf]; omega)]
theorem cellsOf_congr {n : Nat} {f g : Nat → Value} (h : ∀ i, i < n → f i = g i) : cellsOf n f = cellsOf n g :=
  eq_cellsOf (size_cellsOf n f) (fun i hi => by rw [cellsOf_at n f i hi, h i hi])
theorem row_heap {w : World} {g t n : Nat} {f : Nat → Value} (h : w.rowIs g t n f) : w.heap[g]? = some (.cells (cellsOf n f) t (0, 0)) := by
  obtain ⟨c, hb, hn, hc⟩ := h
  rw [hb, eq_cellsOf hn hc]
theorem row_mk {w : World} {g t n : Nat} {f : Nat → Value} (h : w.heap[g]? = some (.cells (cellsOf n f) t (0, 0))) : w.rowIs g t n f :=
  ⟨_, h, size_cellsOf n f, fun i hi => cellsOf_at n f i hi⟩
theorem row_new (w : World) (c : Array Value) (t n : Nat) (f : Nat → Value) (hn : c.size = n) (hc : ∀ i, i < n → c[i]? = some (f i)) : (w.alloc (.cells c t)).rowIs w.heap.size t n f := by
  subst hn; exact w.rowIs_alloc c t f hc
theorem row_range {w : World} {g t n : Nat} {f : Nat → Value} (h : w.rowIs g t n f) (o m : Nat) (hm : o + m ≤ n) : w.rangeAt g o ((List.range m).map fun j => f (o + j)) := by
  intro j v hv
  have hj : j < m := by
    have := (List.getElem?_eq_some_iff.1 hv).1
    simpa using this
  rw [h.cell (by omega)]
  simpa [hj] using hv

section
variable {w : World} {ops : Array Oper} {rest : List Oper} {op : Oper} {a : Act} {Q : Exit → Act → World → Prop}
theorem load_row (hgd : op.guard = none) (ty : TypeId) (x : Operand) (ho : op.op = .load ty x) (g o t n m : Nat) (f : Nat → Value) (h : w.rowIs g t n f)
    (hx : a.eval x = .pointer (some ⟨g, o, none⟩)) (d : TypeDesc) (hu : P.underlying ty = some d) (hd : d.isRow = true) (hi : (P.info? ty).map (·.size) = some m) (hm : o + m ≤ n)
    (hK : wpList P ops Q rest (a.put op.dst (.agg (cellsOf m fun j => f (o + j)))) w) : wpList P ops Q (op :: rest) a w :=
  wpList_load_mid hgd ty x ho g o hx _ d (row_range h o m hm) hu hd (by simpa using hi) hK
theorem load_whole (hgd : op.guard = none) (ty : TypeId) (x : Operand) (ho : op.op = .load ty x) (g t n : Nat) (f : Nat → Value) (h : w.rowIs g t n f)
    (hx : a.eval x = .pointer (some ⟨g, 0, none⟩)) (d : TypeDesc) (hu : P.underlying ty = some d) (hd : d.isRow = true) (hi : (P.info? ty).map (·.size) = some n)
    (hK : wpList P ops Q rest (a.put op.dst (.agg (cellsOf n f))) w) : wpList P ops Q (op :: rest) a w := by
  refine load_row hgd ty x ho g 0 t n n f h hx d hu hd hi (by omega) ?_
  simpa only [Nat.zero_add] using hK
theorem heap_setCells_other (b : Nat) : ∀ (vs : List Value) (o : Nat) (w : World) (k : Nat), k ≠ b → (w.setCells b o vs).heap[k]? = w.heap[k]?
  | [], _, _, _, _ => rfl
  | v :: r, o, w, k, h => by
    rw [World.setCells, heap_setCells_other b r (o + 1) _ k h]
    exact Below.heap_setCell w ⟨b, o, none⟩ v k h
theorem size_setCells (b : Nat) : ∀ (vs : List Value) (o : Nat) (w : World), (w.setCells b o vs).heap.size = w.heap.size
  | [], _, _ => rfl
  | v :: r, o, w => by
    rw [World.setCells, size_setCells b r (o + 1) _]
    simp [World.setCell]
theorem only_setCells (b : Nat) : ∀ (vs : List Value) (o : Nat) (w : World), Only b w (w.setCells b o vs)
  | [], _, w => ⟨rfl, rfl, rfl, rfl, fun _ _ => rfl⟩
  | v :: r, o, w => by
    have h := only_setCells b r (o + 1) (w.setCell ⟨b, o, none⟩ v)
    rw [World.setCells]
    exact ⟨h.os, h.tape, h.output, by rw [h.size]; simp [World.setCell], fun k hk => (h.block k hk).trans (Below.heap_setCell w ⟨b, o, none⟩ v k hk)⟩
theorem row_setCells {g t n : Nat} : ∀ (vs : List Value) (o : Nat) (w : World) (f c : Nat → Value), w.rowIs g t n f → (∀ i, i < vs.length → vs[i]? = some (c i)) →
    (w.setCells g o vs).rowIs g t n (fun j => if o ≤ j ∧ j < o + vs.length then c (j - o) else f j)
  | [], o, w, f, c, h, _ => h.congr (fun i _ => by rw [if_neg (by intro hh; have := hh.2; simp at this; omega)])
  | v :: r, o, w, f, c, h, hc => by
    rw [World.setCells]
    have h1 := h.set o v
    have h2 := row_setCells (g := g) (t := t) (n := n) r (o + 1) _ _ (fun i => c (i + 1)) h1 (fun i hi => by
      have := hc (i + 1) (by simp; omega)
      simpa using this)
    refine h2.congr (fun j hj => ?_)
    have h0 : v = c 0 := by have := hc 0 (by simp); simpa using this
    by_cases e1 : o + 1 ≤ j ∧ j < o + 1 + r.length
    · rw [if_pos e1, if_pos (by simp; omega), show j - (o + 1) + 1 = j - o by omega]
    · rw [if_neg e1]
      by_cases e2 : j = o
      · subst e2
        rw [if_pos rfl, if_pos (by simp), Nat.sub_self, h0]
      · rw [if_neg e2, if_neg (by simp; omega)]
theorem store_row (hgd : op.guard = none) (ty : TypeId) (x y : Operand) (ho : op.op = .store ty x y) (g o t n m : Nat) (f c : Nat → Value) (h : w.rowIs g t n f)
    (hx : a.eval x = .pointer (some ⟨g, o, none⟩)) (cells : Array Value) (hy : a.eval y = .agg cells) (hi : (P.info? ty).map (·.size) = some m) (hm : o + m ≤ n)
    (hs : cells.size = m) (hc : ∀ i, i < m → cells[i]? = some (c i)) (h1 : ∀ i, i < m → (c i).oneCell' = true)
    (hK : ∀ w', w'.rowIs g t n (fun j => if o ≤ j ∧ j < o + m then c (j - o) else f j) → Only g w w' → wpList P ops Q rest (a.put op.dst undef) w') : wpList P ops Q (op :: rest) a w := by
  refine wpList_store_mid hgd ty x y ho g o cells hx hy (fun j hj => ?_) (by rw [hs]; exact hi) ?_ (hK _ ?_ (only_setCells g _ o w))
  · rw [h.cell (by omega)]; exact ⟨rfl, h.frozen _⟩
  · refine Array.all_eq_true_iff_forall_mem.2 (fun v hv => ?_)
    obtain ⟨i, hi', rfl⟩ := Array.mem_iff_getElem.1 hv
    have := hc i (by omega)
    rw [Array.getElem?_eq_getElem hi'] at this
    rw [Option.some.inj this]
    exact h1 i (by omega)
  · have := row_setCells (g := g) (t := t) (n := n) cells.toList o w f c h (fun i hi' => by
      have := hc i (by simp at hi'; omega)
      simpa using this)
    simpa [hs] using this
theorem store_whole (hgd : op.guard = none) (ty : TypeId) (x y : Operand) (ho : op.op = .store ty x y) (g t n : Nat) (f c : Nat → Value) (h : w.rowIs g t n f)
    (hx : a.eval x = .pointer (some ⟨g, 0, none⟩)) (cells : Array Value) (hy : a.eval y = .agg cells) (hi : (P.info? ty).map (·.size) = some n)
    (hs : cells.size = n) (hc : ∀ i, i < n → cells[i]? = some (c i)) (h1 : ∀ i, i < n → (c i).oneCell' = true)
    (hK : ∀ w', w'.rowIs g t n c → Only g w w' → wpList P ops Q rest (a.put op.dst undef) w') : wpList P ops Q (op :: rest) a w := by
  refine store_row hgd ty x y ho g 0 t n n f c h hx cells hy hi (by omega) hs hc h1 (fun w' hr ho' => hK w' (hr.congr (fun i hi' => ?_)) ho')
  rw [if_pos (by omega)]; rfl
theorem results_row {fn : Func} {p : Tmp} {ty : TypeId} (hf : fn.results = #[.cell p ty]) (tmps : Array Value) (g t n : Nat) (f : Nat → Value) (d : TypeDesc)
    (hp : tmps.getD p undef = .pointer (some ⟨g, 0, none⟩)) (h : w.rowIs g t n f) (hu : P.underlying ty = some d) (hd : d.isRow = true) (hi : (P.info? ty).map (·.size) = some n) :
    (results fn tmps).run P w = .ok (.agg (cellsOf n f)) w :=
  results_cell_row hf tmps w g t _ (0, 0) d hp (row_heap h) hu (by cases d <;> simp_all [TypeDesc.isRow]) (by rw [size_cellsOf]; exact hi)
/-- An array's element, the array a value. -/
theorem run_index (ty len elem : Nat) (hu : P.underlying ty = some (.array len elem)) (d : TypeDesc) (he : P.underlying elem = some d) (hd : d.isRow = false) (hi : (P.info? elem).map (·.size) = some 1)
    (C : Array Value) (i : Nat) (hlt : i < len) (v : Value) (hv : C[i]? = some v) (k : IntKind) (W : World) : (Instr.index ty (.agg C) (.int k (i : Int))).run P W = .ok v W := by
  cases hq : P.info? elem with
  | none => simp [hq] at hi
  | some t =>
    have hs : t.size = 1 := by simpa [hq] using hi
    have hagg : (isAgg elem).run P W = .ok false W := by
      unfold isAgg
      rw [Sem.run_bind, run_underlying he W]
      cases d <;> simp_all
    simp [Instr.index, asIntOf, Sem.run_bind, run_underlying hu W, Result.andThen, sizeOf, typeInfo, hq, hs, part, hagg, hv]
    intro hge
    omega
theorem results_row_tmp {fn : Func} {p u : Tmp} {ty : TypeId} (hf : fn.results = #[.cell p ty, .tmp u]) (tmps : Array Value) (g t n : Nat) (f : Nat → Value) (d : TypeDesc)
    (hp : tmps.getD p undef = .pointer (some ⟨g, 0, none⟩)) (h : w.rowIs g t n f) (hu : P.underlying ty = some d) (hd : d.isRow = true) (hi : (P.info? ty).map (·.size) = some n) :
    (results fn tmps).run P w = .ok (.tuple #[.agg (cellsOf n f), tmps.getD u undef]) w := by
  have hl : (loadVar ty ⟨g, 0, none⟩).run P w = .ok (.agg (cellsOf n f)) w :=
    run_loadVar_row w g t ty _ (0, 0) d (row_heap h) hu (by cases d <;> simp_all [TypeDesc.isRow]) (by rw [size_cellsOf]; exact hi)
  rw [results_cell_tmp hf tmps P w, hp]
  simp [asAddr, Result.andThen, hl]
end
end Go.Proofs.YtebchoeeohmlaaaDoor.Aid
namespace Go.Proofs.YtebchoeeohmlaaaDoor.Field
open Go Go.RowKit

/-- May a byte stand in a name? -/
def charB (x : Nat) : Bool := decide (97 ≤ x ∧ x ≤ 122) || decide (48 ≤ x ∧ x ≤ 57)
def nameB (s : ByteArray) : Bool := decide (1 ≤ s.size ∧ s.size ≤ 20 ∧ ∀ j, (h : j < s.size) → charB s[j].toNat = true)
end Go.Proofs.YtebchoeeohmlaaaDoor.Field
namespace Go.Proofs.YtebchoeeohmlaaaDoor.Book
open Go Go.RowKit Go.Proofs.YtebchoeeohmlaaaDoor.Field

abbrev Wd := List (BitVec 8)
def zw : Wd := List.replicate 16 0
def nos : ByteArray := ⟨#[]⟩
structure OpB where
  kind : Int
  name : ByteArray
  key : Wd
  gen : Int
structure Bk where
  L : List (ByteArray × Wd)
  rev : List Wd
  gen : Int
  own : Wd
def bk0 : Bk := ⟨[], [], 0, zw⟩
def rightB (x : OpB) : Bool :=
  decide (1 ≤ x.kind ∧ x.kind ≤ 5) && ((if x.kind ≤ 3 then nameB x.name else decide (x.name = nos)) && (decide (x.kind = 2 → x.key = zw) && (if x.kind = 5 then decide (1 ≤ x.gen ∧ x.gen ≤ 2147483647) else decide (x.gen = 0))))
def namesB (L : List (ByteArray × Wd)) : List ByteArray := L.map Prod.fst
def hasG {α : Type} [DecidableEq α] (l : List α) (n : α) : Bool := decide (n ∈ l)
theorem hasG_no {α : Type} [DecidableEq α] {l : List α} {n : α} (h : hasG l n = false) : n ∉ l := of_decide_eq_false h
theorem hasG_none {α : Type} [DecidableEq α] {l : List α} {n : α} (h : n ∉ l) : hasG l n = false := decide_eq_false h
def hasN (L : List (ByteArray × Wd)) (n : ByteArray) : Bool := hasG (namesB L) n
def rmN (n : ByteArray) : List (ByteArray × Wd) → List (ByteArray × Wd)
  | [] => []
  | p :: l => if p.1 = n then l else p :: rmN n l
def reN (n : ByteArray) (k : Wd) : List (ByteArray × Wd) → List (ByteArray × Wd)
  | [] => []
  | p :: l => if p.1 = n then (p.1, k) :: l else p :: reN n k l
def keyB (n : ByteArray) : List (ByteArray × Wd) → Wd
  | [] => zw
  | p :: l => if p.1 = n then p.2 else keyB n l
def applyC (b : Bk) (x : OpB) : Int :=
  if rightB x = false then 3
  else if x.kind = 1 then (if hasN b.L x.name then 5 else if 50 ≤ b.L.length then 7 else 0)
  else if x.kind = 2 ∨ x.kind = 3 then (if hasN b.L x.name then 0 else 4)
  else if x.kind = 4 then (if x.key ∈ b.rev then 5 else if 200 ≤ b.rev.length then 7 else 0)
  else if x.gen ≤ b.gen then 5 else 0
def doneB (b : Bk) (x : OpB) : Bk :=
  if x.kind = 1 then { b with L := b.L ++ [(x.name, x.key)] }
  else if x.kind = 2 then { b with L := rmN x.name b.L }
  else if x.kind = 3 then { b with L := reN x.name x.key b.L }
  else if x.kind = 4 then { b with rev := b.rev ++ [x.key] }
  else { b with gen := x.gen, own := x.key }
def applyB (b : Bk) (x : OpB) : Bk := if applyC b x = 0 then doneB b x else b
def opsB (b : Bk) : List OpB :=
  b.L.map (fun p => ⟨1, p.1, p.2, 0⟩) ++ (b.rev.map (fun k => ⟨4, nos, k, 0⟩) ++ if 0 < b.gen then [⟨5, nos, b.own, b.gen⟩] else [])
/-- All operations, none with an error. -/
def runB : Bk → List OpB → Option Bk
  | b, [] => some b
  | b, x :: l => if applyC b x = 0 then runB (applyB b x) l else none
structure Reach (b : Bk) : Prop where
  names : (namesB b.L).Nodup
  right : ∀ p ∈ b.L, nameB p.1 = true ∧ p.2.length = 16
  most : b.L.length ≤ 50
  rev : b.rev.Nodup
  words : ∀ k ∈ b.rev, k.length = 16
  revs : b.rev.length ≤ 200
  gen : 0 ≤ b.gen ∧ b.gen ≤ 2147483647
  own : b.gen = 0 → b.own = zw
  ownLen : b.own.length = 16
theorem reach0 : Reach bk0 := ⟨List.nodup_nil, fun _ h => (by cases h), by decide, List.nodup_nil, fun _ h => (by cases h), by decide, ⟨by decide, by decide⟩, fun _ => rfl, rfl⟩
theorem right_kind {x : OpB} (h : rightB x = true) : 1 ≤ x.kind ∧ x.kind ≤ 5 := by
  unfold rightB at h
  simp only [Bool.and_eq_true, decide_eq_true_eq] at h
  exact h.1
theorem right_name {x : OpB} (h : rightB x = true) (hk : x.kind ≤ 3) : nameB x.name = true := by
  unfold rightB at h
  rw [if_pos hk] at h
  simp only [Bool.and_eq_true] at h
  exact h.2.1
theorem right_gen {x : OpB} (h : rightB x = true) (hk : x.kind = 5) : 1 ≤ x.gen ∧ x.gen ≤ 2147483647 := by
  unfold rightB at h
  rw [if_pos hk] at h
  simp only [Bool.and_eq_true, decide_eq_true_eq] at h
  exact h.2.2.2
theorem apply_right {b : Bk} {x : OpB} (h : applyC b x = 0) : rightB x = true := by
  unfold applyC at h
  cases hr : rightB x with
  | true => rfl
  | false => rw [hr, if_pos rfl] at h; cases h
theorem rm_sub (n : ByteArray) : ∀ (l : List (ByteArray × Wd)), (rmN n l).Sublist l
  | [] => List.Sublist.refl _
  | p :: l => by
    unfold rmN
    split
    · exact List.sublist_cons_self _ _
    · exact (rm_sub n l).cons_cons _
theorem re_names (n : ByteArray) (k : Wd) : ∀ (l : List (ByteArray × Wd)), namesB (reN n k l) = namesB l
  | [] => rfl
  | p :: l => by
    unfold reN
    split
    · rfl
    · show p.1 :: namesB (reN n k l) = p.1 :: namesB l
      rw [re_names n k l]
theorem re_len (n : ByteArray) (k : Wd) (l : List (ByteArray × Wd)) : (reN n k l).length = l.length := by
  have := congrArg List.length (re_names n k l)
  simpa [namesB] using this
theorem re_mem (n : ByteArray) (k : Wd) : ∀ (l : List (ByteArray × Wd)) (p : ByteArray × Wd), p ∈ reN n k l → (∃ q ∈ l, q.1 = p.1) ∧ (p.2 = k ∨ p ∈ l)
  | [], p, h => by cases h
  | q :: l, p, h => by
    unfold reN at h
    split at h
    · rcases List.mem_cons.1 h with rfl | h1
      · exact ⟨⟨q, List.mem_cons_self .., rfl⟩, .inl rfl⟩
      · exact ⟨⟨p, List.mem_cons_of_mem _ h1, rfl⟩, .inr (List.mem_cons_of_mem _ h1)⟩
    · rcases List.mem_cons.1 h with rfl | h1
      · exact ⟨⟨p, List.mem_cons_self .., rfl⟩, .inr (List.mem_cons_self ..)⟩
      · obtain ⟨⟨r, hr, e⟩, h2⟩ := re_mem n k l p h1
        exact ⟨⟨r, List.mem_cons_of_mem _ hr, e⟩, h2.imp_right (List.mem_cons_of_mem _)⟩
theorem reach_apply {b : Bk} (h : Reach b) (x : OpB) (hx : x.key.length = 16) : Reach (applyB b x) := by
  unfold applyB
  by_cases hc : applyC b x = 0
  · rw [if_pos hc]
    have hr := apply_right hc
    have hk := right_kind hr
    unfold applyC at hc
    rw [hr] at hc
    simp only [Bool.true_eq_false, if_false] at hc
    unfold doneB
    by_cases h1 : x.kind = 1
    · rw [if_pos h1] at hc ⊢
      cases hh : hasN b.L x.name with
      | true => rw [hh] at hc; simp at hc
      | false =>
        rw [hh] at hc
        simp only [Bool.false_eq_true, if_false] at hc
        have hn : x.name ∉ namesB b.L := hasG_no hh
        have hl : ¬ 50 ≤ b.L.length := fun h50 => by rw [if_pos h50] at hc; cases hc
        refine ⟨?_, fun p hp => ?_, by simp; omega, h.rev, h.words, h.revs, h.gen, h.own, h.ownLen⟩
        · show ((b.L ++ [(x.name, x.key)]).map Prod.fst).Nodup
          rw [List.map_append]
          refine List.nodup_append.2 ⟨h.names, by simp, fun a ha c hc' => ?_⟩
          simp at hc'
          subst hc'
          exact fun e => hn (e ▸ ha)
        · rcases List.mem_append.1 hp with h2 | h2
          · exact h.right p h2
          · rw [List.mem_singleton.1 h2]
            exact ⟨right_name hr (by omega), hx⟩
    · rw [if_neg h1] at hc ⊢
      by_cases h2 : x.kind = 2
      · rw [if_pos h2]
        have hs := rm_sub x.name b.L
        exact ⟨List.Nodup.sublist (hs.map _) h.names, fun p hp => h.right p (hs.subset hp), Nat.le_trans hs.length_le h.most, h.rev, h.words, h.revs, h.gen, h.own, h.ownLen⟩
      · rw [if_neg h2]
        by_cases h3 : x.kind = 3
        · rw [if_pos h3]
          refine ⟨by show (namesB (reN x.name x.key b.L)).Nodup; rw [re_names]; exact h.names, fun p hp => ?_, by show (reN x.name x.key b.L).length ≤ 50; rw [re_len]; exact h.most, h.rev, h.words, h.revs, h.gen, h.own, h.ownLen⟩
          obtain ⟨⟨q, hq, e⟩, h4⟩ := re_mem x.name x.key b.L p hp
          refine ⟨by rw [← e]; exact (h.right q hq).1, ?_⟩
          rcases h4 with h4 | h4
          · rw [h4]; exact hx
          · exact (h.right p h4).2
        · rw [if_neg h3]
          rw [if_neg (by omega)] at hc
          by_cases h4 : x.kind = 4
          · rw [if_pos h4] at hc ⊢
            have hn : x.key ∉ b.rev := fun hm => by rw [if_pos hm] at hc; cases hc
            rw [if_neg hn] at hc
            have hl : ¬ 200 ≤ b.rev.length := fun h50 => by rw [if_pos h50] at hc; cases hc
            refine ⟨h.names, h.right, h.most, List.nodup_append.2 ⟨h.rev, by simp, fun a ha c hc' => ?_⟩, fun k hk' => ?_, by simp; omega, h.gen, h.own, h.ownLen⟩
            · rw [List.mem_singleton.1 hc']
              exact fun e => hn (e ▸ ha)
            · rcases List.mem_append.1 hk' with h5 | h5
              · exact h.words k h5
              · rw [List.mem_singleton.1 h5]; exact hx
          · rw [if_neg h4]
            have hg := right_gen hr (by omega)
            exact ⟨h.names, h.right, h.most, h.rev, h.words, h.revs, by show 0 ≤ x.gen ∧ x.gen ≤ 2147483647; omega, fun e => by have : x.gen = 0 := e; omega, hx⟩
  · rw [if_neg hc]; exact h
/-- Generations never fall; what is revoked stays so. -/
theorem apply_gen (b : Bk) (x : OpB) : b.gen ≤ (applyB b x).gen ∧ ((applyB b x).gen = b.gen → (applyB b x).own = b.own) := by
  unfold applyB
  by_cases hc : applyC b x = 0
  · rw [if_pos hc]
    have hr := apply_right hc
    have hk := right_kind hr
    unfold applyC at hc
    rw [hr] at hc
    simp only [Bool.true_eq_false, if_false] at hc
    unfold doneB
    by_cases h1 : x.kind = 1
    · rw [if_pos h1]; exact ⟨Int.le_refl _, fun _ => rfl⟩
    · rw [if_neg h1] at hc ⊢
      by_cases h2 : x.kind = 2
      · rw [if_pos h2]; exact ⟨Int.le_refl _, fun _ => rfl⟩
      · rw [if_neg h2]
        by_cases h3 : x.kind = 3
        · rw [if_pos h3]; exact ⟨Int.le_refl _, fun _ => rfl⟩
        · rw [if_neg h3]
          rw [if_neg (by omega)] at hc
          by_cases h4 : x.kind = 4
          · rw [if_pos h4]; exact ⟨Int.le_refl _, fun _ => rfl⟩
          · rw [if_neg h4] at hc ⊢
            have hl : ¬ x.gen ≤ b.gen := fun h5 => by rw [if_pos h5] at hc; cases hc
            exact ⟨by show b.gen ≤ x.gen; omega, fun e => by have e' : x.gen = b.gen := e; omega⟩
  · rw [if_neg hc]; exact ⟨Int.le_refl _, fun _ => rfl⟩
theorem apply_dead (b : Bk) (x : OpB) (k : Wd) (hk : k ∈ b.rev) : k ∈ (applyB b x).rev := by
  unfold applyB doneB
  repeat' split
  all_goals first
    | exact hk
    | exact List.mem_append_left _ hk
theorem apply_err {b : Bk} {x : OpB} (h : applyC b x ≠ 0) : applyB b x = b := if_neg h
/-- Ops, applied to nothing, make the book. -/
theorem run_append (b : Bk) (l l' : List OpB) : runB b (l ++ l') = (runB b l).bind fun c => runB c l' := by
  induction l generalizing b with
  | nil => rfl
  | cons x l ih =>
    rw [List.cons_append, runB, runB]
    split
    · exact ih _
    · rfl
theorem run_adds : ∀ (l : List (ByteArray × Wd)) (c : Bk), (namesB (c.L ++ l)).Nodup → (∀ p ∈ l, nameB p.1 = true) → (c.L ++ l).length ≤ 50 → runB c (l.map fun p => ⟨1, p.1, p.2, 0⟩) = some { c with L := c.L ++ l }
  | [], c, _, _, _ => by rw [List.map_nil, runB, List.append_nil]
  | p :: l, c, hn, hr, hl => by
    have hrt : rightB ⟨1, p.1, p.2, 0⟩ = true := by
      unfold rightB
      simp [hr p (List.mem_cons_self ..)]
    have hnot : hasN c.L p.1 = false := by
      refine hasG_none fun hm => ?_
      unfold namesB at hn
      rw [List.map_append] at hn
      exact (List.nodup_append.1 hn).2.2 p.1 hm p.1 (List.mem_cons_self ..) rfl
    have hc : applyC c ⟨1, p.1, p.2, 0⟩ = 0 := by
      unfold applyC
      rw [hrt, if_neg (by simp), if_pos rfl, hnot, if_neg (by simp), if_neg (by simp at hl; omega)]
    rw [List.map_cons, runB, if_pos hc]
    unfold applyB
    rw [if_pos hc]
    unfold doneB
    rw [if_pos rfl, run_adds l _ (by simpa using hn) (fun q hq => hr q (List.mem_cons_of_mem _ hq)) (by simpa using hl)]
    simp
theorem run_revs : ∀ (l : List Wd) (c : Bk), (c.rev ++ l).Nodup → (c.rev ++ l).length ≤ 200 → runB c (l.map fun k => ⟨4, nos, k, 0⟩) = some { c with rev := c.rev ++ l }
  | [], c, _, _ => by rw [List.map_nil, runB, List.append_nil]
  | k :: l, c, hn, hl => by
    have hrt : rightB ⟨4, nos, k, 0⟩ = true := by
      unfold rightB
      simp
    have hnot : k ∉ c.rev := fun hm => (List.nodup_append.1 hn).2.2 k hm k (List.mem_cons_self ..) rfl
    have hc : applyC c ⟨4, nos, k, 0⟩ = 0 := by
      unfold applyC
      rw [hrt, if_neg (by simp), if_neg (by show ¬ (4 : Int) = 1; omega), if_neg (by show ¬ ((4 : Int) = 2 ∨ (4 : Int) = 3); omega), if_pos rfl, if_neg hnot, if_neg (by simp at hl; omega)]
    rw [List.map_cons, runB, if_pos hc]
    unfold applyB
    rw [if_pos hc]
    unfold doneB
    rw [if_neg (by show ¬ (4 : Int) = 1; omega), if_neg (by show ¬ (4 : Int) = 2; omega), if_neg (by show ¬ (4 : Int) = 3; omega), if_pos rfl, run_revs l _ (by simpa using hn) (by simpa using hl)]
    simp
theorem ops_restore {b : Bk} (h : Reach b) : runB bk0 (opsB b) = some b := by
  unfold opsB
  rw [run_append, run_adds b.L bk0 (by simpa [bk0] using h.names) (fun p hp => (h.right p hp).1) (by simpa [bk0] using h.most), Option.bind_some, run_append, run_revs b.rev _ (by simpa [bk0] using h.rev) (by simpa [bk0] using h.revs), Option.bind_some]
  by_cases hg : 0 < b.gen
  · rw [if_pos hg]
    have hrt : rightB ⟨5, nos, b.own, b.gen⟩ = true := by
      unfold rightB
      have := h.gen
      simp
      omega
    have hc : applyC ⟨b.L, b.rev, 0, zw⟩ ⟨5, nos, b.own, b.gen⟩ = 0 := by
      unfold applyC
      rw [hrt, if_neg (by simp), if_neg (by show ¬ (5 : Int) = 1; omega), if_neg (by show ¬ ((5 : Int) = 2 ∨ (5 : Int) = 3); omega), if_neg (by show ¬ (5 : Int) = 4; omega), if_neg (by show ¬ b.gen ≤ 0; omega)]
    show runB ⟨b.L, b.rev, 0, zw⟩ _ = _
    rw [runB, if_pos hc, runB]
    unfold applyB
    rw [if_pos hc]
    unfold doneB
    rw [if_neg (by show ¬ (5 : Int) = 1; omega), if_neg (by show ¬ (5 : Int) = 2; omega), if_neg (by show ¬ (5 : Int) = 3; omega), if_neg (by show ¬ (5 : Int) = 4; omega)]
  · rw [if_neg hg]
    have h0 : b.gen = 0 := by have := h.gen; omega
    have ho := h.own h0
    show some (⟨b.L, b.rev, 0, zw⟩ : Bk) = some b
    rw [← ho, ← h0]
end Go.Proofs.YtebchoeeohmlaaaDoor.Book
namespace Go.Proofs.YtebchoeeohmlaaaDoor.Aid
open Go Go.RowKit

/-- A slice of n elements of s cells each. -/
def RowsAt (W : World) (s n : Nat) (V : Nat → List Value) (v : Value) : Prop :=
  ∃ (A : Option Addr) (c : Nat), v = .slice A n c ∧ (1 ≤ n → ∃ b o, A = some ⟨b, o, none⟩ ∧ b < W.heap.size ∧ ∀ i, i < n → ∀ j u, (V i)[j]? = some u → W.cell? ⟨b, o + i * s + j, none⟩ = some u)
end Go.Proofs.YtebchoeeohmlaaaDoor.Aid
namespace Go.Proofs.YtebchoeeohmlaaaDoor.Aid
open Go Go.RowKit
variable {P : Program} {ops : Array Oper} {md : Region.Mode}

def addEdge (ops : Array Oper) (n : Nat) (e : Edge) : Array Oper := ops.modify n fun o => { o with after := o.after.push e }
theorem size_addEdge (n : Nat) (e : Edge) : (addEdge ops n e).size = ops.size := by simp [addEdge]
theorem addEdge_ne (n : Nat) (e : Edge) (i : Nat) (h : n ≠ i) : (addEdge ops n e)[i]? = ops[i]? := by
  unfold addEdge; rw [Array.getElem?_modify, if_neg h]
theorem addEdge_eq (n : Nat) (e : Edge) : (addEdge ops n e)[n]? = (ops[n]?).map fun o => { o with after := o.after.push e } := by
  unfold addEdge; rw [Array.getElem?_modify, if_pos rfl]
theorem yielded_addEdge (n : Nat) (e : Edge) (tmps : Array Value) : yielded (addEdge ops n e) tmps = yielded ops tmps := by
  funext j
  unfold yielded
  by_cases h : n = j
  · subst h
    rw [addEdge_eq]
    cases ops[n]? <;> rfl
  · rw [addEdge_ne n e j h]
theorem ready_addEdge (n : Nat) (e : Edge) (listed : Array Bool) (he : listed.getD e.on false = true) : Region.ready md (addEdge ops n e) listed = Region.ready md ops listed := by
  unfold Region.ready
  rw [size_addEdge]
  refine List.filter_congr (fun i _ => ?_)
  by_cases h : n = i
  · subst h
    rw [addEdge_eq]
    cases ops[n]? with
    | none => rfl
    | some o => simp only [Option.map_some, Option.getD_some, Array.all_push, he, Bool.or_true, Bool.and_true]
  · rw [addEdge_ne n e i h]
theorem wp_after (o : Oper) (x : Array Edge) (a : Act) (w : World) (K : Act → World → Prop) (Q : Exit → Act → World → Prop) : Oper.wp P { o with after := x } a w K Q = Oper.wp P o a w K Q := by
  cases o; rfl
theorem asks_after (o : Oper) (x : Array Edge) (a : Act) (w : World) : Oper.asks P { o with after := x } a w = Oper.asks P o a w := by
  cases o; rfl
theorem wpOp_addEdge (n : Nat) (e : Edge) (Q : Exit → Act → World → Prop) (i : Nat) (K : Act → World → Prop) (a : Act) (w : World) : wpOp P (addEdge ops n e) Q i K a w = wpOp P ops Q i K a w := by
  unfold wpOp
  rw [yielded_addEdge]
  by_cases h : n = i
  · subst h
    rw [addEdge_eq]
    cases ops[n]? with
    | none => rfl
    | some o => simp only [Option.map_some, wp_after, asks_after]; rfl
  · rw [addEdge_ne n e i h]
theorem wpAny_addEdge (n : Nat) (e : Edge) (Q : Exit → Act → World → Prop) : ∀ (f : Nat) (listed : Array Bool) (a : Act) (w : World), listed.getD e.on false = true →
    wpAny P md (addEdge ops n e) Q f listed a w → wpAny P md ops Q f listed a w
  | 0, listed, a, w, he, h => by
    unfold wpAny at h ⊢
    rw [ready_addEdge n e listed he] at h
    exact h
  | f + 1, listed, a, w, he, h => by
    unfold wpAny at h ⊢
    rw [ready_addEdge n e listed he] at h
    refine ⟨h.1, fun i hi => ?_⟩
    have h2 := h.2 i hi
    rw [wpOp_addEdge] at h2
    exact wpOp_mono (fun a' w' h3 => wpAny_addEdge n e Q f _ a' w' (getD_set_true he) h3) h2
theorem wpStill_addEdge (n : Nat) (e : Edge) (w : World) (Q : Act → Prop) : ∀ l : List Oper, wpStill P (addEdge ops n e) w Q l = wpStill P ops w Q l
  | [] => rfl
  | o :: l => by
    funext a
    simp only [wpStill, yielded_addEdge, wpStill_addEdge n e w Q l]
theorem wpList_addEdge (n : Nat) (e : Edge) (Q : Exit → Act → World → Prop) : ∀ l : List Oper, wpList P (addEdge ops n e) Q l = wpList P ops Q l
  | [] => rfl
  | o :: l => by
    funext a w
    simp only [wpList, yielded_addEdge, wpList_addEdge n e Q l]

def onFirst : Edge := { on := 0, ground := .data }
def Region.firstB (ops : Array Oper) (n : Nat) : Bool :=
  Region.noSelect ops && decide (0 < n) && decide (n < ops.size) && Region.free .any ops (Array.replicate ops.size false) 0 && (Region.ready .any ops (Array.replicate ops.size false)).contains 0 &&
  Region.noSelect (addEdge ops n onFirst) && Region.sinkB .any (addEdge ops n onFirst) n && Region.chainB .any (addEdge ops n onFirst) n &&
  Region.lexHead .any (addEdge ops n onFirst) (ops.size - n) (n - 1) 1 ((Array.replicate ops.size false).setIfInBounds 0 true) &&
  ((ops[0]?).map fun o => o.after.isEmpty).getD false

theorem region_first {id : Nat} {Q : Exit → Act → World → Prop} {a : Act} {w : World} {o0 : Oper} {l : List Oper} {v : Value} (n : Nat) (hm : P.follows .mixedOrders = true) (hB : Region.firstB (o0 :: l).toArray n = true)
    (hQ : ∀ c a w, Q (.panic c) (a.put o0.dst v) w → Q (.panic c) a w) (hy : Yields P (o0 :: l).toArray o0 v a)
    (h : wpStill P (o0 :: l).toArray w.drew (fun a' => wpList P (o0 :: l).toArray Q (l.drop (n - 1)) a' w.drew) (l.take (n - 1)) (a.put o0.dst v)) : (Code.region id (o0 :: l).toArray true).wp P Q a w := by
  simp only [Region.firstB, Bool.and_eq_true, decide_eq_true_eq] at hB
  obtain ⟨⟨⟨⟨⟨⟨⟨⟨⟨hsel, h0n⟩, hn⟩, hfree⟩, hready⟩, hsel'⟩, hs⟩, hc⟩, hlex⟩, hemp⟩ := hB
  have hsz : (o0 :: l).toArray.size = l.length + 1 := by simp
  have hnl : n < l.length + 1 := by rw [hsz] at hn; exact hn
  refine wp_region_any hm ?_
  rw [hsz] at hfree hready hlex ⊢
  refine wpAny_take (i := 0) (oi := o0) rfl hsel hfree hready hQ hy ?_
  refine wpAny_addEdge n onFirst Q _ _ _ _ (by simp [onFirst]) ?_
  have inv : HeadInv .any (addEdge (o0 :: l).toArray n onFirst) n ((Array.replicate (l.length + 1) false).setIfInBounds 0 true) := by
    refine ⟨by simp [size_addEdge], fun j oj hj hl e he hb => ?_, fun t ht ht' => ?_⟩
    · by_cases hj0 : 0 = j
      · subst hj0
        rw [addEdge_ne n onFirst 0 (by omega)] at hj
        have ho : oj = o0 := by simpa using hj.symm
        subst ho
        have : oj.after = #[] := by simpa using hemp
        rw [this] at he
        simp at he
      · rw [getD_set_ne false hj0, getD_replicate_false] at hl
        cases hl
    · rw [size_addEdge, hsz] at ht'
      rw [getD_set_ne true (by omega)]
      exact getD_in (by simpa using ht') (getD_replicate_false _ _)
  obtain ⟨on, lr, hd⟩ : ∃ on lr, l.drop (n - 1) = on :: lr := by
    cases hq : l.drop (n - 1) with
    | nil => have := congrArg List.length hq; simp at this; omega
    | cons x y => exact ⟨x, y, rfl⟩
  have hget : ∀ j, (o0 :: l).toArray[n + j]? = (on :: lr)[j]? := fun j => by
    rw [← hd, List.getElem?_toArray, List.getElem?_drop, show n + j = (n - 1 + j) + 1 by omega, List.getElem?_cons_succ]
  have hlt : (l.take (n - 1)).length = n - 1 := by simp; omega
  have hlr : (on :: lr).length = l.length + 1 - n := by rw [← hd]; simp; omega
  have htail : ∀ j, ({ on with after := on.after.push onFirst } :: lr : List Oper)[j]? = (addEdge (o0 :: l).toArray n onFirst)[n + j]? := fun j => by
    cases j with
    | zero =>
      rw [Nat.add_zero, addEdge_eq]
      have := hget 0
      rw [Nat.add_zero] at this
      rw [this]
      rfl
    | succ j =>
      rw [addEdge_ne n onFirst _ (by omega), hget (j + 1)]
      rfl
  have hW : wpList P (o0 :: l).toArray Q ({ on with after := on.after.push onFirst } :: lr) = wpList P (o0 :: l).toArray Q (on :: lr) := by
    funext a' w'
    simp only [wpList, wp_after, asks_after]
    rfl
  have H := wpAnyL_lex (P := P) (md := .any) (ops := addEdge (o0 :: l).toArray n onFirst) (w := w.drew) (n := n) (g := l.length + 1 - n)
    (Lq := fun a' => wpList P (addEdge (o0 :: l).toArray n onFirst) Q ({ on with after := on.after.push onFirst } :: lr) a' w.drew) hsel' hs hc (by rw [size_addEdge]; exact hn) (l.take (n - 1)) 1 _ (a.put o0.dst v)
    (fun j hj => by
      rw [hlt] at hj
      rw [addEdge_ne n onFirst _ (by omega), List.getElem?_take_of_lt hj, List.getElem?_toArray, Nat.add_comm 1 j, List.getElem?_cons_succ])
    (by rw [hlt]; omega) inv (by rw [hlt]; exact hlex)
    (by rw [wpStill_addEdge, wpList_addEdge, hW, ← hd]; exact h)
  have H2 := wpAny_of_head (Q' := Q) (g := l.length + 1 - n) (fun listed a' hL => by
    have := wpAny_of_seq (P := P) (md := .any) (Q' := Q) ({ on with after := on.after.push onFirst } :: lr) n listed a' w.drew htail (by rw [List.length_cons, ← List.length_cons (a := on), hlr]; exact hL.1) hL.2
    rwa [List.length_cons, ← List.length_cons (a := on), hlr] at this) _ _ _ H
  rw [hlt, show n - 1 + (l.length + 1 - n) = l.length by omega] at H2
  exact H2

/-- A whole array, read in a region that stands still. -/
theorem still_load {rest : List Oper} {op : Oper} {a : Act} {w : World} {Q : Act → Prop} (hgd : op.guard = none) (ty : TypeId) (x : Operand) (ho : op.op = .load ty x)
    (b o : Nat) (hx : a.eval x = .pointer (some ⟨b, o, none⟩)) (cs : List Value) (d : TypeDesc) (hc : w.rangeAt b o cs)
    (hu : P.underlying ty = some d) (hd : d.isRow = true) (hi : (P.info? ty).map (·.size) = some cs.length)
    (h : wpStill P ops w Q rest (a.put op.dst (.agg cs.toArray))) : wpStill P ops w Q (op :: rest) a := by
  have hw : Region.wanted op (yielded ops a.tmps) = true := by simp [Region.wanted, hgd]
  refine wpStill_step (fun K hK => ?_)
  rw [if_pos hw]
  unfold Oper.still execOp
  simp only [ho, hx, Instr.loadAt, Instr.sureAddr, Sem.run_bind, Sem.run_pure, Result.andThen_ok, run_loadVar_mid w b o ty cs d hc hu hd hi, Oper.stillUpon]
  exact ⟨trivial, hK _ h⟩
theorem still_row {rest : List Oper} {op : Oper} {a : Act} {w : World} {Q : Act → Prop} (hgd : op.guard = none) (ty : TypeId) (x : Operand) (ho : op.op = .load ty x)
    (g o t n m : Nat) (f : Nat → Value) (hr : w.rowIs g t n f) (hx : a.eval x = .pointer (some ⟨g, o, none⟩)) (d : TypeDesc)
    (hu : P.underlying ty = some d) (hd : d.isRow = true) (hi : (P.info? ty).map (·.size) = some m) (hm : o + m ≤ n)
    (h : wpStill P ops w Q rest (a.put op.dst (.agg (cellsOf m fun j => f (o + j))))) : wpStill P ops w Q (op :: rest) a :=
  still_load hgd ty x ho g o hx _ d (row_range hr o m hm) hu hd (by simpa using hi) h
end Go.Proofs.YtebchoeeohmlaaaDoor.Aid

namespace Go.Proofs.YtebchoeeohmlaaaDoor.Aid
open Go Go.RowKit
variable {P : Program}

theorem run_equalIn_int (d : Nat) {t : TypeId} {k : IntKind} (h : P.underlying t = some (.int k)) (n : Int) (w : World) : (Op.equalIn (d + 1) t (.int k n) (.int k n)).run P w = .ok true w := by
  simp [Op.equalIn, Sem.run_bind, run_underlying h w, Result.andThen]
theorem run_part_int {t : TypeId} {k : IntKind} (h : P.underlying t = some (.int k)) (cs : Array Value) (o : Nat) (v : Value) (hv : cs[o]? = some v) (w : World) : (part t cs o).run P w = .ok v w := by
  have hagg : (isAgg t).run P w = .ok false w := by
    unfold isAgg
    rw [Sem.run_bind, run_underlying h w]
    rfl
  simp [part, Sem.run_bind, hagg, Result.andThen, hv]
theorem run_equalIn_same (d : Nat) {ty len elem : TypeId} {k : IntKind} (hu : P.underlying ty = some (.array len elem)) (he : P.underlying elem = some (.int k)) (hsz : (P.info? elem).map (·.size) = some 1)
    (X : Array Value) (hX : ∀ i, i < len → ∃ n, X[i]? = some (.int k n)) (w : World) : (Op.equalIn (d + 2) ty (.agg X) (.agg X)).run P w = .ok true w := by
  cases hq : P.info? elem with
  | none => simp [hq] at hsz
  | some t =>
    have hs : t.size = 1 := by simpa [hq] using hsz
    have hS : (sizeOf elem).run P w = .ok 1 w := by simp [sizeOf, typeInfo, hq, hs]
    rw [show d + 2 = (d + 1) + 1 from rfl, Op.equalIn]
    simp only [Sem.run_bind, run_underlying hu w, Result.andThen_ok, hS, Nat.mul_one]
    rw [Std.Legacy.Range.forIn_eq_forIn_range']
    simp only [Std.Legacy.Range.size, Nat.sub_zero, Nat.add_sub_cancel, Nat.div_one]
    have key : ∀ (l : List Nat), (∀ i ∈ l, i < len) → (forIn l ((none, ()) : Option Bool × Unit) (fun i (_ : Option Bool × Unit) => (do
        let a ← part elem X i
        let b ← part elem X i
        let r ← Op.equalIn (d + 1) elem a b
        if (!r) = true then pure (ForInStep.done (some false, ())) else pure (ForInStep.yield (none, ())) : Sem (ForInStep (Option Bool × Unit))))).run P w = .ok (none, ()) w := by
      intro l
      induction l with
      | nil => intro _; simp
      | cons i l ih =>
        intro hl
        obtain ⟨n, hn⟩ := hX i (hl i (by simp))
        simp only [List.forIn_cons, Sem.run_bind, run_part_int he X i _ hn w, Result.andThen_ok, run_equalIn_int d he n w, Bool.not_true, Bool.false_eq_true, if_false, Sem.run_pure]
        exact ih (fun j hj => hl j (by simp [hj]))
    have := key (List.range' 0 len 1) (fun i hi => by simp at hi; omega)
    rw [this]
    rfl
/-- 'x == x', 'x != x'. -/
theorem run_eql_same {ty len elem : TypeId} {k : IntKind} (hu : P.underlying ty = some (.array len elem)) (he : P.underlying elem = some (.int k)) (hsz : (P.info? elem).map (·.size) = some 1)
    (X : Array Value) (hX : ∀ i, i < len → ∃ n, X[i]? = some (.int k n)) (w : World) : (binOp .eql ty (.agg X) (.agg X)).run P w = .ok (.bool true) w := by
  simp only [binOp]
  simp [Op.equal, Op.maxDepth, run_equalIn_same 9998 hu he hsz X hX w]
theorem run_neq_same {ty len elem : TypeId} {k : IntKind} (hu : P.underlying ty = some (.array len elem)) (he : P.underlying elem = some (.int k)) (hsz : (P.info? elem).map (·.size) = some 1)
    (X : Array Value) (hX : ∀ i, i < len → ∃ n, X[i]? = some (.int k n)) (w : World) : (binOp .neq ty (.agg X) (.agg X)).run P w = .ok (.bool false) w := by
  simp only [binOp]
  simp [Op.equal, Op.maxDepth, run_equalIn_same 9998 hu he hsz X hX w]
end Go.Proofs.YtebchoeeohmlaaaDoor.Aid

namespace Go.Proofs.YtebchoeeohmlaaaDoor.Aid
open Go Go.RowKit
variable {P : Program} {ops : Array Oper} {md : Region.Mode}

/-- From here on each operation comes up alone, in this order. -/
def onlyB (md : Region.Mode) (ops : Array Oper) : List Nat → Array Bool → Bool
  | [], listed => (Region.ready md ops listed).isEmpty
  | i :: l, listed => decide (Region.ready md ops listed = [i]) && onlyB md ops l (listed.setIfInBounds i true)
def opsOf (ops : Array Oper) (l : List Nat) : List Oper := l.filterMap fun i => ops[i]?
theorem wpAny_of_only {Q : Exit → Act → World → Prop} : ∀ (l : List Nat) (listed : Array Bool) (a : Act) (w : World), (∀ i ∈ l, i < ops.size) → onlyB md ops l listed = true → wpList P ops Q (opsOf ops l) a w → wpAny P md ops Q l.length listed a w
  | [], _, _, _, _, hB, h => ⟨by simpa [onlyB] using hB, h⟩
  | i :: l, listed, a, w, hl, hB, h => by
    have hi : i < ops.size := hl i (by simp)
    have h0 : ops[i]? = some ops[i] := Array.getElem?_eq_getElem hi
    simp only [onlyB, Bool.and_eq_true, decide_eq_true_eq] at hB
    have ho : opsOf ops (i :: l) = ops[i] :: opsOf ops l := by simp [opsOf, h0]
    rw [ho] at h
    refine ⟨fun h1 => (by rw [hB.1] at h1; cases h1), fun j hj => ?_⟩
    rw [hB.1] at hj
    have hij : j = i := by simpa using hj
    subst hij
    have hw : wpOp P ops Q j (wpList P ops Q (opsOf ops l)) a w := by unfold wpOp; simp only [h0]; exact h
    exact wpOp_mono (fun a' w' h' => wpAny_of_only l _ a' w' (fun k hk => hl k (by simp [hk])) hB.2 h') hw

def twoB (ops : Array Oper) (i j : Nat) (l : List Nat) : Bool :=
  Region.noSelect ops && decide (ops.size = l.length + 2) && l.all (fun k => decide (k < ops.size)) &&
  Region.free .any ops (Array.replicate ops.size false) i && (Region.ready .any ops (Array.replicate ops.size false)).contains i &&
  Region.free .any ops ((Array.replicate ops.size false).setIfInBounds i true) j && (Region.ready .any ops ((Array.replicate ops.size false).setIfInBounds i true)).contains j &&
  onlyB .any ops l (((Array.replicate ops.size false).setIfInBounds i true).setIfInBounds j true)

theorem region_two {id : Nat} {Q : Exit → Act → World → Prop} {a : Act} {w : World} {ls : List Oper} (i j : Nat) (l : List Nat) {oi oj : Oper} (vi vj : Value) (hm : P.follows .mixedOrders = true) (hB : twoB ls.toArray i j l = true)
    (hi : ls.toArray[i]? = some oi) (hj : ls.toArray[j]? = some oj)
    (hQi : ∀ c a w, Q (.panic c) (a.put oi.dst vi) w → Q (.panic c) a w) (hQj : ∀ c a w, Q (.panic c) (a.put oj.dst vj) w → Q (.panic c) a w)
    (hyi : Yields P ls.toArray oi vi a) (hyj : Yields P ls.toArray oj vj (a.put oi.dst vi))
    (h : wpList P ls.toArray Q (opsOf ls.toArray l) ((a.put oi.dst vi).put oj.dst vj) w.drew) : (Code.region id ls.toArray true).wp P Q a w := by
  simp only [twoB, Bool.and_eq_true, decide_eq_true_eq, List.all_eq_true] at hB
  obtain ⟨⟨⟨⟨⟨⟨⟨hsel, hsz⟩, hall⟩, hf1⟩, hr1⟩, hf2⟩, hr2⟩, honly⟩ := hB
  refine wp_region_any hm ?_
  rw [hsz] at hf1 hr1 hf2 hr2 honly ⊢
  refine wpAny_take (i := i) hi hsel hf1 hr1 hQi hyi ?_
  refine wpAny_take (i := j) hj hsel hf2 hr2 hQj hyj ?_
  exact wpAny_of_only l _ _ _ (fun k hk => by have := hall k hk; simpa using this) honly h

theorem opsOf_range (ls : List Oper) : ∀ (n k : Nat), k + n = ls.length → opsOf ls.toArray (List.range' k n) = ls.drop k
  | 0, k, h => by rw [List.drop_eq_nil_of_le (by omega)]; rfl
  | n + 1, k, h => by
    have hk : k < ls.length := by omega
    have ih := opsOf_range ls n (k + 1) (by omega)
    rw [List.range'_succ, List.drop_eq_getElem_cons hk, ← ih]
    simp [opsOf, List.getElem?_eq_getElem hk]
/-- The first and the third operation are taken first. -/
theorem region_02 {id : Nat} {Q : Exit → Act → World → Prop} {a : Act} {w : World} {o0 o1 o2 : Oper} {r : List Oper} (v0 v2 : Value) (hm : P.follows .mixedOrders = true) (hB : twoB (o0 :: o1 :: o2 :: r).toArray 0 2 (1 :: List.range' 3 r.length) = true)
    (hQ0 : ∀ c a w, Q (.panic c) (a.put o0.dst v0) w → Q (.panic c) a w) (hQ2 : ∀ c a w, Q (.panic c) (a.put o2.dst v2) w → Q (.panic c) a w)
    (hy0 : Yields P (o0 :: o1 :: o2 :: r).toArray o0 v0 a) (hy2 : Yields P (o0 :: o1 :: o2 :: r).toArray o2 v2 (a.put o0.dst v0))
    (h : wpList P (o0 :: o1 :: o2 :: r).toArray Q (o1 :: r) ((a.put o0.dst v0).put o2.dst v2) w.drew) : (Code.region id (o0 :: o1 :: o2 :: r).toArray true).wp P Q a w := by
  refine region_two 0 2 (1 :: List.range' 3 r.length) v0 v2 hm hB rfl rfl hQ0 hQ2 hy0 hy2 ?_
  have e1 := opsOf_range (o0 :: o1 :: o2 :: r) r.length 3 (by simp; omega)
  have e2 : opsOf (o0 :: o1 :: o2 :: r).toArray (1 :: List.range' 3 r.length) = o1 :: opsOf (o0 :: o1 :: o2 :: r).toArray (List.range' 3 r.length) := by simp [opsOf]
  rw [e2, e1]
  exact h
end Go.Proofs.YtebchoeeohmlaaaDoor.Aid
namespace Go.Proofs.YtebchoeeohmlaaaDoor.Aid
open Go Go.RowKit
variable {P : Program}

theorem run_equalIn_byte (d : Nat) {t : TypeId} (h : P.underlying t = some (.int .u8)) (x y : BitVec 8) (w : World) : (Op.equalIn (d + 1) t (.int .u8 (x.toNat : Int)) (.int .u8 (y.toNat : Int))).run P w = .ok (decide (x = y)) w := by
  have hd : decide ((x.toNat : Int) = (y.toNat : Int)) = decide (x = y) := by
    by_cases hxy : x = y
    · subst hxy; simp
    · have : ¬ (x.toNat : Int) = (y.toNat : Int) := fun e => hxy (BitVec.eq_of_toNat_eq (by omega))
      rw [decide_eq_false this, decide_eq_false hxy]
  simp [Op.equalIn, Sem.run_bind, run_underlying h w, Result.andThen]
  exact hd
/-- The first n bytes are the same. -/
def sameUpto (e f : Nat → BitVec 8) (n : Nat) : Bool := decide (∀ i, i < n → e i = f i)
theorem run_equalIn_bytes (d : Nat) {ty len elem : TypeId} (hu : P.underlying ty = some (.array len elem)) (he : P.underlying elem = some (.int .u8)) (hsz : (P.info? elem).map (·.size) = some 1)
    (X Y : Array Value) (e f : Nat → BitVec 8) (hX : ∀ i, i < len → X[i]? = some (.int .u8 ((e i).toNat : Int))) (hY : ∀ i, i < len → Y[i]? = some (.int .u8 ((f i).toNat : Int))) (w : World) : (Op.equalIn (d + 2) ty (.agg X) (.agg Y)).run P w = .ok (sameUpto e f len) w := by
  cases hq : P.info? elem with
  | none => simp [hq] at hsz
  | some t =>
    have hs : t.size = 1 := by simpa [hq] using hsz
    have hS : (sizeOf elem).run P w = .ok 1 w := by simp [sizeOf, typeInfo, hq, hs]
    rw [show d + 2 = (d + 1) + 1 from rfl, Op.equalIn]
    simp only [Sem.run_bind, run_underlying hu w, Result.andThen_ok, hS, Nat.mul_one]
    rw [Std.Legacy.Range.forIn_eq_forIn_range']
    simp only [Std.Legacy.Range.size, Nat.sub_zero, Nat.add_sub_cancel, Nat.div_one]
    have key : ∀ (l : List Nat), (∀ i ∈ l, i < len) → (forIn l ((none, ()) : Option Bool × Unit) (fun i (_ : Option Bool × Unit) => (do
        let a ← part elem X i
        let b ← part elem Y i
        let r ← Op.equalIn (d + 1) elem a b
        if (!r) = true then pure (ForInStep.done (some false, ())) else pure (ForInStep.yield (none, ())) : Sem (ForInStep (Option Bool × Unit))))).run P w = .ok (if ∀ i ∈ l, e i = f i then (none, ()) else (some false, ())) w := by
      intro l
      induction l with
      | nil => intro _; simp
      | cons i l ih =>
        intro hl
        have hi := hl i (by simp)
        simp only [List.forIn_cons, Sem.run_bind, run_part_int he X i _ (hX i hi) w, run_part_int he Y i _ (hY i hi) w, Result.andThen_ok, run_equalIn_byte d he (e i) (f i) w]
        by_cases h : e i = f i
        · simp only [h, decide_true, Bool.not_true, Bool.false_eq_true, if_false, Sem.run_pure, Result.andThen_ok, List.mem_cons, forall_eq_or_imp, true_and]
          exact ih (fun j hj => hl j (by simp [hj]))
        · simp [h]
    have := key (List.range' 0 len 1) (fun i hi => by simp at hi; omega)
    rw [this]
    unfold sameUpto
    by_cases h : ∀ i, i < len → e i = f i
    · rw [if_pos (fun i hi => h i (by simp at hi; omega)), decide_eq_true h]; rfl
    · rw [if_neg (fun h' => h (fun i hi => h' i (by simp; omega))), decide_eq_false h]; rfl
/-- 'x == y' between any two arrays of bytes. -/
theorem run_eql_bytes {ty len elem : TypeId} (hu : P.underlying ty = some (.array len elem)) (he : P.underlying elem = some (.int .u8)) (hsz : (P.info? elem).map (·.size) = some 1)
    (X Y : Array Value) (e f : Nat → BitVec 8) (hX : ∀ i, i < len → X[i]? = some (.int .u8 ((e i).toNat : Int))) (hY : ∀ i, i < len → Y[i]? = some (.int .u8 ((f i).toNat : Int))) (w : World) : (binOp .eql ty (.agg X) (.agg Y)).run P w = .ok (.bool (sameUpto e f len)) w := by
  simp only [binOp]
  simp [Op.equal, Op.maxDepth, run_equalIn_bytes 9998 hu he hsz X Y e f hX hY w]
/-- 'x == x', x an array of arrays of bytes. -/
theorem run_equalIn_rows (d : Nat) {ty row elem : TypeId} {len n : Nat} (hu : P.underlying ty = some (.array len row)) (hr : P.underlying row = some (.array n elem)) (he : P.underlying elem = some (.int .u8)) (hsz : (P.info? elem).map (·.size) = some 1) (hrs : (P.info? row).map (·.size) = some n)
    (X : Array Value) (e : Nat → BitVec 8) (hs : X.size = len * n) (hX : ∀ i, i < len * n → X[i]? = some (.int .u8 ((e i).toNat : Int))) (w : World) : (Op.equalIn (d + 3) ty (.agg X) (.agg X)).run P w = .ok true w := by
  cases hq : P.info? row with
  | none => simp [hq] at hrs
  | some t =>
    have hts : t.size = n := by simpa [hq] using hrs
    have hS : (sizeOf row).run P w = .ok n w := by simp [sizeOf, typeInfo, hq, hts]
    have hagg : (isAgg row).run P w = .ok true w := by
      unfold isAgg
      rw [Sem.run_bind, run_underlying hr w]
      rfl
    have hpart : ∀ i, (part row X (i * n)).run P w = .ok (.agg (X.extract (i * n) (i * n + n))) w := fun i => by
      simp [part, Sem.run_bind, hagg, hS, Result.andThen]
    have heq : ∀ i, i < len → (Op.equalIn (d + 2) row (.agg (X.extract (i * n) (i * n + n))) (.agg (X.extract (i * n) (i * n + n)))).run P w = .ok true w := fun i hi => by
      refine run_equalIn_same d hr he hsz _ (fun j hj => ⟨((e (i * n + j)).toNat : Int), ?_⟩) w
      · have hle : i * n + n ≤ len * n := by rw [← Nat.succ_mul]; exact Nat.mul_le_mul_right n hi
        have hmin : min (i * n + n) X.size = i * n + n := Nat.min_eq_left (by rw [hs]; exact hle)
        rw [Array.getElem?_extract, if_pos (by rw [hmin, Nat.add_sub_cancel_left]; exact hj)]
        exact hX _ (Nat.lt_of_lt_of_le (Nat.add_lt_add_left hj _) hle)
    rw [show d + 3 = (d + 2) + 1 from rfl, Op.equalIn]
    simp only [Sem.run_bind, run_underlying hu w, Result.andThen_ok, hS]
    rw [Std.Legacy.Range.forIn_eq_forIn_range']
    simp only [Std.Legacy.Range.size, Nat.sub_zero, Nat.add_sub_cancel, Nat.div_one]
    have key : ∀ (l : List Nat), (∀ i ∈ l, i < len) → (forIn l ((none, ()) : Option Bool × Unit) (fun i (_ : Option Bool × Unit) => (do
        let a ← part row X (i * n)
        let b ← part row X (i * n)
        let r ← Op.equalIn (d + 2) row a b
        if (!r) = true then pure (ForInStep.done (some false, ())) else pure (ForInStep.yield (none, ())) : Sem (ForInStep (Option Bool × Unit))))).run P w = .ok (none, ()) w := by
      intro l
      induction l with
      | nil => intro _; simp
      | cons i l ih =>
        intro hl
        simp only [List.forIn_cons, Sem.run_bind, hpart i, Result.andThen_ok, heq i (hl i (by simp)), Bool.not_true, Bool.false_eq_true, if_false, Sem.run_pure]
        exact ih (fun j hj => hl j (by simp [hj]))
    have := key (List.range' 0 len 1) (fun i hi => by simp at hi; omega)
    rw [this]
    rfl
theorem run_eql_rows {ty row elem : TypeId} {len n : Nat} (hu : P.underlying ty = some (.array len row)) (hr : P.underlying row = some (.array n elem)) (he : P.underlying elem = some (.int .u8)) (hsz : (P.info? elem).map (·.size) = some 1) (hrs : (P.info? row).map (·.size) = some n)
    (X : Array Value) (e : Nat → BitVec 8) (hs : X.size = len * n) (hX : ∀ i, i < len * n → X[i]? = some (.int .u8 ((e i).toNat : Int))) (w : World) : (binOp .eql ty (.agg X) (.agg X)).run P w = .ok (.bool true) w := by
  simp only [binOp]
  simp [Op.equal, Op.maxDepth, run_equalIn_rows 9997 hu hr he hsz hrs X e hs hX w]
end Go.Proofs.YtebchoeeohmlaaaDoor.Aid
namespace Go.Proofs.YtebchoeeohmlaaaDoor.Cache
open Go Go.RowKit

section
variable {α β : Type}
def roomK {γ : Type} (most : Nat) (c : List γ) : List γ := if c.length = most then c.tail else c
def keysL (l : List (α × β)) : List α := l.map Prod.fst
theorem keys_room (most : Nat) (l : List (α × β)) : keysL (roomK most l) = roomK most (keysL l) := by
  unfold roomK keysL
  rw [List.length_map]
  split
  · rw [List.map_tail]
  · rfl
theorem keys_len (l : List (α × β)) : (keysL l).length = l.length := List.length_map _
theorem len_room {γ : Type} (most : Nat) (c : List γ) (h : c.length ≤ most) (h1 : 1 ≤ most) : (roomK most c).length + 1 ≤ most := by
  unfold roomK
  split
  · rw [List.length_tail]; omega
  · omega
theorem room_sub {γ : Type} {most : Nat} {c : List γ} {x : γ} (h : x ∈ roomK most c) : x ∈ c := by
  unfold roomK at h
  split at h
  · exact List.mem_of_mem_tail h
  · exact h
end
section
variable {α β : Type} [DecidableEq α]
def hasK (c : List α) (k : α) : Bool := decide (k ∈ c)
def putK (most : Nat) (c : List α) (k : α) : List α := if hasK c k then c else roomK most c ++ [k]
def dropK (c : List α) (k : α) : List α := c.filter fun x => decide (x ≠ k)
/-- Was a key put out? -/
def goneB (most : Nat) (c : List α) (k : α) : Bool := !hasK c k && decide (c.length = most)
def goneK (z : α) (most : Nat) (c : List α) (k : α) : α := if goneB most c k then c.headD z else z

def setL (l : List (α × β)) (k : α) (v : β) : List (α × β) := l.map fun p => if p.1 = k then (k, v) else p
def putL (most : Nat) (l : List (α × β)) (k : α) (v : β) : List (α × β) := if hasK (keysL l) k then setL l k v else roomK most l ++ [(k, v)]
def getL (l : List (α × β)) (k : α) : Option β := (l.find? fun p => decide (p.1 = k)).map Prod.snd
def dropL (l : List (α × β)) (k : α) : List (α × β) := l.filter fun p => decide (p.1 ≠ k)

theorem keys_set (l : List (α × β)) (k : α) (v : β) : keysL (setL l k v) = keysL l := by
  unfold keysL setL
  rw [List.map_map]
  refine List.map_congr_left fun p _ => ?_
  simp only [Function.comp]
  split
  · rename_i h; exact h.symm
  · rfl
theorem keys_put (most : Nat) (l : List (α × β)) (k : α) (v : β) : keysL (putL most l k v) = putK most (keysL l) k := by
  unfold putL putK
  split
  · exact keys_set l k v
  · show List.map Prod.fst _ = _
    rw [List.map_append, ← keys_room]
    rfl
theorem keys_drop (l : List (α × β)) (k : α) : keysL (dropL l k) = dropK (keysL l) k := by
  unfold keysL dropL dropK
  rw [List.filter_map]
  rfl

theorem has_drop (c : List α) (k : α) : hasK (dropK c k) k = false := by
  unfold hasK dropK
  simp
theorem has_put (most : Nat) (c : List α) (k : α) : hasK (putK most c k) k = true := by
  unfold putK
  by_cases h : hasK c k = true
  · rw [if_pos h]; exact h
  · rw [if_neg h]
    unfold hasK
    simp
theorem len_put (most : Nat) (c : List α) (k : α) (h : c.length ≤ most) (h1 : 1 ≤ most) : (putK most c k).length ≤ most := by
  unfold putK
  split
  · exact h
  · rw [List.length_append]
    have := len_room most c h h1
    simpa using this
theorem len_drop (c : List α) (k : α) : (dropK c k).length ≤ c.length := List.length_filter_le _ _
theorem len_more (most : Nat) (c : List α) (k : α) (h : goneB most c k = false) : c.length ≤ (putK most c k).length := by
  unfold goneB at h
  unfold putK
  by_cases hk : hasK c k = true
  · rw [if_pos hk]; exact Nat.le_refl _
  · rw [if_neg hk, List.length_append]
    have hl : ¬ c.length = most := fun e => by
      rw [show hasK c k = false by simpa using hk, decide_eq_true e] at h
      cases h
    unfold roomK
    rw [if_neg hl]
    omega
theorem gone_len {most : Nat} {c : List α} {k : α} (h : goneB most c k = true) : c.length = most := by
  unfold goneB at h
  simp at h
  exact h.2
theorem gone_head {z : α} {most : Nat} {c : List α} {k : α} (h : goneB most c k = true) : goneK z most c k = c.headD z := by
  unfold goneK
  rw [if_pos h]
theorem gone_not {z : α} {most : Nat} {c : List α} {k : α} (h : goneB most c k = false) : goneK z most c k = z := by
  unfold goneK
  rw [h]
  rfl

theorem get_some {l : List (α × β)} {k : α} : (getL l k).isSome = hasK (keysL l) k := by
  unfold getL hasK keysL
  rw [Option.isSome_map]
  by_cases h : k ∈ l.map Prod.fst
  · rw [decide_eq_true h]
    obtain ⟨p, hp, e⟩ := List.mem_map.1 h
    exact List.find?_isSome.2 ⟨p, hp, decide_eq_true e⟩
  · rw [decide_eq_false h]
    cases hf : l.find? (fun p => decide (p.1 = k)) with
    | none => rfl
    | some p =>
      have h1 := List.find?_some hf
      have h2 := List.mem_of_find?_eq_some hf
      exact absurd (List.mem_map.2 ⟨p, h2, by simpa using h1⟩) h
theorem get_set (l : List (α × β)) (k : α) (v : β) (h : hasK (keysL l) k = true) : getL (setL l k v) k = some v := by
  unfold hasK keysL at h
  simp only [decide_eq_true_eq] at h
  induction l with
  | nil => simp at h
  | cons p l ih =>
    unfold getL setL at *
    rw [List.map_cons, List.find?_cons]
    by_cases hp : p.1 = k
    · simp [hp]
    · rw [if_neg hp, decide_eq_false hp]
      refine ih ?_
      rw [List.map_cons, List.mem_cons] at h
      rcases h with h | h
      · exact absurd h.symm hp
      · exact h
theorem get_put (most : Nat) (l : List (α × β)) (k : α) (v : β) : getL (putL most l k v) k = some v := by
  unfold putL
  by_cases h : hasK (keysL l) k = true
  · rw [if_pos h]; exact get_set l k v h
  · rw [if_neg h]
    unfold getL
    rw [List.find?_append]
    have hn : (roomK most l).find? (fun p => decide (p.1 = k)) = none := List.find?_eq_none.2 fun p hp => by
      simp only [decide_eq_true_eq]
      intro e
      refine h ?_
      unfold hasK keysL
      exact decide_eq_true (List.mem_map.2 ⟨p, room_sub hp, e⟩)
    rw [hn]
    simp
theorem get_drop (l : List (α × β)) (k : α) : getL (dropL l k) k = none := by
  unfold getL dropL
  rw [List.find?_eq_none.2 (fun p hp => by simp at hp ⊢; exact hp.2)]
  rfl

/-- The keys under another name. -/
theorem has_map {γ : Type} [DecidableEq γ] (f : α → γ) (hf : ∀ x y, f x = f y → x = y) (c : List α) (k : α) : hasK (c.map f) (f k) = hasK c k := by
  unfold hasK
  congr 1
  simp only [List.mem_map, eq_iff_iff]
  exact ⟨fun ⟨x, hx, e⟩ => hf _ _ e ▸ hx, fun h => ⟨k, h, rfl⟩⟩
theorem put_map {γ : Type} [DecidableEq γ] (f : α → γ) (hf : ∀ x y, f x = f y → x = y) (most : Nat) (c : List α) (k : α) : putK most (c.map f) (f k) = (putK most c k).map f := by
  unfold putK
  rw [has_map f hf]
  split
  · rfl
  · rw [List.map_append]
    congr 1
    unfold roomK
    rw [List.length_map]
    split
    · rw [List.map_tail]
    · rfl
theorem drop_map {γ : Type} [DecidableEq γ] (f : α → γ) (hf : ∀ x y, f x = f y → x = y) (c : List α) (k : α) : dropK (c.map f) (f k) = (dropK c k).map f := by
  unfold dropK
  rw [List.filter_map]
  congr 1
  refine List.filter_congr fun x _ => ?_
  simp only [Function.comp]
  congr 1
  simp only [eq_iff_iff]
  exact ⟨fun h e => h (congrArg f e), fun h e => h (hf _ _ e)⟩
theorem gone_map {γ : Type} [DecidableEq γ] (f : α → γ) (hf : ∀ x y, f x = f y → x = y) (most : Nat) (c : List α) (k : α) : goneB most (c.map f) (f k) = goneB most c k := by
  unfold goneB
  rw [has_map f hf, List.length_map]

/-- Where a key stands; the length: nowhere. -/
def atN (c : List α) (k : α) : Nat := c.findIdx fun x => decide (x = k)
theorem at_le (c : List α) (k : α) : atN c k ≤ c.length := List.findIdx_le_length
theorem at_has {c : List α} {k : α} : hasK c k = decide (atN c k < c.length) := by
  unfold hasK atN
  congr 1
  rw [List.findIdx_lt_length]
  simp
theorem at_key {c : List α} {k : α} (h : atN c k < c.length) : c[atN c k]? = some k := by
  have := List.findIdx_getElem (p := fun x => decide (x = k)) (xs := c) (w := h)
  rw [List.getElem?_eq_getElem h]
  simp only [decide_eq_true_eq] at this
  exact congrArg some this
theorem at_before {c : List α} {k : α} {j : Nat} (h : j < atN c k) : c[j]? ≠ some k := fun e => by
  have hj : j < c.length := (List.getElem?_eq_some_iff.1 e).1
  have := List.not_of_lt_findIdx (p := fun x => decide (x = k)) (xs := c) h
  rw [List.getElem?_eq_getElem hj] at e
  simp only [Option.some.injEq] at e
  rw [e] at this
  simp at this
end
end Go.Proofs.YtebchoeeohmlaaaDoor.Cache
namespace Go.Proofs.YtebchoeeohmlaaaDoor.Cache
open Go Go.RowKit Go.Proofs.YtebchoeeohmlaaaDoor.Aid

/-- A slice of values that lies anywhere. -/
def ListAt (W : World) (v : Value) (n : Nat) (f : Nat → Value) : Prop :=
  ∃ A c, v = .slice A n c ∧ n ≤ c ∧ (0 < n → ∃ g o, A = some ⟨g, o, none⟩ ∧ ∀ i, i < n → W.cell? ⟨g, o + i, none⟩ = some (f i))
theorem ListAt.below {W W' : World} {v : Value} {n : Nat} {f : Nat → Value} (h : ListAt W v n f) (hb : Below W.heap.size W W') : ListAt W' v n f := by
  obtain ⟨A, c, rfl, hc, hr⟩ := h
  refine ⟨A, c, rfl, hc, fun h0 => ?_⟩
  obtain ⟨g, o, rfl, hi⟩ := hr h0
  exact ⟨g, o, rfl, fun i hin => (hb.cell (p := ⟨g, o + i, none⟩) (block_lt_of_cell (hi i hin))).trans (hi i hin)⟩
theorem list_eq (k y : ByteArray) : (k.toList == y.toList) = decide (k = y) := by
  rw [ByteArray.toList_eq, ByteArray.toList_eq]
  by_cases h : k = y
  · subst h; simp
  · rw [decide_eq_false h]
    have : k.data.toList ≠ y.data.toList := fun e => h (by
      cases k; cases y
      simpa using e)
    simpa using this
section
variable {α : Type} [DecidableEq α]
/-- A key's place; -1: there is none. -/
def idxK (c : List α) (k : α) : Int := if hasK c k then (atN c k : Int) else -1
theorem idx_none {c : List α} {k : α} (h : ∀ j, (hj : j < c.length) → c[j] ≠ k) : idxK c k = -1 := by
  unfold idxK
  have : hasK c k = false := by
    unfold hasK
    refine decide_eq_false fun hm => ?_
    obtain ⟨j, hj, e2⟩ := List.getElem_of_mem hm
    exact h j hj e2
  rw [this]
  rfl
theorem idx_found {c : List α} {k : α} {i : Nat} (hi : i < c.length) (he : c[i] = k) (h : ∀ j, j < i → (hj : j < c.length) → c[j] ≠ k) : idxK c k = (i : Int) := by
  have hat : atN c k = i := by
    have h1 : ¬ atN c k < i := fun hlt => by
      have := at_key (c := c) (k := k) (by omega)
      rw [List.getElem?_eq_getElem (by omega : atN c k < c.length)] at this
      simp only [Option.some.injEq] at this
      exact h _ hlt (by omega) this
    have h2 : ¬ i < atN c k := fun hlt => at_before hlt (by rw [List.getElem?_eq_getElem hi, he])
    omega
  unfold idxK
  rw [at_has, hat, decide_eq_true hi]
  rfl
end
end Go.Proofs.YtebchoeeohmlaaaDoor.Cache
namespace Go.Proofs.YtebchoeeohmlaaaDoor.Aid
open Go Go.RowKit

/-- 'b[lo:]'. -/
theorem from_run {P : Program} (t e : TypeId) (hu : P.underlying t = some (.slice e)) (hsz : (P.info? e).map (·.size) = some 1) (sb so M c lo : Nat) (h2 : lo ≤ M) (h3 : M ≤ c) :
    ∃ o : Nat, (lo < M → o = so + lo) ∧ ∀ (l : Int) (kd : IntKind) (W : World), l = (lo : Int) → (Instr.sliceAt t (.slice (some ⟨sb, so, none⟩) M c) (some (.int kd l)) none none).run P W = .ok (.slice (some ⟨sb, o, none⟩) (M - lo) (c - lo)) W := by
  refine ⟨if c = lo then so else so + lo, fun h => by rw [if_neg (by omega)], fun l kd W hl => ?_⟩
  subst hl
  cases hq : P.info? e with
  | none => simp [hq] at hsz
  | some i =>
    have hs : i.size = 1 := by simpa [hq] using hsz
    by_cases hck : c = lo
    · subst hck
      obtain rfl : M = c := by omega
      simp [Instr.sliceAt, Instr.slice, Instr.sliceBounds, Instr.sliceBound, asIntOf, Sem.run_bind, run_underlying hu W, Result.andThen, sizeOf, typeInfo, hq]
    · simp [Instr.sliceAt, Instr.slice, Instr.sliceBounds, Instr.sliceBound, asIntOf, Sem.run_bind, run_underlying hu W, Result.andThen, sizeOf, typeInfo, hq, hs, Addr.add_mid, hck, h2]
/-- 'b[lo:]', and where it begins. -/
theorem from_at {P : Program} (t e : TypeId) (hu : P.underlying t = some (.slice e)) (hsz : (P.info? e).map (·.size) = some 1) (sb so M c lo : Nat) (h2 : lo ≤ M) :
    ∀ (l : Int) (kd : IntKind) (W : World), l = (lo : Int) → (Instr.sliceAt t (.slice (some ⟨sb, so, none⟩) M c) (some (.int kd l)) none none).run P W = .ok (.slice (some ⟨sb, if c = lo then so else so + lo, none⟩) (M - lo) (c - lo)) W := by
  intro l kd W hl
  subst hl
  cases hq : P.info? e with
  | none => simp [hq] at hsz
  | some i =>
    have hs : i.size = 1 := by simpa [hq] using hsz
    by_cases hck : c = lo
    · simp [Instr.sliceAt, Instr.slice, Instr.sliceBounds, Instr.sliceBound, asIntOf, Sem.run_bind, run_underlying hu W, Result.andThen, sizeOf, typeInfo, hq, hck, h2]
    · simp [Instr.sliceAt, Instr.slice, Instr.sliceBounds, Instr.sliceBound, asIntOf, Sem.run_bind, run_underlying hu W, Result.andThen, sizeOf, typeInfo, hq, hs, Addr.add_mid, hck, h2]
/-- 'b[lo:hi]', hi as far as the capacity goes. -/
theorem midc_at {P : Program} (t e : TypeId) (hu : P.underlying t = some (.slice e)) (hsz : (P.info? e).map (·.size) = some 1) (sb so M c lo hi : Nat) (h1 : lo ≤ hi) (h2 : hi ≤ c) (h3 : lo < c) :
    ∀ (l h : Int) (kd kd' : IntKind) (W : World), l = (lo : Int) → h = (hi : Int) → (Instr.sliceAt t (.slice (some ⟨sb, so, none⟩) M c) (some (.int kd l)) (some (.int kd' h)) none).run P W = .ok (.slice (some ⟨sb, so + lo, none⟩) (hi - lo) (c - lo)) W := by
  intro l h kd kd' W hl hh
  subst hl hh
  cases hq : P.info? e with
  | none => simp [hq] at hsz
  | some i =>
    have hs : i.size = 1 := by simpa [hq] using hsz
    simp [Instr.sliceAt, Instr.slice, Instr.sliceBounds, Instr.sliceBound, asIntOf, Sem.run_bind, run_underlying hu W, Result.andThen, sizeOf, typeInfo, hq, hs, Addr.add_mid, show ¬ c = lo by omega, h1, h2]
/-- 'b[lo:hi:mx]' is there. -/
theorem full_run {P : Program} (t e : TypeId) (hu : P.underlying t = some (.slice e)) (hsz : (P.info? e).map (·.size) = some 1) (A : Option Addr) (M c lo hi mx : Nat) (h1 : lo ≤ hi) (h2 : hi ≤ mx) (h3 : mx ≤ c) :
    ∃ v, ∀ (l h x : Int) (k1 k2 k3 : IntKind) (W : World), l = (lo : Int) → h = (hi : Int) → x = (mx : Int) → (Instr.sliceAt t (.slice A M c) (some (.int k1 l)) (some (.int k2 h)) (some (.int k3 x))).run P W = .ok v W := by
  cases hq : P.info? e with
  | none => simp [hq] at hsz
  | some i =>
    refine ⟨.slice (if mx = lo then A else A.map (·.add (lo * i.size))) (hi - lo) (mx - lo), fun l h x k1 k2 k3 W hl hh hx => ?_⟩
    subst hl hh hx
    simp [Instr.sliceAt, Instr.slice, Instr.sliceBounds, Instr.sliceBound, asIntOf, Sem.run_bind, run_underlying hu W, Result.andThen, sizeOf, typeInfo, hq, h1, h2, h3]
/-- 'b[:m]'. -/
theorem upto_run {P : Program} (t e : TypeId) (hu : P.underlying t = some (.slice e)) (hsz : (P.info? e).map (·.size) = some 1) (sb so M c m : Nat) (h2 : m ≤ M) (h3 : M ≤ c) :
    ∀ (l : Int) (kd : IntKind) (W : World), l = (m : Int) → (Instr.sliceAt t (.slice (some ⟨sb, so, none⟩) M c) none (some (.int kd l)) none).run P W = .ok (.slice (some ⟨sb, so, none⟩) m c) W := by
  intro l kd W hl
  subst hl
  cases hq : P.info? e with
  | none => simp [hq] at hsz
  | some i =>
    have hs : i.size = 1 := by simpa [hq] using hsz
    by_cases hc0 : c = 0
    · subst hc0
      obtain rfl : m = 0 := by omega
      simp [Instr.sliceAt, Instr.slice, Instr.sliceBounds, Instr.sliceBound, asIntOf, Sem.run_bind, run_underlying hu W, Result.andThen, sizeOf, typeInfo, hq]
    · simp [Instr.sliceAt, Instr.slice, Instr.sliceBounds, Instr.sliceBound, asIntOf, Sem.run_bind, run_underlying hu W, Result.andThen, sizeOf, typeInfo, hq, Addr.add_mid, hc0, show m ≤ c by omega]
end Go.Proofs.YtebchoeeohmlaaaDoor.Aid
