/-
  Bytes that a call itself has gathered by append; append of bytes to them; a slice of bytes that came in, as a row's argument. append of bytes to few bytes of the call's own, however many come in within the reach of what is read: it goes through; what it holds, where there are not too many. Lists of bytes in a world, one behind the other. Slices of bytes, and bytes of the call's own: small laws that every layer takes. A slice of structs that the call itself makes: its rows as a list; append of rows to it; a piece of such a slice. Slices of different element types, a slice and a row, lie in different blocks; a row of one struct; grownBy. Fields as plain bytes: what the document's chapter on fields says of any list of fields and of any bytes; that they come back. Bytes of the call's own, read and written one by one. A store as bytes, how many of them are sure, a fuse, and whether there is power; what each operation does to it. Records as bytes; what is read of bytes, record by record: whole records are read as they were laid, what is left of one more is torn. D stands for the first eight bytes of the digest. What Add, Only and Open make of a store and of a journal's records; a crash in between. Bytes that lie apart from a footprint; in blocks of some kind. What the law of layer 14 needs of the program's store and journal, as one bundle. RJ: a journal in memory of its own, on a store, that is not broken, stands for its records. A store and a journal on it while the law goes on; blocks that no call on them touches.
-/
import Derived.Test.YtebchoeeohmlaaaDoorBd02
import Derived.Test.YtebchoeeohmlaaaDoorProg
import Derived.Test.YtebchoeeohmlaaaDoorBd01
import Derived.Test.YtebchoeeohmlaaaDoorBd14
import Derived.Maps.AppendAt
import Derived.OpenShut
namespace Go.Proofs.YtebchoeeohmlaaaDoor.Aid
open Go Go.RowKit

/-- v holds m bytes that read as e, in a row of the call's own, from block 'base' on. -/
def Own (w : World) (base m : Nat) (e : Nat → BitVec 8) (v : Value) : Prop := w.ownsRow base 5 1 v m ((List.range m).map fun i => Value.int .u8 ((e i).toNat : Int))
theorem Own.form {w : World} {base m : Nat} {e : Nat → BitVec 8} {v : Value} (h : Own w base m e v) :
    (v = .slice none 0 0 ∧ m = 0) ∨ ∃ g cap cur, v = .slice (some ⟨g, 0, none⟩) m cap ∧ base ≤ g ∧ g < w.heap.size ∧ m ≤ cap ∧ w.heap[g]? = some (.cells cur 5 (0, 0)) ∧ cur.size = cap ∧ ∀ j, j < m → cur[j]? = some (.int .u8 ((e j).toNat : Int)) := by
  obtain ⟨h1, h2⟩ := h
  rcases h2 with h2 | ⟨g, cap, cur, hv, hg, hh, hn, hc, hs, ht⟩
  · exact .inl h2
  · refine .inr ⟨g, cap, cur, hv, hg, ?_, hn, hh, by omega, fun j hj => ?_⟩
    · rcases Nat.lt_or_ge g w.heap.size with hlt | hge
      · exact hlt
      · rw [Array.getElem?_eq_none hge] at hh; cases hh
    · have hx := congrArg (fun l => l[j]?) ht
      simp only [Nat.mul_one, List.getElem?_take_of_lt hj, Array.getElem?_toList] at hx
      rw [hx]
      simp [hj]
theorem Own.slice {w : World} {base m : Nat} {e : Nat → BitVec 8} {v : Value} (h : Own w base m e v) {g' : Nat} (hg' : g' < base ∨ w.heap.size ≤ g') : SliceOf w g' m e v := by
  rcases h.form with ⟨rfl, rfl⟩ | ⟨g, cap, cur, rfl, hb, hlt, hm, hh, _, hc⟩
  · exact SliceOf.nil _ _ _
  · exact ⟨_, _, rfl, hm, fun _ => ⟨g, 0, rfl, by omega, fun j hj => by rw [Nat.zero_add, cell_of_row w g j cur _ _ hh]; exact hc j hj⟩⟩
theorem Own.keep {w w' : World} {base m : Nat} {e : Nat → BitVec 8} {v : Value} (h : Own w base m e v) (hk : ∀ b, v.ownBlock = some b → w'.heap[b]? = w.heap[b]?) : Own w' base m e v := by
  obtain ⟨h1, h2⟩ := h
  refine ⟨h1, ?_⟩
  rcases h2 with h2 | ⟨g, cap, cur, hv, hg, hh, r⟩
  · exact .inl h2
  · subst hv
    exact .inr ⟨g, cap, cur, rfl, hg, (hk g rfl).trans hh, r⟩
theorem Own.lt {w : World} {base m : Nat} {e : Nat → BitVec 8} {v : Value} (h : Own w base m e v) {b : Nat} (hb : v.ownBlock = some b) : base ≤ b ∧ b < w.heap.size := by
  rcases h.form with ⟨rfl, rfl⟩ | ⟨g, cap, cur, rfl, hb', hlt, _⟩
  · cases hb
  · have : g = b := by simpa [Value.ownBlock] using hb
    subst this
    exact ⟨hb', hlt⟩
theorem Own.below {w w' : World} {base m : Nat} {e : Nat → BitVec 8} {v : Value} (h : Own w base m e v) (hb : Below w.heap.size w w') : Own w' base m e v := h.keep (fun _ hv => hb.block _ (h.lt hv).2)
def cat (e : Nat → BitVec 8) (n : Nat) (f : Nat → BitVec 8) (j : Nat) : BitVec 8 := if j < n then e j else f (j - n)
theorem map_cat (e f : Nat → BitVec 8) (n m : Nat) :
    ((List.range n).map fun i => Value.int .u8 ((e i).toNat : Int)) ++ ((List.range m).map fun i => Value.int .u8 ((f i).toNat : Int)) = (List.range (n + m)).map fun i => Value.int .u8 ((cat e n f i).toNat : Int) := by
  apply List.ext_getElem?
  intro j
  by_cases h : j < n
  · rw [List.getElem?_append_left (by simpa using h)]
    simp [h, cat, show j < n + m by omega]
  · rw [List.getElem?_append_right (by simp; omega)]
    by_cases h2 : j < n + m
    · simp [h2, cat, h, show j - n < m by omega]
    · simp [h2, show ¬ j - n < m by omega]

section
variable {w : World} {ops : Array Oper} {rest : List Oper} {op : Oper} {a : Act} {Q : Exit → Act → World → Prop}
theorem info_u8 : (Tryd.prog.info? 5).map (fun i => (i.zero, i.size, i.bytes)) = some (some (.int .u8 0), 1, 1) := by kernel_rfl
theorem run_append_none (ty base m : Nat) (e : Nat → BitVec 8) (v : Value) (h : Own w base m e v) (c : Nat) : (Builtin.append_ #[23, 23] ty #[v, .slice none 0 c]).run Tryd.prog w = .ok v w := by
  obtain ⟨i, hi, hz⟩ := Option.map_eq_some_iff.1 info_u8
  rcases h.form with ⟨rfl, rfl⟩ | ⟨g, cap, cur, rfl, _, _, hm, _, _, _⟩
  · simp [Builtin.append_, run_underlying Tryd.underlying23, sizeOf, typeInfo, hi, Builtin.lenOf, Builtin.firstCells]
  · simp [Builtin.append_, run_underlying Tryd.underlying23, sizeOf, typeInfo, hi, Builtin.lenOf, Builtin.firstCells, hm, storeCells]
/-- 'append(v, x...)', v the call's own, x any bytes. -/
theorem append_bytes (hgd : op.guard = none) (s x : Operand) (ho : op.op = .call { callee := .builtin .append, args := #[s, x], argTypes := #[23, 23] })
    (base n : Nat) (e : Nat → BitVec 8) (v : Value) (hs : a.eval s = v) (hown : Own w base n e v) (g m : Nat) (f : Nat → BitVec 8) (u : Value) (hx : a.eval x = u) (hu : SliceOf w g m f u)
    (hnm : n + m ≤ 1000000000) (hbase : base ≤ w.heap.size)
    (hK : ∀ v' w', Own w' base (n + m) (cat e n f) v' → w.grownBy w' v.ownBlock → (v'.ownBlock = v.ownBlock ∨ v'.ownBlock = some w.heap.size) → wpList Tryd.prog ops Q rest (a.put op.dst v') w') : wpList Tryd.prog ops Q (op :: rest) a w := by
  obtain ⟨A, c, rfl, hc, hr⟩ := hu
  obtain ⟨i, hi, hz⟩ := Option.map_eq_some_iff.1 info_u8
  simp only [Prod.mk.injEq] at hz
  have fin : ∀ (ad : Addr), A = some ad → (∀ j y, ((List.range m).map fun i => Value.int .u8 ((f i).toNat : Int))[j]? = some y → w.cell? (ad.add j) = some y) → wpList Tryd.prog ops Q (op :: rest) a w := by
    intro ad hA hcell
    subst hA
    refine wpList_append_own_at w hgd s x 23 ho base 5 i (.int .u8 0) 1 1 Tryd.underlying23 hi hz.1 hz.2.1 hz.2.2 rfl (by omega) v n _ hs hown ad m c _ hx (by simp) hcell ?_ (by simp only [maxLen]; omega) (by omega) hbase ?_
    · intro y hy
      obtain ⟨j, _, rfl⟩ := List.mem_map.1 hy
      rfl
    · intro v' w' h1 h2 _ h4
      rw [map_cat] at h1
      exact hK v' w' h1 h2 h4
  by_cases hm : 0 < m
  · obtain ⟨sb, so, hA, _, hcell⟩ := hr hm
    refine fin _ hA (fun j y hy => ?_)
    have hj : j < m := by have := (List.getElem?_eq_some_iff.1 hy).1; simpa using this
    rw [Addr.add_mid, hcell j hj, ← hy]
    simp [hj]
  · obtain rfl : m = 0 := by omega
    cases A with
    | some ad => exact fin ad rfl (fun j y hy => by simp at hy)
    | none =>
      refine wpList_plain hgd fun K hK' => ?_
      have hrun := run_append_none (w := w) op.type base n e v hown c
      unfold Oper.wp
      simp [execOp, ho, resolve, invoke, builtin, hs, hx, hrun, Result.andThen]
      refine hK' _ _ (hK v w ?_ (World.grownBy.refl w _) (.inl rfl))
      have : (List.range (n + 0)).map (fun i => Value.int .u8 ((cat e n f i).toNat : Int)) = (List.range n).map fun i => Value.int .u8 ((e i).toNat : Int) := by
        rw [← map_cat]; simp
      unfold Own
      rw [this]
      exact hown
end
end Go.Proofs.YtebchoeeohmlaaaDoor.Aid

namespace Go.Proofs.YtebchoeeohmlaaaDoor.Aid
open Go Go.RowKit

theorem growBy_le (need B : Nat) (hB : need + (need + 768) / 4 ≤ B) : ∀ (r c : Nat), c ≤ B → Builtin.growBy need r c ≤ B
  | 0, _, h => h
  | r + 1, c, h => by
    unfold Builtin.growBy
    by_cases hc : c ≥ need
    · rw [if_pos hc]; exact h
    · rw [if_neg hc]
      exact growBy_le need B hB r _ (by omega)
theorem next_fits (need old : Nat) (h : old < need) (hn : need ≤ 140737488455328) : Builtin.nextslicecap need old ≤ 281474976710656 := by
  unfold Builtin.nextslicecap
  by_cases h1 : need > 2 * old
  · rw [if_pos h1]; omega
  · rw [if_neg h1]
    by_cases h2 : old < 256
    · rw [if_pos h2]; omega
    · rw [if_neg h2]
      exact growBy_le need _ (by omega) 4 old (by omega)

theorem run_append_big (w : World) (ty base n m : Nat) (e f : Nat → BitVec 8) (v : Value) (h : Own w base n e v) (ad : Addr) (c : Nat) (hc : ∀ j, j < m → w.cell? (ad.add j) = some (.int .u8 ((f j).toNat : Int)))
    (hm0 : 0 < m) (hn : n ≤ 100000) (hm : m ≤ 140737488351232) :
    ∃ v' w', (Builtin.append_ #[23, 23] ty #[v, .slice (some ad) m c]).run Tryd.prog w = .ok v' w' ∧ w.grownBy w' v.ownBlock := by
  obtain ⟨i, hi, hz⟩ := Option.map_eq_some_iff.1 info_u8
  simp only [Prod.mk.injEq] at hz
  obtain ⟨hz0, hsize, hby⟩ := hz
  have hl : ((List.range m).map fun j => Value.int .u8 ((f j).toNat : Int)).length = m * i.size := by simp [hsize]
  have hnews : ∀ j u, ((List.range m).map fun j => Value.int .u8 ((f j).toNat : Int))[j]? = some u → w.cell? (ad.add j) = some u := fun j u hu => by
    have hj : j < m := by have := (List.getElem?_eq_some_iff.1 hu).1; simpa using this
    rw [hc j hj, ← hu]
    simp [hj]
  rcases h.form with ⟨rfl, rfl⟩ | ⟨g, cap, cur, rfl, _, _, hcap, hh, hcur, hcells⟩
  · refine ⟨_, _, run_append_nil (P := Tryd.prog) w 23 ty 5 i _ Tryd.underlying23 hi hz0 ad m c _ hl hnews hm0 (by omega) (by rw [hby]; omega), ?_⟩
    exact ⟨rfl, rfl, rfl, by simp, fun k hk _ => Below.heap_alloc w.drew _ k hk⟩
  · by_cases hroom : n + m ≤ cap
    · refine ⟨_, _, run_append_room (P := Tryd.prog) w 23 ty 5 i Tryd.underlying23 hi g n cap cur hh ad m c _ hl hnews (fun u hu => ?_) hroom (by rw [hl, hsize]; omega), ?_⟩
      · obtain ⟨j, _, rfl⟩ := List.mem_map.1 hu
        rfl
      · exact ⟨rfl, rfl, rfl, by simp, fun k _ hk => setRow_other w g k _ (fun e => hk (by simp [Value.ownBlock, e]))⟩
    · refine ⟨_, _, run_append_grow (P := Tryd.prog) w 23 ty 5 i _ Tryd.underlying23 hi hz0 ⟨g, 0, none⟩ n cap ((List.range n).map fun j => Value.int .u8 ((e j).toNat : Int)) (by simp [hsize]) (fun j u hu => ?_) ad m c _ hl hnews (by omega) (by omega) (by rw [hby, Nat.mul_one]; exact next_fits _ _ (by omega) (by omega)), ?_⟩
      · have hj : j < n := by have := (List.getElem?_eq_some_iff.1 hu).1; simpa using this
        rw [Addr.add_mid, Nat.zero_add, cell_of_row w g j cur _ _ hh, hcells j hj, ← hu]
        simp [hj]
      · exact ⟨rfl, rfl, rfl, by simp, fun k hk _ => Below.heap_alloc w.drew _ k hk⟩

section
variable {w : World} {ops : Array Oper} {rest : List Oper} {op : Oper} {a : Act} {Q : Exit → Act → World → Prop}
/-- 'append(v, x...)', v few bytes of the call's own, x as many as can be read. -/
theorem append_big (hgd : op.guard = none) (s x : Operand) (ho : op.op = .call { callee := .builtin .append, args := #[s, x], argTypes := #[23, 23] })
    (base n : Nat) (e : Nat → BitVec 8) (v : Value) (hs : a.eval s = v) (hown : Own w base n e v) (g m : Nat) (f : Nat → BitVec 8) (u : Value) (hx : a.eval x = u) (hu : SliceOf w g m f u)
    (hn : n ≤ 100000) (hm : m ≤ 140737488351232) (hbase : base ≤ w.heap.size)
    (hK : ∀ v' w', (m ≤ 100000 → Own w' base (n + m) (cat e n f) v') → w.grownBy w' v.ownBlock → wpList Tryd.prog ops Q rest (a.put op.dst v') w') : wpList Tryd.prog ops Q (op :: rest) a w := by
  by_cases hsm : m ≤ 100000
  · exact append_bytes hgd s x ho base n e v hs hown g m f u hx hu (by omega) hbase (fun v' w' h1 h2 _ => hK v' w' (fun _ => h1) h2)
  · obtain ⟨A, c, rfl, hc, hr⟩ := hu
    obtain ⟨sb, so, rfl, _, hcell⟩ := hr (by omega)
    obtain ⟨v', w', hrun, hg⟩ := run_append_big w op.type base n m e f v hown ⟨sb, so, none⟩ c (fun j hj => by rw [Addr.add_mid]; exact hcell j hj) (by omega) hn hm
    refine wpList_plain hgd fun K hK' => ?_
    unfold Oper.wp
    simp [execOp, ho, resolve, invoke, builtin, hs, hx, hrun, Result.andThen]
    exact hK' _ _ (hK v' w' (fun h => absurd h hsm) hg)
end
end Go.Proofs.YtebchoeeohmlaaaDoor.Aid

namespace Go.Proofs.YtebchoeeohmlaaaDoor.Law01
open Go Go.RowKit Go.Proofs.YtebchoeeohmlaaaDoor.Aid

/-- v is a slice of len slices of bytes: number i has m i bytes, that read as e i. -/
def PartsOf (w : World) (len : Nat) (m : Nat → Nat) (e : Nat → Nat → BitVec 8) (v : Value) : Prop :=
  ∃ (A : Option Addr) (c : Nat), v = .slice A len c ∧ (0 < len → ∃ sb so : Nat, A = some ⟨sb, so, none⟩ ∧ ∀ i, i < len → ∃ u, w.cell? ⟨sb, so + i, none⟩ = some u ∧ SliceOf w w.heap.size (m i) (e i) u)
def off (m : Nat → Nat) : Nat → Nat
  | 0 => 0
  | i + 1 => off m i + m i
def catAll (m : Nat → Nat) (e : Nat → Nat → BitVec 8) : Nat → Nat → BitVec 8
  | 0 => fun _ => 0
  | i + 1 => cat (catAll m e i) (off m i) (e i)
theorem off_mono (m : Nat → Nat) {i j : Nat} (h : i ≤ j) : off m i ≤ off m j := by
  induction h with
  | refl => exact Nat.le_refl _
  | step _ ih => exact Nat.le_trans ih (Nat.le_add_right _ _)
theorem catAll_at (m : Nat → Nat) (e : Nat → Nat → BitVec 8) {i k : Nat} (h : i ≤ k) (j : Nat) (hj : j < off m i) : catAll m e k j = catAll m e i j := by
  induction h with
  | refl => rfl
  | @step k hik ih =>
    show cat (catAll m e k) (off m k) (e k) j = _
    unfold cat
    rw [if_pos (Nat.lt_of_lt_of_le hj (off_mono m hik)), ih]
theorem catAll_part (m : Nat → Nat) (e : Nat → Nat → BitVec 8) {i k : Nat} (h : i < k) (j : Nat) (hj : j < m i) : catAll m e k (off m i + j) = e i j := by
  rw [catAll_at m e (i := i + 1) (k := k) h _ (by show _ < off m i + m i; omega)]
  show cat (catAll m e i) (off m i) (e i) _ = _
  unfold cat
  rw [if_neg (by omega), Nat.add_sub_cancel_left]
end Go.Proofs.YtebchoeeohmlaaaDoor.Law01

namespace Go.Proofs.YtebchoeeohmlaaaDoor.Aid
open Go Go.RowKit

theorem slice_any {w : World} {g g' m : Nat} {e : Nat → BitVec 8} {v : Value} (h : SliceOf w g m e v) (hg : w.heap.size ≤ g') : SliceOf w g' m e v := by
  obtain ⟨A, c, hv, hc, hr⟩ := h
  refine ⟨A, c, hv, hc, fun hm => ?_⟩
  obtain ⟨sb, so, hA, _, hcell⟩ := hr hm
  have := block_lt_of_cell (hcell 0 hm)
  exact ⟨sb, so, hA, by simp at this; omega, hcell⟩
theorem slice_below {w w' : World} {g m : Nat} {e : Nat → BitVec 8} {v : Value} (h : SliceOf w g m e v) (hb : Below w.heap.size w w') : SliceOf w' g m e v := h.keep (fun b hl _ => hb.block b hl)
theorem Own.congr' {w : World} {base m : Nat} {e e' : Nat → BitVec 8} {v : Value} (h : Own w base m e v) (he : ∀ j, j < m → e j = e' j) : Own w base m e' v := by
  unfold Own at h ⊢
  have : (List.range m).map (fun i => Value.int .u8 ((e i).toNat : Int)) = (List.range m).map (fun i => Value.int .u8 ((e' i).toNat : Int)) :=
    List.map_congr_left (fun j hj => by rw [he j (List.mem_range.1 hj)])
  rw [← this]
  exact h
theorem own_empty8 (w : World) (e : Nat → BitVec 8) : Own (w.alloc (.cells #[] 5)) w.heap.size 0 e (.slice (some ⟨w.heap.size, 0, none⟩) 0 0) :=
  World.ownsRow_made w #[] 0 (Nat.le_refl _) (by simp [maxLen]) (by simp)
/-- One byte in a new block. -/
theorem slice_one (w : World) (g : Nat) (hg : g ≠ w.heap.size) (x : BitVec 8) (v : Int) (hv : v = (x.toNat : Int)) : SliceOf (w.alloc (.cells #[.int .u8 v] 5)) g 1 (fun _ => x) (.slice (some ⟨w.heap.size, 0, none⟩) 1 1) := by
  refine ⟨_, 1, rfl, Nat.le_refl _, fun _ => ⟨w.heap.size, 0, rfl, fun e => hg e.symm, fun j hj => ?_⟩⟩
  obtain rfl : j = 0 := by omega
  rw [World.cell?_alloc_new, hv]
  rfl
/-- One more byte of the padded input. -/
theorem own_next {w : World} {base L : Nat} {F : Nat → BitVec 8} {x : BitVec 8} {v : Value} (h : Own w base (L + 1) (cat F L (fun _ => x)) v) (hx : F L = x) : Own w base (L + 1) F v :=
  Own.congr' h (fun j hj => by
    unfold cat
    by_cases hjl : j < L
    · rw [if_pos hjl]
    · rw [if_neg hjl, ← hx, show j = L by omega])
theorem own_base {w : World} {base base' m : Nat} {e : Nat → BitVec 8} {v : Value} (h : Own w base m e v) (hb : base' ≤ base) : Own w base' m e v :=
  ⟨h.1, h.2.elim Or.inl (fun ⟨g, cap, cur, hv, hg, r⟩ => Or.inr ⟨g, cap, cur, hv, Nat.le_trans hb hg, r⟩)⟩
/-- 'b[:k]' of bytes of the call's own. -/
theorem head_run {P : Program} (t e : TypeId) (hu : P.underlying t = some (.slice e)) (hsz : (P.info? e).map (·.size) = some 1) (A : Option Addr) (hA : ∀ x, A = some x → ∃ sb so, x = ⟨sb, so, none⟩) (M c k : Nat) (hk : k ≤ c) (kd : IntKind) (W : World) :
    (Instr.sliceAt t (.slice A M c) none (some (.int kd (k : Int))) none).run P W = .ok (.slice A k c) W := by
  cases hq : P.info? e with
  | none => simp [hq] at hsz
  | some i =>
    cases A with
    | none => simp [Instr.sliceAt, Instr.slice, Instr.sliceBounds, Instr.sliceBound, asIntOf, Sem.run_bind, run_underlying hu W, Result.andThen, sizeOf, typeInfo, hq, hk]
    | some x =>
      obtain ⟨sb, so, rfl⟩ := hA x rfl
      simp [Instr.sliceAt, Instr.slice, Instr.sliceBounds, Instr.sliceBound, asIntOf, Sem.run_bind, run_underlying hu W, Result.andThen, sizeOf, typeInfo, hq, hk, Addr.add_mid]
/-- 'b[lo:hi]'. -/
theorem mid_at {P : Program} (t e : TypeId) (hu : P.underlying t = some (.slice e)) (hsz : (P.info? e).map (·.size) = some 1) (sb so M c lo m : Nat) (h1 : 0 < m) (h2 : lo + m ≤ M) (h3 : M ≤ c) (hi : Int) (hhi : hi = ((lo + m : Nat) : Int)) (kd kd' : IntKind) (W : World) :
    (Instr.sliceAt t (.slice (some ⟨sb, so, none⟩) M c) (some (.int kd (lo : Int))) (some (.int kd' hi)) none).run P W = .ok (.slice (some ⟨sb, so + lo, none⟩) m (c - lo)) W := by
  subst hhi
  cases hq : P.info? e with
  | none => simp [hq] at hsz
  | some i =>
    have hs : i.size = 1 := by simpa [hq] using hsz
    have e1 : ¬ c = lo := by omega
    have e3 : ((lo : Int) + (m : Int)).toNat = lo + m := by omega
    have e5 : (lo : Int) + (m : Int) ≤ (c : Int) := by omega
    have e6 : lo + m - lo = m := by omega
    have e9 : (0 : Int) ≤ (lo : Int) + (m : Int) := by omega
    simp [Instr.sliceAt, Instr.slice, Instr.sliceBounds, Instr.sliceBound, asIntOf, Sem.run_bind, run_underlying hu W, Result.andThen, sizeOf, typeInfo, hq, hs, Addr.add_mid, e1, e3, e5, e6, e9]
theorem own_shape {w : World} {base m : Nat} {e : Nat → BitVec 8} {v : Value} (h : Own w base m e v) : ∃ A cap, v = .slice A m cap ∧ m ≤ cap ∧ ∀ x, A = some x → ∃ sb so, x = ⟨sb, so, none⟩ := by
  rcases h.form with ⟨rfl, rfl⟩ | ⟨g, cap, cur, rfl, _, _, hc, _⟩
  · exact ⟨none, 0, rfl, Nat.le_refl _, fun _ h => by cases h⟩
  · exact ⟨_, cap, rfl, hc, fun x h => by cases h; exact ⟨_, _, rfl⟩⟩
/-- The first of more bytes. -/
theorem slice_head {w : World} {g m k c : Nat} {e : Nat → BitVec 8} {A : Option Addr} (h : SliceOf w g m e (.slice A m c)) (hk : k ≤ m) : SliceOf w g k e (.slice A k c) := by
  obtain ⟨A', c', hv, hc, hr⟩ := h
  simp only [Value.slice.injEq, true_and] at hv
  obtain ⟨rfl, rfl⟩ := hv
  refine ⟨_, _, rfl, by omega, fun h0 => ?_⟩
  obtain ⟨sb, so, h1, h2, h3⟩ := hr (by omega)
  exact ⟨sb, so, h1, h2, fun j hj => h3 j (by omega)⟩
theorem slice_shape {w : World} {g m : Nat} {e : Nat → BitVec 8} {v : Value} (h : SliceOf w g m e v) : ∃ A c, v = .slice A m c := by
  obtain ⟨A, c, rfl, _⟩ := h
  exact ⟨A, c, rfl⟩
end Go.Proofs.YtebchoeeohmlaaaDoor.Aid
namespace Go.Proofs.YtebchoeeohmlaaaDoor.Aid
open Go Go.RowKit

structure OwnE (W : World) (base : Nat) (e : TypeId) (s : Nat) (L : List (List Value)) (v : Value) : Prop where
  own : W.ownsRow base e s v L.length L.flatten
  len : ∀ r ∈ L, r.length = s
theorem flat_len {s : Nat} : ∀ {L : List (List Value)}, (∀ r ∈ L, r.length = s) → L.flatten.length = L.length * s
  | [], _ => by simp
  | r :: L, h => by
    rw [List.flatten_cons, List.length_append, h r (List.mem_cons_self ..), flat_len (fun x hx => h x (List.mem_cons_of_mem _ hx)), List.length_cons, Nat.add_mul, Nat.one_mul, Nat.add_comm]
theorem flat_at {s : Nat} : ∀ {L : List (List Value)}, (∀ r ∈ L, r.length = s) → ∀ {i j : Nat} {r : List Value} {u : Value}, L[i]? = some r → r[j]? = some u → L.flatten[i * s + j]? = some u
  | [], _, i, _, _, _, h, _ => by simp at h
  | q :: L, h, 0, j, r, u, h1, h2 => by
    simp at h1
    subst h1
    rw [List.flatten_cons, Nat.zero_mul, Nat.zero_add, List.getElem?_append_left (List.getElem?_eq_some_iff.1 h2).1]
    exact h2
  | q :: L, h, i + 1, j, r, u, h1, h2 => by
    have hq := h q (List.mem_cons_self ..)
    rw [List.flatten_cons, List.getElem?_append_right (by rw [hq, Nat.add_mul]; omega), hq, show (i + 1) * s + j - s = i * s + j by rw [Nat.add_mul]; omega]
    exact flat_at (fun x hx => h x (List.mem_cons_of_mem _ hx)) (by simpa using h1) h2
theorem flat_inv {s : Nat} : ∀ {L : List (List Value)}, (∀ r ∈ L, r.length = s) → ∀ {j : Nat} {u : Value}, L.flatten[j]? = some u → ∃ i k r, L[i]? = some r ∧ r[k]? = some u ∧ j = i * s + k
  | [], _, j, u, h => by simp at h
  | q :: L, h, j, u, h1 => by
    have hq := h q (List.mem_cons_self ..)
    by_cases hj : j < s
    · rw [List.flatten_cons, List.getElem?_append_left (by omega)] at h1
      exact ⟨0, j, q, rfl, h1, by omega⟩
    · rw [List.flatten_cons, List.getElem?_append_right (by omega), hq] at h1
      obtain ⟨i, k, r, h2, h3, h4⟩ := flat_inv (fun x hx => h x (List.mem_cons_of_mem _ hx)) h1
      exact ⟨i + 1, k, r, by simpa using h2, h3, by rw [Nat.add_mul]; omega⟩
section
variable {W W' : World} {base : Nat} {e : TypeId} {s : Nat} {L : List (List Value)} {v : Value}
theorem OwnE.nil (W : World) (base : Nat) (e : TypeId) (s : Nat) : OwnE W base e s [] (.slice none 0 0) := ⟨World.ownsRow_nil _ _ _ _, fun _ h => by cases h⟩
theorem OwnE.empty (W : World) (e : TypeId) (s : Nat) : OwnE (W.alloc (.cells #[] e)) W.heap.size e s [] (.slice (some ⟨W.heap.size, 0, none⟩) 0 0) := ⟨World.ownsRow_made W #[] 0 (Nat.le_refl _) (by simp [maxLen]) (by simp), fun _ h => by cases h⟩
theorem OwnE.keep (h : OwnE W base e s L v) (hk : ∀ b, v.ownBlock = some b → W'.heap[b]? = W.heap[b]?) : OwnE W' base e s L v := by
  refine ⟨⟨h.own.1, ?_⟩, h.len⟩
  rcases h.own.2 with h0 | ⟨g, cap, cur, rfl, hb, hg, rest⟩
  · exact .inl h0
  · exact .inr ⟨g, cap, cur, rfl, hb, (hk g rfl).trans hg, rest⟩
theorem OwnE.lt (h : OwnE W base e s L v) : ∀ b, v.ownBlock = some b → base ≤ b ∧ b < W.heap.size := World.ownsRow.lt h.own
theorem OwnE.below (h : OwnE W base e s L v) (hb : Below W.heap.size W W') : OwnE W' base e s L v := h.keep (fun b hv => hb.block b (h.lt b hv).2)
theorem OwnE.base_ (h : OwnE W base e s L v) {base' : Nat} (hb : base' ≤ base) : OwnE W base' e s L v := ⟨⟨h.own.1, h.own.2.elim Or.inl (fun ⟨g, cap, cur, hv, hg, r⟩ => Or.inr ⟨g, cap, cur, hv, Nat.le_trans hb hg, r⟩)⟩, h.len⟩
theorem OwnE.shape (h : OwnE W base e s L v) : ∃ A c, v = .slice A L.length c := by
  rcases h.own.2 with ⟨hv, h0⟩ | ⟨g, cap, cur, hv, _⟩
  · exact ⟨none, 0, by rw [hv, h0]⟩
  · exact ⟨_, cap, hv⟩
theorem OwnE.cap (h : OwnE W base e s L v) {A : Option Addr} {n c : Nat} (hv : v = .slice A n c) : n ≤ c := by
  rcases h.own.2 with ⟨h1, h0⟩ | ⟨g, cap, cur, h1, hb, hg, hn, _⟩
  · rw [hv] at h1
    cases h1
    exact Nat.le_refl _
  · rw [hv] at h1
    cases h1
    exact hn
theorem OwnE.rows (h : OwnE W base e s L v) : RowsAt W s L.length (fun i => L.getD i []) v := by
  rcases h.own.2 with ⟨rfl, h0⟩ | ⟨g, cap, cur, rfl, hb, hg, hn, hm, hs, ht⟩
  · exact ⟨none, 0, by rw [h0], fun h1 => by omega⟩
  · refine ⟨_, cap, rfl, fun _ => ⟨g, 0, rfl, (Array.getElem?_eq_some_iff.1 hg).1, fun i hi j u hu => ?_⟩⟩
    have h1 : L[i]? = some (L.getD i []) := by rw [List.getD_eq_getElem?_getD, List.getElem?_eq_getElem hi]; rfl
    have h2 := World.ownsRow.cells h.own (g := g) rfl _ _ (flat_at h.len h1 hu)
    have hadd : ∀ j, (⟨g, 0, none⟩ : Addr).add j = ⟨g, j, none⟩ := fun j => by unfold Addr.add; split <;> simp_all
    rw [hadd] at h2
    rw [Nat.zero_add]
    exact h2
end
theorem OwnE.toRow {W : World} {base g n c : Nat} {e : TypeId} {s : Nat} {L : List (List Value)} (h : OwnE W base e s L (.slice (some ⟨g, 0, none⟩) n c)) : ∃ f, W.rowIs g e (c * s) f ∧ L.length ≤ c ∧ c ≤ maxLen ∧ base ≤ g ∧ n = L.length ∧ ∀ i r j u, L[i]? = some r → r[j]? = some u → f (i * s + j) = u := by
  rcases h.own.2 with ⟨h0, _⟩ | ⟨g', cap, cur, h0, hb, hg, hn, hm, hs, ht⟩
  · cases h0
  · simp only [Value.slice.injEq, Option.some.injEq, Addr.mk.injEq, and_true] at h0
    obtain ⟨rfl, rfl, rfl⟩ := h0
    refine ⟨fun j => cur.getD j undef, row_mk ?_, hn, hm, hb, rfl, fun i r j u h1 h2 => ?_⟩
    · rw [hg]
      congr 2
      exact eq_cellsOf hs (fun i hi => by
        have : i < cur.size := by omega
        simp [Array.getD, this])
    · have h3 := flat_at h.len h1 h2
      rw [← ht] at h3
      have hlt := (List.getElem?_eq_some_iff.1 h3).1
      rw [List.length_take] at hlt
      rw [List.getElem?_take_of_lt (by omega)] at h3
      have h4 : i * s + j < cur.size := by have : cur.toList.length = cur.size := Array.length_toList; omega
      rw [Array.getElem?_toList, Array.getElem?_eq_getElem h4] at h3
      simp [Array.getD, h4]
      exact Option.some.inj h3
theorem OwnE.ofRow {W : World} {base g c : Nat} {e : TypeId} {s : Nat} {L : List (List Value)} {f : Nat → Value} (hr : W.rowIs g e (c * s) f) (hc : L.length ≤ c) (hm : c ≤ maxLen) (hb : base ≤ g) (hlen : ∀ r ∈ L, r.length = s) (hf : ∀ i r j u, L[i]? = some r → r[j]? = some u → f (i * s + j) = u) : OwnE W base e s L (.slice (some ⟨g, 0, none⟩) L.length c) := by
  refine ⟨⟨flat_len hlen, .inr ⟨g, c, cellsOf (c * s) f, rfl, hb, row_heap hr, hc, hm, size_cellsOf _ _, ?_⟩⟩, hlen⟩
  have hle : L.length * s ≤ c * s := Nat.mul_le_mul_right _ hc
  apply List.ext_getElem?
  intro j
  by_cases hj : j < L.length * s
  · rw [List.getElem?_take_of_lt hj, Array.getElem?_toList, cellsOf_at _ _ j (by omega)]
    have h1 : j < L.flatten.length := by rw [flat_len hlen]; exact hj
    obtain ⟨i, k, r, h2, h3, h4⟩ := flat_inv hlen (List.getElem?_eq_getElem h1)
    rw [List.getElem?_eq_getElem h1, ← hf i r k _ h2 h3, h4]
  · rw [List.getElem?_eq_none (by rw [List.length_take]; exact Nat.le_trans (Nat.min_le_left _ _) (Nat.le_of_not_lt hj)), List.getElem?_eq_none (by rw [flat_len hlen]; omega)]
/-! ### Pieces of a slice of structs -/
theorem RowsAt.take {W : World} {s n k c : Nat} {V : Nat → List Value} {A : Option Addr} (h : RowsAt W s n V (.slice A n c)) (hk : k ≤ n) : RowsAt W s k V (.slice A k c) := by
  obtain ⟨A', c', he, hr⟩ := h
  simp only [Value.slice.injEq, true_and] at he
  obtain ⟨rfl, rfl⟩ := he
  refine ⟨_, _, rfl, fun h1 => ?_⟩
  obtain ⟨b, o, hA, hlt, hc⟩ := hr (by omega)
  exact ⟨b, o, hA, hlt, fun i hi => hc i (by omega)⟩
theorem RowsAt.drop {W : World} {s n k c b o : Nat} {V : Nat → List Value} (h : RowsAt W s n V (.slice (some ⟨b, o, none⟩) n c)) (hk : k ≤ n) (A' : Option Addr) (hA' : 0 < n - k → A' = some ⟨b, o + k * s, none⟩) : RowsAt W s (n - k) (fun i => V (k + i)) (.slice A' (n - k) (c - k)) := by
  obtain ⟨A, c', he, hr⟩ := h
  simp only [Value.slice.injEq, true_and] at he
  obtain ⟨rfl, rfl⟩ := he
  refine ⟨_, _, rfl, fun h1 => ?_⟩
  obtain ⟨b', o', hA, hlt, hc⟩ := hr (by omega)
  simp only [Option.some.injEq, Addr.mk.injEq, and_true] at hA
  obtain ⟨rfl, rfl⟩ := hA
  refine ⟨b, o + k * s, hA' (by omega), hlt, fun i hi j u hu => ?_⟩
  have := hc (k + i) (by omega) j u hu
  rw [show o + (k + i) * s + j = o + k * s + i * s + j by rw [Nat.add_mul]; omega] at this
  exact this
theorem rows_head_run {P : Program} (t e s : Nat) (hu : P.underlying t = some (.slice e)) (hsz : (P.info? e).map (·.size) = some s) (A : Option Addr) (hA : ∀ x, A = some x → ∃ sb so, x = ⟨sb, so, none⟩) (M c k : Nat) (hk : k ≤ c) (kd : IntKind) (W : World) :
    (Instr.sliceAt t (.slice A M c) none (some (.int kd (k : Int))) none).run P W = .ok (.slice A k c) W := by
  cases hq : P.info? e with
  | none => simp [hq] at hsz
  | some i =>
    cases A with
    | none => simp [Instr.sliceAt, Instr.slice, Instr.sliceBounds, Instr.sliceBound, asIntOf, Sem.run_bind, run_underlying hu W, Result.andThen, sizeOf, typeInfo, hq, hk]
    | some x =>
      obtain ⟨sb, so, rfl⟩ := hA x rfl
      simp [Instr.sliceAt, Instr.slice, Instr.sliceBounds, Instr.sliceBound, asIntOf, Sem.run_bind, run_underlying hu W, Result.andThen, sizeOf, typeInfo, hq, hk, Addr.add_mid]
theorem rows_cut_run {P : Program} (t e s : Nat) (hu : P.underlying t = some (.slice e)) (hsz : (P.info? e).map (·.size) = some s) (sb so M c k : Nat) (hk : k ≤ M) (hc : M ≤ c) :
    ∃ A : Option Addr, (0 < M - k → A = some ⟨sb, so + k * s, none⟩) ∧ ∀ (kd : IntKind) (W : World), (Instr.sliceAt t (.slice (some ⟨sb, so, none⟩) M c) (some (.int kd (k : Int))) none none).run P W = .ok (.slice A (M - k) (c - k)) W := by
  refine ⟨if c = k then some ⟨sb, so, none⟩ else some ⟨sb, so + k * s, none⟩, fun h => by rw [if_neg (by omega)], fun kd W => ?_⟩
  cases hq : P.info? e with
  | none => simp [hq] at hsz
  | some i =>
    have hs : i.size = s := by simpa [hq] using hsz
    by_cases hck : c = k
    · simp [Instr.sliceAt, Instr.slice, Instr.sliceBounds, Instr.sliceBound, asIntOf, Sem.run_bind, run_underlying hu W, Result.andThen, sizeOf, typeInfo, hq, hck, hk]
    · simp [Instr.sliceAt, Instr.slice, Instr.sliceBounds, Instr.sliceBound, asIntOf, Sem.run_bind, run_underlying hu W, Result.andThen, sizeOf, typeInfo, hq, hck, hk, hs, Addr.add_mid]
section
variable {P : Program} {w : World} {ops : Array Oper} {rest : List Oper} {op : Oper} {a : Act} {Q : Exit → Act → World → Prop}
theorem run_append_none_rows (T e ty s : Nat) (i : TypeInfo) (hT : P.underlying T = some (.slice e)) (hi : P.info? e = some i) (base n : Nat) (v : Value) (xs : List Value) (h : w.ownsRow base e s v n xs) (c : Nat) : (Builtin.append_ #[T, T] ty #[v, .slice none 0 c]).run P w = .ok v w := by
  rcases h.2 with ⟨rfl, rfl⟩ | ⟨g, cap, cur, rfl, _, hg, hn, _⟩
  · simp [Builtin.append_, run_underlying hT, sizeOf, typeInfo, hi, Builtin.lenOf, Builtin.firstCells]
  · simp [Builtin.append_, run_underlying hT, sizeOf, typeInfo, hi, Builtin.lenOf, Builtin.firstCells, hn, storeCells]
/-- 'append(v, x...)', v the call's own, x any rows. -/
theorem append_rows (hgd : op.guard = none) (y x : Operand) (T : TypeId) (ho : op.op = .call { callee := .builtin .append, args := #[y, x], argTypes := #[T, T] })
    (base : Nat) (e : TypeId) (s b : Nat) (z : Value) (hT : P.underlying T = some (.slice e)) (hinfo : (P.info? e).map (fun i => (i.zero, i.size, i.bytes)) = some (some z, s, b)) (hz : z.cells.size = s) (hs : 0 < s)
    (L : List (List Value)) (v : Value) (hv : a.eval y = v) (hown : OwnE w base e s L v) (m : Nat) (V : Nat → List Value) (u : Value) (hx : a.eval x = u) (hu : RowsAt w s m V u) (hV : ∀ i, i < m → (V i).length = s ∧ ∀ q ∈ V i, q.oneCell' = true)
    (hmax : L.length + m ≤ 1000000) (hb : b ≤ 10000000) (hbase : base ≤ w.heap.size)
    (hK : ∀ v' w', OwnE w' base e s (L ++ (List.range m).map V) v' → w.grownBy w' v.ownBlock → (v'.ownBlock = v.ownBlock ∨ v'.ownBlock = some w.heap.size) → wpList P ops Q rest (a.put op.dst v') w') : wpList P ops Q (op :: rest) a w := by
  obtain ⟨i, hi, hzz⟩ := Option.map_eq_some_iff.1 hinfo
  simp only [Prod.mk.injEq] at hzz
  obtain ⟨A, c, rfl, hr⟩ := hu
  have hlen : ∀ r ∈ (List.range m).map V, r.length = s := fun r hr' => by
    obtain ⟨k, hk, rfl⟩ := List.mem_map.1 hr'
    exact (hV k (List.mem_range.1 hk)).1
  have hLL : ∀ r ∈ L ++ (List.range m).map V, r.length = s := fun r hr' => by
    rcases List.mem_append.1 hr' with h | h
    · exact hown.len r h
    · exact hlen r h
  have hN : (L ++ (List.range m).map V).length = L.length + m := by simp
  have fin : ∀ (ad : Addr), A = some ad → (∀ j q, ((List.range m).map V).flatten[j]? = some q → w.cell? (ad.add j) = some q) → wpList P ops Q (op :: rest) a w := by
    intro ad hA hcell
    subst hA
    refine wpList_append_own_at w hgd y x T ho base e i z s b hT hi hzz.1 hzz.2.1 hzz.2.2 hz hs v L.length _ hv hown.own ad m c ((List.range m).map V).flatten hx (by rw [flat_len hlen]; simp) hcell ?_ (by simp only [maxLen]; omega) ?_ hbase ?_
    · intro q hq
      obtain ⟨r, hr1, hr2⟩ := List.mem_flatten.1 hq
      obtain ⟨k, hk, rfl⟩ := List.mem_map.1 hr1
      exact (hV k (List.mem_range.1 hk)).2 q hr2
    · have : (L.length + m) * b ≤ 1000000 * 10000000 := Nat.mul_le_mul hmax hb
      omega
    · intro v' w' h1 h2 _ h4
      refine hK v' w' ⟨?_, hLL⟩ h2 h4
      rw [hN, List.flatten_append]
      exact h1
  by_cases hm : 1 ≤ m
  · obtain ⟨sb, so, rfl, hlt, hc⟩ := hr hm
    refine fin _ rfl (fun j q hq => ?_)
    obtain ⟨k, t, r, h1, h2, rfl⟩ := flat_inv hlen hq
    have hk : k < m := by have := (List.getElem?_eq_some_iff.1 h1).1; simpa using this
    rw [List.getElem?_map, List.getElem?_range hk] at h1
    simp only [Option.map_some, Option.some.injEq] at h1
    subst h1
    rw [Addr.add_mid, ← Nat.add_assoc]
    exact hc k hk t q h2
  · obtain rfl : m = 0 := by omega
    cases A with
    | some ad => exact fin ad rfl (fun j q hq => by simp at hq)
    | none =>
      refine wpList_plain hgd fun K hK' => ?_
      have hrun := run_append_none_rows (P := P) (w := w) T e op.type s i hT hi base _ v _ hown.own c
      unfold Oper.wp
      simp [execOp, ho, resolve, invoke, builtin, hv, hx, hrun, Result.andThen]
      exact hK' _ _ (hK v w (by simpa using hown) ⟨rfl, rfl, rfl, Nat.le_refl _, fun _ _ _ => rfl⟩ (.inl rfl))
theorem run_append_zero_rows (T e ty : TypeId) (i : TypeInfo) (hT : P.underlying T = some (.slice e)) (hi : P.info? e = some i) (g c : Nat) (A : Option Addr) : (Builtin.append_ #[T, T] ty #[.slice (some ⟨g, 0, none⟩) 0 0, .slice A 0 c]).run P w = .ok (.slice (some ⟨g, 0, none⟩) 0 0) w := by
  cases A with
  | none => simp [Builtin.append_, run_underlying hT, sizeOf, typeInfo, hi, Builtin.lenOf, Builtin.firstCells, storeCells]
  | some x => simp [Builtin.append_, run_underlying hT, sizeOf, typeInfo, hi, Builtin.lenOf, Builtin.firstCells, loadCells, loadCellsFrom, storeCells]
/-- 'append([]T{}, x...)': memory is made, none is changed. -/
theorem append_rows_new (hgd : op.guard = none) (y x : Operand) (T : TypeId) (ho : op.op = .call { callee := .builtin .append, args := #[y, x], argTypes := #[T, T] })
    (base : Nat) (e : TypeId) (s b : Nat) (z : Value) (hT : P.underlying T = some (.slice e)) (hinfo : (P.info? e).map (fun i => (i.zero, i.size, i.bytes)) = some (some z, s, b)) (hz : z.cells.size = s)
    (g : Nat) (hv : a.eval y = .slice (some ⟨g, 0, none⟩) 0 0) (hown : OwnE w base e s [] (.slice (some ⟨g, 0, none⟩) 0 0)) (m : Nat) (V : Nat → List Value) (u : Value) (hx : a.eval x = u) (hu : RowsAt w s m V u) (hV : ∀ i, i < m → (V i).length = s)
    (hmax : m ≤ 1000000) (hb : b ≤ 10000000) (hbase : base ≤ w.heap.size)
    (hK : ∀ v' w', OwnE w' base e s ((List.range m).map V) v' → Below w.heap.size w w' → wpList P ops Q rest (a.put op.dst v') w') : wpList P ops Q (op :: rest) a w := by
  obtain ⟨i, hi, hzz⟩ := Option.map_eq_some_iff.1 hinfo
  simp only [Prod.mk.injEq] at hzz
  obtain ⟨A, c, rfl, hr⟩ := hu
  have hlen : ∀ r ∈ (List.range m).map V, r.length = s := fun r hr' => by
    obtain ⟨k, hk, rfl⟩ := List.mem_map.1 hr'
    exact hV k (List.mem_range.1 hk)
  refine wpList_plain hgd fun K hK' => ?_
  by_cases hm : 1 ≤ m
  · obtain ⟨sb, so, rfl, hlt, hc⟩ := hr hm
    have hfl := flat_len hlen
    rw [List.length_map, List.length_range] at hfl
    have hbytes : (0 + m) * i.bytes ≤ 140737488355328 := by
      have : (0 + m) * i.bytes ≤ 1000000 * 10000000 := Nat.mul_le_mul (by omega) (by rw [hzz.2.2]; exact hb)
      omega
    have hrun := run_append_grow (P := P) w T op.type e i z hT hi hzz.1 ⟨g, 0, none⟩ 0 0 [] (by simp) (fun j q hq => by simp at hq) ⟨sb, so, none⟩ m c ((List.range m).map V).flatten (by rw [hfl, hzz.2.1]) (fun j q hq => by
      obtain ⟨k, t, r, h1, h2, rfl⟩ := flat_inv hlen hq
      have hk : k < m := by have := (List.getElem?_eq_some_iff.1 h1).1; simpa using this
      rw [List.getElem?_map, List.getElem?_range hk] at h1
      simp only [Option.map_some, Option.some.injEq] at h1
      subst h1
      rw [Addr.add_mid, ← Nat.add_assoc]
      exact hc k hk t q h2) (by omega) (by omega) (growslice_fits (by omega) hbytes)
    simp only [Nat.zero_add, Array.empty_append] at hrun
    unfold Oper.wp execOp
    simp only [ho, resolve, invoke, builtin, Sem.run_bind, Sem.run_pure, Result.andThen_ok, List.map_toArray, List.map_cons, List.map_nil, hv, hx, hrun]
    refine hK' _ _ (hK _ _ ⟨⟨by simpa using hfl, .inr ⟨w.heap.size, _, _, by rw [List.length_map, List.length_range], hbase, heap_alloc_new w.drew _, ?_, ?_, ?_, ?_⟩⟩, hlen⟩ ⟨rfl, rfl, rfl, by simp, fun k hk => heap_alloc_old w.drew _ hk⟩)
    · have := grownCap_ge w m 0 e
      simpa using this
    · exact grownCap_le_maxLen w m 0 e (by simp only [maxLen]; omega)
    · have hge := grownCap_ge w m 0 e
      simp only [Array.size_append, List.size_toArray, size_zeroCells, hz, hfl, ← Nat.add_mul]
      congr 1
      omega
    · simp only [Array.toList_append]
      rw [List.length_map, List.length_range, ← hfl]
      exact List.take_left
  · obtain rfl : m = 0 := by omega
    have hrun := run_append_zero_rows (P := P) (w := w) T e op.type i hT hi g c A
    unfold Oper.wp
    simp [execOp, ho, resolve, invoke, builtin, hv, hx, hrun, Result.andThen]
    exact hK' _ _ (hK _ w hown (Below.refl _ _))
end
end Go.Proofs.YtebchoeeohmlaaaDoor.Aid
namespace Go.Proofs.YtebchoeeohmlaaaDoor.Aid
open Go Go.RowKit

theorem own_ne_row {W : World} {B : Nat} {e : TypeId} {s : Nat} {L : List (List Value)} {v : Value} (h : OwnE W B e s L v) {g t n : Nat} {f : Nat → Value} (hr : W.rowIs g t n f) (ht : e ≠ t) : v.ownBlock ≠ some g := fun he => by
  rcases h.own.2 with ⟨rfl, _⟩ | ⟨g', cap, cur, rfl, _, hg, _⟩
  · cases he
  · cases he
    have := row_heap hr
    rw [hg] at this
    simp only [Option.some.injEq, Obj.cells.injEq] at this
    exact ht this.2.1
theorem row_one (W : World) (C : Array Value) (t n : Nat) (l : List Value) (hC : C.toList = l) : RowsAt (W.alloc (.cells C t)) n 1 (fun _ => l) (.slice (some ⟨W.heap.size, 0, none⟩) 1 1) :=
  ⟨_, 1, rfl, fun _ => ⟨W.heap.size, 0, rfl, by simp, fun i hi j u hu => by
    obtain rfl : i = 0 := by omega
    subst hC
    rw [World.cell?_alloc_new]
    simpa using hu⟩⟩
theorem own_ne_own {W : World} {B B' : Nat} {e e' : TypeId} {s s' : Nat} {L L' : List (List Value)} {v v' : Value} (h : OwnE W B e s L v) (h' : OwnE W B' e' s' L' v') (ht : e ≠ e') : ∀ j, v'.ownBlock = some j → some j ≠ v.ownBlock := fun j hj he => by
  rcases h.own.2 with ⟨rfl, _⟩ | ⟨g, cap, cur, rfl, _, hg, _⟩
  · cases he
  · rcases h'.own.2 with ⟨rfl, _⟩ | ⟨g', cap', cur', rfl, _, hg', _⟩
    · cases hj
    · cases hj
      cases he
      rw [hg] at hg'
      simp only [Option.some.injEq, Obj.cells.injEq] at hg'
      exact ht hg'.2.1
theorem below_grown {W W' : World} (h : Below W.heap.size W W') (k : Option Nat) : W.grownBy W' k := ⟨h.os, h.tape, h.output, h.size, fun j hj _ => h.block j hj⟩
theorem grown_both {a b c : World} {k : Option Nat} (h : a.grownBy b k) (h' : b.grownBy c k) : a.grownBy c k := ⟨h'.os.trans h.os, h'.tape.trans h.tape, h'.output.trans h.output, Nat.le_trans h.size h'.size, fun j hj hk => (h'.block j (Nat.lt_of_lt_of_le hj h.size) hk).trans (h.block j hj hk)⟩
end Go.Proofs.YtebchoeeohmlaaaDoor.Aid
namespace Go.Proofs.YtebchoeeohmlaaaDoor.Field
open Go Go.RowKit Go.Proofs.YtebchoeeohmlaaaDoor.Aid Go.Proofs.YtebchoeeohmlaaaDoor.Law01

def bt (n : Nat) : BitVec 8 := BitVec.ofNat 8 n
theorem bt_toNat {n : Nat} (h : n < 256) : (bt n).toNat = n := by unfold bt; rw [BitVec.toNat_ofNat]; exact Nat.mod_eq_of_lt h
/-- A field with its length ahead of it. -/
def frame (m : Nat) (e : Nat → BitVec 8) (j : Nat) : BitVec 8 := if j = 0 then bt (m / 256) else if j = 1 then bt (m % 256) else e (j - 2)
def m2 (m : Nat → Nat) (i : Nat) : Nat := m i + 2
def fr (m : Nat → Nat) (e : Nat → Nat → BitVec 8) (i : Nat) : Nat → BitVec 8 := frame (m i) (e i)
def encN (m : Nat → Nat) (len : Nat) : Nat := off (m2 m) len
def encB (m : Nat → Nat) (e : Nat → Nat → BitVec 8) (len : Nat) : Nat → BitVec 8 := catAll (m2 m) (fr m e) len
theorem off_m2 (m : Nat → Nat) : ∀ len, off (m2 m) len = off m len + 2 * len
  | 0 => rfl
  | k + 1 => by
    show off (m2 m) k + (m k + 2) = off m k + m k + 2 * (k + 1)
    rw [off_m2 m k]; omega
theorem off_ge (m : Nat → Nat) {i k : Nat} (h : i < k) : m i ≤ off m k := by
  have h1 := off_mono m (show i + 1 ≤ k from h)
  have : off m (i + 1) = off m i + m i := rfl
  omega
def putB (len : Nat) (m : Nat → Nat) : Bool := decide (len ≤ 20 ∧ ∀ i, i < len → m i ≤ 500)
def putC (len : Nat) (m : Nat → Nat) : Int := if putB len m then 0 else 7
def putN (len : Nat) (m : Nat → Nat) : Nat := if putB len m then encN m len else 0
theorem putB_at {len : Nat} {m : Nat → Nat} (h : putB len m = true) : len ≤ 20 ∧ ∀ i, i < len → m i ≤ 500 := of_decide_eq_true h
theorem putB_of {len : Nat} {m : Nat → Nat} (h1 : len ≤ 20) (h2 : ∀ i, i < len → m i ≤ 500) : putB len m = true := decide_eq_true ⟨h1, h2⟩
theorem putB_many {len : Nat} {m : Nat → Nat} (h1 : 20 < len) : putB len m = false := decide_eq_false (fun h => by omega)
theorem putB_long {len : Nat} {m : Nat → Nat} (i : Nat) (hi : i < len) (h1 : 500 < m i) : putB len m = false := decide_eq_false (fun h => by have := h.2 i hi; omega)

/-- The length that is written at a place. -/
def lenAt (E : Nat → BitVec 8) (p : Nat) : Nat := 256 * (E p).toNat + (E (p + 1)).toNat
/-- Where field k begins. -/
def sp (E : Nat → BitVec 8) : Nat → Nat
  | 0 => 0
  | k + 1 => sp E k + 2 + lenAt E (sp E k)
def stepC (E : Nat → BitVec 8) (n p k : Nat) : Int := if n < p + 2 then 2 else if 500 < lenAt E p ∨ k = 20 then 7 else if n < p + 2 + lenAt E p then 2 else 0
theorem step_ok {E : Nat → BitVec 8} {n p k : Nat} (h : stepC E n p k = 0) : p + 2 ≤ n ∧ lenAt E p ≤ 500 ∧ k ≠ 20 ∧ p + 2 + lenAt E p ≤ n := by
  unfold stepC at h
  split at h
  · cases h
  · split at h
    · cases h
    · split at h
      · cases h
      · omega
theorem step_of {E : Nat → BitVec 8} {n p k : Nat} (h1 : lenAt E p ≤ 500) (h2 : k ≠ 20) (h3 : p + 2 + lenAt E p ≤ n) : stepC E n p k = 0 := by
  unfold stepC
  rw [if_neg (by omega), if_neg (by omega), if_neg (by omega)]
/-- What Split does: k fields are taken; then there are no more bytes, or the error comes. -/
def SplitSpec (E : Nat → BitVec 8) (n k : Nat) (c : Int) : Prop :=
  (∀ i, i < k → sp E i < n ∧ stepC E n (sp E i) i = 0) ∧ ((c = 0 ∧ n ≤ sp E k) ∨ (c ≠ 0 ∧ sp E k < n ∧ stepC E n (sp E k) k = c))
theorem split_unique {E : Nat → BitVec 8} {n k k' : Nat} {c c' : Int} (h : SplitSpec E n k c) (h' : SplitSpec E n k' c') : k = k' ∧ c = c' := by
  have hk : ∀ {a b : Nat} {x y : Int}, SplitSpec E n a x → SplitSpec E n b y → ¬ a < b := fun {a b x y} h1 h2 hlt => by
    have ha := h2.1 a hlt
    rcases h1.2 with ⟨_, q⟩ | ⟨q0, _, q⟩
    · omega
    · rw [ha.2] at q; exact q0 q.symm
  have hkk : k = k' := Nat.le_antisymm (Nat.le_of_not_lt (hk h' h)) (Nat.le_of_not_lt (hk h h'))
  subst hkk
  refine ⟨rfl, ?_⟩
  rcases h.2 with ⟨q, p⟩ | ⟨q0, q1, q2⟩ <;> rcases h'.2 with ⟨r, s⟩ | ⟨r0, r1, r2⟩
  · rw [q, r]
  · omega
  · omega
  · rw [← q2, ← r2]
theorem split_le {E : Nat → BitVec 8} {n k : Nat} {c : Int} (h : SplitSpec E n k c) : ∀ i, i ≤ k → sp E i ≤ n
  | 0, _ => Nat.zero_le _
  | i + 1, hi => by
    have := step_ok (h.1 i (by omega)).2
    show sp E i + 2 + lenAt E (sp E i) ≤ n
    omega
theorem split_few {E : Nat → BitVec 8} {n k : Nat} {c : Int} (h : SplitSpec E n k c) : k ≤ 20 := by
  by_cases hk : 20 < k
  · exact absurd rfl (step_ok (h.1 20 hk).2).2.2.1
  · omega
def fieldM (E : Nat → BitVec 8) (i : Nat) : Nat := lenAt E (sp E i)
def fieldE (E : Nat → BitVec 8) (i j : Nat) : BitVec 8 := E (sp E i + 2 + j)
theorem sp_off (E : Nat → BitVec 8) : ∀ k, off (m2 (fieldM E)) k = sp E k
  | 0 => rfl
  | k + 1 => by
    show off (m2 (fieldM E)) k + (fieldM E k + 2) = sp E k + 2 + lenAt E (sp E k)
    rw [sp_off E k]
    unfold fieldM
    omega
theorem byte_lt (x : BitVec 8) : x.toNat < 256 := x.isLt
/-- What Split takes apart is put to the same bytes. -/
theorem put_split {E : Nat → BitVec 8} {n k : Nat} (h : SplitSpec E n k 0) : putB k (fieldM E) = true ∧ encN (fieldM E) k = n ∧ ∀ j, j < n → encB (fieldM E) (fieldE E) k j = E j := by
  have hn : sp E k = n := by
    rcases h.2 with ⟨_, q⟩ | ⟨q, _⟩
    · have := split_le h k (Nat.le_refl _); omega
    · exact absurd rfl q
  have hB : ∀ i, i ≤ k → ∀ j, j < sp E i → encB (fieldM E) (fieldE E) i j = E j := by
    intro i
    induction i with
    | zero => intro _ j hj; exact absurd hj (Nat.not_lt_zero _)
    | succ i ih =>
      intro hi j hj
      show cat (catAll (m2 (fieldM E)) (fr (fieldM E) (fieldE E)) i) (off (m2 (fieldM E)) i) (fr (fieldM E) (fieldE E) i) j = E j
      unfold cat
      rw [sp_off]
      by_cases hlt : j < sp E i
      · rw [if_pos hlt]; exact ih (by omega) j hlt
      · rw [if_neg hlt]
        have hj' : j < sp E i + 2 + lenAt E (sp E i) := hj
        unfold fr frame fieldM
        have b0 := byte_lt (E (sp E i))
        have b1 := byte_lt (E (sp E i + 1))
        by_cases h0 : j - sp E i = 0
        · rw [if_pos h0]
          have : lenAt E (sp E i) / 256 = (E (sp E i)).toNat := by unfold lenAt; omega
          rw [this, show j = sp E i by omega]
          unfold bt
          exact BitVec.eq_of_toNat_eq (by rw [BitVec.toNat_ofNat]; exact Nat.mod_eq_of_lt b0)
        · rw [if_neg h0]
          by_cases h1 : j - sp E i = 1
          · rw [if_pos h1]
            have : lenAt E (sp E i) % 256 = (E (sp E i + 1)).toNat := by unfold lenAt; omega
            rw [this, show j = sp E i + 1 by omega]
            unfold bt
            exact BitVec.eq_of_toNat_eq (by rw [BitVec.toNat_ofNat]; exact Nat.mod_eq_of_lt b1)
          · rw [if_neg h1]
            unfold fieldE
            congr 1
            omega
  refine ⟨putB_of (split_few h) (fun i hi => (step_ok (h.1 i hi).2).2.1), by unfold encN; rw [sp_off, hn], fun j hj => hB k (Nat.le_refl _) j (by omega)⟩
/-- What was put is split. -/
theorem split_put {len : Nat} {m : Nat → Nat} (e : Nat → Nat → BitVec 8) (h : putB len m = true) :
    SplitSpec (encB m e len) (encN m len) len 0 ∧ ∀ i, i < len → fieldM (encB m e len) i = m i ∧ ∀ j, j < m i → fieldE (encB m e len) i j = e i j := by
  obtain ⟨h1, h2⟩ := putB_at h
  have hpart : ∀ i, i < len → ∀ j, j < m i + 2 → encB m e len (off (m2 m) i + j) = frame (m i) (e i) j := fun i hi j hj => catAll_part (m2 m) (fr m e) hi j hj
  have hlen : ∀ i, i < len → lenAt (encB m e len) (off (m2 m) i) = m i := fun i hi => by
    have a := hpart i hi 0 (by omega)
    have b := hpart i hi 1 (by omega)
    have hm := h2 i hi
    unfold lenAt
    rw [Nat.add_zero] at a
    rw [a, b]
    unfold frame
    rw [if_pos rfl, if_neg (by omega), if_pos rfl, bt_toNat (by omega), bt_toNat (by omega)]
    omega
  have hsp : ∀ i, i ≤ len → sp (encB m e len) i = off (m2 m) i := by
    intro i
    induction i with
    | zero => intro _; rfl
    | succ i ih =>
      intro hi
      show sp (encB m e len) i + 2 + lenAt _ (sp (encB m e len) i) = off (m2 m) i + (m i + 2)
      rw [ih (by omega), hlen i (by omega)]
      omega
  refine ⟨⟨fun i hi => ?_, .inl ⟨rfl, by rw [hsp len (Nat.le_refl _)]; exact Nat.le_refl _⟩⟩, fun i hi => ⟨by unfold fieldM; rw [hsp i (by omega), hlen i hi], fun j hj => ?_⟩⟩
  · have hmo := off_mono (m2 m) (show i + 1 ≤ len from hi)
    have hst : off (m2 m) (i + 1) = off (m2 m) i + (m i + 2) := rfl
    rw [hsp i (by omega)]
    unfold encN
    refine ⟨by omega, step_of ?_ (by omega) ?_⟩
    · rw [hlen i hi]; exact h2 i hi
    · rw [hlen i hi]; omega
  · unfold fieldE
    rw [hsp i (by omega), show off (m2 m) i + 2 + j = off (m2 m) i + (2 + j) by omega, hpart i hi (2 + j) (by omega)]
    unfold frame
    rw [if_neg (by omega), if_neg (by omega)]
    congr 1
    omega

/-- A number's bytes, the first the most significant; and back. -/
def numU (n : Int) : Nat := (n % 18446744073709551616).toNat
def numB (n : Int) (j : Nat) : BitVec 8 := bt (numU n / 256 ^ (7 - j) % 256)
def tU (E : Nat → BitVec 8) : Nat → Nat
  | 0 => 0
  | k + 1 => 256 * tU E k + (E k).toNat
def takeV (E : Nat → BitVec 8) (n : Nat) : Int := if n = 8 then wrap64 (tU E 8 : Int) else 0
def takeC (n : Nat) : Int := if n = 8 then 0 else 3
theorem tU_num (n : Int) : ∀ k, k ≤ 8 → tU (numB n) k = numU n / 256 ^ (8 - k)
  | 0, _ => by
    have : numU n < 18446744073709551616 := by unfold numU; omega
    show 0 = numU n / 256 ^ 8
    rw [show (256 : Nat) ^ 8 = 18446744073709551616 by decide]
    omega
  | k + 1, hk => by
    show 256 * tU (numB n) k + (numB n k).toNat = _
    rw [tU_num n k (by omega)]
    unfold numB
    rw [bt_toNat (Nat.mod_lt _ (by omega)), show 8 - k = (7 - k) + 1 by omega, show 8 - (k + 1) = 7 - k by omega, Nat.pow_succ, ← Nat.div_div_eq_div_mul]
    generalize numU n / 256 ^ (7 - k) = x
    omega
theorem take_num (n : Int) (h1 : -9223372036854775808 ≤ n) (h2 : n ≤ 9223372036854775807) : takeV (numB n) 8 = n ∧ takeC 8 = 0 := by
  unfold takeV takeC
  rw [if_pos rfl, if_pos rfl, tU_num n 8 (Nat.le_refl _)]
  refine ⟨?_, rfl⟩
  unfold wrap64 numU
  simp only [Nat.sub_self, Nat.pow_zero, Nat.div_one]
  omega
def wordC (n : Nat) : Int := if n = 16 then 0 else 3
end Go.Proofs.YtebchoeeohmlaaaDoor.Field
namespace Go.Proofs.YtebchoeeohmlaaaDoor.Aid
open Go Go.RowKit

/-- One byte set. -/
def setAt (e : Nat → BitVec 8) (k : Nat) (x : BitVec 8) (j : Nat) : BitVec 8 := if j = k then x else e j
theorem own_cells {w : World} {base m : Nat} {e : Nat → BitVec 8} {v : Value} (h : Own w base m e v) (hm : 0 < m) :
    ∃ g cap, v = .slice (some ⟨g, 0, none⟩) m cap ∧ base ≤ g ∧ g < w.heap.size ∧ m ≤ cap ∧ (∀ j, j < m → w.cell? ⟨g, j, none⟩ = some (.int .u8 ((e j).toNat : Int))) ∧ ∀ j, w.frozen? ⟨g, j, none⟩ = false := by
  rcases h.form with ⟨_, h0⟩ | ⟨g, cap, cur, hv, hg, hlt, hc, hh, hs, hcell⟩
  · omega
  · refine ⟨g, cap, hv, hg, hlt, hc, fun j hj => ?_, fun j => ?_⟩
    · simp [World.cell?, hh, hcell j hj]
    · simp [World.frozen?, hh]
theorem slice_set {w : World} {g m cap k G : Nat} {e : Nat → BitVec 8} (hc : ∀ j, j < m → w.cell? ⟨g, j, none⟩ = some (.int .u8 ((e j).toNat : Int))) (hk : k < m) (hcap : m ≤ cap) (hG : g ≠ G) (x : BitVec 8) (v : Int) (hv : v = (x.toNat : Int)) :
    SliceOf (w.setCell ⟨g, k, none⟩ (.int .u8 v)) G m (setAt e k x) (.slice (some ⟨g, 0, none⟩) m cap) := by
  refine ⟨_, cap, rfl, hcap, fun _ => ⟨g, 0, rfl, hG, fun j hj => ?_⟩⟩
  rw [Nat.zero_add]
  unfold setAt
  by_cases h : j = k
  · subst h
    rw [if_pos rfl, World.cell?_setCell_same' _ _ _ (by rw [hc j hj]; rfl), hv]
  · rw [if_neg h]
    exact (World.cell?_setCell_other _ _ _ _ (fun hx => h (by cases hx; rfl))).trans (hc j hj)
section
variable {w : World} {ops : Array Oper} {rest : List Oper} {op : Oper} {a : Act} {Q : Exit → Act → World → Prop}
/-- A byte is stored; the world behind it has a name. -/
theorem store_byte (hgd : op.guard = none) (x y : Operand) (ho : op.op = .store 5 x y) (g k : Nat) (hx : a.eval x = .pointer (some ⟨g, k, none⟩)) (z : Int) (hy : a.eval y = .int .u8 z) (old : Value) (hc : w.cell? ⟨g, k, none⟩ = some old) (hf : w.frozen? ⟨g, k, none⟩ = false)
    (hK : ∀ w', w' = w.setCell ⟨g, k, none⟩ (.int .u8 z) → wpList Tryd.prog ops Q rest (a.put op.dst undef) w') : wpList Tryd.prog ops Q (op :: rest) a w := by
  refine wpList_plain hgd fun K hK' => ?_
  unfold Oper.wp execOp
  have := hK' _ _ (hK _ rfl)
  obtain ⟨i, hi, hz⟩ := Option.map_eq_some_iff.1 info_u8
  simp only [Prod.mk.injEq] at hz
  simp only [ho, hx, hy, Instr.storeAt, Instr.sureAddr, Sem.run_bind, Sem.run_pure, Result.andThen_ok]
  simp [storeVar, sizeOf, typeInfo, hi, hz.2.1, Value.cells, hc, hf, go_sem]
  exact this
end
end Go.Proofs.YtebchoeeohmlaaaDoor.Aid
namespace Go.Proofs.YtebchoeeohmlaaaDoor.Store
open Go Go.RowKit Go.Proofs.YtebchoeeohmlaaaDoor.Aid Go.Proofs.YtebchoeeohmlaaaDoor.Cache

structure St where
  n : Nat
  e : Nat → BitVec 8
  sure : Nat
  burn : Int
  down : Bool
structure St.ok (s : St) (m : Nat) : Prop where
  sure : s.sure ≤ s.n
  n : s.n ≤ m
  m : m ≤ 1048576
  lo : -1 ≤ s.burn
  hi : s.burn ≤ 9223372036854775807
def st0 : St := ⟨0, fun _ => 0, 0, -1, false⟩
def power (s : St) : Bool := !(s.down || decide (s.burn = 0))
def burnS (s : St) : St := if s.down = true ∨ s.burn = 0 then { s with down := true } else if 0 < s.burn then { s with burn := s.burn - 1 } else s
def appS (m : Nat) (s : St) (n : Nat) (e : Nat → BitVec 8) : St := if power s = true ∧ s.n + n ≤ m then { burnS s with n := s.n + n, e := cat s.e s.n e } else burnS s
def appC (m : Nat) (s : St) (n : Nat) : Int := if power s = true then if s.n + n ≤ m then 0 else 7 else 8
def syncS (s : St) : St := if power s = true then { burnS s with sure := s.n } else burnS s
def syncC (s : St) : Int := if power s = true then 0 else 8
def repS (m : Nat) (s : St) (n : Nat) (e : Nat → BitVec 8) : St := if power s = true ∧ n ≤ m then { burnS s with n := n, e := e, sure := n } else burnS s
def repC (m : Nat) (s : St) (n : Nat) : Int := if power s = true then if n ≤ m then 0 else 7 else 8
def fuseS (s : St) (k : Int) : St := { s with burn := max k (-1) }
def crashN (s : St) (k : Int) : Nat := if k < (s.n : Int) - (s.sure : Int) then s.sure + k.toNat else s.n
def crashS (s : St) (k : Int) : St := { s with n := crashN s k, sure := crashN s k, burn := -1, down := false }
def turnE (e : Nat → BitVec 8) (k : Nat) (x : BitVec 8) (j : Nat) : BitVec 8 := if j = k then e j ^^^ x else e j
def turnS (s : St) (k : Int) (x : BitVec 8) : St := if 0 ≤ k ∧ k < (s.n : Int) then { s with e := turnE s.e k.toNat x } else s
def turnC (s : St) (k : Int) : Int := if 0 ≤ k ∧ k < (s.n : Int) then 0 else 4
theorem burn_ok {s : St} {m : Nat} (h : s.ok m) : (burnS s).ok m := by
  unfold burnS
  split
  · exact ⟨h.sure, h.n, h.m, h.lo, h.hi⟩
  · split
    · exact ⟨h.sure, h.n, h.m, by show -1 ≤ s.burn - 1; omega, by show s.burn - 1 ≤ _; have := h.hi; omega⟩
    · exact h
theorem burn_n (s : St) : (burnS s).n = s.n ∧ (burnS s).e = s.e ∧ (burnS s).sure = s.sure := by
  unfold burnS
  split
  · exact ⟨rfl, rfl, rfl⟩
  · split <;> exact ⟨rfl, rfl, rfl⟩
theorem app_ok {s : St} {m : Nat} (h : s.ok m) (n : Nat) (e : Nat → BitVec 8) : (appS m s n e).ok m := by
  have hb := burn_ok h
  have hs := (burn_n s).2.2
  unfold appS
  split
  · exact ⟨by show (burnS s).sure ≤ s.n + n; rw [hs]; have := h.sure; omega, by show s.n + n ≤ m; omega, h.m, hb.lo, hb.hi⟩
  · exact hb
theorem sync_ok {s : St} {m : Nat} (h : s.ok m) : (syncS s).ok m := by
  have hb := burn_ok h
  have hs := (burn_n s).1
  unfold syncS
  split
  · exact ⟨by show s.n ≤ (burnS s).n; rw [hs]; exact Nat.le_refl _, hb.n, h.m, hb.lo, hb.hi⟩
  · exact hb
theorem rep_ok {s : St} {m : Nat} (h : s.ok m) (n : Nat) (e : Nat → BitVec 8) : (repS m s n e).ok m := by
  have hb := burn_ok h
  unfold repS
  split
  · rename_i hc
    exact ⟨Nat.le_refl _, hc.2, h.m, hb.lo, hb.hi⟩
  · exact hb
theorem fuse_ok {s : St} {m : Nat} (h : s.ok m) (k : Int) (hk : k ≤ 9223372036854775807) : (fuseS s k).ok m := ⟨h.sure, h.n, h.m, by show -1 ≤ max k (-1); omega, by show max k (-1) ≤ _; omega⟩
theorem crash_le {s : St} {m : Nat} (h : s.ok m) (k : Int) : crashN s k ≤ s.n ∧ s.sure ≤ crashN s k := by
  have := h.sure
  unfold crashN
  split <;> constructor <;> omega
theorem crash_ok {s : St} {m : Nat} (h : s.ok m) (k : Int) : (crashS s k).ok m := ⟨Nat.le_refl _, by have := (crash_le h k).1; have := h.n; show crashN s k ≤ m; omega, h.m, by show (-1 : Int) ≤ -1; omega, by show (-1 : Int) ≤ _; omega⟩
theorem turn_ok {s : St} {m : Nat} (h : s.ok m) (k : Int) (x : BitVec 8) : (turnS s k x).ok m := by
  unfold turnS
  split
  · exact ⟨h.sure, h.n, h.m, h.lo, h.hi⟩
  · exact h
end Go.Proofs.YtebchoeeohmlaaaDoor.Store
namespace Go.Proofs.YtebchoeeohmlaaaDoor.Jour
open Go Go.RowKit Go.Proofs.YtebchoeeohmlaaaDoor.Aid Go.Proofs.YtebchoeeohmlaaaDoor.Store

abbrev By := List (BitVec 8)
def head (x : By) : By := [BitVec.ofNat 8 (x.length / 256), BitVec.ofNat 8 (x.length % 256)]
def enc (D : By → By) (x : By) : By := head x ++ (D (head x ++ x) ++ x)
def encAll (D : By → By) : List By → By
  | [] => []
  | x :: L => enc D x ++ encAll D L
def scanF (D : By → By) : Nat → By → Option (List By × By)
  | 0, b => some ([], b)
  | _ + 1, [] => some ([], [])
  | _ + 1, [h] => some ([], [h])
  | k + 1, h :: l :: r =>
    if 1000 < 256 * h.toNat + l.toNat then none
    else if r.length < 8 + (256 * h.toNat + l.toNat) then some ([], h :: l :: r)
    else if r.take 8 = D (h :: l :: (r.drop 8).take (256 * h.toNat + l.toNat)) then (scanF D k (r.drop (8 + (256 * h.toNat + l.toNat)))).map fun p => ((r.drop 8).take (256 * h.toNat + l.toNat) :: p.1, p.2)
    else none
def scan (D : By → By) (b : By) : Option (List By × By) := scanF D b.length b
section
variable {D : By → By}
theorem head_num {x : By} (hx : x.length ≤ 1000) : 256 * (BitVec.ofNat 8 (x.length / 256)).toNat + (BitVec.ofNat 8 (x.length % 256)).toNat = x.length := by
  rw [BitVec.toNat_ofNat, BitVec.toNat_ofNat]
  omega
theorem enc_len (hD : ∀ x, (D x).length = 8) (x : By) : (enc D x).length = 10 + x.length := by
  unfold enc head
  simp [hD]
  omega
theorem encAll_append (L M : List By) : encAll D (L ++ M) = encAll D L ++ encAll D M := by
  induction L with
  | nil => rfl
  | cons x L ih => rw [List.cons_append, encAll, encAll, ih, List.append_assoc]
theorem encAll_one (x : By) : encAll D [x] = enc D x := by rw [encAll, encAll, List.append_nil]
theorem encAll_len (hD : ∀ x, (D x).length = 8) (L : List By) : 10 * L.length ≤ (encAll D L).length := by
  induction L with
  | nil => exact Nat.le_refl _
  | cons x L ih => rw [encAll, List.length_append, enc_len hD, List.length_cons]; omega
theorem scan_step (hD : ∀ x, (D x).length = 8) {x : By} (hx : x.length ≤ 1000) (k : Nat) (r : By) : scanF D (k + 1) (enc D x ++ r) = (scanF D k r).map fun p => (x :: p.1, p.2) := by
  have hn := head_num hx
  unfold enc head
  simp only [List.cons_append, List.nil_append, List.append_assoc]
  rw [scanF, hn, if_neg (by omega), if_neg (by simp [hD])]
  have h8 : (D (BitVec.ofNat 8 (x.length / 256) :: BitVec.ofNat 8 (x.length % 256) :: x)).length = 8 := hD _
  generalize hd : D (BitVec.ofNat 8 (x.length / 256) :: BitVec.ofNat 8 (x.length % 256) :: x) = d at *
  have e1 : (d ++ (x ++ r)).drop 8 = x ++ r := List.drop_left' h8
  have e2 : (d ++ (x ++ r)).take 8 = d := List.take_left' h8
  have e3 : (x ++ r).take x.length = x := List.take_left
  have e4 : (d ++ (x ++ r)).drop (8 + x.length) = r := by rw [← List.drop_drop, e1]; exact List.drop_left
  rw [e1, e2, e3, e4, hd, if_pos rfl]
theorem scan_torn (hD : ∀ x, (D x).length = 8) {y p : By} (hy : y.length ≤ 1000) (hp : p <+: enc D y) (hlt : p.length < (enc D y).length) (k : Nat) : scanF D (k + 1) p = some ([], p) := by
  rw [enc_len hD] at hlt
  match p, hp with
  | [], _ => rfl
  | [h], _ => rfl
  | h :: l :: r, hp =>
    unfold enc head at hp
    obtain ⟨t, ht⟩ := hp
    simp only [List.cons_append, List.nil_append, List.cons.injEq] at ht
    obtain ⟨rfl, rfl, -⟩ := ht
    have hn := head_num hy
    rw [scanF, hn, if_neg (by omega), if_pos]
    simp at hlt
    omega
theorem scanF_all (hD : ∀ x, (D x).length = 8) {p : By} (hp : ∀ k, scanF D (k + 1) p = some ([], p)) : ∀ {L : List By}, (∀ x ∈ L, x.length ≤ 1000) → ∀ k, L.length ≤ k → scanF D (k + 1) (encAll D L ++ p) = some (L, p)
  | [], _, k, _ => hp k
  | x :: L, hL, k, hk => by
    obtain ⟨k', rfl⟩ : ∃ k', k = k' + 1 := ⟨k - 1, by simp at hk; omega⟩
    rw [encAll, List.append_assoc, scan_step hD (hL x (List.mem_cons_self ..)), scanF_all hD hp (fun y hy => hL y (List.mem_cons_of_mem _ hy)) k' (by simp at hk; omega)]
    rfl
theorem scan_nil (k : Nat) : scanF D k [] = some ([], []) := by cases k <;> rfl
/-- Whole records, and a beginning of one more. -/
theorem scan_all (hD : ∀ x, (D x).length = 8) {L : List By} (hL : ∀ x ∈ L, x.length ≤ 1000) {p : By} (hp : p = [] ∨ ∃ y : By, y.length ≤ 1000 ∧ p <+: enc D y ∧ p.length < (enc D y).length) : scan D (encAll D L ++ p) = some (L, p) := by
  unfold scan
  have hlen := encAll_len hD L
  have ht : ∀ k, scanF D (k + 1) p = some ([], p) := fun k => by
    rcases hp with rfl | ⟨y, hy, h1, h2⟩
    · exact scan_nil _
    · exact scan_torn hD hy h1 h2 k
  by_cases h0 : (encAll D L ++ p).length = 0
  · have h1 : encAll D L ++ p = [] := List.eq_nil_of_length_eq_zero h0
    rw [List.length_append] at h0
    obtain rfl : L = [] := List.eq_nil_of_length_eq_zero (by omega)
    obtain rfl : p = [] := List.eq_nil_of_length_eq_zero (by omega)
    rfl
  · obtain ⟨k, hk⟩ : ∃ k, (encAll D L ++ p).length = k + 1 := ⟨_, (Nat.succ_pred h0).symm⟩
    rw [hk]
    refine scanF_all hD ht hL k ?_
    rw [List.length_append] at hk
    omega
end
end Go.Proofs.YtebchoeeohmlaaaDoor.Jour
namespace Go.Proofs.YtebchoeeohmlaaaDoor.Jour
open Go Go.RowKit Go.Proofs.YtebchoeeohmlaaaDoor.Aid Go.Proofs.YtebchoeeohmlaaaDoor.Store

def bytesL (s : St) : By := (List.range s.n).map s.e
def fnL (b : By) (j : Nat) : BitVec 8 := b.getD j 0
theorem bytes_len (s : St) : (bytesL s).length = s.n := by simp [bytesL]
theorem range_fn (b : By) : (List.range b.length).map (fnL b) = b := by
  refine List.ext_getElem (by simp) fun j h1 h2 => ?_
  simp only [List.getElem_map, List.getElem_range]
  unfold fnL
  rw [List.getD_eq_getElem?_getD, List.getElem?_eq_getElem h2]
  rfl
theorem bytes_cat (s t : St) (b : By) (hn : t.n = s.n + b.length) (he : t.e = cat s.e s.n (fnL b)) : bytesL t = bytesL s ++ b := by
  unfold bytesL
  rw [hn, he, List.range_add, List.map_append]
  congr 1
  · refine List.map_congr_left fun j hj => ?_
    unfold cat
    rw [if_pos (List.mem_range.1 hj)]
  · rw [List.map_map]
    refine Eq.trans (List.map_congr_left fun j hj => ?_) (range_fn b)
    show cat s.e s.n (fnL b) (s.n + j) = fnL b j
    unfold cat
    rw [if_neg (by omega)]
    congr 1
    omega
theorem bytes_take (s t : St) (k : Nat) (hk : k ≤ s.n) (hn : t.n = k) (he : t.e = s.e) : bytesL t = (bytesL s).take k := by
  unfold bytesL
  rw [hn, he, ← List.map_take, List.take_range, Nat.min_eq_left hk]
theorem bytes_same (s t : St) (hn : t.n = s.n) (he : t.e = s.e) : bytesL t = bytesL s := by unfold bytesL; rw [hn, he]
theorem bytes_fn (t : St) (b : By) (hn : t.n = b.length) (he : t.e = fnL b) : bytesL t = b := by
  unfold bytesL
  rw [hn, he]
  exact range_fn b
section
variable (D : By → By) (m : Nat)
/-- Add. -/
def addC (st : St) (x : By) : Int :=
  if 1000 < x.length then 7 else if appC m st (enc D x).length = 0 then syncC (appS m st (enc D x).length (fnL (enc D x))) else appC m st (enc D x).length
def addS (st : St) (x : By) : St :=
  if 1000 < x.length then st else if appC m st (enc D x).length = 0 then syncS (appS m st (enc D x).length (fnL (enc D x))) else appS m st (enc D x).length (fnL (enc D x))
def addL (st : St) (L : List By) (x : By) : List By := if addC D m st x = 0 then L ++ [x] else L
/-- Only. -/
def onlyC (st : St) (M : List By) : Int := if ∃ x ∈ M, 1000 < x.length then 7 else repC m st (encAll D M).length
noncomputable def onlyS (st : St) (M : List By) : St := if ∃ x ∈ M, 1000 < x.length then st else repS m st (encAll D M).length (fnL (encAll D M))
noncomputable def onlyL (st : St) (L M : List By) : List By := if onlyC D m st M = 0 then M else L
/-- Open: what is torn is cut off. -/
def openS (st : St) (t : By) : St := if t = [] then st else repS m st (st.n - t.length) st.e
structure JGood (st : St) (L : List By) : Prop where
  bytes : bytesL st = encAll D L
  sure : st.sure = st.n
  small : ∀ x ∈ L, x.length ≤ 1000
  ok : st.ok m
/-- Power is gone: behind what was sure there may be a beginning of one record more. -/
structure JGone (st : St) (L way : List By) : Prop where
  bytes : ∃ p, bytesL st = encAll D L ++ p ∧ (p = [] ∨ ∃ y : By, y.length ≤ 1000 ∧ p <+: enc D y ∧ way = L ++ [y])
  sure : st.sure = (encAll D L).length ∨ st.sure = st.n
  small : ∀ x ∈ L, x.length ≤ 1000
  ok : st.ok m
end
section
variable {D : By → By} {m : Nat}
theorem burn_bytes (st : St) : bytesL (burnS st) = bytesL st := bytes_same _ _ (burn_n st).1 (burn_n st).2.1
theorem good_burn {st : St} {L : List By} (h : JGood D m st L) : JGood D m (burnS st) L :=
  ⟨(burn_bytes st).trans h.bytes, by rw [(burn_n st).2.2, (burn_n st).1]; exact h.sure, h.small, burn_ok h.ok⟩
theorem JGood.gone {st : St} {L : List By} (h : JGood D m st L) (way : List By) : JGone D m st L way := ⟨⟨[], by rw [h.bytes, List.append_nil], .inl rfl⟩, .inr h.sure, h.small, h.ok⟩
theorem small_snoc {L : List By} {x : By} (h : ∀ x ∈ L, x.length ≤ 1000) (hx : x.length ≤ 1000) : ∀ y ∈ L ++ [x], y.length ≤ 1000 := fun y hy => by
  rcases List.mem_append.1 hy with h1 | h1
  · exact h y h1
  · rw [List.mem_singleton.1 h1]; exact hx
theorem add_step {st : St} {L : List By} {x : By} (h : JGood D m st L) :
    (addC D m st x = 0 ∧ JGood D m (addS D m st x) (L ++ [x]) ∧ addL D m st L x = L ++ [x]) ∨ (addC D m st x = 7 ∧ JGood D m (addS D m st x) L ∧ addL D m st L x = L) ∨ (addC D m st x = 8 ∧ JGone D m (addS D m st x) L (L ++ [x])) := by
  by_cases hx : 1000 < x.length
  · have hc : addC D m st x = 7 := by unfold addC; rw [if_pos hx]
    exact .inr (.inl ⟨hc, by unfold addS; rw [if_pos hx]; exact h, by unfold addL; rw [hc, if_neg (by omega)]⟩)
  have hx' : x.length ≤ 1000 := by omega
  by_cases hp : power st = true
  · by_cases hf : st.n + (enc D x).length ≤ m
    · have ha : appC m st (enc D x).length = 0 := by unfold appC; rw [if_pos hp, if_pos hf]
      have hs : appS m st (enc D x).length (fnL (enc D x)) = { burnS st with n := st.n + (enc D x).length, e := cat st.e st.n (fnL (enc D x)) } := by unfold appS; rw [if_pos ⟨hp, hf⟩]
      have hb : bytesL (appS m st (enc D x).length (fnL (enc D x))) = encAll D L ++ enc D x := by
        rw [bytes_cat st _ (enc D x) (by rw [hs]) (by rw [hs]), h.bytes]
      have hok := app_ok h.ok (enc D x).length (fnL (enc D x))
      have hsu : (appS m st (enc D x).length (fnL (enc D x))).sure = (encAll D L).length := by
        rw [hs]
        show (burnS st).sure = _
        rw [(burn_n st).2.2, h.sure, ← bytes_len, h.bytes]
      have eC : addC D m st x = syncC (appS m st (enc D x).length (fnL (enc D x))) := by unfold addC; rw [if_neg hx, if_pos ha]
      have eS : addS D m st x = syncS (appS m st (enc D x).length (fnL (enc D x))) := by unfold addS; rw [if_neg hx, if_pos ha]
      generalize appS m st (enc D x).length (fnL (enc D x)) = t at *
      by_cases hp2 : power t = true
      · have c0 : addC D m st x = 0 := by rw [eC]; unfold syncC; rw [if_pos hp2]
        have s0 : syncS t = { burnS t with sure := t.n } := by unfold syncS; rw [if_pos hp2]
        refine .inl ⟨c0, ⟨?_, ?_, small_snoc h.small hx', by rw [eS]; exact sync_ok hok⟩, by unfold addL; rw [if_pos c0]⟩
        · rw [eS, bytes_same t (syncS t) (by rw [s0]; exact (burn_n t).1) (by rw [s0]; exact (burn_n t).2.1), hb, encAll_append, encAll_one]
        · rw [eS, s0]
          exact (burn_n t).1.symm
      · have c0 : addC D m st x = 8 := by rw [eC]; unfold syncC; rw [if_neg hp2]
        have s0 : syncS t = burnS t := by unfold syncS; rw [if_neg hp2]
        refine .inr (.inr ⟨c0, ⟨⟨enc D x, by rw [eS, s0, burn_bytes, hb], .inr ⟨x, hx', List.prefix_refl _, rfl⟩⟩, .inl (by rw [eS, s0, (burn_n t).2.2]; exact hsu), h.small, by rw [eS]; exact sync_ok hok⟩⟩)
    · have ha : appC m st (enc D x).length = 7 := by unfold appC; rw [if_pos hp, if_neg hf]
      have hs : appS m st (enc D x).length (fnL (enc D x)) = burnS st := by unfold appS; rw [if_neg (fun h => hf h.2)]
      have c0 : addC D m st x = 7 := by unfold addC; rw [if_neg hx, ha, if_neg (by omega)]
      refine .inr (.inl ⟨c0, ?_, by unfold addL; rw [c0, if_neg (by omega)]⟩)
      have : addS D m st x = burnS st := by unfold addS; rw [if_neg hx, ha, if_neg (by omega), hs]
      rw [this]
      exact good_burn h
  · have ha : appC m st (enc D x).length = 8 := by unfold appC; rw [if_neg hp]
    have hs : appS m st (enc D x).length (fnL (enc D x)) = burnS st := by unfold appS; rw [if_neg (fun h => hp h.1)]
    have c0 : addC D m st x = 8 := by unfold addC; rw [if_neg hx, ha, if_neg (by omega)]
    refine .inr (.inr ⟨c0, ?_⟩)
    have : addS D m st x = burnS st := by unfold addS; rw [if_neg hx, ha, if_neg (by omega), hs]
    rw [this]
    exact (good_burn h).gone _
theorem only_step {st : St} {L M : List By} (h : JGood D m st L) :
    (onlyC D m st M = 0 ∧ JGood D m (onlyS D m st M) M ∧ onlyL D m st L M = M) ∨ (onlyC D m st M = 7 ∧ JGood D m (onlyS D m st M) L ∧ onlyL D m st L M = L) ∨ (onlyC D m st M = 8 ∧ JGone D m (onlyS D m st M) L M) := by
  by_cases hx : ∃ x ∈ M, 1000 < x.length
  · have hc : onlyC D m st M = 7 := by unfold onlyC; rw [if_pos hx]
    exact .inr (.inl ⟨hc, by unfold onlyS; rw [if_pos hx]; exact h, by unfold onlyL; rw [hc, if_neg (by omega)]⟩)
  have hsm : ∀ x ∈ M, x.length ≤ 1000 := fun x hM => Nat.le_of_not_lt (fun h1 => hx ⟨x, hM, h1⟩)
  have eC : onlyC D m st M = repC m st (encAll D M).length := by unfold onlyC; rw [if_neg hx]
  have eS : onlyS D m st M = repS m st (encAll D M).length (fnL (encAll D M)) := by unfold onlyS; rw [if_neg hx]
  by_cases hp : power st = true
  · by_cases hf : (encAll D M).length ≤ m
    · have c0 : onlyC D m st M = 0 := by rw [eC]; unfold repC; rw [if_pos hp, if_pos hf]
      have s0 : onlyS D m st M = { burnS st with n := (encAll D M).length, e := fnL (encAll D M), sure := (encAll D M).length } := by rw [eS]; unfold repS; rw [if_pos ⟨hp, hf⟩]
      refine .inl ⟨c0, ⟨bytes_fn _ _ (by rw [s0]) (by rw [s0]), by rw [s0], hsm, by rw [eS]; exact rep_ok h.ok _ _⟩, by unfold onlyL; rw [if_pos c0]⟩
    · have c0 : onlyC D m st M = 7 := by rw [eC]; unfold repC; rw [if_pos hp, if_neg hf]
      have s0 : onlyS D m st M = burnS st := by rw [eS]; unfold repS; rw [if_neg (fun h => hf h.2)]
      exact .inr (.inl ⟨c0, by rw [s0]; exact good_burn h, by unfold onlyL; rw [c0, if_neg (by omega)]⟩)
  · have c0 : onlyC D m st M = 8 := by rw [eC]; unfold repC; rw [if_neg hp]
    have s0 : onlyS D m st M = burnS st := by rw [eS]; unfold repS; rw [if_neg (fun h => hp h.1)]
    exact .inr (.inr ⟨c0, by rw [s0]; exact (good_burn h).gone _⟩)
/-- Behind a crash: what was sure, or one more. -/
theorem crash_scan (hD : ∀ x, (D x).length = 8) {st : St} {L way : List By} (h : JGone D m st L way) (k : Int) :
    ∃ R t, (R = L ∨ R = way) ∧ scan D (bytesL (crashS st k)) = some (R, t) ∧ bytesL (crashS st k) = encAll D R ++ t ∧ (∀ x ∈ R, x.length ≤ 1000) := by
  obtain ⟨p, hb, hp⟩ := h.bytes
  have hle := crash_le h.ok k
  have hcr : bytesL (crashS st k) = (bytesL st).take (crashN st k) := bytes_take st _ _ hle.1 rfl rfl
  have hlen : st.n = (encAll D L).length + p.length := by rw [← bytes_len, hb, List.length_append]
  have hge : (encAll D L).length ≤ crashN st k := by
    rcases h.sure with h1 | h1
    · rw [← h1]; exact hle.2
    · have := hle.2; omega
  have e1 : bytesL (crashS st k) = encAll D L ++ p.take (crashN st k - (encAll D L).length) := by
    rw [hcr, hb, List.take_append, List.take_of_length_le hge]
  rcases hp with rfl | ⟨y, hy, hpre, hw⟩
  · rw [List.take_nil] at e1
    exact ⟨L, [], .inl rfl, by rw [e1]; exact scan_all hD h.small (.inl rfl), e1, h.small⟩
  · have hpre2 : p.take (crashN st k - (encAll D L).length) <+: enc D y := List.IsPrefix.trans (List.take_prefix _ _) hpre
    generalize p.take (crashN st k - (encAll D L).length) = q at *
    by_cases hq : q.length < (enc D y).length
    · exact ⟨L, q, .inl rfl, by rw [e1]; exact scan_all hD h.small (.inr ⟨y, hy, hpre2, hq⟩), e1, h.small⟩
    · have hqe : q = enc D y := hpre2.eq_of_length (Nat.le_antisymm hpre2.length_le (Nat.le_of_not_lt hq))
      have e2 : bytesL (crashS st k) = encAll D way ++ [] := by rw [e1, hqe, hw, encAll_append, encAll_one, List.append_nil]
      have hs : ∀ x ∈ way, x.length ≤ 1000 := by rw [hw]; exact small_snoc h.small hy
      exact ⟨way, [], .inr rfl, by rw [e2]; exact scan_all hD hs (.inl rfl), e2, hs⟩
/-- What Open leaves: whole records. -/
theorem open_bytes {st : St} {R : List By} {t : By} (hb : bytesL st = encAll D R ++ t) (hok : st.ok m) (hu : st.burn = -1 ∧ st.down = false) : bytesL (openS m st t) = encAll D R ∧ (openS m st t).burn = -1 ∧ (openS m st t).down = false := by
  unfold openS
  by_cases h0 : t = []
  · subst h0
    rw [if_pos rfl]
    exact ⟨by rw [hb, List.append_nil], hu⟩
  · rw [if_neg h0]
    have hp : power st = true := by unfold power; rw [hu.1, hu.2]; rfl
    have hn := hok.n
    have hlen : st.n = (encAll D R).length + t.length := by rw [← bytes_len, hb, List.length_append]
    have hs : repS m st (st.n - t.length) st.e = { burnS st with n := st.n - t.length, e := st.e, sure := st.n - t.length } := by unfold repS; rw [if_pos ⟨hp, by omega⟩]
    have hbn : burnS st = st := by unfold burnS; rw [hu.1, hu.2, if_neg (by simp), if_neg (by omega)]
    rw [hbn] at hs
    refine ⟨?_, by rw [hs]; exact hu.1, by rw [hs]; exact hu.2⟩
    rw [bytes_take st _ (st.n - t.length) (by omega) (by rw [hs]) (by rw [hs]), hb, show st.n - t.length = (encAll D R).length by omega]
    exact List.take_left
theorem open_ok {st : St} (t : By) (hok : st.ok m) : (openS m st t).ok m := by
  unfold openS
  split
  · exact hok
  · exact rep_ok hok _ _
end
end Go.Proofs.YtebchoeeohmlaaaDoor.Jour
namespace Go.Proofs.YtebchoeeohmlaaaDoor.Store
open Go Go.RowKit Go.Proofs.YtebchoeeohmlaaaDoor.Aid Go.Proofs.YtebchoeeohmlaaaDoor.Cache

/-- Bytes that lie in no block of a footprint. -/
def Apart (W : World) (F : Nat → Prop) (n : Nat) (e : Nat → BitVec 8) (v : Value) : Prop :=
  ∃ A c, v = .slice A n c ∧ n ≤ c ∧ (0 < n → ∃ sb so, A = some ⟨sb, so, none⟩ ∧ ¬ F sb ∧ ∀ j, j < n → W.cell? ⟨sb, so + j, none⟩ = some (.int .u8 ((e j).toNat : Int)))
theorem Apart.leaves {W W' : World} {F : Nat → Prop} {n : Nat} {e : Nat → BitVec 8} {v : Value} (h : Apart W F n e v) (hl : Cache.Leaves F W W') : Apart W' F n e v := by
  obtain ⟨A, c, hv, hc, hr⟩ := h
  refine ⟨A, c, hv, hc, fun h0 => ?_⟩
  obtain ⟨sb, so, hA, hF, hj⟩ := hr h0
  exact ⟨sb, so, hA, hF, fun j hjn => hl.cell (hj j hjn) hF⟩
theorem Apart.slice {W : World} {F : Nat → Prop} {n : Nat} {e : Nat → BitVec 8} {v : Value} (h : Apart W F n e v) : SliceOf W W.heap.size n e v := by
  obtain ⟨A, c, hv, hc, hr⟩ := h
  refine ⟨A, c, hv, hc, fun h0 => ?_⟩
  obtain ⟨sb, so, hA, hF, hj⟩ := hr h0
  exact ⟨sb, so, hA, Nat.ne_of_lt (block_lt_of_cell (hj 0 h0)), hj⟩
theorem Apart.less {W : World} {F F' : Nat → Prop} {n : Nat} {e : Nat → BitVec 8} {v : Value} (h : Apart W F n e v) (hF : ∀ b, b < W.heap.size → ¬ F b → ¬ F' b) : Apart W F' n e v := by
  obtain ⟨A, c, hv, hc, hr⟩ := h
  refine ⟨A, c, hv, hc, fun h0 => ?_⟩
  obtain ⟨sb, so, hA, hn, hj⟩ := hr h0
  exact ⟨sb, so, hA, hF sb (block_lt_of_cell (hj 0 h0)) hn, hj⟩
/-- Bytes that lie in blocks where P holds. -/
def BytesIn (W : World) (P : Nat → Prop) (n : Nat) (e : Nat → BitVec 8) (v : Value) : Prop :=
  ∃ A c, v = .slice A n c ∧ n ≤ c ∧ (0 < n → ∃ sb so, A = some ⟨sb, so, none⟩ ∧ P sb ∧ ∀ j, j < n → W.cell? ⟨sb, so + j, none⟩ = some (.int .u8 ((e j).toNat : Int)))
theorem BytesIn.apart {W : World} {P F : Nat → Prop} {n : Nat} {e : Nat → BitVec 8} {v : Value} (h : BytesIn W P n e v) (hF : ∀ b, P b → ¬ F b) : Apart W F n e v := by
  obtain ⟨A, c, hv, hc, hr⟩ := h
  refine ⟨A, c, hv, hc, fun h0 => ?_⟩
  obtain ⟨sb, so, hA, hP, hj⟩ := hr h0
  exact ⟨sb, so, hA, hF sb hP, hj⟩
theorem BytesIn.less {W : World} {P P' : Nat → Prop} {n : Nat} {e : Nat → BitVec 8} {v : Value} (h : BytesIn W P n e v) (hF : ∀ b, b < W.heap.size → P b → P' b) : BytesIn W P' n e v := by
  obtain ⟨A, c, hv, hc, hr⟩ := h
  refine ⟨A, c, hv, hc, fun h0 => ?_⟩
  obtain ⟨sb, so, hA, hP, hj⟩ := hr h0
  exact ⟨sb, so, hA, hF sb (block_lt_of_cell (hj 0 h0)) hP, hj⟩
theorem BytesIn.keep {W W' : World} {P : Nat → Prop} {n : Nat} {e : Nat → BitVec 8} {v : Value} (h : BytesIn W P n e v) (hk : ∀ b, b < W.heap.size → P b → W'.heap[b]? = W.heap[b]?) : BytesIn W' P n e v := by
  obtain ⟨A, c, hv, hc, hr⟩ := h
  refine ⟨A, c, hv, hc, fun h0 => ?_⟩
  obtain ⟨sb, so, hA, hP, hj⟩ := hr h0
  refine ⟨sb, so, hA, hP, fun j hjn => ?_⟩
  rw [← hj j hjn]
  unfold World.cell?
  rw [hk sb (block_lt_of_cell (hj 0 h0)) hP]
theorem BytesIn.below {W W' : World} {P : Nat → Prop} {n : Nat} {e : Nat → BitVec 8} {v : Value} (h : BytesIn W P n e v) (hb : Below W.heap.size W W') : BytesIn W' P n e v := h.keep (fun b hb' _ => hb.block b hb')
theorem BytesIn.slice {W : World} {P : Nat → Prop} {n : Nat} {e : Nat → BitVec 8} {v : Value} (h : BytesIn W P n e v) : SliceOf W W.heap.size n e v := by
  obtain ⟨A, c, hv, hc, hr⟩ := h
  refine ⟨A, c, hv, hc, fun h0 => ?_⟩
  obtain ⟨sb, so, hA, hP, hj⟩ := hr h0
  exact ⟨sb, so, hA, Nat.ne_of_lt (block_lt_of_cell (hj 0 h0)), hj⟩
/-- Bytes that were there when the law began. -/
theorem bytes_old {w0 W : World} {n : Nat} {e : Nat → BitVec 8} {v : Value} (h : SliceOf w0 w0.heap.size n e v) (hb : Below w0.heap.size w0 W) : BytesIn W (fun b => b < w0.heap.size) n e v := by
  obtain ⟨A, c, hv, hc, hr⟩ := h
  refine ⟨A, c, hv, hc, fun h0 => ?_⟩
  obtain ⟨sb, so, hA, _, hj⟩ := hr h0
  have hlt := block_lt_of_cell (hj 0 h0)
  exact ⟨sb, so, hA, hlt, fun j hjn => (hb.cell (p := ⟨sb, so + j, none⟩) hlt).trans (hj j hjn)⟩
/-- Bytes that a store may be handed: old ones, or in a kept block. -/
def okB (w0 : World) (K : Nat → Prop) (b : Nat) : Prop := b < w0.heap.size ∨ K b
end Go.Proofs.YtebchoeeohmlaaaDoor.Store
namespace Go.Proofs.YtebchoeeohmlaaaDoor.Jour
open Go Go.RowKit Go.Proofs.YtebchoeeohmlaaaDoor.Aid Go.Proofs.YtebchoeeohmlaaaDoor.Cache Go.Proofs.YtebchoeeohmlaaaDoor.Store

/-- Records as slices of bytes, all in blocks where P holds. -/
def PartsP (W : World) (P : Nat → Prop) (M : List By) (v : Value) : Prop :=
  ∃ A c, v = .slice A M.length c ∧ M.length ≤ c ∧ (0 < M.length → ∃ sb so, A = some ⟨sb, so, none⟩ ∧ P sb ∧ ∀ (i : Nat) (x : By), M[i]? = some x → ∃ u, W.cell? ⟨sb, so + i, none⟩ = some u ∧ BytesIn W P x.length (fnL x) u)
theorem PartsP.less {W : World} {P P' : Nat → Prop} {M : List By} {v : Value} (h : PartsP W P M v) (hF : ∀ b, b < W.heap.size → P b → P' b) : PartsP W P' M v := by
  obtain ⟨A, c, hv, hc, hr⟩ := h
  refine ⟨A, c, hv, hc, fun h0 => ?_⟩
  obtain ⟨sb, so, hA, hP, hj⟩ := hr h0
  obtain ⟨u0, hu0, _⟩ := hj 0 M[0] (List.getElem?_eq_getElem h0)
  exact ⟨sb, so, hA, hF sb (block_lt_of_cell hu0) hP, fun i x hx => by obtain ⟨u, hu, hb⟩ := hj i x hx; exact ⟨u, hu, hb.less hF⟩⟩
theorem PartsP.keep {W W' : World} {P : Nat → Prop} {M : List By} {v : Value} (h : PartsP W P M v) (hk : ∀ b, b < W.heap.size → P b → W'.heap[b]? = W.heap[b]?) : PartsP W' P M v := by
  obtain ⟨A, c, hv, hc, hr⟩ := h
  refine ⟨A, c, hv, hc, fun h0 => ?_⟩
  obtain ⟨sb, so, hA, hP, hj⟩ := hr h0
  refine ⟨sb, so, hA, hP, fun i x hx => ?_⟩
  obtain ⟨u, hu, hb⟩ := hj i x hx
  refine ⟨u, ?_, hb.keep hk⟩
  rw [← hu]
  unfold World.cell?
  rw [hk sb (block_lt_of_cell hu) hP]
theorem PartsP.below {W W' : World} {P : Nat → Prop} {M : List By} {v : Value} (h : PartsP W P M v) (hb : Below W.heap.size W W') : PartsP W' P M v := h.keep (fun b hb' _ => hb.block b hb')
abbrev RepSt := World → (Nat → Prop) → Value → Nat → St → Prop
abbrev RepJ := World → (Nat → Prop) → Value → Value → List By → Prop
/-- In all worlds behind w0: where the program's tables lie as they lay. -/
structure JourHas (w0 : World) (RS : RepSt) (RJ : RepJ) (D : By → By) : Prop where
  dlen : ∀ x, (D x).length = 8
  keep : KeepR RS
  lt : ∀ {W : World} {F : Nat → Prop} {v : Value} {m : Nat} {s : St}, RS W F v m s → ∀ b, F b → b < W.heap.size
  ok : ∀ {W : World} {F : Nat → Prop} {v : Value} {m : Nat} {s : St}, RS W F v m s → s.ok m
  keepJ : ∀ {W W' : World} {F : Nat → Prop} {j s : Value} {L : List By}, RJ W F j s L → (∀ b, F b → W'.heap[b]? = W.heap[b]?) → RJ W' F j s L
  ltJ : ∀ {W : World} {F : Nat → Prop} {j s : Value} {L : List By}, RJ W F j s L → ∀ b, F b → b < W.heap.size
  new : ∀ (room : Nat) (w : World), room ≤ 1048576 → Calls Tryd.prog 25 #[.int .i64 (room : Int)] w fun x w' => ∃ p F, x = .returned (.tuple #[.pointer (some p), .int .i64 0]) ∧ RS w' F (.pointer (some p)) room st0 ∧ (∀ b, F b → w.heap.size ≤ b) ∧ Below w.heap.size w w'
  fuse : ∀ {w : World} {F : Nat → Prop} {v : Value} {m : Nat} {s : St} (k : Int), RS w F v m s → -9223372036854775808 ≤ k → k ≤ 9223372036854775807 → Calls Tryd.prog 27 #[v, .int .i64 k] w fun x w' => x = .returned (.tuple #[]) ∧ Moved RS F w w' v m (fuseS s k)
  crash : ∀ {w : World} {F : Nat → Prop} {v : Value} {m : Nat} {s : St} (k : Int), RS w F v m s → -9223372036854775808 ≤ k → k ≤ 9223372036854775807 → Calls Tryd.prog 30 #[v, .int .i64 k] w fun x w' => x = .returned (.tuple #[]) ∧ Moved RS F w w' v m (crashS s k)
  read : ∀ {w : World} {F : Nat → Prop} {v : Value} {m : Nat} {s : St}, RS w F v m s → Calls Tryd.prog 70 #[v] w fun x w' => ∃ A c F', x = .returned (.slice A s.n c) ∧ RS w' F' v m s ∧ Cache.Leaves F w w' ∧ (∀ b, F' b → F b ∨ w.heap.size ≤ b)
  open_nil : ∀ (w : World), Calls Tryd.prog 51 #[.pointer none] w fun x w' => x = .returned (.tuple #[.pointer none, .int .i64 1]) ∧ Below w.heap.size w w'
  open_up : ∀ {w : World} {F : Nat → Prop} {s : Value} {m : Nat} {st : St} {R : List By} {t : By}, Below w0.heap.size w0 w → RS w F s m st → scan D (bytesL st) = some (R, t) → st.burn = -1 → st.down = false → st.n ≤ 100000 →
    Calls Tryd.prog 51 #[s] w fun x w' => ∃ p F' FJ, x = .returned (.tuple #[.pointer (some p), .int .i64 0]) ∧ RS w' F' s m (openS m st t) ∧ RJ w' FJ (.pointer (some p)) s R ∧ (∀ b, FJ b → ¬ F' b) ∧ Cache.Leaves F w w' ∧ ∀ b, F' b ∨ FJ b → F b ∨ w.heap.size ≤ b
  add : ∀ {w : World} {F FJ : Nat → Prop} {s j : Value} {m : Nat} {st : St} {L : List By} (x : By) (bv : Value), Below w0.heap.size w0 w → RS w F s m st → RJ w FJ j s L → (∀ b, FJ b → ¬ F b) → BytesIn w (fun b => ¬ F b ∧ ¬ FJ b) x.length (fnL x) bv → x.length ≤ 2000 → st.n ≤ 100000 → L.length ≤ 10000 →
    Calls Tryd.prog 56 #[j, bv] w fun y w' => y = .returned (.int .i64 (addC D m st x)) ∧ ∃ F' FJ', RS w' F' s m (addS D m st x) ∧ (addC D m st x ≠ 8 → RJ w' FJ' j s (addL D m st L x)) ∧ (∀ b, FJ' b → ¬ F' b) ∧ Cache.Leaves (fun b => F b ∨ FJ b) w w' ∧ (∀ b, F' b ∨ FJ' b → (F b ∨ FJ b) ∨ w.heap.size ≤ b)
  only : ∀ {w : World} {F FJ : Nat → Prop} {s j : Value} {m : Nat} {st : St} {L : List By} (M : List By) (v : Value), Below w0.heap.size w0 w → RS w F s m st → RJ w FJ j s L → (∀ b, FJ b → ¬ F b) → PartsP w (fun b => ¬ F b ∧ ¬ FJ b) M v → M.length ≤ 10 → (∀ x ∈ M, x.length ≤ 2000) → st.n ≤ 100000 →
    Calls Tryd.prog 55 #[j, v] w fun y w' => y = .returned (.int .i64 (onlyC D m st M)) ∧ ∃ F' FJ', RS w' F' s m (onlyS D m st M) ∧ (onlyC D m st M ≠ 8 → RJ w' FJ' j s (onlyL D m st L M)) ∧ (∀ b, FJ' b → ¬ F' b) ∧ Cache.Leaves (fun b => F b ∨ FJ b) w w' ∧ (∀ b, F' b ∨ FJ' b → (F b ∨ FJ b) ∨ w.heap.size ≤ b)
  recs : ∀ {w : World} {FJ : Nat → Prop} {s j : Value} {L : List By}, RJ w FJ j s L → L.length ≤ 10000 → (∀ x ∈ L, x.length ≤ 1000) →
    Calls Tryd.prog 52 #[j] w fun y w' => ∃ v FJ', y = .returned v ∧ RJ w' FJ' j s L ∧ Cache.Leaves FJ w w' ∧ (∀ b, FJ' b → FJ b ∨ w.heap.size ≤ b) ∧ PartsP w' (fun b => w.heap.size ≤ b ∧ ¬ FJ' b) L v
theorem JourHas.up {w0 w1 : World} {RS : RepSt} {RJ : RepJ} {D : By → By} (H : JourHas w0 RS RJ D) (hb : Below w0.heap.size w0 w1) : JourHas w1 RS RJ D :=
  { H with
    open_up := fun h => H.open_up (hb.trans (h.mono hb.size))
    add := fun x bv h => H.add x bv (hb.trans (h.mono hb.size))
    only := fun M v h => H.only M v (hb.trans (h.mono hb.size)) }
end Go.Proofs.YtebchoeeohmlaaaDoor.Jour
namespace Go.Proofs.YtebchoeeohmlaaaDoor.Jour
open Go Go.RowKit Go.Proofs.YtebchoeeohmlaaaDoor.Aid Go.Proofs.YtebchoeeohmlaaaDoor.Cache Go.Proofs.YtebchoeeohmlaaaDoor.Store

def RJB (RJ : RepJ) (s : Value) : World → (Nat → Prop) → Value → Nat → List By → Prop := fun W F v _ L => RJ W F v s L
/-- A store s, and a journal j on it. -/
abbrev JT (RS : RepSt) (RJ : RepJ) (w0 W : World) (X : Nat → Prop) (s j : Value) (m : Nat) (st : St) (L : List By) : Prop := Two RS (RJB RJ s) w0 W X s j m st L
section
variable {RS : RepSt} {RJ : RepJ} {D : By → By} {w0 W : World} {X K : Nat → Prop} {s j : Value} {m : Nat} {st : St} {L : List By}
theorem JourHas.keepB (H : JourHas w0 RS RJ D) (s : Value) : KeepR (RJB RJ s) := fun _ _ _ _ _ _ h hk => H.keepJ h hk
theorem JourHas.more (H : JourHas w0 RS RJ D) {W' : World} {X' : Nat → Prop} (h : JT RS RJ w0 W X s j m st L) (hb : Below W.heap.size W W') (hX : ∀ x, X' x → X x ∨ (W.heap.size ≤ x ∧ x < W'.heap.size)) : JT RS RJ w0 W' X' s j m st L := Two.more h H.keep (H.keepB s) hb hX
theorem JourHas.moreH (H : JourHas w0 RS RJ D) {W' : World} {K' : Nat → Prop} (h : Held RS w0 W K s m st) (hb : Below W.heap.size W W') (hK : ∀ b, K' b → K b ∨ (W.heap.size ≤ b ∧ b < W'.heap.size)) : Held RS w0 W' K' s m st := h.more (fun hr hk => H.keep _ _ _ _ _ _ hr hk) hb hK
theorem JourHas.okT (H : JourHas w0 RS RJ D) (h : JT RS RJ w0 W X s j m st L) : st.ok m := by obtain ⟨FA, FB, h⟩ := h; exact H.ok h.ra
theorem JT.held (h : JT RS RJ w0 W X s j m st L) : Held RS w0 W X s m st := by
  obtain ⟨FA, FB, h⟩ := h
  exact ⟨FA, h.ra, h.lta, h.gea, h.ax, h.bel, h.old⟩
theorem JourHas.newH (H : JourHas w0 RS RJ D) (m : Nat) (hm : m ≤ 1048576) (W : World) (hb : Below w0.heap.size w0 W) : Calls Tryd.prog 25 #[.int .i64 (m : Int)] W fun x W' => ∃ p, x = .returned (.tuple #[.pointer (some p), .int .i64 0]) ∧ Held RS w0 W' (fun _ => False) (.pointer (some p)) m st0 :=
  (H.new m W hm).mono (fun _ _ ⟨p, F, h1, h2, h3, h4⟩ => ⟨p, h1, ⟨F, h2, H.lt h2, fun b hf => Nat.le_trans hb.size (h3 b hf), fun _ _ h => h, hb.trans (h4.mono hb.size), fun _ h => h.elim⟩⟩)
theorem JourHas.fuseH (H : JourHas w0 RS RJ D) (h : Held RS w0 W K s m st) (k : Int) (h1 : -9223372036854775808 ≤ k) (h2 : k ≤ 9223372036854775807) : Calls Tryd.prog 27 #[s, .int .i64 k] W fun x W' => x = .returned (.tuple #[]) ∧ Held RS w0 W' K s m (fuseS st k) ∧ Keep K W W' := by
  obtain ⟨F, h⟩ := h
  exact (H.fuse k h.rep h1 h2).mono (fun x W' ⟨h1, h2⟩ => ⟨h1, h.move H.lt h2⟩)
theorem JourHas.fuseT (H : JourHas w0 RS RJ D) (h : JT RS RJ w0 W X s j m st L) (k : Int) (h1 : -9223372036854775808 ≤ k) (h2 : k ≤ 9223372036854775807) : Calls Tryd.prog 27 #[s, .int .i64 k] W fun x W' => x = .returned (.tuple #[]) ∧ JT RS RJ w0 W' X s j m (fuseS st k) L ∧ Keep X W W' := by
  obtain ⟨FA, FB, h⟩ := h
  exact (H.fuse k h.ra h1 h2).mono (fun x W' ⟨h1, h2⟩ => ⟨h1, h.move H.lt (fun hx => H.keepJ h.rb hx) h2⟩)
theorem JourHas.crashH (H : JourHas w0 RS RJ D) (h : Held RS w0 W K s m st) (k : Int) (h1 : -9223372036854775808 ≤ k) (h2 : k ≤ 9223372036854775807) : Calls Tryd.prog 30 #[s, .int .i64 k] W fun x W' => x = .returned (.tuple #[]) ∧ Held RS w0 W' K s m (crashS st k) ∧ Keep K W W' := by
  obtain ⟨F, h⟩ := h
  exact (H.crash k h.rep h1 h2).mono (fun x W' ⟨h1, h2⟩ => ⟨h1, h.move H.lt h2⟩)
/-- What is behind a call that leaves all but the footprints: a store and a journal. -/
theorem two_after (H : JourHas w0 RS RJ D) {W' : World} {F F' FJ : Nat → Prop} {j' : Value} {st' : St} {L' : List By} (hb : Below w0.heap.size w0 W) (hge : ∀ b, F b → w0.heap.size ≤ b) (hX : ∀ b, F b → ¬ X b) (hold : ∀ b, X b → b < W.heap.size)
    (h1 : RS W' F' s m st') (h2 : RJ W' FJ j' s L') (hd : ∀ b, FJ b → ¬ F' b) (hl : Cache.Leaves F W W') (hn : ∀ b, F' b ∨ FJ b → F b ∨ W.heap.size ≤ b) : JT RS RJ w0 W' X s j' m st' L' ∧ Keep X W W' := by
  have hbel : Below w0.heap.size w0 W' := hb.trans (hl.below hb.size hge)
  have g : ∀ b, F' b ∨ FJ b → w0.heap.size ≤ b := fun b hb' => (hn b hb').elim (hge b) (fun h => Nat.le_trans hb.size h)
  have a : ∀ b, F' b ∨ FJ b → ¬ X b := fun b hb' hx => (hn b hb').elim (fun h => hX b h hx) (fun h => by have := hold b hx; omega)
  exact ⟨⟨F', FJ, h1, h2, H.lt h1, H.ltJ h2, fun b hb' => g b (.inl hb'), fun b hb' => g b (.inr hb'), fun b h3 h4 => hd b h4 h3, fun b hb' => a b (.inl hb'), fun b hb' => a b (.inr hb'), hbel, fun b hx => Nat.lt_of_lt_of_le (hold b hx) hl.size⟩,
    fun b hx => hl.block b (hold b hx) (fun hF => hX b hF hx)⟩
theorem held_after (H : JourHas w0 RS RJ D) {W' : World} {F F' FJ : Nat → Prop} {st' : St} (hb : Below w0.heap.size w0 W) (hge : ∀ b, F b → w0.heap.size ≤ b) (hX : ∀ b, F b → ¬ X b) (hold : ∀ b, X b → b < W.heap.size)
    (h1 : RS W' F' s m st') (hl : Cache.Leaves F W W') (hn : ∀ b, F' b ∨ FJ b → F b ∨ W.heap.size ≤ b) : Held RS w0 W' X s m st' ∧ Keep X W W' :=
  ⟨⟨F', h1, H.lt h1, fun b hb' => (hn b (.inl hb')).elim (hge b) (fun h => Nat.le_trans hb.size h), fun b hb' hx => (hn b (.inl hb')).elim (fun h => hX b h hx) (fun h => by have := hold b hx; omega), hb.trans (hl.below hb.size hge), fun b hx => Nat.lt_of_lt_of_le (hold b hx) hl.size⟩,
    fun b hx => hl.block b (hold b hx) (fun hF => hX b hF hx)⟩
theorem JourHas.openH (H : JourHas w0 RS RJ D) (h : Held RS w0 W K s m st) {R : List By} {t : By} (hs : scan D (bytesL st) = some (R, t)) (hu : st.burn = -1 ∧ st.down = false) (hn : st.n ≤ 100000) :
    Calls Tryd.prog 51 #[s] W fun x W' => ∃ p, x = .returned (.tuple #[.pointer (some p), .int .i64 0]) ∧ JT RS RJ w0 W' K s (.pointer (some p)) m (openS m st t) R ∧ Keep K W W' := by
  obtain ⟨F, h⟩ := h
  exact (H.open_up h.bel h.rep hs hu.1 hu.2 hn).mono (fun x W' ⟨p, F', FJ, h1, h2, h3, h4, h5, h6⟩ => ⟨p, h1, two_after H h.bel h.ge h.apart h.old h2 h3 h4 h5 h6⟩)
/-- Open once more: the first journal stays as it is. -/
theorem JourHas.openT (H : JourHas w0 RS RJ D) (h : JT RS RJ w0 W X s j m st L) {R : List By} {t : By} (hs : scan D (bytesL st) = some (R, t)) (hu : st.burn = -1 ∧ st.down = false) (hn : st.n ≤ 100000) :
    Calls Tryd.prog 51 #[s] W fun x W' => ∃ p FK, x = .returned (.tuple #[.pointer (some p), .int .i64 0]) ∧ JT RS RJ w0 W' (fun b => FK b ∨ X b) s (.pointer (some p)) m (openS m st t) R ∧ RJ W' FK j s L ∧ (∀ b, FK b → w0.heap.size ≤ b) ∧ Keep X W W' := by
  obtain ⟨FA, FB, h⟩ := h
  refine (H.open_up h.bel h.ra hs hu.1 hu.2 hn).mono ?_
  rintro x W' ⟨p, F', FJ, h1, h2, h3, h4, h5, h6⟩
  obtain ⟨t1, t2⟩ := two_after H (X := fun b => FB b ∨ X b) h.bel h.gea (fun b hA hx => hx.elim (h.ab b hA) (h.ax b hA)) (fun b hx => hx.elim (h.ltb b) (h.old b)) h2 h3 h4 h5 h6
  exact ⟨p, FB, h1, t1, H.keepJ h.rb (fun b hb => t2 b (.inl hb)), h.geb, fun b hb => t2 b (.inr hb)⟩
/-- Blocks that an argument may lie in. -/
theorem JT.apart {FA FB : Nat → Prop} (h : TwoIn RS (RJB RJ s) w0 W X FA FB s j m st L) : ∀ b, okB w0 X b → ¬ FA b ∧ ¬ FB b := fun b hb => by
  rcases hb with h1 | h1
  · exact ⟨fun h2 => by have := h.gea b h2; omega, fun h2 => by have := h.geb b h2; omega⟩
  · exact ⟨fun h2 => h.ax b h2 h1, fun h2 => h.bx b h2 h1⟩
theorem JourHas.addT (H : JourHas w0 RS RJ D) (h : JT RS RJ w0 W X s j m st L) (x : By) (bv : Value) (hb : BytesIn W (okB w0 X) x.length (fnL x) bv) (hx : x.length ≤ 2000) (hn : st.n ≤ 100000) (hL : L.length ≤ 10000) :
    Calls Tryd.prog 56 #[j, bv] W fun y W' => y = .returned (.int .i64 (addC D m st x)) ∧ (addC D m st x ≠ 8 → JT RS RJ w0 W' X s j m (addS D m st x) (addL D m st L x)) ∧ Held RS w0 W' X s m (addS D m st x) ∧ Keep X W W' := by
  obtain ⟨FA, FB, h⟩ := h
  refine (H.add x bv h.bel h.ra h.rb (fun b h1 h2 => h.ab b h2 h1) (hb.less (fun b _ hb' => JT.apart h b hb')) hx hn hL).mono ?_
  rintro y W' ⟨h1, F', FJ', h2, h3, h4, h5, h6⟩
  have hge : ∀ b, FA b ∨ FB b → w0.heap.size ≤ b := fun b hb => hb.elim (h.gea b) (h.geb b)
  have hX : ∀ b, FA b ∨ FB b → ¬ X b := fun b hb => hb.elim (h.ax b) (h.bx b)
  obtain ⟨t1, t2⟩ := held_after H (FJ := FJ') h.bel hge hX h.old h2 h5 h6
  exact ⟨h1, fun hne => (two_after H h.bel hge hX h.old h2 (h3 hne) h4 h5 h6).1, t1, t2⟩
theorem JourHas.onlyT (H : JourHas w0 RS RJ D) (h : JT RS RJ w0 W X s j m st L) (M : List By) (v : Value) (hb : PartsP W (okB w0 X) M v) (hM : M.length ≤ 10) (hx : ∀ x ∈ M, x.length ≤ 2000) (hn : st.n ≤ 100000) :
    Calls Tryd.prog 55 #[j, v] W fun y W' => y = .returned (.int .i64 (onlyC D m st M)) ∧ (onlyC D m st M ≠ 8 → JT RS RJ w0 W' X s j m (onlyS D m st M) (onlyL D m st L M)) ∧ Held RS w0 W' X s m (onlyS D m st M) ∧ Keep X W W' := by
  obtain ⟨FA, FB, h⟩ := h
  refine (H.only M v h.bel h.ra h.rb (fun b h1 h2 => h.ab b h2 h1) (hb.less (fun b _ hb' => JT.apart h b hb')) hM hx hn).mono ?_
  rintro y W' ⟨h1, F', FJ', h2, h3, h4, h5, h6⟩
  have hge : ∀ b, FA b ∨ FB b → w0.heap.size ≤ b := fun b hb => hb.elim (h.gea b) (h.geb b)
  have hX : ∀ b, FA b ∨ FB b → ¬ X b := fun b hb => hb.elim (h.ax b) (h.bx b)
  obtain ⟨t1, t2⟩ := held_after H (FJ := FJ') h.bel hge hX h.old h2 h5 h6
  exact ⟨h1, fun hne => (two_after H h.bel hge hX h.old h2 (h3 hne) h4 h5 h6).1, t1, t2⟩
/-- Records: in blocks r, new ones, which no later call touches. -/
theorem JourHas.recsT (H : JourHas w0 RS RJ D) (h : JT RS RJ w0 W X s j m st L) (hL : L.length ≤ 10000) (hs : ∀ x ∈ L, x.length ≤ 1000) :
    Calls Tryd.prog 52 #[j] W fun y W' => ∃ v r, y = .returned v ∧ JT RS RJ w0 W' (fun b => r b ∨ X b) s j m st L ∧ PartsP W' r L v ∧ (∀ b, r b → W.heap.size ≤ b) ∧ Keep X W W' := by
  obtain ⟨FA, FB, h⟩ := h
  refine (H.recs h.rb hL hs).mono ?_
  rintro y W' ⟨v, FJ', h1, h2, h3, h4, h5⟩
  have hbel : Below w0.heap.size w0 W' := h.bel.trans (h3.below h.bel.size h.geb)
  have hsz := h3.size
  refine ⟨v, fun b => W.heap.size ≤ b ∧ b < W'.heap.size ∧ ¬ FJ' b, h1, ⟨FA, FJ', H.keep _ _ _ _ _ _ h.ra (fun b hb => h3.block b (h.lta b hb) (fun hB => h.ab b hb hB)), h2, fun b hb => Nat.lt_of_lt_of_le (h.lta b hb) hsz, H.ltJ h2, h.gea, fun b hb => ?_, fun b hA hB => ?_, fun b hA hx => ?_, fun b hB hx => ?_, hbel, fun b hx => ?_⟩, h5.less (fun b hlt hb => ⟨hb.1, hlt, hb.2⟩), fun b hb => hb.1, fun b hx => h3.block b (h.old b hx) (fun hB => h.bx b hB hx)⟩
  · rcases h4 b hb with h6 | h6
    · exact h.geb b h6
    · exact Nat.le_trans h.bel.size h6
  · rcases h4 b hB with h6 | h6
    · exact h.ab b hA h6
    · have := h.lta b hA; omega
  · rcases hx with hx | hx
    · have := h.lta b hA; omega
    · exact h.ax b hA hx
  · rcases hx with hx | hx
    · exact hx.2.2 hB
    · rcases h4 b hB with h6 | h6
      · exact h.bx b h6 hx
      · have := h.old b hx; omega
  · rcases hx with hx | hx
    · exact hx.2.1
    · exact Nat.lt_of_lt_of_le (h.old b hx) hsz
/-- Records of the first journal, behind all else. -/
theorem JourHas.recsK (H : JourHas w0 RS RJ D) {FK : Nat → Prop} (h : RJ W FK j s L) (hge : ∀ b, FK b → w0.heap.size ≤ b) (hb : Below w0.heap.size w0 W) (hL : L.length ≤ 10000) (hs : ∀ x ∈ L, x.length ≤ 1000) :
    Calls Tryd.prog 52 #[j] W fun y W' => ∃ v, y = .returned v ∧ PartsP W' (fun b => W.heap.size ≤ b) L v ∧ Below w0.heap.size w0 W' ∧ ∀ b, b < W.heap.size → ¬ FK b → W'.heap[b]? = W.heap[b]? := by
  refine (H.recs h hL hs).mono ?_
  rintro y W' ⟨v, FJ', h1, h2, h3, h4, h5⟩
  exact ⟨v, h1, h5.less (fun b _ hb => hb.1), hb.trans (h3.below hb.size hge), h3.block⟩
/-- Read: how many bytes there are. -/
theorem JourHas.readH (H : JourHas w0 RS RJ D) (h : Held RS w0 W K s m st) : Calls Tryd.prog 70 #[s] W fun x W' => ∃ A c, x = .returned (.slice A st.n c) ∧ Held RS w0 W' K s m st ∧ Keep K W W' := by
  obtain ⟨F, h⟩ := h
  exact (H.read h.rep).mono (fun x W' ⟨A, c, F', h1, h2, h3, h4⟩ => ⟨A, c, h1, h.move H.lt ⟨F', h2, h3, h4⟩⟩)
end
end Go.Proofs.YtebchoeeohmlaaaDoor.Jour
