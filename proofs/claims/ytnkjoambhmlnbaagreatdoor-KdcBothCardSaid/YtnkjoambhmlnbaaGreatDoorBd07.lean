/-
  Bytes that a call itself has gathered by append; append of bytes to them; a slice of bytes that came in, as a row's argument. append of bytes to few bytes of the call's own, however many come in within the reach of what is read: it goes through; what it holds, where there are not too many. Lists of bytes in a world, one behind the other. Slices of bytes, and bytes of the call's own: small laws that every layer takes. Fields as plain bytes: what the document's chapter on fields says of any list of fields and of any bytes; that they come back. Notes as plain values: what the document's chapter on notes says. Bytes of the call's own, read and written one by one. What seal.valid and seal.partsOf do: whether a label has 1 to 40 bytes; the three parts of a sealed form, each a slice that ends where its part does. A slice of structs that the call itself makes: its rows as a list; append of rows to it; a piece of such a slice.
-/
import Derived.Test.YtnkjoambhmlnbaaGreatDoorBd03
import Derived.Test.YtnkjoambhmlnbaaGreatDoorProg
import Derived.Test.YtnkjoambhmlnbaaGreatDoorBd01
import Derived.Maps.AppendAt
import Derived.OpenShut
import Derived.OwnWalk
namespace Go.Proofs.YtnkjoambhmlnbaaGreatDoor.Aid
open Go Go.RowKit

/-- v holds m bytes that read as e, in a row of the call's own, from block 'base' on. -/
def Own (w : World) (base m : Nat) (e : Nat → BitVec 8) (v : Value) : Prop := w.ownsRow base 5 1 v m ((List.range m).map fun i => Value.int .u8 ((e i).toNat : Int))
theorem Own.form {w : World} {base m : Nat} {e : Nat → BitVec 8} {v : Value} (h : Own w base m e v) :
    (v = .slice none 0 0 ∧ m = 0) ∨ ∃ g cap cur, v = .slice (some ⟨g, 0, none⟩) m cap ∧ base ≤ g ∧ g < w.heap.size ∧ m ≤ cap ∧ w.heap[g]? = some (.cells cur 5 (0, 0)) ∧ cur.size = cap ∧ ∀ j, j < m → cur[j]? = some (.int .u8 ((e j).toNat : Int)) := by
  obtain ⟨h1, h2⟩ := h
  rcases h2 with h2 | ⟨g, cap, cur, hv, hg, hh, hn, hc, hs, ht⟩
  · exact .inl h2
  · refine .inr ⟨g, cap, cur, hv, hg, ?_, hn, hh, by omega, fun j hj => ?_⟩
    · rcases Nat.lt_or_ge g w.heap.size with hlt | hge
      · exact hlt
      · rw [Array.getElem?_eq_none hge] at hh; cases hh
    · have hx := congrArg (fun l => l[j]?) ht
      simp only [Nat.mul_one, List.getElem?_take_of_lt hj, Array.getElem?_toList] at hx
      rw [hx]
      simp [hj]
theorem Own.slice {w : World} {base m : Nat} {e : Nat → BitVec 8} {v : Value} (h : Own w base m e v) {g' : Nat} (hg' : g' < base ∨ w.heap.size ≤ g') : SliceOf w g' m e v := by
  rcases h.form with ⟨rfl, rfl⟩ | ⟨g, cap, cur, rfl, hb, hlt, hm, hh, _, hc⟩
  · exact SliceOf.nil _ _ _
  · exact ⟨_, _, rfl, hm, fun _ => ⟨g, 0, rfl, by omega, fun j hj => by rw [Nat.zero_add, cell_of_row w g j cur _ _ hh]; exact hc j hj⟩⟩
theorem Own.keep {w w' : World} {base m : Nat} {e : Nat → BitVec 8} {v : Value} (h : Own w base m e v) (hk : ∀ b, v.ownBlock = some b → w'.heap[b]? = w.heap[b]?) : Own w' base m e v := by
  obtain ⟨h1, h2⟩ := h
  refine ⟨h1, ?_⟩
  rcases h2 with h2 | ⟨g, cap, cur, hv, hg, hh, r⟩
  · exact .inl h2
  · subst hv
    exact .inr ⟨g, cap, cur, rfl, hg, (hk g rfl).trans hh, r⟩
theorem Own.lt {w : World} {base m : Nat} {e : Nat → BitVec 8} {v : Value} (h : Own w base m e v) {b : Nat} (hb : v.ownBlock = some b) : base ≤ b ∧ b < w.heap.size := by
  rcases h.form with ⟨rfl, rfl⟩ | ⟨g, cap, cur, rfl, hb', hlt, _⟩
  · cases hb
  · have : g = b := by simpa [Value.ownBlock] using hb
    subst this
    exact ⟨hb', hlt⟩
theorem Own.below {w w' : World} {base m : Nat} {e : Nat → BitVec 8} {v : Value} (h : Own w base m e v) (hb : Below w.heap.size w w') : Own w' base m e v := h.keep (fun _ hv => hb.block _ (h.lt hv).2)
def cat (e : Nat → BitVec 8) (n : Nat) (f : Nat → BitVec 8) (j : Nat) : BitVec 8 := if j < n then e j else f (j - n)
theorem map_cat (e f : Nat → BitVec 8) (n m : Nat) :
    ((List.range n).map fun i => Value.int .u8 ((e i).toNat : Int)) ++ ((List.range m).map fun i => Value.int .u8 ((f i).toNat : Int)) = (List.range (n + m)).map fun i => Value.int .u8 ((cat e n f i).toNat : Int) := by
  apply List.ext_getElem?
  intro j
  by_cases h : j < n
  · rw [List.getElem?_append_left (by simpa using h)]
    simp [h, cat, show j < n + m by omega]
  · rw [List.getElem?_append_right (by simp; omega)]
    by_cases h2 : j < n + m
    · simp [h2, cat, h, show j - n < m by omega]
    · simp [h2, show ¬ j - n < m by omega]

section
variable {w : World} {ops : Array Oper} {rest : List Oper} {op : Oper} {a : Act} {Q : Exit → Act → World → Prop}
theorem info_u8 : (Tryz.prog.info? 5).map (fun i => (i.zero, i.size, i.bytes)) = some (some (.int .u8 0), 1, 1) := by kernel_rfl
theorem run_append_none (ty base m : Nat) (e : Nat → BitVec 8) (v : Value) (h : Own w base m e v) (c : Nat) : (Builtin.append_ #[28, 28] ty #[v, .slice none 0 c]).run Tryz.prog w = .ok v w := by
  obtain ⟨i, hi, hz⟩ := Option.map_eq_some_iff.1 info_u8
  rcases h.form with ⟨rfl, rfl⟩ | ⟨g, cap, cur, rfl, _, _, hm, _, _, _⟩
  · simp [Builtin.append_, run_underlying Tryz.underlying28, sizeOf, typeInfo, hi, Builtin.lenOf, Builtin.firstCells]
  · simp [Builtin.append_, run_underlying Tryz.underlying28, sizeOf, typeInfo, hi, Builtin.lenOf, Builtin.firstCells, hm, storeCells]
/-- 'append(v, x...)', v the call's own, x any bytes. -/
theorem append_bytes (hgd : op.guard = none) (s x : Operand) (ho : op.op = .call { callee := .builtin .append, args := #[s, x], argTypes := #[28, 28] })
    (base n : Nat) (e : Nat → BitVec 8) (v : Value) (hs : a.eval s = v) (hown : Own w base n e v) (g m : Nat) (f : Nat → BitVec 8) (u : Value) (hx : a.eval x = u) (hu : SliceOf w g m f u)
    (hnm : n + m ≤ 1000000000) (hbase : base ≤ w.heap.size)
    (hK : ∀ v' w', Own w' base (n + m) (cat e n f) v' → w.grownBy w' v.ownBlock → (v'.ownBlock = v.ownBlock ∨ v'.ownBlock = some w.heap.size) → wpList Tryz.prog ops Q rest (a.put op.dst v') w') : wpList Tryz.prog ops Q (op :: rest) a w := by
  obtain ⟨A, c, rfl, hc, hr⟩ := hu
  obtain ⟨i, hi, hz⟩ := Option.map_eq_some_iff.1 info_u8
  simp only [Prod.mk.injEq] at hz
  have fin : ∀ (ad : Addr), A = some ad → (∀ j y, ((List.range m).map fun i => Value.int .u8 ((f i).toNat : Int))[j]? = some y → w.cell? (ad.add j) = some y) → wpList Tryz.prog ops Q (op :: rest) a w := by
    intro ad hA hcell
    subst hA
    refine wpList_append_own_at w hgd s x 28 ho base 5 i (.int .u8 0) 1 1 Tryz.underlying28 hi hz.1 hz.2.1 hz.2.2 rfl (by omega) v n _ hs hown ad m c _ hx (by simp) hcell ?_ (by simp only [maxLen]; omega) (by omega) hbase ?_
    · intro y hy
      obtain ⟨j, _, rfl⟩ := List.mem_map.1 hy
      rfl
    · intro v' w' h1 h2 _ h4
      rw [map_cat] at h1
      exact hK v' w' h1 h2 h4
  by_cases hm : 0 < m
  · obtain ⟨sb, so, hA, _, hcell⟩ := hr hm
    refine fin _ hA (fun j y hy => ?_)
    have hj : j < m := by have := (List.getElem?_eq_some_iff.1 hy).1; simpa using this
    rw [Addr.add_mid, hcell j hj, ← hy]
    simp [hj]
  · obtain rfl : m = 0 := by omega
    cases A with
    | some ad => exact fin ad rfl (fun j y hy => by simp at hy)
    | none =>
      refine wpList_plain hgd fun K hK' => ?_
      have hrun := run_append_none (w := w) op.type base n e v hown c
      unfold Oper.wp
      simp [execOp, ho, resolve, invoke, builtin, hs, hx, hrun, Result.andThen]
      refine hK' _ _ (hK v w ?_ (World.grownBy.refl w _) (.inl rfl))
      have : (List.range (n + 0)).map (fun i => Value.int .u8 ((cat e n f i).toNat : Int)) = (List.range n).map fun i => Value.int .u8 ((e i).toNat : Int) := by
        rw [← map_cat]; simp
      unfold Own
      rw [this]
      exact hown
end
end Go.Proofs.YtnkjoambhmlnbaaGreatDoor.Aid

namespace Go.Proofs.YtnkjoambhmlnbaaGreatDoor.Aid
open Go Go.RowKit

theorem growBy_le (need B : Nat) (hB : need + (need + 768) / 4 ≤ B) : ∀ (r c : Nat), c ≤ B → Builtin.growBy need r c ≤ B
  | 0, _, h => h
  | r + 1, c, h => by
    unfold Builtin.growBy
    by_cases hc : c ≥ need
    · rw [if_pos hc]; exact h
    · rw [if_neg hc]
      exact growBy_le need B hB r _ (by omega)
theorem next_fits (need old : Nat) (h : old < need) (hn : need ≤ 140737488455328) : Builtin.nextslicecap need old ≤ 281474976710656 := by
  unfold Builtin.nextslicecap
  by_cases h1 : need > 2 * old
  · rw [if_pos h1]; omega
  · rw [if_neg h1]
    by_cases h2 : old < 256
    · rw [if_pos h2]; omega
    · rw [if_neg h2]
      exact growBy_le need _ (by omega) 4 old (by omega)

theorem run_append_big (w : World) (ty base n m : Nat) (e f : Nat → BitVec 8) (v : Value) (h : Own w base n e v) (ad : Addr) (c : Nat) (hc : ∀ j, j < m → w.cell? (ad.add j) = some (.int .u8 ((f j).toNat : Int)))
    (hm0 : 0 < m) (hn : n ≤ 100000) (hm : m ≤ 140737488351232) :
    ∃ v' w', (Builtin.append_ #[28, 28] ty #[v, .slice (some ad) m c]).run Tryz.prog w = .ok v' w' ∧ w.grownBy w' v.ownBlock := by
  obtain ⟨i, hi, hz⟩ := Option.map_eq_some_iff.1 info_u8
  simp only [Prod.mk.injEq] at hz
  obtain ⟨hz0, hsize, hby⟩ := hz
  have hl : ((List.range m).map fun j => Value.int .u8 ((f j).toNat : Int)).length = m * i.size := by simp [hsize]
  have hnews : ∀ j u, ((List.range m).map fun j => Value.int .u8 ((f j).toNat : Int))[j]? = some u → w.cell? (ad.add j) = some u := fun j u hu => by
    have hj : j < m := by have := (List.getElem?_eq_some_iff.1 hu).1; simpa using this
    rw [hc j hj, ← hu]
    simp [hj]
  rcases h.form with ⟨rfl, rfl⟩ | ⟨g, cap, cur, rfl, _, _, hcap, hh, hcur, hcells⟩
  · refine ⟨_, _, run_append_nil (P := Tryz.prog) w 28 ty 5 i _ Tryz.underlying28 hi hz0 ad m c _ hl hnews hm0 (by omega) (by rw [hby]; omega), ?_⟩
    exact ⟨rfl, rfl, rfl, by simp, fun k hk _ => Below.heap_alloc w.drew _ k hk⟩
  · by_cases hroom : n + m ≤ cap
    · refine ⟨_, _, run_append_room (P := Tryz.prog) w 28 ty 5 i Tryz.underlying28 hi g n cap cur hh ad m c _ hl hnews (fun u hu => ?_) hroom (by rw [hl, hsize]; omega), ?_⟩
      · obtain ⟨j, _, rfl⟩ := List.mem_map.1 hu
        rfl
      · exact ⟨rfl, rfl, rfl, by simp, fun k _ hk => setRow_other w g k _ (fun e => hk (by simp [Value.ownBlock, e]))⟩
    · refine ⟨_, _, run_append_grow (P := Tryz.prog) w 28 ty 5 i _ Tryz.underlying28 hi hz0 ⟨g, 0, none⟩ n cap ((List.range n).map fun j => Value.int .u8 ((e j).toNat : Int)) (by simp [hsize]) (fun j u hu => ?_) ad m c _ hl hnews (by omega) (by omega) (by rw [hby, Nat.mul_one]; exact next_fits _ _ (by omega) (by omega)), ?_⟩
      · have hj : j < n := by have := (List.getElem?_eq_some_iff.1 hu).1; simpa using this
        rw [Addr.add_mid, Nat.zero_add, cell_of_row w g j cur _ _ hh, hcells j hj, ← hu]
        simp [hj]
      · exact ⟨rfl, rfl, rfl, by simp, fun k hk _ => Below.heap_alloc w.drew _ k hk⟩

section
variable {w : World} {ops : Array Oper} {rest : List Oper} {op : Oper} {a : Act} {Q : Exit → Act → World → Prop}
/-- 'append(v, x...)', v few bytes of the call's own, x as many as can be read. -/
theorem append_big (hgd : op.guard = none) (s x : Operand) (ho : op.op = .call { callee := .builtin .append, args := #[s, x], argTypes := #[28, 28] })
    (base n : Nat) (e : Nat → BitVec 8) (v : Value) (hs : a.eval s = v) (hown : Own w base n e v) (g m : Nat) (f : Nat → BitVec 8) (u : Value) (hx : a.eval x = u) (hu : SliceOf w g m f u)
    (hn : n ≤ 100000) (hm : m ≤ 140737488351232) (hbase : base ≤ w.heap.size)
    (hK : ∀ v' w', (m ≤ 100000 → Own w' base (n + m) (cat e n f) v') → w.grownBy w' v.ownBlock → wpList Tryz.prog ops Q rest (a.put op.dst v') w') : wpList Tryz.prog ops Q (op :: rest) a w := by
  by_cases hsm : m ≤ 100000
  · exact append_bytes hgd s x ho base n e v hs hown g m f u hx hu (by omega) hbase (fun v' w' h1 h2 _ => hK v' w' (fun _ => h1) h2)
  · obtain ⟨A, c, rfl, hc, hr⟩ := hu
    obtain ⟨sb, so, rfl, _, hcell⟩ := hr (by omega)
    obtain ⟨v', w', hrun, hg⟩ := run_append_big w op.type base n m e f v hown ⟨sb, so, none⟩ c (fun j hj => by rw [Addr.add_mid]; exact hcell j hj) (by omega) hn hm
    refine wpList_plain hgd fun K hK' => ?_
    unfold Oper.wp
    simp [execOp, ho, resolve, invoke, builtin, hs, hx, hrun, Result.andThen]
    exact hK' _ _ (hK v' w' (fun h => absurd h hsm) hg)
end
end Go.Proofs.YtnkjoambhmlnbaaGreatDoor.Aid

namespace Go.Proofs.YtnkjoambhmlnbaaGreatDoor.Law01
open Go Go.RowKit Go.Proofs.YtnkjoambhmlnbaaGreatDoor.Aid

/-- v is a slice of len slices of bytes: number i has m i bytes, that read as e i. -/
def PartsOf (w : World) (len : Nat) (m : Nat → Nat) (e : Nat → Nat → BitVec 8) (v : Value) : Prop :=
  ∃ (A : Option Addr) (c : Nat), v = .slice A len c ∧ (0 < len → ∃ sb so : Nat, A = some ⟨sb, so, none⟩ ∧ ∀ i, i < len → ∃ u, w.cell? ⟨sb, so + i, none⟩ = some u ∧ SliceOf w w.heap.size (m i) (e i) u)
def off (m : Nat → Nat) : Nat → Nat
  | 0 => 0
  | i + 1 => off m i + m i
def catAll (m : Nat → Nat) (e : Nat → Nat → BitVec 8) : Nat → Nat → BitVec 8
  | 0 => fun _ => 0
  | i + 1 => cat (catAll m e i) (off m i) (e i)
theorem off_mono (m : Nat → Nat) {i j : Nat} (h : i ≤ j) : off m i ≤ off m j := by
  induction h with
  | refl => exact Nat.le_refl _
  | step _ ih => exact Nat.le_trans ih (Nat.le_add_right _ _)
theorem catAll_at (m : Nat → Nat) (e : Nat → Nat → BitVec 8) {i k : Nat} (h : i ≤ k) (j : Nat) (hj : j < off m i) : catAll m e k j = catAll m e i j := by
  induction h with
  | refl => rfl
  | @step k hik ih =>
    show cat (catAll m e k) (off m k) (e k) j = _
    unfold cat
    rw [if_pos (Nat.lt_of_lt_of_le hj (off_mono m hik)), ih]
theorem catAll_part (m : Nat → Nat) (e : Nat → Nat → BitVec 8) {i k : Nat} (h : i < k) (j : Nat) (hj : j < m i) : catAll m e k (off m i + j) = e i j := by
  rw [catAll_at m e (i := i + 1) (k := k) h _ (by show _ < off m i + m i; omega)]
  show cat (catAll m e i) (off m i) (e i) _ = _
  unfold cat
  rw [if_neg (by omega), Nat.add_sub_cancel_left]
end Go.Proofs.YtnkjoambhmlnbaaGreatDoor.Law01

namespace Go.Proofs.YtnkjoambhmlnbaaGreatDoor.Aid
open Go Go.RowKit

theorem slice_any {w : World} {g g' m : Nat} {e : Nat → BitVec 8} {v : Value} (h : SliceOf w g m e v) (hg : w.heap.size ≤ g') : SliceOf w g' m e v := by
  obtain ⟨A, c, hv, hc, hr⟩ := h
  refine ⟨A, c, hv, hc, fun hm => ?_⟩
  obtain ⟨sb, so, hA, _, hcell⟩ := hr hm
  have := block_lt_of_cell (hcell 0 hm)
  exact ⟨sb, so, hA, by simp at this; omega, hcell⟩
theorem slice_below {w w' : World} {g m : Nat} {e : Nat → BitVec 8} {v : Value} (h : SliceOf w g m e v) (hb : Below w.heap.size w w') : SliceOf w' g m e v := h.keep (fun b hl _ => hb.block b hl)
theorem Own.congr' {w : World} {base m : Nat} {e e' : Nat → BitVec 8} {v : Value} (h : Own w base m e v) (he : ∀ j, j < m → e j = e' j) : Own w base m e' v := by
  unfold Own at h ⊢
  have : (List.range m).map (fun i => Value.int .u8 ((e i).toNat : Int)) = (List.range m).map (fun i => Value.int .u8 ((e' i).toNat : Int)) :=
    List.map_congr_left (fun j hj => by rw [he j (List.mem_range.1 hj)])
  rw [← this]
  exact h
theorem own_empty8 (w : World) (e : Nat → BitVec 8) : Own (w.alloc (.cells #[] 5)) w.heap.size 0 e (.slice (some ⟨w.heap.size, 0, none⟩) 0 0) :=
  World.ownsRow_made w #[] 0 (Nat.le_refl _) (by simp [maxLen]) (by simp)
/-- One byte in a new block. -/
theorem slice_one (w : World) (g : Nat) (hg : g ≠ w.heap.size) (x : BitVec 8) (v : Int) (hv : v = (x.toNat : Int)) : SliceOf (w.alloc (.cells #[.int .u8 v] 5)) g 1 (fun _ => x) (.slice (some ⟨w.heap.size, 0, none⟩) 1 1) := by
  refine ⟨_, 1, rfl, Nat.le_refl _, fun _ => ⟨w.heap.size, 0, rfl, fun e => hg e.symm, fun j hj => ?_⟩⟩
  obtain rfl : j = 0 := by omega
  rw [World.cell?_alloc_new, hv]
  rfl
/-- One more byte of the padded input. -/
theorem own_next {w : World} {base L : Nat} {F : Nat → BitVec 8} {x : BitVec 8} {v : Value} (h : Own w base (L + 1) (cat F L (fun _ => x)) v) (hx : F L = x) : Own w base (L + 1) F v :=
  Own.congr' h (fun j hj => by
    unfold cat
    by_cases hjl : j < L
    · rw [if_pos hjl]
    · rw [if_neg hjl, ← hx, show j = L by omega])
theorem own_base {w : World} {base base' m : Nat} {e : Nat → BitVec 8} {v : Value} (h : Own w base m e v) (hb : base' ≤ base) : Own w base' m e v :=
  ⟨h.1, h.2.elim Or.inl (fun ⟨g, cap, cur, hv, hg, r⟩ => Or.inr ⟨g, cap, cur, hv, Nat.le_trans hb hg, r⟩)⟩
/-- 'b[:k]' of bytes of the call's own. -/
theorem head_run {P : Program} (t e : TypeId) (hu : P.underlying t = some (.slice e)) (hsz : (P.info? e).map (·.size) = some 1) (A : Option Addr) (hA : ∀ x, A = some x → ∃ sb so, x = ⟨sb, so, none⟩) (M c k : Nat) (hk : k ≤ c) (kd : IntKind) (W : World) :
    (Instr.sliceAt t (.slice A M c) none (some (.int kd (k : Int))) none).run P W = .ok (.slice A k c) W := by
  cases hq : P.info? e with
  | none => simp [hq] at hsz
  | some i =>
    cases A with
    | none => simp [Instr.sliceAt, Instr.slice, Instr.sliceBounds, Instr.sliceBound, asIntOf, Sem.run_bind, run_underlying hu W, Result.andThen, sizeOf, typeInfo, hq, hk]
    | some x =>
      obtain ⟨sb, so, rfl⟩ := hA x rfl
      simp [Instr.sliceAt, Instr.slice, Instr.sliceBounds, Instr.sliceBound, asIntOf, Sem.run_bind, run_underlying hu W, Result.andThen, sizeOf, typeInfo, hq, hk, Addr.add_mid]
/-- 'b[lo:hi]'. -/
theorem mid_at {P : Program} (t e : TypeId) (hu : P.underlying t = some (.slice e)) (hsz : (P.info? e).map (·.size) = some 1) (sb so M c lo m : Nat) (h1 : 0 < m) (h2 : lo + m ≤ M) (h3 : M ≤ c) (hi : Int) (hhi : hi = ((lo + m : Nat) : Int)) (kd kd' : IntKind) (W : World) :
    (Instr.sliceAt t (.slice (some ⟨sb, so, none⟩) M c) (some (.int kd (lo : Int))) (some (.int kd' hi)) none).run P W = .ok (.slice (some ⟨sb, so + lo, none⟩) m (c - lo)) W := by
  subst hhi
  cases hq : P.info? e with
  | none => simp [hq] at hsz
  | some i =>
    have hs : i.size = 1 := by simpa [hq] using hsz
    have e1 : ¬ c = lo := by omega
    have e3 : ((lo : Int) + (m : Int)).toNat = lo + m := by omega
    have e5 : (lo : Int) + (m : Int) ≤ (c : Int) := by omega
    have e6 : lo + m - lo = m := by omega
    have e9 : (0 : Int) ≤ (lo : Int) + (m : Int) := by omega
    simp [Instr.sliceAt, Instr.slice, Instr.sliceBounds, Instr.sliceBound, asIntOf, Sem.run_bind, run_underlying hu W, Result.andThen, sizeOf, typeInfo, hq, hs, Addr.add_mid, e1, e3, e5, e6, e9]
theorem own_shape {w : World} {base m : Nat} {e : Nat → BitVec 8} {v : Value} (h : Own w base m e v) : ∃ A cap, v = .slice A m cap ∧ m ≤ cap ∧ ∀ x, A = some x → ∃ sb so, x = ⟨sb, so, none⟩ := by
  rcases h.form with ⟨rfl, rfl⟩ | ⟨g, cap, cur, rfl, _, _, hc, _⟩
  · exact ⟨none, 0, rfl, Nat.le_refl _, fun _ h => by cases h⟩
  · exact ⟨_, cap, rfl, hc, fun x h => by cases h; exact ⟨_, _, rfl⟩⟩
/-- The first of more bytes. -/
theorem slice_head {w : World} {g m k c : Nat} {e : Nat → BitVec 8} {A : Option Addr} (h : SliceOf w g m e (.slice A m c)) (hk : k ≤ m) : SliceOf w g k e (.slice A k c) := by
  obtain ⟨A', c', hv, hc, hr⟩ := h
  simp only [Value.slice.injEq, true_and] at hv
  obtain ⟨rfl, rfl⟩ := hv
  refine ⟨_, _, rfl, by omega, fun h0 => ?_⟩
  obtain ⟨sb, so, h1, h2, h3⟩ := hr (by omega)
  exact ⟨sb, so, h1, h2, fun j hj => h3 j (by omega)⟩
theorem slice_shape {w : World} {g m : Nat} {e : Nat → BitVec 8} {v : Value} (h : SliceOf w g m e v) : ∃ A c, v = .slice A m c := by
  obtain ⟨A, c, rfl, _⟩ := h
  exact ⟨A, c, rfl⟩
end Go.Proofs.YtnkjoambhmlnbaaGreatDoor.Aid
namespace Go.Proofs.YtnkjoambhmlnbaaGreatDoor.Field
open Go Go.RowKit Go.Proofs.YtnkjoambhmlnbaaGreatDoor.Aid Go.Proofs.YtnkjoambhmlnbaaGreatDoor.Law01

def bt (n : Nat) : BitVec 8 := BitVec.ofNat 8 n
theorem bt_toNat {n : Nat} (h : n < 256) : (bt n).toNat = n := by unfold bt; rw [BitVec.toNat_ofNat]; exact Nat.mod_eq_of_lt h
/-- A field with its length ahead of it. -/
def frame (m : Nat) (e : Nat → BitVec 8) (j : Nat) : BitVec 8 := if j = 0 then bt (m / 256) else if j = 1 then bt (m % 256) else e (j - 2)
def m2 (m : Nat → Nat) (i : Nat) : Nat := m i + 2
def fr (m : Nat → Nat) (e : Nat → Nat → BitVec 8) (i : Nat) : Nat → BitVec 8 := frame (m i) (e i)
def encN (m : Nat → Nat) (len : Nat) : Nat := off (m2 m) len
def encB (m : Nat → Nat) (e : Nat → Nat → BitVec 8) (len : Nat) : Nat → BitVec 8 := catAll (m2 m) (fr m e) len
theorem off_m2 (m : Nat → Nat) : ∀ len, off (m2 m) len = off m len + 2 * len
  | 0 => rfl
  | k + 1 => by
    show off (m2 m) k + (m k + 2) = off m k + m k + 2 * (k + 1)
    rw [off_m2 m k]; omega
theorem off_ge (m : Nat → Nat) {i k : Nat} (h : i < k) : m i ≤ off m k := by
  have h1 := off_mono m (show i + 1 ≤ k from h)
  have : off m (i + 1) = off m i + m i := rfl
  omega
def putB (len : Nat) (m : Nat → Nat) : Bool := decide (len ≤ 20 ∧ ∀ i, i < len → m i ≤ 500)
def putC (len : Nat) (m : Nat → Nat) : Int := if putB len m then 0 else 7
def putN (len : Nat) (m : Nat → Nat) : Nat := if putB len m then encN m len else 0
theorem putB_at {len : Nat} {m : Nat → Nat} (h : putB len m = true) : len ≤ 20 ∧ ∀ i, i < len → m i ≤ 500 := of_decide_eq_true h
theorem putB_of {len : Nat} {m : Nat → Nat} (h1 : len ≤ 20) (h2 : ∀ i, i < len → m i ≤ 500) : putB len m = true := decide_eq_true ⟨h1, h2⟩
theorem putB_many {len : Nat} {m : Nat → Nat} (h1 : 20 < len) : putB len m = false := decide_eq_false (fun h => by omega)
theorem putB_long {len : Nat} {m : Nat → Nat} (i : Nat) (hi : i < len) (h1 : 500 < m i) : putB len m = false := decide_eq_false (fun h => by have := h.2 i hi; omega)

/-- The length that is written at a place. -/
def lenAt (E : Nat → BitVec 8) (p : Nat) : Nat := 256 * (E p).toNat + (E (p + 1)).toNat
/-- Where field k begins. -/
def sp (E : Nat → BitVec 8) : Nat → Nat
  | 0 => 0
  | k + 1 => sp E k + 2 + lenAt E (sp E k)
def stepC (E : Nat → BitVec 8) (n p k : Nat) : Int := if n < p + 2 then 2 else if 500 < lenAt E p ∨ k = 20 then 7 else if n < p + 2 + lenAt E p then 2 else 0
theorem step_ok {E : Nat → BitVec 8} {n p k : Nat} (h : stepC E n p k = 0) : p + 2 ≤ n ∧ lenAt E p ≤ 500 ∧ k ≠ 20 ∧ p + 2 + lenAt E p ≤ n := by
  unfold stepC at h
  split at h
  · cases h
  · split at h
    · cases h
    · split at h
      · cases h
      · omega
theorem step_of {E : Nat → BitVec 8} {n p k : Nat} (h1 : lenAt E p ≤ 500) (h2 : k ≠ 20) (h3 : p + 2 + lenAt E p ≤ n) : stepC E n p k = 0 := by
  unfold stepC
  rw [if_neg (by omega), if_neg (by omega), if_neg (by omega)]
/-- What Split does: k fields are taken; then there are no more bytes, or the error comes. -/
def SplitSpec (E : Nat → BitVec 8) (n k : Nat) (c : Int) : Prop :=
  (∀ i, i < k → sp E i < n ∧ stepC E n (sp E i) i = 0) ∧ ((c = 0 ∧ n ≤ sp E k) ∨ (c ≠ 0 ∧ sp E k < n ∧ stepC E n (sp E k) k = c))
theorem split_unique {E : Nat → BitVec 8} {n k k' : Nat} {c c' : Int} (h : SplitSpec E n k c) (h' : SplitSpec E n k' c') : k = k' ∧ c = c' := by
  have hk : ∀ {a b : Nat} {x y : Int}, SplitSpec E n a x → SplitSpec E n b y → ¬ a < b := fun {a b x y} h1 h2 hlt => by
    have ha := h2.1 a hlt
    rcases h1.2 with ⟨_, q⟩ | ⟨q0, _, q⟩
    · omega
    · rw [ha.2] at q; exact q0 q.symm
  have hkk : k = k' := Nat.le_antisymm (Nat.le_of_not_lt (hk h' h)) (Nat.le_of_not_lt (hk h h'))
  subst hkk
  refine ⟨rfl, ?_⟩
  rcases h.2 with ⟨q, p⟩ | ⟨q0, q1, q2⟩ <;> rcases h'.2 with ⟨r, s⟩ | ⟨r0, r1, r2⟩
  · rw [q, r]
  · omega
  · omega
  · rw [← q2, ← r2]
theorem split_le {E : Nat → BitVec 8} {n k : Nat} {c : Int} (h : SplitSpec E n k c) : ∀ i, i ≤ k → sp E i ≤ n
  | 0, _ => Nat.zero_le _
  | i + 1, hi => by
    have := step_ok (h.1 i (by omega)).2
    show sp E i + 2 + lenAt E (sp E i) ≤ n
    omega
theorem split_few {E : Nat → BitVec 8} {n k : Nat} {c : Int} (h : SplitSpec E n k c) : k ≤ 20 := by
  by_cases hk : 20 < k
  · exact absurd rfl (step_ok (h.1 20 hk).2).2.2.1
  · omega
def fieldM (E : Nat → BitVec 8) (i : Nat) : Nat := lenAt E (sp E i)
def fieldE (E : Nat → BitVec 8) (i j : Nat) : BitVec 8 := E (sp E i + 2 + j)
theorem sp_off (E : Nat → BitVec 8) : ∀ k, off (m2 (fieldM E)) k = sp E k
  | 0 => rfl
  | k + 1 => by
    show off (m2 (fieldM E)) k + (fieldM E k + 2) = sp E k + 2 + lenAt E (sp E k)
    rw [sp_off E k]
    unfold fieldM
    omega
theorem byte_lt (x : BitVec 8) : x.toNat < 256 := x.isLt
/-- What Split takes apart is put to the same bytes. -/
theorem put_split {E : Nat → BitVec 8} {n k : Nat} (h : SplitSpec E n k 0) : putB k (fieldM E) = true ∧ encN (fieldM E) k = n ∧ ∀ j, j < n → encB (fieldM E) (fieldE E) k j = E j := by
  have hn : sp E k = n := by
    rcases h.2 with ⟨_, q⟩ | ⟨q, _⟩
    · have := split_le h k (Nat.le_refl _); omega
    · exact absurd rfl q
  have hB : ∀ i, i ≤ k → ∀ j, j < sp E i → encB (fieldM E) (fieldE E) i j = E j := by
    intro i
    induction i with
    | zero => intro _ j hj; exact absurd hj (Nat.not_lt_zero _)
    | succ i ih =>
      intro hi j hj
      show cat (catAll (m2 (fieldM E)) (fr (fieldM E) (fieldE E)) i) (off (m2 (fieldM E)) i) (fr (fieldM E) (fieldE E) i) j = E j
      unfold cat
      rw [sp_off]
      by_cases hlt : j < sp E i
      · rw [if_pos hlt]; exact ih (by omega) j hlt
      · rw [if_neg hlt]
        have hj' : j < sp E i + 2 + lenAt E (sp E i) := hj
        unfold fr frame fieldM
        have b0 := byte_lt (E (sp E i))
        have b1 := byte_lt (E (sp E i + 1))
        by_cases h0 : j - sp E i = 0
        · rw [if_pos h0]
          have : lenAt E (sp E i) / 256 = (E (sp E i)).toNat := by unfold lenAt; omega
          rw [this, show j = sp E i by omega]
          unfold bt
          exact BitVec.eq_of_toNat_eq (by rw [BitVec.toNat_ofNat]; exact Nat.mod_eq_of_lt b0)
        · rw [if_neg h0]
          by_cases h1 : j - sp E i = 1
          · rw [if_pos h1]
            have : lenAt E (sp E i) % 256 = (E (sp E i + 1)).toNat := by unfold lenAt; omega
            rw [this, show j = sp E i + 1 by omega]
            unfold bt
            exact BitVec.eq_of_toNat_eq (by rw [BitVec.toNat_ofNat]; exact Nat.mod_eq_of_lt b1)
          · rw [if_neg h1]
            unfold fieldE
            congr 1
            omega
  refine ⟨putB_of (split_few h) (fun i hi => (step_ok (h.1 i hi).2).2.1), by unfold encN; rw [sp_off, hn], fun j hj => hB k (Nat.le_refl _) j (by omega)⟩
/-- What was put is split. -/
theorem split_put {len : Nat} {m : Nat → Nat} (e : Nat → Nat → BitVec 8) (h : putB len m = true) :
    SplitSpec (encB m e len) (encN m len) len 0 ∧ ∀ i, i < len → fieldM (encB m e len) i = m i ∧ ∀ j, j < m i → fieldE (encB m e len) i j = e i j := by
  obtain ⟨h1, h2⟩ := putB_at h
  have hpart : ∀ i, i < len → ∀ j, j < m i + 2 → encB m e len (off (m2 m) i + j) = frame (m i) (e i) j := fun i hi j hj => catAll_part (m2 m) (fr m e) hi j hj
  have hlen : ∀ i, i < len → lenAt (encB m e len) (off (m2 m) i) = m i := fun i hi => by
    have a := hpart i hi 0 (by omega)
    have b := hpart i hi 1 (by omega)
    have hm := h2 i hi
    unfold lenAt
    rw [Nat.add_zero] at a
    rw [a, b]
    unfold frame
    rw [if_pos rfl, if_neg (by omega), if_pos rfl, bt_toNat (by omega), bt_toNat (by omega)]
    omega
  have hsp : ∀ i, i ≤ len → sp (encB m e len) i = off (m2 m) i := by
    intro i
    induction i with
    | zero => intro _; rfl
    | succ i ih =>
      intro hi
      show sp (encB m e len) i + 2 + lenAt _ (sp (encB m e len) i) = off (m2 m) i + (m i + 2)
      rw [ih (by omega), hlen i (by omega)]
      omega
  refine ⟨⟨fun i hi => ?_, .inl ⟨rfl, by rw [hsp len (Nat.le_refl _)]; exact Nat.le_refl _⟩⟩, fun i hi => ⟨by unfold fieldM; rw [hsp i (by omega), hlen i hi], fun j hj => ?_⟩⟩
  · have hmo := off_mono (m2 m) (show i + 1 ≤ len from hi)
    have hst : off (m2 m) (i + 1) = off (m2 m) i + (m i + 2) := rfl
    rw [hsp i (by omega)]
    unfold encN
    refine ⟨by omega, step_of ?_ (by omega) ?_⟩
    · rw [hlen i hi]; exact h2 i hi
    · rw [hlen i hi]; omega
  · unfold fieldE
    rw [hsp i (by omega), show off (m2 m) i + 2 + j = off (m2 m) i + (2 + j) by omega, hpart i hi (2 + j) (by omega)]
    unfold frame
    rw [if_neg (by omega), if_neg (by omega)]
    congr 1
    omega

/-- A number's bytes, the first the most significant; and back. -/
def numU (n : Int) : Nat := (n % 18446744073709551616).toNat
def numB (n : Int) (j : Nat) : BitVec 8 := bt (numU n / 256 ^ (7 - j) % 256)
def tU (E : Nat → BitVec 8) : Nat → Nat
  | 0 => 0
  | k + 1 => 256 * tU E k + (E k).toNat
def takeV (E : Nat → BitVec 8) (n : Nat) : Int := if n = 8 then wrap64 (tU E 8 : Int) else 0
def takeC (n : Nat) : Int := if n = 8 then 0 else 3
theorem tU_num (n : Int) : ∀ k, k ≤ 8 → tU (numB n) k = numU n / 256 ^ (8 - k)
  | 0, _ => by
    have : numU n < 18446744073709551616 := by unfold numU; omega
    show 0 = numU n / 256 ^ 8
    rw [show (256 : Nat) ^ 8 = 18446744073709551616 by decide]
    omega
  | k + 1, hk => by
    show 256 * tU (numB n) k + (numB n k).toNat = _
    rw [tU_num n k (by omega)]
    unfold numB
    rw [bt_toNat (Nat.mod_lt _ (by omega)), show 8 - k = (7 - k) + 1 by omega, show 8 - (k + 1) = 7 - k by omega, Nat.pow_succ, ← Nat.div_div_eq_div_mul]
    generalize numU n / 256 ^ (7 - k) = x
    omega
theorem take_num (n : Int) (h1 : -9223372036854775808 ≤ n) (h2 : n ≤ 9223372036854775807) : takeV (numB n) 8 = n ∧ takeC 8 = 0 := by
  unfold takeV takeC
  rw [if_pos rfl, if_pos rfl, tU_num n 8 (Nat.le_refl _)]
  refine ⟨?_, rfl⟩
  unfold wrap64 numU
  simp only [Nat.sub_self, Nat.pow_zero, Nat.div_one]
  omega
def wordC (n : Nat) : Int := if n = 16 then 0 else 3
end Go.Proofs.YtnkjoambhmlnbaaGreatDoor.Field
namespace Go.Proofs.YtnkjoambhmlnbaaGreatDoor.Note
open Go Go.RowKit Go.Proofs.YtnkjoambhmlnbaaGreatDoor.Aid Go.Proofs.YtnkjoambhmlnbaaGreatDoor.Law01 Go.Proofs.YtnkjoambhmlnbaaGreatDoor.Field

/-- A note. -/
structure NoteP where
  kind : Int
  a : ByteArray
  b : ByteArray
  x : Nat → BitVec 8
  y : Nat → BitVec 8
  pn : Nat
  p : Nat → BitVec 8
  qn : Nat
  q : Nat → BitVec 8
  rn : Nat
  r : Nat → BitVec 8
/-- The letters of each kind's fields. -/
def table : List (List Nat) := [[], [65, 88], [66, 80, 89], [80, 81, 89], [81, 80], [80], [65, 88], [65, 88, 66, 89], [80, 81], [80, 81, 82, 89], [80], [81, 88], [89, 80], [80], [65, 88], [80], [65]]
def hasL (k : Int) : List Nat := if k < 1 ∨ 17 ≤ k then [] else table.getD k.toNat []
def strL (l : List Nat) : ByteArray := ⟨(l.map UInt8.ofNat).toArray⟩
def inL (k : Int) (c : Nat) : Bool := (hasL k).contains c
def zeroB (x : Nat → BitVec 8) : Bool := sameUpto x (fun _ => 0) 16
/-- May a note be? -/
def firstB (N : NoteP) : Bool := (inL N.kind 65 != decide (0 < N.a.size)) || (inL N.kind 66 != decide (0 < N.b.size)) || (decide (0 < N.a.size) && !nameB N.a) || (decide (0 < N.b.size) && !nameB N.b)
def wordsB (N : NoteP) : Bool := (!inL N.kind 88 && !zeroB N.x) || (!inL N.kind 89 && !zeroB N.y)
def blobsB (N : NoteP) : Bool := (!inL N.kind 80 && decide (0 < N.pn)) || (!inL N.kind 81 && decide (0 < N.qn)) || (!inL N.kind 82 && decide (0 < N.rn))
def smallB (N : NoteP) : Bool := decide (N.pn ≤ 500) && decide (N.qn ≤ 500) && decide (N.rn ≤ 500)
def rightN (N : NoteP) : Bool := !(hasL N.kind).isEmpty && !firstB N && !wordsB N && !blobsB N && smallB N
/-- A note's value: 38 cells. -/
def noteF (N : NoteP) (P Q R : Value) (i : Nat) : Value :=
  if i = 0 then .int .i64 N.kind else if i = 1 then .string N.a else if i = 2 then .string N.b else if i < 19 then .int .u8 ((N.x (i - 3)).toNat : Int) else if i < 35 then .int .u8 ((N.y (i - 19)).toNat : Int) else if i = 35 then P else if i = 36 then Q else R
def noteV (N : NoteP) (P Q R : Value) : Value := .agg (cellsOf 38 (noteF N P Q R))
/-- Its three slices lie in a world. -/
structure NoteAt (W : World) (N : NoteP) (P Q R : Value) : Prop where
  p : SliceOf W W.heap.size N.pn N.p P
  q : SliceOf W W.heap.size N.qn N.q Q
  r : SliceOf W W.heap.size N.rn N.r R
theorem NoteAt.below {W W' : World} {N : NoteP} {P Q R : Value} (h : NoteAt W N P Q R) (hb : Below W.heap.size W W') : NoteAt W' N P Q R :=
  ⟨slice_any (slice_below h.p hb) (Nat.le_refl _), slice_any (slice_below h.q hb) (Nat.le_refl _), slice_any (slice_below h.r hb) (Nat.le_refl _)⟩
end Go.Proofs.YtnkjoambhmlnbaaGreatDoor.Note
namespace Go.Proofs.YtnkjoambhmlnbaaGreatDoor.Aid
open Go Go.RowKit

/-- One byte set. -/
def setAt (e : Nat → BitVec 8) (k : Nat) (x : BitVec 8) (j : Nat) : BitVec 8 := if j = k then x else e j
theorem own_cells {w : World} {base m : Nat} {e : Nat → BitVec 8} {v : Value} (h : Own w base m e v) (hm : 0 < m) :
    ∃ g cap, v = .slice (some ⟨g, 0, none⟩) m cap ∧ base ≤ g ∧ g < w.heap.size ∧ m ≤ cap ∧ (∀ j, j < m → w.cell? ⟨g, j, none⟩ = some (.int .u8 ((e j).toNat : Int))) ∧ ∀ j, w.frozen? ⟨g, j, none⟩ = false := by
  rcases h.form with ⟨_, h0⟩ | ⟨g, cap, cur, hv, hg, hlt, hc, hh, hs, hcell⟩
  · omega
  · refine ⟨g, cap, hv, hg, hlt, hc, fun j hj => ?_, fun j => ?_⟩
    · simp [World.cell?, hh, hcell j hj]
    · simp [World.frozen?, hh]
theorem slice_set {w : World} {g m cap k G : Nat} {e : Nat → BitVec 8} (hc : ∀ j, j < m → w.cell? ⟨g, j, none⟩ = some (.int .u8 ((e j).toNat : Int))) (hk : k < m) (hcap : m ≤ cap) (hG : g ≠ G) (x : BitVec 8) (v : Int) (hv : v = (x.toNat : Int)) :
    SliceOf (w.setCell ⟨g, k, none⟩ (.int .u8 v)) G m (setAt e k x) (.slice (some ⟨g, 0, none⟩) m cap) := by
  refine ⟨_, cap, rfl, hcap, fun _ => ⟨g, 0, rfl, hG, fun j hj => ?_⟩⟩
  rw [Nat.zero_add]
  unfold setAt
  by_cases h : j = k
  · subst h
    rw [if_pos rfl, World.cell?_setCell_same' _ _ _ (by rw [hc j hj]; rfl), hv]
  · rw [if_neg h]
    exact (World.cell?_setCell_other _ _ _ _ (fun hx => h (by cases hx; rfl))).trans (hc j hj)
section
variable {w : World} {ops : Array Oper} {rest : List Oper} {op : Oper} {a : Act} {Q : Exit → Act → World → Prop}
/-- A byte is stored; the world behind it has a name. -/
theorem store_byte (hgd : op.guard = none) (x y : Operand) (ho : op.op = .store 5 x y) (g k : Nat) (hx : a.eval x = .pointer (some ⟨g, k, none⟩)) (z : Int) (hy : a.eval y = .int .u8 z) (old : Value) (hc : w.cell? ⟨g, k, none⟩ = some old) (hf : w.frozen? ⟨g, k, none⟩ = false)
    (hK : ∀ w', w' = w.setCell ⟨g, k, none⟩ (.int .u8 z) → wpList Tryz.prog ops Q rest (a.put op.dst undef) w') : wpList Tryz.prog ops Q (op :: rest) a w := by
  refine wpList_plain hgd fun K hK' => ?_
  unfold Oper.wp execOp
  have := hK' _ _ (hK _ rfl)
  obtain ⟨i, hi, hz⟩ := Option.map_eq_some_iff.1 info_u8
  simp only [Prod.mk.injEq] at hz
  simp only [ho, hx, hy, Instr.storeAt, Instr.sureAddr, Sem.run_bind, Sem.run_pure, Result.andThen_ok]
  simp [storeVar, sizeOf, typeInfo, hi, hz.2.1, Value.cells, hc, hf, go_sem]
  exact this
end
end Go.Proofs.YtnkjoambhmlnbaaGreatDoor.Aid
namespace Go.Proofs.YtnkjoambhmlnbaaGreatDoor.Seal
open Go Go.RowKit Go.Proofs.YtnkjoambhmlnbaaGreatDoor.Aid

theorem valid_any (s : ByteArray) (w : World) : Calls Tryz.prog 47 #[.string s] w fun x w' => x = .returned (.bool (decide (1 ≤ s.size ∧ s.size ≤ 40))) ∧ w' = w := by
  by_cases h : 1 ≤ s.size
  · have q0 : (1 : Int) ≤ (s.size : Int) := by omega
    by_cases h2 : s.size ≤ 40
    · have q1 : (s.size : Int) ≤ 40 := by omega
      rw [decide_eq_true (show 1 ≤ s.size ∧ s.size ≤ 40 from ⟨h, h2⟩)]
      go_enter Tryz.func47, Tryz.ntmps47
      go_wp2
      go_ret
      exact ⟨rfl, rfl⟩
    · have q1 : ¬ (s.size : Int) ≤ 40 := by omega
      rw [decide_eq_false (show ¬ (1 ≤ s.size ∧ s.size ≤ 40) from fun h => h2 h.2)]
      go_enter Tryz.func47, Tryz.ntmps47
      go_wp2
      go_ret
      exact ⟨rfl, rfl⟩
  · have q0 : ¬ (1 : Int) ≤ (s.size : Int) := by omega
    rw [decide_eq_false (show ¬ (1 ≤ s.size ∧ s.size ≤ 40) from fun h2 => h h2.1)]
    go_enter Tryz.func47, Tryz.ntmps47
    go_wp2
    go_ret
    exact ⟨rfl, rfl⟩

/-- 'b[lo:hi:most]'. -/
theorem cut3_run {P : Program} (t e : TypeId) (hu : P.underlying t = some (.slice e)) (hsz : (P.info? e).map (·.size) = some 1) (sb so M c lo hi mx : Nat) (h1 : lo ≤ hi) (h2 : hi ≤ mx) (h3 : mx ≤ c) :
    ∃ o : Nat, o ≤ so + lo ∧ (0 < mx - lo → o = so + lo) ∧ ∀ (l h m : Int) (k1 k2 k3 : IntKind) (W : World), l = (lo : Int) → h = (hi : Int) → m = (mx : Int) →
      (Instr.sliceAt t (.slice (some ⟨sb, so, none⟩) M c) (some (.int k1 l)) (some (.int k2 h)) (some (.int k3 m))).run P W = .ok (.slice (some ⟨sb, o, none⟩) (hi - lo) (mx - lo)) W := by
  refine ⟨if mx = lo then so else so + lo, by split <;> omega, fun h => by rw [if_neg (by omega)], fun l h m k1 k2 k3 W hl hh hm => ?_⟩
  subst hl hh hm
  cases hq : P.info? e with
  | none => simp [hq] at hsz
  | some i =>
    have hs : i.size = 1 := by simpa [hq] using hsz
    by_cases hck : mx = lo
    · subst hck
      obtain rfl : hi = mx := by omega
      simp [Instr.sliceAt, Instr.slice, Instr.sliceBounds, Instr.sliceBound, asIntOf, Sem.run_bind, run_underlying hu W, Result.andThen, sizeOf, typeInfo, hq, h3]
    · simp [Instr.sliceAt, Instr.slice, Instr.sliceBounds, Instr.sliceBound, asIntOf, Sem.run_bind, run_underlying hu W, Result.andThen, sizeOf, typeInfo, hq, hck, h1, h2, h3, hs, Addr.add_mid]
/-- 'b[:hi:most]'. -/
theorem head3_run {P : Program} (t e : TypeId) (hu : P.underlying t = some (.slice e)) (hsz : (P.info? e).map (·.size) = some 1) (sb so M c hi mx : Nat) (h2 : hi ≤ mx) (h3 : mx ≤ c) (h m : Int) (k2 k3 : IntKind) (W : World) (hh : h = (hi : Int)) (hm : m = (mx : Int)) :
      (Instr.sliceAt t (.slice (some ⟨sb, so, none⟩) M c) none (some (.int k2 h)) (some (.int k3 m))).run P W = .ok (.slice (some ⟨sb, so, none⟩) hi mx) W := by
  subst hh hm
  cases hq : P.info? e with
  | none => simp [hq] at hsz
  | some i =>
    simp [Instr.sliceAt, Instr.slice, Instr.sliceBounds, Instr.sliceBound, asIntOf, Sem.run_bind, run_underlying hu W, Result.andThen, sizeOf, typeInfo, hq, h2, h3, Addr.add_mid]

/-- 'x[:]' of an array. -/
theorem all_run {P : Program} (t e N : TypeId) (hu : P.underlying t = some (.array N e)) (hsz : (P.info? e).map (·.size) = some 1) (b o : Nat) (W : World) :
    (Instr.sliceAt t (.pointer (some ⟨b, o, none⟩)) none none none).run P W = .ok (.slice (some ⟨b, o, none⟩) N N) W := by
  cases hq : P.info? e with
  | none => simp [hq] at hsz
  | some i =>
    simp [Instr.sliceAt, Instr.sliceBounds, Instr.sureAddr, Sem.run_bind, run_underlying hu W, Result.andThen, sizeOf, typeInfo, hq, Addr.add]

set_option maxRecDepth 100000 in
theorem parts_any (sb so m c : Nat) (hm : 48 ≤ m) (hm2 : m ≤ 2000) (hc : m ≤ c) (w : World) :
    Calls Tryz.prog 49 #[.slice (some ⟨sb, so, none⟩) m c] w fun x w' => ∃ o, o ≤ so + 16 ∧ (0 < m - 48 → o = so + 16) ∧ x = .returned (.tuple #[.slice (some ⟨sb, so, none⟩) 16 16, .slice (some ⟨sb, o, none⟩) (m - 48) (m - 48), .slice (some ⟨sb, so + (m - 32), none⟩) 32 32]) ∧ w' = w.drew := by
  have e1 : IntKind.i64.wrap ((m : Int) - 32) = (m : Int) - 32 := IntWalk.i64_in _ (by omega)
  have k1 := fun (W : World) => head3_run (P := Tryz.prog) 28 5 Tryz.underlying28 (by kernel_rfl) sb so m c 16 16 (by omega) (by omega) 16 16 .i64 .i64 W rfl rfl
  obtain ⟨o, ho, hA, k2⟩ := cut3_run (P := Tryz.prog) 28 5 Tryz.underlying28 (by kernel_rfl) sb so m c 16 (m - 32) (m - 32) (by omega) (by omega) (by omega)
  obtain ⟨o3, _, hB, k3⟩ := cut3_run (P := Tryz.prog) 28 5 Tryz.underlying28 (by kernel_rfl) sb so m c (m - 32) m m (by omega) (by omega) (by omega)
  obtain rfl := hB (by omega)
  have k2' := fun (W : World) => k2 16 ((m : Int) - 32) ((m : Int) - 32) .i64 .i64 .i64 W (by omega) (by omega) (by omega)
  have k3' := fun (W : World) => k3 ((m : Int) - 32) (m : Int) (m : Int) .i64 .i64 .i64 W (by omega) (by omega) (by omega)
  rw [show m - 32 - 16 = m - 48 by omega] at k2' hA
  rw [show m - (m - 32) = 32 by omega] at k3'
  have HA := Lib.hid hA
  clear hA hB k2 k3
  go_enter Tryz.func49, Tryz.ntmps49
  go_wp2
  refine region_still (by kernel_rfl) (by kernel_rfl) ?_
  repeat still_step
  refine wpStill_nil ?_
  go_wp2
  go_ret3
  exact ⟨o, ho, HA.out, rfl, rfl⟩
end Go.Proofs.YtnkjoambhmlnbaaGreatDoor.Seal
namespace Go.Proofs.YtnkjoambhmlnbaaGreatDoor.Aid
open Go Go.RowKit

structure OwnE (W : World) (base : Nat) (e : TypeId) (s : Nat) (L : List (List Value)) (v : Value) : Prop where
  own : W.ownsRow base e s v L.length L.flatten
  len : ∀ r ∈ L, r.length = s
theorem flat_len {s : Nat} : ∀ {L : List (List Value)}, (∀ r ∈ L, r.length = s) → L.flatten.length = L.length * s
  | [], _ => by simp
  | r :: L, h => by
    rw [List.flatten_cons, List.length_append, h r (List.mem_cons_self ..), flat_len (fun x hx => h x (List.mem_cons_of_mem _ hx)), List.length_cons, Nat.add_mul, Nat.one_mul, Nat.add_comm]
theorem flat_at {s : Nat} : ∀ {L : List (List Value)}, (∀ r ∈ L, r.length = s) → ∀ {i j : Nat} {r : List Value} {u : Value}, L[i]? = some r → r[j]? = some u → L.flatten[i * s + j]? = some u
  | [], _, i, _, _, _, h, _ => by simp at h
  | q :: L, h, 0, j, r, u, h1, h2 => by
    simp at h1
    subst h1
    rw [List.flatten_cons, Nat.zero_mul, Nat.zero_add, List.getElem?_append_left (List.getElem?_eq_some_iff.1 h2).1]
    exact h2
  | q :: L, h, i + 1, j, r, u, h1, h2 => by
    have hq := h q (List.mem_cons_self ..)
    rw [List.flatten_cons, List.getElem?_append_right (by rw [hq, Nat.add_mul]; omega), hq, show (i + 1) * s + j - s = i * s + j by rw [Nat.add_mul]; omega]
    exact flat_at (fun x hx => h x (List.mem_cons_of_mem _ hx)) (by simpa using h1) h2
theorem flat_inv {s : Nat} : ∀ {L : List (List Value)}, (∀ r ∈ L, r.length = s) → ∀ {j : Nat} {u : Value}, L.flatten[j]? = some u → ∃ i k r, L[i]? = some r ∧ r[k]? = some u ∧ j = i * s + k
  | [], _, j, u, h => by simp at h
  | q :: L, h, j, u, h1 => by
    have hq := h q (List.mem_cons_self ..)
    by_cases hj : j < s
    · rw [List.flatten_cons, List.getElem?_append_left (by omega)] at h1
      exact ⟨0, j, q, rfl, h1, by omega⟩
    · rw [List.flatten_cons, List.getElem?_append_right (by omega), hq] at h1
      obtain ⟨i, k, r, h2, h3, h4⟩ := flat_inv (fun x hx => h x (List.mem_cons_of_mem _ hx)) h1
      exact ⟨i + 1, k, r, by simpa using h2, h3, by rw [Nat.add_mul]; omega⟩
section
variable {W W' : World} {base : Nat} {e : TypeId} {s : Nat} {L : List (List Value)} {v : Value}
theorem OwnE.nil (W : World) (base : Nat) (e : TypeId) (s : Nat) : OwnE W base e s [] (.slice none 0 0) := ⟨World.ownsRow_nil _ _ _ _, fun _ h => by cases h⟩
theorem OwnE.empty (W : World) (e : TypeId) (s : Nat) : OwnE (W.alloc (.cells #[] e)) W.heap.size e s [] (.slice (some ⟨W.heap.size, 0, none⟩) 0 0) := ⟨World.ownsRow_made W #[] 0 (Nat.le_refl _) (by simp [maxLen]) (by simp), fun _ h => by cases h⟩
theorem OwnE.keep (h : OwnE W base e s L v) (hk : ∀ b, v.ownBlock = some b → W'.heap[b]? = W.heap[b]?) : OwnE W' base e s L v := by
  refine ⟨⟨h.own.1, ?_⟩, h.len⟩
  rcases h.own.2 with h0 | ⟨g, cap, cur, rfl, hb, hg, rest⟩
  · exact .inl h0
  · exact .inr ⟨g, cap, cur, rfl, hb, (hk g rfl).trans hg, rest⟩
theorem OwnE.lt (h : OwnE W base e s L v) : ∀ b, v.ownBlock = some b → base ≤ b ∧ b < W.heap.size := World.ownsRow.lt h.own
theorem OwnE.below (h : OwnE W base e s L v) (hb : Below W.heap.size W W') : OwnE W' base e s L v := h.keep (fun b hv => hb.block b (h.lt b hv).2)
theorem OwnE.base_ (h : OwnE W base e s L v) {base' : Nat} (hb : base' ≤ base) : OwnE W base' e s L v := ⟨⟨h.own.1, h.own.2.elim Or.inl (fun ⟨g, cap, cur, hv, hg, r⟩ => Or.inr ⟨g, cap, cur, hv, Nat.le_trans hb hg, r⟩)⟩, h.len⟩
theorem OwnE.shape (h : OwnE W base e s L v) : ∃ A c, v = .slice A L.length c := by
  rcases h.own.2 with ⟨hv, h0⟩ | ⟨g, cap, cur, hv, _⟩
  · exact ⟨none, 0, by rw [hv, h0]⟩
  · exact ⟨_, cap, hv⟩
theorem OwnE.cap (h : OwnE W base e s L v) {A : Option Addr} {n c : Nat} (hv : v = .slice A n c) : n ≤ c := by
  rcases h.own.2 with ⟨h1, h0⟩ | ⟨g, cap, cur, h1, hb, hg, hn, _⟩
  · rw [hv] at h1
    cases h1
    exact Nat.le_refl _
  · rw [hv] at h1
    cases h1
    exact hn
theorem OwnE.rows (h : OwnE W base e s L v) : RowsAt W s L.length (fun i => L.getD i []) v := by
  rcases h.own.2 with ⟨rfl, h0⟩ | ⟨g, cap, cur, rfl, hb, hg, hn, hm, hs, ht⟩
  · exact ⟨none, 0, by rw [h0], fun h1 => by omega⟩
  · refine ⟨_, cap, rfl, fun _ => ⟨g, 0, rfl, (Array.getElem?_eq_some_iff.1 hg).1, fun i hi j u hu => ?_⟩⟩
    have h1 : L[i]? = some (L.getD i []) := by rw [List.getD_eq_getElem?_getD, List.getElem?_eq_getElem hi]; rfl
    have h2 := World.ownsRow.cells h.own (g := g) rfl _ _ (flat_at h.len h1 hu)
    have hadd : ∀ j, (⟨g, 0, none⟩ : Addr).add j = ⟨g, j, none⟩ := fun j => by unfold Addr.add; split <;> simp_all
    rw [hadd] at h2
    rw [Nat.zero_add]
    exact h2
end
theorem OwnE.toRow {W : World} {base g n c : Nat} {e : TypeId} {s : Nat} {L : List (List Value)} (h : OwnE W base e s L (.slice (some ⟨g, 0, none⟩) n c)) : ∃ f, W.rowIs g e (c * s) f ∧ L.length ≤ c ∧ c ≤ maxLen ∧ base ≤ g ∧ n = L.length ∧ ∀ i r j u, L[i]? = some r → r[j]? = some u → f (i * s + j) = u := by
  rcases h.own.2 with ⟨h0, _⟩ | ⟨g', cap, cur, h0, hb, hg, hn, hm, hs, ht⟩
  · cases h0
  · simp only [Value.slice.injEq, Option.some.injEq, Addr.mk.injEq, and_true] at h0
    obtain ⟨rfl, rfl, rfl⟩ := h0
    refine ⟨fun j => cur.getD j undef, row_mk ?_, hn, hm, hb, rfl, fun i r j u h1 h2 => ?_⟩
    · rw [hg]
      congr 2
      exact eq_cellsOf hs (fun i hi => by
        have : i < cur.size := by omega
        simp [Array.getD, this])
    · have h3 := flat_at h.len h1 h2
      rw [← ht] at h3
      have hlt := (List.getElem?_eq_some_iff.1 h3).1
      rw [List.length_take] at hlt
      rw [List.getElem?_take_of_lt (by omega)] at h3
      have h4 : i * s + j < cur.size := by have : cur.toList.length = cur.size := Array.length_toList; omega
      rw [Array.getElem?_toList, Array.getElem?_eq_getElem h4] at h3
      simp [Array.getD, h4]
      exact Option.some.inj h3
theorem OwnE.ofRow {W : World} {base g c : Nat} {e : TypeId} {s : Nat} {L : List (List Value)} {f : Nat → Value} (hr : W.rowIs g e (c * s) f) (hc : L.length ≤ c) (hm : c ≤ maxLen) (hb : base ≤ g) (hlen : ∀ r ∈ L, r.length = s) (hf : ∀ i r j u, L[i]? = some r → r[j]? = some u → f (i * s + j) = u) : OwnE W base e s L (.slice (some ⟨g, 0, none⟩) L.length c) := by
  refine ⟨⟨flat_len hlen, .inr ⟨g, c, cellsOf (c * s) f, rfl, hb, row_heap hr, hc, hm, size_cellsOf _ _, ?_⟩⟩, hlen⟩
  have hle : L.length * s ≤ c * s := Nat.mul_le_mul_right _ hc
  apply List.ext_getElem?
  intro j
  by_cases hj : j < L.length * s
  · rw [List.getElem?_take_of_lt hj, Array.getElem?_toList, cellsOf_at _ _ j (by omega)]
    have h1 : j < L.flatten.length := by rw [flat_len hlen]; exact hj
    obtain ⟨i, k, r, h2, h3, h4⟩ := flat_inv hlen (List.getElem?_eq_getElem h1)
    rw [List.getElem?_eq_getElem h1, ← hf i r k _ h2 h3, h4]
  · rw [List.getElem?_eq_none (by rw [List.length_take]; exact Nat.le_trans (Nat.min_le_left _ _) (Nat.le_of_not_lt hj)), List.getElem?_eq_none (by rw [flat_len hlen]; omega)]
/-! ### Pieces of a slice of structs -/
theorem RowsAt.take {W : World} {s n k c : Nat} {V : Nat → List Value} {A : Option Addr} (h : RowsAt W s n V (.slice A n c)) (hk : k ≤ n) : RowsAt W s k V (.slice A k c) := by
  obtain ⟨A', c', he, hr⟩ := h
  simp only [Value.slice.injEq, true_and] at he
  obtain ⟨rfl, rfl⟩ := he
  refine ⟨_, _, rfl, fun h1 => ?_⟩
  obtain ⟨b, o, hA, hlt, hc⟩ := hr (by omega)
  exact ⟨b, o, hA, hlt, fun i hi => hc i (by omega)⟩
theorem RowsAt.drop {W : World} {s n k c b o : Nat} {V : Nat → List Value} (h : RowsAt W s n V (.slice (some ⟨b, o, none⟩) n c)) (hk : k ≤ n) (A' : Option Addr) (hA' : 0 < n - k → A' = some ⟨b, o + k * s, none⟩) : RowsAt W s (n - k) (fun i => V (k + i)) (.slice A' (n - k) (c - k)) := by
  obtain ⟨A, c', he, hr⟩ := h
  simp only [Value.slice.injEq, true_and] at he
  obtain ⟨rfl, rfl⟩ := he
  refine ⟨_, _, rfl, fun h1 => ?_⟩
  obtain ⟨b', o', hA, hlt, hc⟩ := hr (by omega)
  simp only [Option.some.injEq, Addr.mk.injEq, and_true] at hA
  obtain ⟨rfl, rfl⟩ := hA
  refine ⟨b, o + k * s, hA' (by omega), hlt, fun i hi j u hu => ?_⟩
  have := hc (k + i) (by omega) j u hu
  rw [show o + (k + i) * s + j = o + k * s + i * s + j by rw [Nat.add_mul]; omega] at this
  exact this
theorem rows_head_run {P : Program} (t e s : Nat) (hu : P.underlying t = some (.slice e)) (hsz : (P.info? e).map (·.size) = some s) (A : Option Addr) (hA : ∀ x, A = some x → ∃ sb so, x = ⟨sb, so, none⟩) (M c k : Nat) (hk : k ≤ c) (kd : IntKind) (W : World) :
    (Instr.sliceAt t (.slice A M c) none (some (.int kd (k : Int))) none).run P W = .ok (.slice A k c) W := by
  cases hq : P.info? e with
  | none => simp [hq] at hsz
  | some i =>
    cases A with
    | none => simp [Instr.sliceAt, Instr.slice, Instr.sliceBounds, Instr.sliceBound, asIntOf, Sem.run_bind, run_underlying hu W, Result.andThen, sizeOf, typeInfo, hq, hk]
    | some x =>
      obtain ⟨sb, so, rfl⟩ := hA x rfl
      simp [Instr.sliceAt, Instr.slice, Instr.sliceBounds, Instr.sliceBound, asIntOf, Sem.run_bind, run_underlying hu W, Result.andThen, sizeOf, typeInfo, hq, hk, Addr.add_mid]
theorem rows_cut_run {P : Program} (t e s : Nat) (hu : P.underlying t = some (.slice e)) (hsz : (P.info? e).map (·.size) = some s) (sb so M c k : Nat) (hk : k ≤ M) (hc : M ≤ c) :
    ∃ A : Option Addr, (0 < M - k → A = some ⟨sb, so + k * s, none⟩) ∧ ∀ (kd : IntKind) (W : World), (Instr.sliceAt t (.slice (some ⟨sb, so, none⟩) M c) (some (.int kd (k : Int))) none none).run P W = .ok (.slice A (M - k) (c - k)) W := by
  refine ⟨if c = k then some ⟨sb, so, none⟩ else some ⟨sb, so + k * s, none⟩, fun h => by rw [if_neg (by omega)], fun kd W => ?_⟩
  cases hq : P.info? e with
  | none => simp [hq] at hsz
  | some i =>
    have hs : i.size = s := by simpa [hq] using hsz
    by_cases hck : c = k
    · simp [Instr.sliceAt, Instr.slice, Instr.sliceBounds, Instr.sliceBound, asIntOf, Sem.run_bind, run_underlying hu W, Result.andThen, sizeOf, typeInfo, hq, hck, hk]
    · simp [Instr.sliceAt, Instr.slice, Instr.sliceBounds, Instr.sliceBound, asIntOf, Sem.run_bind, run_underlying hu W, Result.andThen, sizeOf, typeInfo, hq, hck, hk, hs, Addr.add_mid]
section
variable {P : Program} {w : World} {ops : Array Oper} {rest : List Oper} {op : Oper} {a : Act} {Q : Exit → Act → World → Prop}
theorem run_append_none_rows (T e ty s : Nat) (i : TypeInfo) (hT : P.underlying T = some (.slice e)) (hi : P.info? e = some i) (base n : Nat) (v : Value) (xs : List Value) (h : w.ownsRow base e s v n xs) (c : Nat) : (Builtin.append_ #[T, T] ty #[v, .slice none 0 c]).run P w = .ok v w := by
  rcases h.2 with ⟨rfl, rfl⟩ | ⟨g, cap, cur, rfl, _, hg, hn, _⟩
  · simp [Builtin.append_, run_underlying hT, sizeOf, typeInfo, hi, Builtin.lenOf, Builtin.firstCells]
  · simp [Builtin.append_, run_underlying hT, sizeOf, typeInfo, hi, Builtin.lenOf, Builtin.firstCells, hn, storeCells]
/-- 'append(v, x...)', v the call's own, x any rows. -/
theorem append_rows (hgd : op.guard = none) (y x : Operand) (T : TypeId) (ho : op.op = .call { callee := .builtin .append, args := #[y, x], argTypes := #[T, T] })
    (base : Nat) (e : TypeId) (s b : Nat) (z : Value) (hT : P.underlying T = some (.slice e)) (hinfo : (P.info? e).map (fun i => (i.zero, i.size, i.bytes)) = some (some z, s, b)) (hz : z.cells.size = s) (hs : 0 < s)
    (L : List (List Value)) (v : Value) (hv : a.eval y = v) (hown : OwnE w base e s L v) (m : Nat) (V : Nat → List Value) (u : Value) (hx : a.eval x = u) (hu : RowsAt w s m V u) (hV : ∀ i, i < m → (V i).length = s ∧ ∀ q ∈ V i, q.oneCell' = true)
    (hmax : L.length + m ≤ 1000000) (hb : b ≤ 10000000) (hbase : base ≤ w.heap.size)
    (hK : ∀ v' w', OwnE w' base e s (L ++ (List.range m).map V) v' → w.grownBy w' v.ownBlock → (v'.ownBlock = v.ownBlock ∨ v'.ownBlock = some w.heap.size) → wpList P ops Q rest (a.put op.dst v') w') : wpList P ops Q (op :: rest) a w := by
  obtain ⟨i, hi, hzz⟩ := Option.map_eq_some_iff.1 hinfo
  simp only [Prod.mk.injEq] at hzz
  obtain ⟨A, c, rfl, hr⟩ := hu
  have hlen : ∀ r ∈ (List.range m).map V, r.length = s := fun r hr' => by
    obtain ⟨k, hk, rfl⟩ := List.mem_map.1 hr'
    exact (hV k (List.mem_range.1 hk)).1
  have hLL : ∀ r ∈ L ++ (List.range m).map V, r.length = s := fun r hr' => by
    rcases List.mem_append.1 hr' with h | h
    · exact hown.len r h
    · exact hlen r h
  have hN : (L ++ (List.range m).map V).length = L.length + m := by simp
  have fin : ∀ (ad : Addr), A = some ad → (∀ j q, ((List.range m).map V).flatten[j]? = some q → w.cell? (ad.add j) = some q) → wpList P ops Q (op :: rest) a w := by
    intro ad hA hcell
    subst hA
    refine wpList_append_own_at w hgd y x T ho base e i z s b hT hi hzz.1 hzz.2.1 hzz.2.2 hz hs v L.length _ hv hown.own ad m c ((List.range m).map V).flatten hx (by rw [flat_len hlen]; simp) hcell ?_ (by simp only [maxLen]; omega) ?_ hbase ?_
    · intro q hq
      obtain ⟨r, hr1, hr2⟩ := List.mem_flatten.1 hq
      obtain ⟨k, hk, rfl⟩ := List.mem_map.1 hr1
      exact (hV k (List.mem_range.1 hk)).2 q hr2
    · have : (L.length + m) * b ≤ 1000000 * 10000000 := Nat.mul_le_mul hmax hb
      omega
    · intro v' w' h1 h2 _ h4
      refine hK v' w' ⟨?_, hLL⟩ h2 h4
      rw [hN, List.flatten_append]
      exact h1
  by_cases hm : 1 ≤ m
  · obtain ⟨sb, so, rfl, hlt, hc⟩ := hr hm
    refine fin _ rfl (fun j q hq => ?_)
    obtain ⟨k, t, r, h1, h2, rfl⟩ := flat_inv hlen hq
    have hk : k < m := by have := (List.getElem?_eq_some_iff.1 h1).1; simpa using this
    rw [List.getElem?_map, List.getElem?_range hk] at h1
    simp only [Option.map_some, Option.some.injEq] at h1
    subst h1
    rw [Addr.add_mid, ← Nat.add_assoc]
    exact hc k hk t q h2
  · obtain rfl : m = 0 := by omega
    cases A with
    | some ad => exact fin ad rfl (fun j q hq => by simp at hq)
    | none =>
      refine wpList_plain hgd fun K hK' => ?_
      have hrun := run_append_none_rows (P := P) (w := w) T e op.type s i hT hi base _ v _ hown.own c
      unfold Oper.wp
      simp [execOp, ho, resolve, invoke, builtin, hv, hx, hrun, Result.andThen]
      exact hK' _ _ (hK v w (by simpa using hown) ⟨rfl, rfl, rfl, Nat.le_refl _, fun _ _ _ => rfl⟩ (.inl rfl))
theorem run_append_zero_rows (T e ty : TypeId) (i : TypeInfo) (hT : P.underlying T = some (.slice e)) (hi : P.info? e = some i) (g c : Nat) (A : Option Addr) : (Builtin.append_ #[T, T] ty #[.slice (some ⟨g, 0, none⟩) 0 0, .slice A 0 c]).run P w = .ok (.slice (some ⟨g, 0, none⟩) 0 0) w := by
  cases A with
  | none => simp [Builtin.append_, run_underlying hT, sizeOf, typeInfo, hi, Builtin.lenOf, Builtin.firstCells, storeCells]
  | some x => simp [Builtin.append_, run_underlying hT, sizeOf, typeInfo, hi, Builtin.lenOf, Builtin.firstCells, loadCells, loadCellsFrom, storeCells]
/-- 'append([]T{}, x...)': memory is made, none is changed. -/
theorem append_rows_new (hgd : op.guard = none) (y x : Operand) (T : TypeId) (ho : op.op = .call { callee := .builtin .append, args := #[y, x], argTypes := #[T, T] })
    (base : Nat) (e : TypeId) (s b : Nat) (z : Value) (hT : P.underlying T = some (.slice e)) (hinfo : (P.info? e).map (fun i => (i.zero, i.size, i.bytes)) = some (some z, s, b)) (hz : z.cells.size = s)
    (g : Nat) (hv : a.eval y = .slice (some ⟨g, 0, none⟩) 0 0) (hown : OwnE w base e s [] (.slice (some ⟨g, 0, none⟩) 0 0)) (m : Nat) (V : Nat → List Value) (u : Value) (hx : a.eval x = u) (hu : RowsAt w s m V u) (hV : ∀ i, i < m → (V i).length = s)
    (hmax : m ≤ 1000000) (hb : b ≤ 10000000) (hbase : base ≤ w.heap.size)
    (hK : ∀ v' w', OwnE w' base e s ((List.range m).map V) v' → Below w.heap.size w w' → wpList P ops Q rest (a.put op.dst v') w') : wpList P ops Q (op :: rest) a w := by
  obtain ⟨i, hi, hzz⟩ := Option.map_eq_some_iff.1 hinfo
  simp only [Prod.mk.injEq] at hzz
  obtain ⟨A, c, rfl, hr⟩ := hu
  have hlen : ∀ r ∈ (List.range m).map V, r.length = s := fun r hr' => by
    obtain ⟨k, hk, rfl⟩ := List.mem_map.1 hr'
    exact hV k (List.mem_range.1 hk)
  refine wpList_plain hgd fun K hK' => ?_
  by_cases hm : 1 ≤ m
  · obtain ⟨sb, so, rfl, hlt, hc⟩ := hr hm
    have hfl := flat_len hlen
    rw [List.length_map, List.length_range] at hfl
    have hbytes : (0 + m) * i.bytes ≤ 140737488355328 := by
      have : (0 + m) * i.bytes ≤ 1000000 * 10000000 := Nat.mul_le_mul (by omega) (by rw [hzz.2.2]; exact hb)
      omega
    have hrun := run_append_grow (P := P) w T op.type e i z hT hi hzz.1 ⟨g, 0, none⟩ 0 0 [] (by simp) (fun j q hq => by simp at hq) ⟨sb, so, none⟩ m c ((List.range m).map V).flatten (by rw [hfl, hzz.2.1]) (fun j q hq => by
      obtain ⟨k, t, r, h1, h2, rfl⟩ := flat_inv hlen hq
      have hk : k < m := by have := (List.getElem?_eq_some_iff.1 h1).1; simpa using this
      rw [List.getElem?_map, List.getElem?_range hk] at h1
      simp only [Option.map_some, Option.some.injEq] at h1
      subst h1
      rw [Addr.add_mid, ← Nat.add_assoc]
      exact hc k hk t q h2) (by omega) (by omega) (growslice_fits (by omega) hbytes)
    simp only [Nat.zero_add, Array.empty_append] at hrun
    unfold Oper.wp execOp
    simp only [ho, resolve, invoke, builtin, Sem.run_bind, Sem.run_pure, Result.andThen_ok, List.map_toArray, List.map_cons, List.map_nil, hv, hx, hrun]
    refine hK' _ _ (hK _ _ ⟨⟨by simpa using hfl, .inr ⟨w.heap.size, _, _, by rw [List.length_map, List.length_range], hbase, heap_alloc_new w.drew _, ?_, ?_, ?_, ?_⟩⟩, hlen⟩ ⟨rfl, rfl, rfl, by simp, fun k hk => heap_alloc_old w.drew _ hk⟩)
    · have := grownCap_ge w m 0 e
      simpa using this
    · exact grownCap_le_maxLen w m 0 e (by simp only [maxLen]; omega)
    · have hge := grownCap_ge w m 0 e
      simp only [Array.size_append, List.size_toArray, size_zeroCells, hz, hfl, ← Nat.add_mul]
      congr 1
      omega
    · simp only [Array.toList_append]
      rw [List.length_map, List.length_range, ← hfl]
      exact List.take_left
  · obtain rfl : m = 0 := by omega
    have hrun := run_append_zero_rows (P := P) (w := w) T e op.type i hT hi g c A
    unfold Oper.wp
    simp [execOp, ho, resolve, invoke, builtin, hv, hx, hrun, Result.andThen]
    exact hK' _ _ (hK _ w hown (Below.refl _ _))
end
end Go.Proofs.YtnkjoambhmlnbaaGreatDoor.Aid
