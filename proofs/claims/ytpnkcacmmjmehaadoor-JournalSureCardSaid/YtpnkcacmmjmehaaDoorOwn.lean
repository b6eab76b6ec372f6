/-
  Bytes that a call itself has gathered by append; append of bytes to them; a slice of bytes that came in, as a row's argument.
  append of bytes to few bytes of the call's own, however many come in within the reach of what is read: it goes through; what it holds, where there are not too many.
  Lists of bytes in a world, one behind the other.
  Slices of bytes, and bytes of the call's own: small laws that every layer takes.
-/
import Derived.Test.YtpnkcacmmjmehaaDoorBytes
import Derived.Test.YtpnkcacmmjmehaaDoorProg
import Derived.Maps.AppendAt
import Derived.OpenShut
namespace Go.Proofs.YtpnkcacmmjmehaaDoor.Aid
open Go Go.RowKit

/-- v holds m bytes that read as e, in a row of the call's own, from block 'base' on. -/
def Own (w : World) (base m : Nat) (e : Nat → BitVec 8) (v : Value) : Prop := w.ownsRow base 5 1 v m ((List.range m).map fun i => Value.int .u8 ((e i).toNat : Int))
theorem Own.form {w : World} {base m : Nat} {e : Nat → BitVec 8} {v : Value} (h : Own w base m e v) :
    (v = .slice none 0 0 ∧ m = 0) ∨ ∃ g cap cur, v = .slice (some ⟨g, 0, none⟩) m cap ∧ base ≤ g ∧ g < w.heap.size ∧ m ≤ cap ∧ w.heap[g]? = some (.cells cur 5 (0, 0)) ∧ cur.size = cap ∧ ∀ j, j < m → cur[j]? = some (.int .u8 ((e j).toNat : Int)) := by
  obtain ⟨h1, h2⟩ := h
  rcases h2 with h2 | ⟨g, cap, cur, hv, hg, hh, hn, hc, hs, ht⟩
  · exact .inl h2
  · refine .inr ⟨g, cap, cur, hv, hg, ?_, hn, hh, by omega, fun j hj => ?_⟩
    · rcases Nat.lt_or_ge g w.heap.size with hlt | hge
      · exact hlt
      · rw [Array.getElem?_eq_none hge] at hh; cases hh
    · have hx := congrArg (fun l => l[j]?) ht
      simp only [Nat.mul_one, List.getElem?_take_of_lt hj, Array.getElem?_toList] at hx
      rw [hx]
      simp [hj]
theorem Own.slice {w : World} {base m : Nat} {e : Nat → BitVec 8} {v : Value} (h : Own w base m e v) {g' : Nat} (hg' : g' < base ∨ w.heap.size ≤ g') : SliceOf w g' m e v := by
  rcases h.form with ⟨rfl, rfl⟩ | ⟨g, cap, cur, rfl, hb, hlt, hm, hh, _, hc⟩
  · exact SliceOf.nil _ _ _
  · exact ⟨_, _, rfl, hm, fun _ => ⟨g, 0, rfl, by omega, fun j hj => by rw [Nat.zero_add, cell_of_row w g j cur _ _ hh]; exact hc j hj⟩⟩
theorem Own.keep {w w' : World} {base m : Nat} {e : Nat → BitVec 8} {v : Value} (h : Own w base m e v) (hk : ∀ b, v.ownBlock = some b → w'.heap[b]? = w.heap[b]?) : Own w' base m e v := by
  obtain ⟨h1, h2⟩ := h
  refine ⟨h1, ?_⟩
  rcases h2 with h2 | ⟨g, cap, cur, hv, hg, hh, r⟩
  · exact .inl h2
  · subst hv
    exact .inr ⟨g, cap, cur, rfl, hg, (hk g rfl).trans hh, r⟩
theorem Own.lt {w : World} {base m : Nat} {e : Nat → BitVec 8} {v : Value} (h : Own w base m e v) {b : Nat} (hb : v.ownBlock = some b) : base ≤ b ∧ b < w.heap.size := by
  rcases h.form with ⟨rfl, rfl⟩ | ⟨g, cap, cur, rfl, hb', hlt, _⟩
  · cases hb
  · have : g = b := by simpa [Value.ownBlock] using hb
    subst this
    exact ⟨hb', hlt⟩
theorem Own.below {w w' : World} {base m : Nat} {e : Nat → BitVec 8} {v : Value} (h : Own w base m e v) (hb : Below w.heap.size w w') : Own w' base m e v := h.keep (fun _ hv => hb.block _ (h.lt hv).2)
def cat (e : Nat → BitVec 8) (n : Nat) (f : Nat → BitVec 8) (j : Nat) : BitVec 8 := if j < n then e j else f (j - n)
theorem map_cat (e f : Nat → BitVec 8) (n m : Nat) :
    ((List.range n).map fun i => Value.int .u8 ((e i).toNat : Int)) ++ ((List.range m).map fun i => Value.int .u8 ((f i).toNat : Int)) = (List.range (n + m)).map fun i => Value.int .u8 ((cat e n f i).toNat : Int) := by
  apply List.ext_getElem?
  intro j
  by_cases h : j < n
  · rw [List.getElem?_append_left (by simpa using h)]
    simp [h, cat, show j < n + m by omega]
  · rw [List.getElem?_append_right (by simp; omega)]
    by_cases h2 : j < n + m
    · simp [h2, cat, h, show j - n < m by omega]
    · simp [h2, show ¬ j - n < m by omega]

section
variable {w : World} {ops : Array Oper} {rest : List Oper} {op : Oper} {a : Act} {Q : Exit → Act → World → Prop}
theorem info_u8 : (Tryd.prog.info? 5).map (fun i => (i.zero, i.size, i.bytes)) = some (some (.int .u8 0), 1, 1) := by kernel_rfl
theorem run_append_none (ty base m : Nat) (e : Nat → BitVec 8) (v : Value) (h : Own w base m e v) (c : Nat) : (Builtin.append_ #[35, 35] ty #[v, .slice none 0 c]).run Tryd.prog w = .ok v w := by
  obtain ⟨i, hi, hz⟩ := Option.map_eq_some_iff.1 info_u8
  rcases h.form with ⟨rfl, rfl⟩ | ⟨g, cap, cur, rfl, _, _, hm, _, _, _⟩
  · simp [Builtin.append_, run_underlying Tryd.underlying35, sizeOf, typeInfo, hi, Builtin.lenOf, Builtin.firstCells]
  · simp [Builtin.append_, run_underlying Tryd.underlying35, sizeOf, typeInfo, hi, Builtin.lenOf, Builtin.firstCells, hm, storeCells]
/-- 'append(v, x...)', v the call's own, x any bytes. -/
theorem append_bytes (hgd : op.guard = none) (s x : Operand) (ho : op.op = .call { callee := .builtin .append, args := #[s, x], argTypes := #[35, 35] })
    (base n : Nat) (e : Nat → BitVec 8) (v : Value) (hs : a.eval s = v) (hown : Own w base n e v) (g m : Nat) (f : Nat → BitVec 8) (u : Value) (hx : a.eval x = u) (hu : SliceOf w g m f u)
    (hnm : n + m ≤ 1000000000) (hbase : base ≤ w.heap.size)
    (hK : ∀ v' w', Own w' base (n + m) (cat e n f) v' → w.grownBy w' v.ownBlock → (v'.ownBlock = v.ownBlock ∨ v'.ownBlock = some w.heap.size) → wpList Tryd.prog ops Q rest (a.put op.dst v') w') : wpList Tryd.prog ops Q (op :: rest) a w := by
  obtain ⟨A, c, rfl, hc, hr⟩ := hu
  obtain ⟨i, hi, hz⟩ := Option.map_eq_some_iff.1 info_u8
  simp only [Prod.mk.injEq] at hz
  have fin : ∀ (ad : Addr), A = some ad → (∀ j y, ((List.range m).map fun i => Value.int .u8 ((f i).toNat : Int))[j]? = some y → w.cell? (ad.add j) = some y) → wpList Tryd.prog ops Q (op :: rest) a w := by
    intro ad hA hcell
    subst hA
    refine wpList_append_own_at w hgd s x 35 ho base 5 i (.int .u8 0) 1 1 Tryd.underlying35 hi hz.1 hz.2.1 hz.2.2 rfl (by omega) v n _ hs hown ad m c _ hx (by simp) hcell ?_ (by simp only [maxLen]; omega) (by omega) hbase ?_
    · intro y hy
      obtain ⟨j, _, rfl⟩ := List.mem_map.1 hy
      rfl
    · intro v' w' h1 h2 _ h4
      rw [map_cat] at h1
      exact hK v' w' h1 h2 h4
  by_cases hm : 0 < m
  · obtain ⟨sb, so, hA, _, hcell⟩ := hr hm
    refine fin _ hA (fun j y hy => ?_)
    have hj : j < m := by have := (List.getElem?_eq_some_iff.1 hy).1; simpa using this
    rw [Addr.add_mid, hcell j hj, ← hy]
    simp [hj]
  · obtain rfl : m = 0 := by omega
    cases A with
    | some ad => exact fin ad rfl (fun j y hy => by simp at hy)
    | none =>
      refine wpList_plain hgd fun K hK' => ?_
      have hrun := run_append_none (w := w) op.type base n e v hown c
      unfold Oper.wp
      simp [execOp, ho, resolve, invoke, builtin, hs, hx, hrun, Result.andThen]
      refine hK' _ _ (hK v w ?_ (World.grownBy.refl w _) (.inl rfl))
      have : (List.range (n + 0)).map (fun i => Value.int .u8 ((cat e n f i).toNat : Int)) = (List.range n).map fun i => Value.int .u8 ((e i).toNat : Int) := by
        rw [← map_cat]; simp
      unfold Own
      rw [this]
      exact hown
end
end Go.Proofs.YtpnkcacmmjmehaaDoor.Aid

namespace Go.Proofs.YtpnkcacmmjmehaaDoor.Aid
open Go Go.RowKit

theorem growBy_le (need B : Nat) (hB : need + (need + 768) / 4 ≤ B) : ∀ (r c : Nat), c ≤ B → Builtin.growBy need r c ≤ B
  | 0, _, h => h
  | r + 1, c, h => by
    unfold Builtin.growBy
    by_cases hc : c ≥ need
    · rw [if_pos hc]; exact h
    · rw [if_neg hc]
      exact growBy_le need B hB r _ (by omega)
theorem next_fits (need old : Nat) (h : old < need) (hn : need ≤ 140737488455328) : Builtin.nextslicecap need old ≤ 281474976710656 := by
  unfold Builtin.nextslicecap
  by_cases h1 : need > 2 * old
  · rw [if_pos h1]; omega
  · rw [if_neg h1]
    by_cases h2 : old < 256
    · rw [if_pos h2]; omega
    · rw [if_neg h2]
      exact growBy_le need _ (by omega) 4 old (by omega)

theorem run_append_big (w : World) (ty base n m : Nat) (e f : Nat → BitVec 8) (v : Value) (h : Own w base n e v) (ad : Addr) (c : Nat) (hc : ∀ j, j < m → w.cell? (ad.add j) = some (.int .u8 ((f j).toNat : Int)))
    (hm0 : 0 < m) (hn : n ≤ 100000) (hm : m ≤ 140737488351232) :
    ∃ v' w', (Builtin.append_ #[35, 35] ty #[v, .slice (some ad) m c]).run Tryd.prog w = .ok v' w' ∧ w.grownBy w' v.ownBlock := by
  obtain ⟨i, hi, hz⟩ := Option.map_eq_some_iff.1 info_u8
  simp only [Prod.mk.injEq] at hz
  obtain ⟨hz0, hsize, hby⟩ := hz
  have hl : ((List.range m).map fun j => Value.int .u8 ((f j).toNat : Int)).length = m * i.size := by simp [hsize]
  have hnews : ∀ j u, ((List.range m).map fun j => Value.int .u8 ((f j).toNat : Int))[j]? = some u → w.cell? (ad.add j) = some u := fun j u hu => by
    have hj : j < m := by have := (List.getElem?_eq_some_iff.1 hu).1; simpa using this
    rw [hc j hj, ← hu]
    simp [hj]
  rcases h.form with ⟨rfl, rfl⟩ | ⟨g, cap, cur, rfl, _, _, hcap, hh, hcur, hcells⟩
  · refine ⟨_, _, run_append_nil (P := Tryd.prog) w 35 ty 5 i _ Tryd.underlying35 hi hz0 ad m c _ hl hnews hm0 (by omega) (by rw [hby]; omega), ?_⟩
    exact ⟨rfl, rfl, rfl, by simp, fun k hk _ => Below.heap_alloc w.drew _ k hk⟩
  · by_cases hroom : n + m ≤ cap
    · refine ⟨_, _, run_append_room (P := Tryd.prog) w 35 ty 5 i Tryd.underlying35 hi g n cap cur hh ad m c _ hl hnews (fun u hu => ?_) hroom (by rw [hl, hsize]; omega), ?_⟩
      · obtain ⟨j, _, rfl⟩ := List.mem_map.1 hu
        rfl
      · exact ⟨rfl, rfl, rfl, by simp, fun k _ hk => setRow_other w g k _ (fun e => hk (by simp [Value.ownBlock, e]))⟩
    · refine ⟨_, _, run_append_grow (P := Tryd.prog) w 35 ty 5 i _ Tryd.underlying35 hi hz0 ⟨g, 0, none⟩ n cap ((List.range n).map fun j => Value.int .u8 ((e j).toNat : Int)) (by simp [hsize]) (fun j u hu => ?_) ad m c _ hl hnews (by omega) (by omega) (by rw [hby, Nat.mul_one]; exact next_fits _ _ (by omega) (by omega)), ?_⟩
      · have hj : j < n := by have := (List.getElem?_eq_some_iff.1 hu).1; simpa using this
        rw [Addr.add_mid, Nat.zero_add, cell_of_row w g j cur _ _ hh, hcells j hj, ← hu]
        simp [hj]
      · exact ⟨rfl, rfl, rfl, by simp, fun k hk _ => Below.heap_alloc w.drew _ k hk⟩

section
variable {w : World} {ops : Array Oper} {rest : List Oper} {op : Oper} {a : Act} {Q : Exit → Act → World → Prop}
/-- 'append(v, x...)', v few bytes of the call's own, x as many as can be read. -/
theorem append_big (hgd : op.guard = none) (s x : Operand) (ho : op.op = .call { callee := .builtin .append, args := #[s, x], argTypes := #[35, 35] })
    (base n : Nat) (e : Nat → BitVec 8) (v : Value) (hs : a.eval s = v) (hown : Own w base n e v) (g m : Nat) (f : Nat → BitVec 8) (u : Value) (hx : a.eval x = u) (hu : SliceOf w g m f u)
    (hn : n ≤ 100000) (hm : m ≤ 140737488351232) (hbase : base ≤ w.heap.size)
    (hK : ∀ v' w', (m ≤ 100000 → Own w' base (n + m) (cat e n f) v') → w.grownBy w' v.ownBlock → wpList Tryd.prog ops Q rest (a.put op.dst v') w') : wpList Tryd.prog ops Q (op :: rest) a w := by
  by_cases hsm : m ≤ 100000
  · exact append_bytes hgd s x ho base n e v hs hown g m f u hx hu (by omega) hbase (fun v' w' h1 h2 _ => hK v' w' (fun _ => h1) h2)
  · obtain ⟨A, c, rfl, hc, hr⟩ := hu
    obtain ⟨sb, so, rfl, _, hcell⟩ := hr (by omega)
    obtain ⟨v', w', hrun, hg⟩ := run_append_big w op.type base n m e f v hown ⟨sb, so, none⟩ c (fun j hj => by rw [Addr.add_mid]; exact hcell j hj) (by omega) hn hm
    refine wpList_plain hgd fun K hK' => ?_
    unfold Oper.wp
    simp [execOp, ho, resolve, invoke, builtin, hs, hx, hrun, Result.andThen]
    exact hK' _ _ (hK v' w' (fun h => absurd h hsm) hg)
end
end Go.Proofs.YtpnkcacmmjmehaaDoor.Aid

namespace Go.Proofs.YtpnkcacmmjmehaaDoor.Law01
open Go Go.RowKit Go.Proofs.YtpnkcacmmjmehaaDoor.Aid

/-- v is a slice of len slices of bytes: number i has m i bytes, that read as e i. -/
def PartsOf (w : World) (len : Nat) (m : Nat → Nat) (e : Nat → Nat → BitVec 8) (v : Value) : Prop :=
  ∃ (A : Option Addr) (c : Nat), v = .slice A len c ∧ (0 < len → ∃ sb so : Nat, A = some ⟨sb, so, none⟩ ∧ ∀ i, i < len → ∃ u, w.cell? ⟨sb, so + i, none⟩ = some u ∧ SliceOf w w.heap.size (m i) (e i) u)
def off (m : Nat → Nat) : Nat → Nat
  | 0 => 0
  | i + 1 => off m i + m i
def catAll (m : Nat → Nat) (e : Nat → Nat → BitVec 8) : Nat → Nat → BitVec 8
  | 0 => fun _ => 0
  | i + 1 => cat (catAll m e i) (off m i) (e i)
theorem off_mono (m : Nat → Nat) {i j : Nat} (h : i ≤ j) : off m i ≤ off m j := by
  induction h with
  | refl => exact Nat.le_refl _
  | step _ ih => exact Nat.le_trans ih (Nat.le_add_right _ _)
theorem catAll_at (m : Nat → Nat) (e : Nat → Nat → BitVec 8) {i k : Nat} (h : i ≤ k) (j : Nat) (hj : j < off m i) : catAll m e k j = catAll m e i j := by
  induction h with
  | refl => rfl
  | @step k hik ih =>
    show cat (catAll m e k) (off m k) (e k) j = _
    unfold cat
    rw [if_pos (Nat.lt_of_lt_of_le hj (off_mono m hik)), ih]
theorem catAll_part (m : Nat → Nat) (e : Nat → Nat → BitVec 8) {i k : Nat} (h : i < k) (j : Nat) (hj : j < m i) : catAll m e k (off m i + j) = e i j := by
  rw [catAll_at m e (i := i + 1) (k := k) h _ (by show _ < off m i + m i; omega)]
  show cat (catAll m e i) (off m i) (e i) _ = _
  unfold cat
  rw [if_neg (by omega), Nat.add_sub_cancel_left]
end Go.Proofs.YtpnkcacmmjmehaaDoor.Law01

namespace Go.Proofs.YtpnkcacmmjmehaaDoor.Aid
open Go Go.RowKit

theorem slice_any {w : World} {g g' m : Nat} {e : Nat → BitVec 8} {v : Value} (h : SliceOf w g m e v) (hg : w.heap.size ≤ g') : SliceOf w g' m e v := by
  obtain ⟨A, c, hv, hc, hr⟩ := h
  refine ⟨A, c, hv, hc, fun hm => ?_⟩
  obtain ⟨sb, so, hA, _, hcell⟩ := hr hm
  have := block_lt_of_cell (hcell 0 hm)
  exact ⟨sb, so, hA, by simp at this; omega, hcell⟩
theorem slice_below {w w' : World} {g m : Nat} {e : Nat → BitVec 8} {v : Value} (h : SliceOf w g m e v) (hb : Below w.heap.size w w') : SliceOf w' g m e v := h.keep (fun b hl _ => hb.block b hl)
theorem Own.congr' {w : World} {base m : Nat} {e e' : Nat → BitVec 8} {v : Value} (h : Own w base m e v) (he : ∀ j, j < m → e j = e' j) : Own w base m e' v := by
  unfold Own at h ⊢
  have : (List.range m).map (fun i => Value.int .u8 ((e i).toNat : Int)) = (List.range m).map (fun i => Value.int .u8 ((e' i).toNat : Int)) :=
    List.map_congr_left (fun j hj => by rw [he j (List.mem_range.1 hj)])
  rw [← this]
  exact h
theorem own_empty8 (w : World) (e : Nat → BitVec 8) : Own (w.alloc (.cells #[] 5)) w.heap.size 0 e (.slice (some ⟨w.heap.size, 0, none⟩) 0 0) :=
  World.ownsRow_made w #[] 0 (Nat.le_refl _) (by simp [maxLen]) (by simp)
/-- One byte in a new block. -/
theorem slice_one (w : World) (g : Nat) (hg : g ≠ w.heap.size) (x : BitVec 8) (v : Int) (hv : v = (x.toNat : Int)) : SliceOf (w.alloc (.cells #[.int .u8 v] 5)) g 1 (fun _ => x) (.slice (some ⟨w.heap.size, 0, none⟩) 1 1) := by
  refine ⟨_, 1, rfl, Nat.le_refl _, fun _ => ⟨w.heap.size, 0, rfl, fun e => hg e.symm, fun j hj => ?_⟩⟩
  obtain rfl : j = 0 := by omega
  rw [World.cell?_alloc_new, hv]
  rfl
/-- One more byte of the padded input. -/
theorem own_next {w : World} {base L : Nat} {F : Nat → BitVec 8} {x : BitVec 8} {v : Value} (h : Own w base (L + 1) (cat F L (fun _ => x)) v) (hx : F L = x) : Own w base (L + 1) F v :=
  Own.congr' h (fun j hj => by
    unfold cat
    by_cases hjl : j < L
    · rw [if_pos hjl]
    · rw [if_neg hjl, ← hx, show j = L by omega])
theorem own_base {w : World} {base base' m : Nat} {e : Nat → BitVec 8} {v : Value} (h : Own w base m e v) (hb : base' ≤ base) : Own w base' m e v :=
  ⟨h.1, h.2.elim Or.inl (fun ⟨g, cap, cur, hv, hg, r⟩ => Or.inr ⟨g, cap, cur, hv, Nat.le_trans hb hg, r⟩)⟩
/-- 'b[:k]' of bytes of the call's own. -/
theorem head_run {P : Program} (t e : TypeId) (hu : P.underlying t = some (.slice e)) (hsz : (P.info? e).map (·.size) = some 1) (A : Option Addr) (hA : ∀ x, A = some x → ∃ sb so, x = ⟨sb, so, none⟩) (M c k : Nat) (hk : k ≤ c) (kd : IntKind) (W : World) :
    (Instr.sliceAt t (.slice A M c) none (some (.int kd (k : Int))) none).run P W = .ok (.slice A k c) W := by
  cases hq : P.info? e with
  | none => simp [hq] at hsz
  | some i =>
    cases A with
    | none => simp [Instr.sliceAt, Instr.slice, Instr.sliceBounds, Instr.sliceBound, asIntOf, Sem.run_bind, run_underlying hu W, Result.andThen, sizeOf, typeInfo, hq, hk]
    | some x =>
      obtain ⟨sb, so, rfl⟩ := hA x rfl
      simp [Instr.sliceAt, Instr.slice, Instr.sliceBounds, Instr.sliceBound, asIntOf, Sem.run_bind, run_underlying hu W, Result.andThen, sizeOf, typeInfo, hq, hk, Addr.add_mid]
/-- 'b[lo:hi]'. -/
theorem mid_at {P : Program} (t e : TypeId) (hu : P.underlying t = some (.slice e)) (hsz : (P.info? e).map (·.size) = some 1) (sb so M c lo m : Nat) (h1 : 0 < m) (h2 : lo + m ≤ M) (h3 : M ≤ c) (hi : Int) (hhi : hi = ((lo + m : Nat) : Int)) (kd kd' : IntKind) (W : World) :
    (Instr.sliceAt t (.slice (some ⟨sb, so, none⟩) M c) (some (.int kd (lo : Int))) (some (.int kd' hi)) none).run P W = .ok (.slice (some ⟨sb, so + lo, none⟩) m (c - lo)) W := by
  subst hhi
  cases hq : P.info? e with
  | none => simp [hq] at hsz
  | some i =>
    have hs : i.size = 1 := by simpa [hq] using hsz
    have e1 : ¬ c = lo := by omega
    have e3 : ((lo : Int) + (m : Int)).toNat = lo + m := by omega
    have e5 : (lo : Int) + (m : Int) ≤ (c : Int) := by omega
    have e6 : lo + m - lo = m := by omega
    have e9 : (0 : Int) ≤ (lo : Int) + (m : Int) := by omega
    simp [Instr.sliceAt, Instr.slice, Instr.sliceBounds, Instr.sliceBound, asIntOf, Sem.run_bind, run_underlying hu W, Result.andThen, sizeOf, typeInfo, hq, hs, Addr.add_mid, e1, e3, e5, e6, e9]
theorem own_shape {w : World} {base m : Nat} {e : Nat → BitVec 8} {v : Value} (h : Own w base m e v) : ∃ A cap, v = .slice A m cap ∧ m ≤ cap ∧ ∀ x, A = some x → ∃ sb so, x = ⟨sb, so, none⟩ := by
  rcases h.form with ⟨rfl, rfl⟩ | ⟨g, cap, cur, rfl, _, _, hc, _⟩
  · exact ⟨none, 0, rfl, Nat.le_refl _, fun _ h => by cases h⟩
  · exact ⟨_, cap, rfl, hc, fun x h => by cases h; exact ⟨_, _, rfl⟩⟩
/-- The first of more bytes. -/
theorem slice_head {w : World} {g m k c : Nat} {e : Nat → BitVec 8} {A : Option Addr} (h : SliceOf w g m e (.slice A m c)) (hk : k ≤ m) : SliceOf w g k e (.slice A k c) := by
  obtain ⟨A', c', hv, hc, hr⟩ := h
  simp only [Value.slice.injEq, true_and] at hv
  obtain ⟨rfl, rfl⟩ := hv
  refine ⟨_, _, rfl, by omega, fun h0 => ?_⟩
  obtain ⟨sb, so, h1, h2, h3⟩ := hr (by omega)
  exact ⟨sb, so, h1, h2, fun j hj => h3 j (by omega)⟩
theorem slice_shape {w : World} {g m : Nat} {e : Nat → BitVec 8} {v : Value} (h : SliceOf w g m e v) : ∃ A c, v = .slice A m c := by
  obtain ⟨A, c, rfl, _⟩ := h
  exact ⟨A, c, rfl⟩
end Go.Proofs.YtpnkcacmmjmehaaDoor.Aid
