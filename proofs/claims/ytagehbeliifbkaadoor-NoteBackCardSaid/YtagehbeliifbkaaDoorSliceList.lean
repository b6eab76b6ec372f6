/-
  A list of slices of bytes that is made by append, its slices lying anywhere.
-/
import Derived.Test.YtagehbeliifbkaaDoorFreshParts
namespace Go.Proofs.YtagehbeliifbkaaDoor.Field
open Go Go.RowKit Go.Proofs.YtagehbeliifbkaaDoor.Aid Go.Proofs.YtagehbeliifbkaaDoor.Law01

/-- A list of k slices, in a row of the call's own; the slices lie elsewhere. -/
structure ListOf (W : World) (base k : Nat) (m : Nat → Nat) (E : Nat → Nat → BitVec 8) (v : Value) : Prop where
  row : ∃ R : Nat → Value, W.ownsRow base 24 1 v k ((List.range k).map R) ∧ ∀ i, i < k → ∀ g, (v.ownBlock = some g ∨ W.heap.size ≤ g) → SliceOf W g (m i) (E i) (R i)
theorem ListOf.nil (W : World) (base : Nat) (m : Nat → Nat) (E : Nat → Nat → BitVec 8) : ListOf W base 0 m E (.slice none 0 0) :=
  ⟨fun _ => undef, World.ownsRow_nil _ _ _ _, fun i hi => absurd hi (by omega)⟩
theorem ListOf.lt {W : World} {base k : Nat} {m : Nat → Nat} {E : Nat → Nat → BitVec 8} {v : Value} (h : ListOf W base k m E v) {b : Nat} (hb : v.ownBlock = some b) : base ≤ b ∧ b < W.heap.size := by
  obtain ⟨R, hr, _⟩ := h.row
  exact World.ownsRow.lt hr b hb
theorem ListOf.below {W W' : World} {base k : Nat} {m : Nat → Nat} {E : Nat → Nat → BitVec 8} {v : Value} (h : ListOf W base k m E v) (hb : Below W.heap.size W W') : ListOf W' base k m E v := by
  obtain ⟨R, hr, hp⟩ := h.row
  refine ⟨R, ?_, fun i hi g hg => slice_below (hp i hi g ?_) hb⟩
  · refine ⟨hr.1, ?_⟩
    rcases hr.2 with h0 | ⟨g, cap, cur, rfl, hg, hh, rest⟩
    · exact .inl h0
    · exact .inr ⟨g, cap, cur, rfl, hg, (hb.block g (World.ownsRow.lt hr g rfl).2).trans hh, rest⟩
  · rcases hg with hg | hg
    · exact .inl hg
    · exact .inr (Nat.le_trans hb.size hg)
theorem ListOf.parts {W : World} {base k : Nat} {m : Nat → Nat} {E : Nat → Nat → BitVec 8} {v : Value} (h : ListOf W base k m E v) : PartsOf W k m E v := by
  obtain ⟨R, hr, hp⟩ := h.row
  obtain ⟨A, cap, rfl⟩ : ∃ A cap, v = .slice A k cap := by
    rcases hr.2 with ⟨hv, h0⟩ | ⟨g, cap, cur, hv, _⟩
    · exact ⟨none, 0, by rw [hv, h0]⟩
    · exact ⟨_, _, hv⟩
  refine ⟨A, cap, rfl, fun hk => ?_⟩
  obtain ⟨g, cap', he, hb, hg⟩ := World.ownsRow.form hr hk
  simp only [Value.slice.injEq, true_and] at he
  obtain ⟨rfl, rfl⟩ := he
  refine ⟨g, 0, rfl, fun i hi => ⟨R i, ?_, hp i hi _ (.inr (Nat.le_refl _))⟩⟩
  rw [Nat.zero_add, World.ownsRow.cellAt hr i (by omega)]
  simp [hi]
section
variable {w : World} {ops : Array Oper} {rest : List Oper} {op : Oper} {a : Act} {Q : Exit → Act → World → Prop}
/-- 'append(v, r)', v the call's own list, r any slice of bytes that does not lie in it. -/
theorem append_slice (hgd : op.guard = none) (s x : Operand) (ho : op.op = .call { callee := .builtin .append, args := #[s, x], argTypes := #[45, 45] })
    (base k : Nat) (m : Nat → Nat) (E : Nat → Nat → BitVec 8) (v : Value) (hs : a.eval s = v) (h : ListOf w base k m E v) (r : Value) (hr : ∀ g, (v.ownBlock = some g ∨ w.heap.size ≤ g) → SliceOf w g (m k) (E k) r) (h1 : r.oneCell' = true)
    (sb c : Nat) (hx : a.eval x = .slice (some ⟨sb, 0, none⟩) 1 c) (hc : w.cell? ⟨sb, 0, none⟩ = some r) (hk : k ≤ 1000000) (hbase : base ≤ w.heap.size)
    (hK : ∀ v' w', ListOf w' base (k + 1) m E v' → w.grownBy w' v.ownBlock → wpList Tryd.prog ops Q rest (a.put op.dst v') w') : wpList Tryd.prog ops Q (op :: rest) a w := by
  obtain ⟨i, hi, hz⟩ := Option.map_eq_some_iff.1 info_u8s
  simp only [Prod.mk.injEq] at hz
  obtain ⟨R, hrow, hp⟩ := h.row
  refine wpList_append_own_at w hgd s x 45 ho base 24 i (.slice none 0 0) 1 24 Tryd.underlying45 hi hz.1 hz.2.1 hz.2.2 rfl (by omega) v k _ hs hrow ⟨sb, 0, none⟩ 1 c [r] hx rfl ?_ ?_ (by simp only [maxLen]; omega) (by omega) hbase ?_
  · intro j u hu
    match j, hu with
    | 0, hu => simp at hu; rw [← hu]; exact hc
  · intro u hu
    simp at hu
    rw [hu]; exact h1
  · intro v' w' h2 h3 _ h4
    have hmap : (List.range (k + 1)).map (fun i => if i < k then R i else r) = (List.range k).map R ++ [r] := by
      rw [List.range_succ, List.map_append]
      congr 1
      · exact List.map_congr_left (fun j hj => if_pos (List.mem_range.1 hj))
      · simp
    refine hK v' w' ⟨fun i => if i < k then R i else r, by rw [hmap]; exact h2, fun j hj g hg => ?_⟩ h3
    have hall : ∀ g, (v.ownBlock = some g ∨ w.heap.size ≤ g) → SliceOf w g (m j) (E j) (if j < k then R j else r) := fun g hg => by
      by_cases hlt : j < k
      · rw [if_pos hlt]; exact hp j hlt g hg
      · obtain rfl : j = k := by omega
        rw [if_neg hlt]; exact hr g hg
    have hge : v.ownBlock = some g ∨ w.heap.size ≤ g := by
      rcases hg with hg | hg
      · rcases h4 with h4 | h4
        · exact .inl (h4 ▸ hg)
        · rw [h4] at hg
          exact .inr (by simp at hg; omega)
      · exact .inr (Nat.le_trans h3.size hg)
    cases hv : v.ownBlock with
    | none =>
      rw [hv] at h3
      exact (hall g hge).keep (fun b hb _ => h3.block b hb (by simp))
    | some c =>
      rw [hv] at h3
      obtain ⟨A, c', he, hcap, hs1⟩ := hall c (.inl hv)
      obtain ⟨A', c'', he', _, hs2⟩ := hall g hge
      rw [he] at he'
      simp only [Value.slice.injEq, true_and] at he'
      obtain ⟨rfl, rfl⟩ := he'
      refine ⟨A, c', he, hcap, fun h0 => ?_⟩
      obtain ⟨sb, so, hA, hne, hcell⟩ := hs1 h0
      obtain ⟨sb', so', hA', hne', _⟩ := hs2 h0
      rw [hA] at hA'
      simp only [Option.some.injEq, Addr.mk.injEq, and_true] at hA'
      obtain ⟨rfl, rfl⟩ := hA'
      refine ⟨sb, so, hA, hne', fun q hq => ?_⟩
      have hb := block_lt_of_cell (hcell q hq)
      rw [World.cell?_of_block (h3.block sb hb (by simpa using hne))]
      exact hcell q hq
/-- The same, of a slice that stands in a block that was just made. -/
theorem append_new (hgd : op.guard = none) (s x : Operand) (ho : op.op = .call { callee := .builtin .append, args := #[s, x], argTypes := #[45, 45] })
    (base k : Nat) (m : Nat → Nat) (E : Nat → Nat → BitVec 8) (v : Value) (hs : a.eval s = v) (w0 W1 w3 : World) (h : ListOf w0 base k m E v) (hb : Below w0.heap.size w0 W1) (hB : Below base w3 w0) (hbase : base ≤ w0.heap.size)
    (r : Value) (hr : ∀ g, ((v.ownBlock = some g ∧ base ≤ g ∧ g < w0.heap.size) ∨ W1.heap.size ≤ g) → SliceOf W1 g (m k) (E k) r) (h1 : r.oneCell' = true) (hw : w = W1.alloc (.cells #[r] 24))
    (hx : a.eval x = .slice (some ⟨W1.heap.size, 0, none⟩) 1 1) (hk : k ≤ 1000000)
    (hK : ∀ v' w', ListOf w' base (k + 1) m E v' → Below base w3 w' → wpList Tryd.prog ops Q rest (a.put op.dst v') w') : wpList Tryd.prog ops Q (op :: rest) a w := by
  subst hw
  have hb1 : Below w0.heap.size w0 (W1.alloc (.cells #[r] 24)) := hb.alloc hb.size _
  have hsz := hb.size
  refine append_slice hgd s x ho base k m E v hs (h.below hb1) r (fun g hg => ?_) h1 W1.heap.size 1 hx ?_ hk (Nat.le_trans hbase hb1.size) (fun v' w' hl hg => hK v' w' hl ?_)
  · refine slice_below (hr g ?_) ((Below.refl _ _).alloc (Nat.le_refl _) _)
    rcases hg with hg | hg
    · have := h.lt hg
      exact .inl ⟨hg, this.1, this.2⟩
    · exact .inr (by simp at hg; omega)
  · rw [World.cell?_alloc_new]; rfl
  · exact (hB.trans (hb1.mono hbase)).grown hg (Nat.le_trans hbase hb1.size) (fun b hb' => (h.lt hb').1)
end
end Go.Proofs.YtagehbeliifbkaaDoor.Field
