/-
  Slices of bytes that a call hands back, its own: one, and a list of them, none of which shares a byte with another; a list that is made by append.
-/
import Derived.Test.YtaakhldhmoaplaaDoorBd26
import Derived.Deep.AppendLies
namespace Go.Proofs.YtaakhldhmoaplaaDoor.Field
open Go Go.RowKit Go.Proofs.YtaakhldhmoaplaaDoor.Aid Go.Proofs.YtaakhldhmoaplaaDoor.Law01

/-- 'b[lo:hi]', of no bytes too. -/
theorem mid_run {P : Program} (t e : TypeId) (hu : P.underlying t = some (.slice e)) (hsz : (P.info? e).map (·.size) = some 1) (sb so M c lo m : Nat) (h2 : lo + m ≤ M) (h3 : M ≤ c) :
    ∃ o : Nat, (0 < m → o = so + lo) ∧ ∀ (l hi : Int) (kd kd' : IntKind) (W : World), l = (lo : Int) → hi = ((lo + m : Nat) : Int) → (Instr.sliceAt t (.slice (some ⟨sb, so, none⟩) M c) (some (.int kd l)) (some (.int kd' hi)) none).run P W = .ok (.slice (some ⟨sb, o, none⟩) m (c - lo)) W := by
  refine ⟨if c = lo then so else so + lo, fun h => by rw [if_neg (by omega)], fun l hi kd kd' W hl hh => ?_⟩
  subst hl hh
  cases hq : P.info? e with
  | none => simp [hq] at hsz
  | some i =>
    have hs : i.size = 1 := by simpa [hq] using hsz
    have e3 : ((lo : Int) + (m : Int)).toNat = lo + m := by omega
    have e5 : (lo : Int) + (m : Int) ≤ (c : Int) := by omega
    have e6 : lo + m - lo = m := by omega
    have e9 : (0 : Int) ≤ (lo : Int) + (m : Int) := by omega
    by_cases hck : c = lo
    · subst hck
      obtain rfl : m = 0 := by omega
      simp [Instr.sliceAt, Instr.slice, Instr.sliceBounds, Instr.sliceBound, asIntOf, Sem.run_bind, run_underlying hu W, Result.andThen, sizeOf, typeInfo, hq]
    · simp [Instr.sliceAt, Instr.slice, Instr.sliceBounds, Instr.sliceBound, asIntOf, Sem.run_bind, run_underlying hu W, Result.andThen, sizeOf, typeInfo, hq, hs, Addr.add_mid, hck, e3, e5, e6, e9]
/-- A list of k slices of bytes of the call's own, each in a block of its own. -/
structure OwnParts (W : World) (base k : Nat) (m : Nat → Nat) (E : Nat → Nat → BitVec 8) (R : Nat → Value) (v : Value) : Prop where
  row : W.ownsRow base 28 1 v k ((List.range k).map R)
  part : ∀ i, i < k → Own W base (m i) (E i) (R i)
  ne : ∀ i, i < k → ∀ b, (R i).ownBlock = some b → v.ownBlock ≠ some b
  apart : ∀ i j, i < j → j < k → ∀ b, (R i).ownBlock = some b → (R j).ownBlock ≠ some b
theorem OwnParts.nil (W : World) (base : Nat) (m : Nat → Nat) (E : Nat → Nat → BitVec 8) (R : Nat → Value) : OwnParts W base 0 m E R (.slice none 0 0) :=
  ⟨World.ownsRow_nil _ _ _ _, fun i hi => absurd hi (by omega), fun i hi => absurd hi (by omega), fun i j _ hj => absurd hj (by omega)⟩
theorem OwnParts.below {W W' : World} {base k : Nat} {m : Nat → Nat} {E : Nat → Nat → BitVec 8} {R : Nat → Value} {v : Value} (h : OwnParts W base k m E R v) (hb : Below W.heap.size W W') : OwnParts W' base k m E R v := by
  refine ⟨⟨h.row.1, ?_⟩, fun i hi => (h.part i hi).below hb, h.ne, h.apart⟩
  rcases h.row.2 with h0 | ⟨g, cap, cur, rfl, hg, hh, rest⟩
  · exact .inl h0
  · exact .inr ⟨g, cap, cur, rfl, hg, (hb.block g (World.ownsRow.lt h.row g rfl).2).trans hh, rest⟩
theorem OwnParts.shape {W : World} {base k : Nat} {m : Nat → Nat} {E : Nat → Nat → BitVec 8} {R : Nat → Value} {v : Value} (h : OwnParts W base k m E R v) : ∃ A cap, v = .slice A k cap := by
  rcases h.row.2 with ⟨hv, h0⟩ | ⟨g, cap, cur, hv, _⟩
  · exact ⟨none, 0, by rw [hv, h0]⟩
  · exact ⟨_, _, hv⟩
theorem OwnParts.parts {W : World} {base k : Nat} {m : Nat → Nat} {E : Nat → Nat → BitVec 8} {R : Nat → Value} {v : Value} (h : OwnParts W base k m E R v) : PartsOf W k m E v := by
  obtain ⟨A, cap, rfl⟩ := h.shape
  refine ⟨A, cap, rfl, fun hk => ?_⟩
  obtain ⟨g, cap', he, hb, hg⟩ := World.ownsRow.form h.row hk
  simp only [Value.slice.injEq, true_and] at he
  obtain ⟨rfl, rfl⟩ := he
  refine ⟨g, 0, rfl, fun i hi => ⟨R i, ?_, (h.part i hi).slice (.inr (Nat.le_refl _))⟩⟩
  rw [Nat.zero_add, World.ownsRow.cellAt h.row i (by omega)]
  simp [hi]
theorem info_u8s : (Tryd.prog.info? 28).map (fun i => (i.zero, i.size, i.bytes)) = some (some (.slice none 0 0), 1, 24) := by kernel_rfl
section
variable {w : World} {ops : Array Oper} {rest : List Oper} {op : Oper} {a : Act} {Q : Exit → Act → World → Prop}
/-- 'append(v, r)', v the call's own list, r one more slice of bytes, in a block that is newer. -/
theorem append_part (hgd : op.guard = none) (s x : Operand) (ho : op.op = .call { callee := .builtin .append, args := #[s, x], argTypes := #[47, 47] })
    (base k : Nat) (m : Nat → Nat) (E : Nat → Nat → BitVec 8) (R : Nat → Value) (v : Value) (hs : a.eval s = v) (h : OwnParts w base k m E R v) (hr : Own w base (m k) (E k) (R k)) (h1 : (R k).oneCell' = true)
    (hnew : ∀ b, (R k).ownBlock = some b → (∀ c, v.ownBlock = some c → c ≠ b) ∧ ∀ i, i < k → (R i).ownBlock ≠ some b) (sb c : Nat) (hx : a.eval x = .slice (some ⟨sb, 0, none⟩) 1 c) (hc : w.cell? ⟨sb, 0, none⟩ = some (R k)) (hk : k ≤ 1000000) (hbase : base ≤ w.heap.size)
    (hK : ∀ v' w', OwnParts w' base (k + 1) m E R v' → w.grownBy w' v.ownBlock → wpList Tryd.prog ops Q rest (a.put op.dst v') w') : wpList Tryd.prog ops Q (op :: rest) a w := by
  obtain ⟨i, hi, hz⟩ := Option.map_eq_some_iff.1 info_u8s
  simp only [Prod.mk.injEq] at hz
  refine wpList_append_own_at w hgd s x 47 ho base 28 i (.slice none 0 0) 1 24 Tryd.underlying47 hi hz.1 hz.2.1 hz.2.2 rfl (by omega) v k _ hs h.row ⟨sb, 0, none⟩ 1 c [R k] hx rfl ?_ ?_ (by simp only [maxLen]; omega) (by omega) hbase ?_
  · intro j u hu
    match j, hu with
    | 0, hu => simp at hu; rw [← hu]; exact hc
  · intro u hu
    simp at hu
    rw [hu]; exact h1
  · intro v' w' h2 h3 _ h4
    have hlt : ∀ i, i < k + 1 → ∀ b, (R i).ownBlock = some b → b < w.heap.size := fun i hi b hb => by
      by_cases e : i = k
      · subst e; exact (hr.lt hb).2
      · exact ((h.part i (by omega)).lt hb).2
    have hne : ∀ i, i < k + 1 → ∀ b, (R i).ownBlock = some b → v.ownBlock ≠ some b := fun i hi b hb => by
      by_cases e : i = k
      · subst e
        exact fun hv => (hnew b hb).1 b hv rfl
      · exact h.ne i (by omega) b hb
    refine hK v' w' ⟨?_, fun i hi => ?_, fun i hi b hb he => ?_, fun i j hij hj b hb he => ?_⟩ h3
    · rw [List.range_succ, List.map_append]
      exact h2
    · have ho' : Own w base (m i) (E i) (R i) := by
        by_cases e : i = k
        · subst e; exact hr
        · exact h.part i (by omega)
      exact ho'.keep (fun b hb => h3.block b (hlt i hi b hb) (fun e => hne i hi b hb e.symm))
    · rcases h4 with h4 | h4
      · exact hne i hi b hb (h4 ▸ he)
      · rw [h4] at he
        have := hlt i hi b hb
        simp at he
        omega
    · by_cases e : j = k
      · subst e
        exact (hnew b he).2 i hij hb
      · exact h.apart i j hij (by omega) b hb he
end
end Go.Proofs.YtaakhldhmoaplaaDoor.Field
