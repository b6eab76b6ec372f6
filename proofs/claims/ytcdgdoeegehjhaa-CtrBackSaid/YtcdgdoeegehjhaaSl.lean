/-
  Slices of bytes, and bytes of the call's own: small laws that every layer takes.
-/
import Derived.Test.YtcdgdoeegehjhaaOwn
namespace Go.Proofs.Ytcdgdoeegehjhaa.Aid
open Go Go.RowKit

theorem slice_any {w : World} {g g' m : Nat} {e : Nat → BitVec 8} {v : Value} (h : SliceOf w g m e v) (hg : w.heap.size ≤ g') : SliceOf w g' m e v := by
  obtain ⟨A, c, hv, hc, hr⟩ := h
  refine ⟨A, c, hv, hc, fun hm => ?_⟩
  obtain ⟨sb, so, hA, _, hcell⟩ := hr hm
  have := block_lt_of_cell (hcell 0 hm)
  exact ⟨sb, so, hA, by simp at this; omega, hcell⟩
theorem slice_below {w w' : World} {g m : Nat} {e : Nat → BitVec 8} {v : Value} (h : SliceOf w g m e v) (hb : Below w.heap.size w w') : SliceOf w' g m e v := h.keep (fun b hl _ => hb.block b hl)
theorem Own.congr' {w : World} {base m : Nat} {e e' : Nat → BitVec 8} {v : Value} (h : Own w base m e v) (he : ∀ j, j < m → e j = e' j) : Own w base m e' v := by
  unfold Own at h ⊢
  have : (List.range m).map (fun i => Value.int .u8 ((e i).toNat : Int)) = (List.range m).map (fun i => Value.int .u8 ((e' i).toNat : Int)) :=
    List.map_congr_left (fun j hj => by rw [he j (List.mem_range.1 hj)])
  rw [← this]
  exact h
theorem own_empty8 (w : World) (e : Nat → BitVec 8) : Own (w.alloc (.cells #[] 5)) w.heap.size 0 e (.slice (some ⟨w.heap.size, 0, none⟩) 0 0) :=
  World.ownsRow_made w #[] 0 (Nat.le_refl _) (by simp [maxLen]) (by simp)
/-- One byte in a new block. -/
theorem slice_one (w : World) (g : Nat) (hg : g ≠ w.heap.size) (x : BitVec 8) (v : Int) (hv : v = (x.toNat : Int)) : SliceOf (w.alloc (.cells #[.int .u8 v] 5)) g 1 (fun _ => x) (.slice (some ⟨w.heap.size, 0, none⟩) 1 1) := by
  refine ⟨_, 1, rfl, Nat.le_refl _, fun _ => ⟨w.heap.size, 0, rfl, fun e => hg e.symm, fun j hj => ?_⟩⟩
  obtain rfl : j = 0 := by omega
  rw [World.cell?_alloc_new, hv]
  rfl
/-- One more byte of the padded input. -/
theorem own_next {w : World} {base L : Nat} {F : Nat → BitVec 8} {x : BitVec 8} {v : Value} (h : Own w base (L + 1) (cat F L (fun _ => x)) v) (hx : F L = x) : Own w base (L + 1) F v :=
  Own.congr' h (fun j hj => by
    unfold cat
    by_cases hjl : j < L
    · rw [if_pos hjl]
    · rw [if_neg hjl, ← hx, show j = L by omega])
theorem own_base {w : World} {base base' m : Nat} {e : Nat → BitVec 8} {v : Value} (h : Own w base m e v) (hb : base' ≤ base) : Own w base' m e v :=
  ⟨h.1, h.2.elim Or.inl (fun ⟨g, cap, cur, hv, hg, r⟩ => Or.inr ⟨g, cap, cur, hv, Nat.le_trans hb hg, r⟩)⟩
/-- 'b[:k]' of bytes of the call's own. -/
theorem head_run {P : Program} (t e : TypeId) (hu : P.underlying t = some (.slice e)) (hsz : (P.info? e).map (·.size) = some 1) (A : Option Addr) (hA : ∀ x, A = some x → ∃ sb so, x = ⟨sb, so, none⟩) (M c k : Nat) (hk : k ≤ c) (kd : IntKind) (W : World) :
    (Instr.sliceAt t (.slice A M c) none (some (.int kd (k : Int))) none).run P W = .ok (.slice A k c) W := by
  cases hq : P.info? e with
  | none => simp [hq] at hsz
  | some i =>
    cases A with
    | none => simp [Instr.sliceAt, Instr.slice, Instr.sliceBounds, Instr.sliceBound, asIntOf, Sem.run_bind, run_underlying hu W, Result.andThen, sizeOf, typeInfo, hq, hk]
    | some x =>
      obtain ⟨sb, so, rfl⟩ := hA x rfl
      simp [Instr.sliceAt, Instr.slice, Instr.sliceBounds, Instr.sliceBound, asIntOf, Sem.run_bind, run_underlying hu W, Result.andThen, sizeOf, typeInfo, hq, hk, Addr.add_mid]
/-- 'b[lo:hi]'. -/
theorem mid_at {P : Program} (t e : TypeId) (hu : P.underlying t = some (.slice e)) (hsz : (P.info? e).map (·.size) = some 1) (sb so M c lo m : Nat) (h1 : 0 < m) (h2 : lo + m ≤ M) (h3 : M ≤ c) (hi : Int) (hhi : hi = ((lo + m : Nat) : Int)) (kd kd' : IntKind) (W : World) :
    (Instr.sliceAt t (.slice (some ⟨sb, so, none⟩) M c) (some (.int kd (lo : Int))) (some (.int kd' hi)) none).run P W = .ok (.slice (some ⟨sb, so + lo, none⟩) m (c - lo)) W := by
  subst hhi
  cases hq : P.info? e with
  | none => simp [hq] at hsz
  | some i =>
    have hs : i.size = 1 := by simpa [hq] using hsz
    have e1 : ¬ c = lo := by omega
    have e3 : ((lo : Int) + (m : Int)).toNat = lo + m := by omega
    have e5 : (lo : Int) + (m : Int) ≤ (c : Int) := by omega
    have e6 : lo + m - lo = m := by omega
    have e9 : (0 : Int) ≤ (lo : Int) + (m : Int) := by omega
    simp [Instr.sliceAt, Instr.slice, Instr.sliceBounds, Instr.sliceBound, asIntOf, Sem.run_bind, run_underlying hu W, Result.andThen, sizeOf, typeInfo, hq, hs, Addr.add_mid, e1, e3, e5, e6, e9]
theorem own_shape {w : World} {base m : Nat} {e : Nat → BitVec 8} {v : Value} (h : Own w base m e v) : ∃ A cap, v = .slice A m cap ∧ m ≤ cap ∧ ∀ x, A = some x → ∃ sb so, x = ⟨sb, so, none⟩ := by
  rcases h.form with ⟨rfl, rfl⟩ | ⟨g, cap, cur, rfl, _, _, hc, _⟩
  · exact ⟨none, 0, rfl, Nat.le_refl _, fun _ h => by cases h⟩
  · exact ⟨_, cap, rfl, hc, fun x h => by cases h; exact ⟨_, _, rfl⟩⟩
/-- The first of more bytes. -/
theorem slice_head {w : World} {g m k c : Nat} {e : Nat → BitVec 8} {A : Option Addr} (h : SliceOf w g m e (.slice A m c)) (hk : k ≤ m) : SliceOf w g k e (.slice A k c) := by
  obtain ⟨A', c', hv, hc, hr⟩ := h
  simp only [Value.slice.injEq, true_and] at hv
  obtain ⟨rfl, rfl⟩ := hv
  refine ⟨_, _, rfl, by omega, fun h0 => ?_⟩
  obtain ⟨sb, so, h1, h2, h3⟩ := hr (by omega)
  exact ⟨sb, so, h1, h2, fun j hj => h3 j (by omega)⟩
theorem slice_shape {w : World} {g m : Nat} {e : Nat → BitVec 8} {v : Value} (h : SliceOf w g m e v) : ∃ A c, v = .slice A m c := by
  obtain ⟨A, c, rfl, _⟩ := h
  exact ⟨A, c, rfl⟩
end Go.Proofs.Ytcdgdoeegehjhaa.Aid
