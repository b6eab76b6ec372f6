/-
  Slices of bytes in a world: what they read as; a copy into a row; a slice cut at its head.
-/
import Derived.Test.YtnkjoambhmlnbaaGreatDoorBd01
import Derived.Laws.CopyOwn
namespace Go.Proofs.YtnkjoambhmlnbaaGreatDoor.Aid
open Go Go.RowKit

/-- The value is a slice of m bytes that read as e, none of them in block g. -/
def SliceOf (w : World) (g m : Nat) (e : Nat → BitVec 8) (v : Value) : Prop :=
  ∃ (A : Option Addr) (c : Nat), v = .slice A m c ∧ m ≤ c ∧ (0 < m → ∃ sb so : Nat, A = some ⟨sb, so, none⟩ ∧ sb ≠ g ∧ ∀ j, j < m → w.cell? ⟨sb, so + j, none⟩ = some (.int .u8 ((e j).toNat : Int)))
theorem SliceOf.keep {w w' : World} {g m : Nat} {e : Nat → BitVec 8} {v : Value} (h : SliceOf w g m e v) (hk : ∀ b, b < w.heap.size → b ≠ g → w'.heap[b]? = w.heap[b]?) : SliceOf w' g m e v := by
  obtain ⟨A, c, hv, hc, hr⟩ := h
  refine ⟨A, c, hv, hc, fun hm => ?_⟩
  obtain ⟨sb, so, hA, hne, hcell⟩ := hr hm
  refine ⟨sb, so, hA, hne, fun j hj => ?_⟩
  have h0 := hcell j hj
  rw [World.cell?_of_block (hk sb (block_lt_of_cell h0) hne)]
  exact h0
theorem SliceOf.congr {w : World} {g m : Nat} {e e' : Nat → BitVec 8} {v : Value} (h : SliceOf w g m e v) (he : ∀ j, j < m → e j = e' j) : SliceOf w g m e' v := by
  obtain ⟨A, c, hv, hc, hr⟩ := h
  refine ⟨A, c, hv, hc, fun hm => ?_⟩
  obtain ⟨sb, so, hA, hne, hcell⟩ := hr hm
  exact ⟨sb, so, hA, hne, fun j hj => by rw [← he j hj]; exact hcell j hj⟩
theorem SliceOf.nil (w : World) (g : Nat) (e : Nat → BitVec 8) : SliceOf w g 0 e (.slice none 0 0) := ⟨none, 0, rfl, Nat.le_refl _, fun h => absurd h (by omega)⟩

/-- 'b[k:]': a slice cut at its head. -/
theorem cut_run {P : Program} (t e : TypeId) (hu : P.underlying t = some (.slice e)) (hsz : (P.info? e).map (·.size) = some 1) (sb so M c k : Nat) (hk : k ≤ M) (hc : M ≤ c) :
    ∃ A : Option Addr, (0 < M - k → A = some ⟨sb, so + k, none⟩) ∧ ∀ (kd : IntKind) (W : World), (Instr.sliceAt t (.slice (some ⟨sb, so, none⟩) M c) (some (.int kd (k : Int))) none none).run P W = .ok (.slice A (M - k) (c - k)) W := by
  refine ⟨if c = k then some ⟨sb, so, none⟩ else some ⟨sb, so + k, none⟩, fun h => by rw [if_neg (by omega)], fun kd W => ?_⟩
  cases hq : P.info? e with
  | none => simp [hq] at hsz
  | some i =>
    have hs : i.size = 1 := by simpa [hq] using hsz
    by_cases hck : c = k
    · simp [Instr.sliceAt, Instr.slice, Instr.sliceBounds, Instr.sliceBound, asIntOf, Sem.run_bind, run_underlying hu W, Result.andThen, sizeOf, typeInfo, hq, hck, hk]
    · simp [Instr.sliceAt, Instr.slice, Instr.sliceBounds, Instr.sliceBound, asIntOf, Sem.run_bind, run_underlying hu W, Result.andThen, sizeOf, typeInfo, hq, hck, hk, hs, Addr.add_mid]

/-- 'x[:h]': a slice of an array. -/
theorem arr_run {P : Program} (t e N : TypeId) (hu : P.underlying t = some (.array N e)) (hsz : (P.info? e).map (·.size) = some 1) (h : Int) (hN : Nat) (hh : h = (hN : Int)) (hl : hN ≤ N) (b o : Nat) (kd : IntKind) (W : World) :
    (Instr.sliceAt t (.pointer (some ⟨b, o, none⟩)) none (some (.int kd h)) none).run P W = .ok (.slice (some ⟨b, o, none⟩) hN N) W := by
  subst hh
  cases hq : P.info? e with
  | none => simp [hq] at hsz
  | some i =>
    simp [Instr.sliceAt, Instr.sliceBounds, Instr.sliceBound, Instr.sureAddr, asIntOf, Sem.run_bind, run_underlying hu W, Result.andThen, sizeOf, typeInfo, hq, hl, Addr.add]

section
variable {P : Program} {w : World} {ops : Array Oper} {rest : List Oper} {op : Oper} {a : Act} {Q : Exit → Act → World → Prop}
/-- 'copy(dst, src)': dst lies in a row that is known, src has bytes. -/
theorem copy_row (hgd : op.guard = none) (d s : Operand) (dT sT : TypeId) (ho : op.op = .call { callee := .builtin .copy, args := #[d, s], argTypes := #[dT, sT] })
    (elem : TypeId) (hu : P.underlying dT = some (.slice elem)) (hsz : (P.info? elem).map (·.size) = some 1)
    (g o t n : Nat) (f : Nat → Value) (h : w.rowIs g t n f) (dLen dCap : Nat) (hd : a.eval d = .slice (some ⟨g, o, none⟩) dLen dCap) (hn : o + dLen ≤ n)
    (sb so m c : Nat) (hs : a.eval s = .slice (some ⟨sb, so, none⟩) m c) (e : Nat → Value) (he : ∀ j, j < m → w.cell? ⟨sb, so + j, none⟩ = some (e j)) (h1 : ∀ j, j < m → (e j).oneCell' = true)
    (k : Nat) (hk : k = Nat.min m dLen)
    (hK : ∀ w', w'.rowIs g t n (fun j => if o ≤ j ∧ j < o + k then e (j - o) else f j) → Only g w w' → wpList P ops Q rest (a.put op.dst (.int .i64 (k : Int))) w') : wpList P ops Q (op :: rest) a w := by
  have hkm : k ≤ m := by rw [hk]; exact Nat.min_le_left _ _
  have hkd : k ≤ dLen := by rw [hk]; exact Nat.min_le_right _ _
  have hlen : ((List.range k).map e).length = k := by simp
  refine wpList_copy_own hgd d s dT sT ho elem hu hsz g o dLen dCap ⟨sb, so, none⟩ m c hd hs (cellsOf n f) t (row_heap h) ((List.range k).map e) (by rw [hlen, hk]) ?_ (by rw [hlen, size_cellsOf]; omega) ?_ ?_
  · intro j v hv
    have hj : j < k := by have := (List.getElem?_eq_some_iff.1 hv).1; simpa using this
    rw [Addr.add_mid, he j (by omega)]
    simpa [hj] using hv
  · intro v hv
    obtain ⟨j, hj, rfl⟩ := List.mem_map.1 hv
    exact h1 j (by have := List.mem_range.1 hj; omega)
  · rw [hlen]
    refine hK _ ?_ ⟨rfl, rfl, rfl, by simp [World.setRow], fun b hb => setRow_other w g b _ hb⟩
    refine row_mk ?_
    rw [setRow_heap w g _ _ t _ (row_heap h)]
    congr 2
    refine eq_cellsOf (by simp [size_cellsOf]; omega) (fun i hi => ?_)
    have hL : ∀ j, j < n → (cellsOf n f).toList[j]? = some (f j) := fun j hj => by rw [Array.getElem?_toList]; exact cellsOf_at n f j hj
    have hsz' : (cellsOf n f).toList.length = n := by simp [size_cellsOf]
    rw [List.getElem?_toArray]
    by_cases e1 : i < o
    · rw [List.getElem?_append_left (by rw [List.length_take, hsz']; omega), List.getElem?_take_of_lt e1, hL i hi, if_neg (by omega)]
    · rw [List.getElem?_append_right (by rw [List.length_take, hsz']; omega), List.length_take, hsz', Nat.min_eq_left (by omega)]
      by_cases e2 : i < o + k
      · rw [List.getElem?_append_left (by rw [hlen]; omega), if_pos (by omega)]
        simp [show i - o < k by omega]
      · rw [List.getElem?_append_right (by rw [hlen]; omega), hlen, List.getElem?_drop, if_neg (by omega), show o + k + (i - o - k) = i by omega]
        exact hL i hi
end
end Go.Proofs.YtnkjoambhmlnbaaGreatDoor.Aid
