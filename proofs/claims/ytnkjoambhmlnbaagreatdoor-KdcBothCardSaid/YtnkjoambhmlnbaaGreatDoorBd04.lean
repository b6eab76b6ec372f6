/-
  A slice of bytes as a law's argument, as the walks take it. Bytes that came in, wherever they are read, and what bounds their length; a number's bounds. A list of slices of bytes as a law's argument, as the walks take it.
-/
import Derived.Test.YtnkjoambhmlnbaaGreatDoorBd03
import Derived.Test.YtnkjoambhmlnbaaGreatDoorProg
import Derived.Test.YtnkjoambhmlnbaaGreatDoorBd07
import Derived.ProofKit
import Derived.OpenShut
import Derived.ChangeOld
import Derived.Deep.Slices
import Derived.Maps.AppendAt
import Derived.SizedLaws
namespace Go.Proofs.YtnkjoambhmlnbaaGreatDoor.Aid
open Go Go.ChangeShapes Go.WideShapes Go.ChangeAt Go.RowKit

/-- A slice of bytes that came in, as the walks take it. -/
theorem slice_in {H : Type} {enc : TypeId × Value → H} {W : World} {a : Option Addr} {len cap : Nat} {d : DataW H} {p : List MemPlace}
    (h : DataW.Trod enc Tryz.prog W 0 (fun _ => true) true 28 (.slice a len cap) d p) : ∃ e, SliceOf W W.heap.size len e (.slice a len cap) := by
  obtain ⟨fuel, hf⟩ := h
  rcases open_ints Tryz.underlying28 Tryz.underlying5 (by kernel_rfl) hf with ⟨hcs, _⟩ | ⟨x, l, c, zs, hcs, _, hl, _, hz, _, hcell, hwz⟩
  · simp [Value.cells] at hcs
    obtain ⟨rfl, rfl, rfl⟩ := hcs
    exact ⟨fun _ => 0, SliceOf.nil _ _ _⟩
  · simp [Value.cells] at hcs
    obtain ⟨rfl, rfl, rfl⟩ := hcs
    have hz' : zs.length = cap := by simpa using hz
    refine ⟨fun i => BitVec.ofInt 8 (zs.getD i 0), some x, cap, rfl, hl, fun hm => ?_⟩
    have h0 := hcell 0 (by omega)
    obtain ⟨b, o, sp⟩ := x
    have hsp : sp = none := by
      cases sp with
      | none => rfl
      | some y =>
        simp [Addr.add, World.cell?] at h0
        split at h0 <;> cases h0
    subst hsp
    refine ⟨b, o, rfl, ?_, fun j hj => ?_⟩
    · have := block_lt_of_cell h0
      simp [Addr.add] at this
      omega
    · have hc := hcell j (by omega)
      rw [Addr.add_mid] at hc
      rw [hc]
      have hmem : zs.getD j 0 ∈ zs := by
        rw [List.getD_eq_getElem?_getD, List.getElem?_eq_getElem (by omega), Option.getD_some]
        exact List.getElem_mem _
      have hb := bounds_u8 (hwz _ hmem)
      have : zs.getD j 0 = ((BitVec.ofInt 8 (zs.getD j 0)).toNat : Int) := by
        rw [BitVec.toNat_ofInt]
        omega
      rw [← this]
end Go.Proofs.YtnkjoambhmlnbaaGreatDoor.Aid
namespace Go.Proofs.YtnkjoambhmlnbaaGreatDoor.Field
open Go Go.ChangeShapes Go.WideShapes Go.ChangeAt Go.RowKit Go.Proofs.YtnkjoambhmlnbaaGreatDoor.Aid Go.Proofs.YtnkjoambhmlnbaaGreatDoor.Law01

theorem weights_mem {H : Type} (P : Program) (t : TypeId) : ∀ (l : List (DataW H)) (d : DataW H), d ∈ l → ∀ n ∈ d.weights P t, n ∈ DataW.weightsAll P t l
  | x :: l, d, hd, n, hn => by
    simp only [DataW.weightsAll, List.mem_append]
    rcases List.mem_cons.1 hd with rfl | h
    · exact .inl hn
    · exact .inr (weights_mem P t l d h n hn)
theorem bytes_u8 : Tryz.prog.bytesOf 5 = 1 := by kernel_rfl
/-- A slice of bytes wherever it is read. -/
theorem slice_at {H : Type} {enc : TypeId × Value → H} {W : World} {fuel : Nat} {u : Value} {x : DataW H × List MemPlace}
    (h : DataW.trod enc Tryz.prog W 0 (fun _ => true) true fuel 28 [u] = some x) (hw : ∀ y ∈ x.1.weights Tryz.prog 28, y ≤ reachBytes) : ∃ (n : Nat) (e : Nat → BitVec 8), SliceOf W W.heap.size n e u ∧ n ≤ 140737488351232 := by
  rcases open_ints Tryz.underlying28 Tryz.underlying5 (by kernel_rfl) h with ⟨hcs, _⟩ | ⟨a, l, c, zs, hcs, _, hl, _, hz, hx, _, _⟩
  · simp at hcs
    subst hcs
    exact ⟨0, fun _ => 0, SliceOf.nil _ _ _, Nat.zero_le _⟩
  · simp at hcs
    subst hcs
    obtain ⟨e, he⟩ := slice_in (enc := enc) (W := W) (a := some a) (len := l) (cap := c) (d := x.1) (p := x.2) ⟨fuel, by simpa [Value.cells] using h⟩
    refine ⟨l, e, he, ?_⟩
    have hz' : zs.length = c := by simpa using hz
    rw [hx] at hw
    simp only [DataW.weights, Tryz.underlying28] at hw
    have h1 := hw _ (List.mem_cons_self ..)
    rw [bytes_u8] at h1
    simp only [lits, List.length_map, List.length_take, List.length_drop, reachBytes] at h1
    omega
theorem wf64 {n : Int} (h : (Lit.int .i64 n).wf = true) : -9223372036854775808 ≤ n ∧ n ≤ 9223372036854775807 := by
  simp only [Lit.wf, IntKind.min, IntKind.max, IntKind.signed, IntKind.bits, Bool.and_eq_true, decide_eq_true_eq, if_true] at h
  omega
end Go.Proofs.YtnkjoambhmlnbaaGreatDoor.Field
namespace Go.Proofs.YtnkjoambhmlnbaaGreatDoor.Field
open Go Go.ChangeShapes Go.WideShapes Go.ChangeAt Go.RowKit Go.Proofs.YtnkjoambhmlnbaaGreatDoor.Aid Go.Proofs.YtnkjoambhmlnbaaGreatDoor.Law01

/-- A list of slices of bytes that came in, as the walk takes it. -/
theorem parts_in {H : Type} {enc : TypeId × Value → H} {W : World} {a : Option Addr} {len cap : Nat} {d : DataW H} {p : List MemPlace}
    (h : DataW.Trod enc Tryz.prog W 0 (fun _ => true) true 41 (.slice a len cap) d p) (hw : ∀ y ∈ d.weights Tryz.prog 41, y ≤ reachBytes) :
    ∃ (m : Nat → Nat) (e : Nat → Nat → BitVec 8), PartsOf W len m e (.slice a len cap) ∧ ∀ i, i < len → m i ≤ 140737488351232 := by
  obtain ⟨fuel, hf⟩ := h
  rcases Deep.open_slice1 Tryz.underlying41 (by kernel_rfl) hf with ⟨hcs, _⟩ | ⟨x, l, c, k, n, V, D, Pl, hcs, _, hl, _, hk, hx, hV⟩
  · simp [Value.cells] at hcs
    obtain ⟨rfl, rfl, rfl⟩ := hcs
    exact ⟨fun _ => 0, fun _ _ => 0, ⟨none, 0, rfl, fun h0 => absurd h0 (by omega)⟩, fun _ _ => Nat.zero_le _⟩
  · simp [Value.cells] at hcs
    obtain ⟨rfl, rfl, rfl⟩ := hcs
    have hk' : k = cap := by simpa using hk
    simp only [Prod.mk.injEq] at hx
    have hd := hx.1
    have hwD : ∀ i, i < len → ∀ y ∈ (D i).weights Tryz.prog 28, y ≤ reachBytes := fun i hi y hy => by
      refine hw y ?_
      rw [hd]
      simp only [DataW.weights, Tryz.underlying41, List.mem_cons, List.mem_append]
      exact .inr (.inl (weights_mem _ _ _ (D i) (by simp; exact ⟨i, by omega, rfl⟩) y hy))
    have hparts : ∀ i, i < len → ∃ me : Nat × (Nat → BitVec 8), SliceOf W W.heap.size me.1 me.2 (V i) ∧ me.1 ≤ 140737488351232 := fun i hi => by
      obtain ⟨n', e', h1, h2⟩ := slice_at (hV i (by omega)).2 (hwD i hi)
      exact ⟨(n', e'), h1, h2⟩
    haveI : Inhabited (Nat × (Nat → BitVec 8)) := ⟨(0, fun _ => 0)⟩
    obtain ⟨f, hfp⟩ := Deep.choose_lt hparts
    refine ⟨fun i => (f i).1, fun i => (f i).2, ⟨some x, cap, rfl, fun h0 => ?_⟩, fun i hi => (hfp i hi).2⟩
    · have hc0 := (hV 0 (by omega)).1
      obtain ⟨b, o, sp⟩ := x
      have hsp : sp = none := by
        cases sp with
        | none => rfl
        | some y =>
          simp [Addr.add, World.cell?] at hc0
          split at hc0 <;> cases hc0
      subst hsp
      refine ⟨b, o, rfl, fun i hi => ⟨V i, ?_, (hfp i hi).1⟩⟩
      have := (hV i (by omega)).1
      rw [Addr.add_mid] at this
      exact this
end Go.Proofs.YtnkjoambhmlnbaaGreatDoor.Field
