/-
  Two slices of bytes, in an array, as a law's argument.
-/
import Derived.Test.YtfjoflpidmjkbaaDoorSliceIn
import Derived.Test.YtfjoflpidmjkbaaDoorBytesIn
namespace Go.Proofs.YtfjoflpidmjkbaaDoor.Aid
open Go Go.ChangeShapes Go.WideShapes Go.ChangeAt Go.RowKit

/-- A slice of bytes among cells that came in. -/
theorem slice_cs {H : Type} {enc : TypeId × Value → H} {W : World} {fuel : Nat} {cs : List Value} {y : DataW H × List MemPlace}
    (hf : DataW.trod enc Tryd.prog W 0 (fun _ => true) true fuel 25 cs = some y) : ∃ a len cap e, cs = [.slice a len cap] ∧ SliceOf W W.heap.size len e (.slice a len cap) := by
  rcases open_ints Tryd.underlying25 Tryd.underlying5 (by kernel_rfl) hf with ⟨hcs, _⟩ | ⟨x, l, c, zs, hcs, _, hl, _, hz, _, hcell, hwz⟩
  · exact ⟨none, 0, 0, fun _ => 0, hcs, SliceOf.nil _ _ _⟩
  · have hz' : zs.length = c := by simpa using hz
    refine ⟨some x, l, c, fun i => BitVec.ofInt 8 (zs.getD i 0), hcs, some x, c, rfl, hl, fun hm => ?_⟩
    have h0 := hcell 0 (by omega)
    obtain ⟨b, o, sp⟩ := x
    have hsp : sp = none := by
      cases sp with
      | none => rfl
      | some y =>
        simp [Addr.add, World.cell?] at h0
        split at h0 <;> cases h0
    subst hsp
    refine ⟨b, o, rfl, ?_, fun j hj => ?_⟩
    · have := block_lt_of_cell h0
      simp [Addr.add] at this
      omega
    · have hc := hcell j (by omega)
      rw [Addr.add_mid] at hc
      rw [hc]
      have hmem : zs.getD j 0 ∈ zs := by
        rw [List.getD_eq_getElem?_getD, List.getElem?_eq_getElem (by omega), Option.getD_some]
        exact List.getElem_mem _
      have hb := bounds_u8 (hwz _ hmem)
      have : zs.getD j 0 = ((BitVec.ofInt 8 (zs.getD j 0)).toNat : Int) := by
        rw [BitVec.toNat_ofInt]
        omega
      rw [← this]
theorem two_of {l : List Value} {a b : Value} (hl : l.length = 2) (h0 : (l.drop 0).take 1 = [a]) (h1 : (l.drop 1).take 1 = [b]) : l = [a, b] := by
  match l, hl with
  | [x, y], _ =>
    simp at h0 h1
    rw [h0, h1]
/-- Two slices of bytes that came in. -/
theorem slices2_in {H : Type} {enc : TypeId × Value → H} {W : World} {r : Reach} {b0 : Nat} {v : Value} {d : DataW H} {ps : List MemPlace} (hval : Value.okWide Tryd.prog W r b0 26 v)
    (hd : DataW.Trod enc Tryd.prog W 0 (fun _ => true) true 26 v d ps) :
    ∃ a b la ca lb cb e f, v = .agg #[.slice a la ca, .slice b lb cb] ∧ SliceOf W W.heap.size la e (.slice a la ca) ∧ SliceOf W W.heap.size lb f (.slice b lb cb) := by
  have hu := Tryd.underlying26
  simp only [Value.okWide, hu] at hval
  obtain ⟨X, rfl, h2, _⟩ := hval
  obtain ⟨fuel, hf⟩ := hd
  obtain ⟨hl, hp⟩ := arr_pieces hu hf
  have he : Tryd.prog.cellsOf 25 = 1 := by kernel_rfl
  have ht : Tryd.prog.cellsOf 26 = 2 := by kernel_rfl
  simp only [Value.cells] at hl hp
  obtain ⟨m0, y0, h0⟩ := hp 0 (by omega)
  obtain ⟨m1, y1, h1⟩ := hp 1 (by omega)
  rw [he] at h0 h1
  rw [ht] at hl
  obtain ⟨a, la, ca, e, ha, hae⟩ := slice_cs h0
  obtain ⟨b, lb, cb, f, hb, hbf⟩ := slice_cs h1
  have hX := two_of hl ha hb
  refine ⟨a, b, la, ca, lb, cb, e, f, ?_, hae, hbf⟩
  congr 1
  rw [← Array.toList_inj, hX]
end Go.Proofs.YtfjoflpidmjkbaaDoor.Aid
