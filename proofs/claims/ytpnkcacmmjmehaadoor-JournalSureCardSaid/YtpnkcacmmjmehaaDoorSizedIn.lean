/-
  Bytes that came in, wherever they are read, and what bounds their length; a number's bounds.
-/
import Derived.Test.YtpnkcacmmjmehaaDoorSliceIn
import Derived.Test.YtpnkcacmmjmehaaDoorOwn
import Derived.Deep.Slices
import Derived.SizedLaws
namespace Go.Proofs.YtpnkcacmmjmehaaDoor.Field
open Go Go.ChangeShapes Go.WideShapes Go.ChangeAt Go.RowKit Go.Proofs.YtpnkcacmmjmehaaDoor.Aid Go.Proofs.YtpnkcacmmjmehaaDoor.Law01

theorem weights_mem {H : Type} (P : Program) (t : TypeId) : ∀ (l : List (DataW H)) (d : DataW H), d ∈ l → ∀ n ∈ d.weights P t, n ∈ DataW.weightsAll P t l
  | x :: l, d, hd, n, hn => by
    simp only [DataW.weightsAll, List.mem_append]
    rcases List.mem_cons.1 hd with rfl | h
    · exact .inl hn
    · exact .inr (weights_mem P t l d h n hn)
theorem bytes_u8 : Tryd.prog.bytesOf 5 = 1 := by kernel_rfl
/-- A slice of bytes wherever it is read. -/
theorem slice_at {H : Type} {enc : TypeId × Value → H} {W : World} {fuel : Nat} {u : Value} {x : DataW H × List MemPlace}
    (h : DataW.trod enc Tryd.prog W 0 (fun _ => true) true fuel 35 [u] = some x) (hw : ∀ y ∈ x.1.weights Tryd.prog 35, y ≤ reachBytes) : ∃ (n : Nat) (e : Nat → BitVec 8), SliceOf W W.heap.size n e u ∧ n ≤ 140737488351232 := by
  rcases open_ints Tryd.underlying35 Tryd.underlying5 (by kernel_rfl) h with ⟨hcs, _⟩ | ⟨a, l, c, zs, hcs, _, hl, _, hz, hx, _, _⟩
  · simp at hcs
    subst hcs
    exact ⟨0, fun _ => 0, SliceOf.nil _ _ _, Nat.zero_le _⟩
  · simp at hcs
    subst hcs
    obtain ⟨e, he⟩ := slice_in (enc := enc) (W := W) (a := some a) (len := l) (cap := c) (d := x.1) (p := x.2) ⟨fuel, by simpa [Value.cells] using h⟩
    refine ⟨l, e, he, ?_⟩
    have hz' : zs.length = c := by simpa using hz
    rw [hx] at hw
    simp only [DataW.weights, Tryd.underlying35] at hw
    have h1 := hw _ (List.mem_cons_self ..)
    rw [bytes_u8] at h1
    simp only [lits, List.length_map, List.length_take, List.length_drop, reachBytes] at h1
    omega
theorem wf64 {n : Int} (h : (Lit.int .i64 n).wf = true) : -9223372036854775808 ≤ n ∧ n ≤ 9223372036854775807 := by
  simp only [Lit.wf, IntKind.min, IntKind.max, IntKind.signed, IntKind.bits, Bool.and_eq_true, decide_eq_true_eq, if_true] at h
  omega
end Go.Proofs.YtpnkcacmmjmehaaDoor.Field
