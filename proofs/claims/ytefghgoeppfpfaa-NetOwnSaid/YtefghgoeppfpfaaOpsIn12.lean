/-
  Letters, and operations with letters, as laws' arguments are opened: lengths are bounded by what a machine can hold.
-/
import Derived.Test.YtefghgoeppfpfaaOps12
import Derived.Test.YtefghgoeppfpfaaSliceIn
import Derived.Test.YtefghgoeppfpfaaSizedIn
import Derived.Deep.Slices
import Derived.SizedLaws
import Derived.OpenShut
import Derived.ChangeOld
import Derived.Lib.SmallJoins
namespace Go.Proofs.Ytefghgoeppfpfaa.Net
open Go Go.ChangeShapes Go.WideShapes Go.ChangeAt Go.RowKit Go.Deep Go.Proofs.Ytefghgoeppfpfaa.Aid Go.Proofs.Ytefghgoeppfpfaa.Law01 Go.Proofs.Ytefghgoeppfpfaa.Field Go.Proofs.Ytefghgoeppfpfaa.Cache

instance : Inhabited OpN := ⟨⟨0, zeroL, .slice none 0 0⟩⟩
section
variable {H : Type} {enc : TypeId × Value → H} {W : World}
theorem let_cells {fuel : Nat} {cs : List Value} {x : DataW H × List MemPlace} (h : DataW.trod enc Try.prog W 0 (fun _ => true) true fuel 34 cs = some x) (hw : ∀ y ∈ x.1.weights Try.prog 34, y ≤ reachBytes) : ∃ p : OpN, cs = p.lets ∧ LtIn W p := by
  obtain ⟨xs, n, _, hx, hl, hlen, hf⟩ := DataW.trod_struct Try.underlying34 h
  rw [show Try.prog.cellsOf 34 = 3 by kernel_rfl] at hl
  have k2 : Try.prog.cellsOf 9 = 1 := by kernel_rfl
  have k4 : Try.prog.cellsOf 32 = 1 := by kernel_rfl
  match xs, hlen with
  | [y0, y1, y2], _ =>
    match cs, hl with
    | [c0, c1, c2], _ =>
      rw [hx] at hw
      simp only [DataW.weights, Try.underlying34] at hw
      have hwt : ∀ (j : Nat) (t : TypeId) (d : DataW H), [9, 9, 32][j]? = some t → ([y0, y1, y2].map (·.1))[j]? = some d → ∀ y ∈ d.weights Try.prog t, y ≤ reachBytes := fun j t d h1 h2 y hy => hw y (DataW.weights_mem_each (j := j) h1 h2 y hy)
      obtain ⟨sa, ha, hya, -⟩ := DataW.trod_string Try.underlying9 (show DataW.trod enc Try.prog W 0 (fun _ => true) true n 9 [c0] = some y0 from by simpa [k2] using hf 0 _ rfl)
      obtain ⟨sb, hb, hyb, -⟩ := DataW.trod_string Try.underlying9 (show DataW.trod enc Try.prog W 0 (fun _ => true) true n 9 [c1] = some y1 from by simpa [k2] using hf 1 _ rfl)
      obtain ⟨m, e, sp, lp⟩ := slice_at (show DataW.trod enc Try.prog W 0 (fun _ => true) true n 32 [c2] = some y2 from by simpa [k4] using hf 2 _ rfl) (hwt 2 _ _ rfl rfl)
      simp at ha hb
      subst ha hb
      have la : sa.size ≤ reachBytes := by
        have := hwt 0 _ _ rfl rfl sa.data.toList.length (by rw [hya]; simp [DataW.weights])
        simpa using this
      have lb : sb.size ≤ reachBytes := by
        have := hwt 1 _ _ rfl rfl sb.data.toList.length (by rw [hyb]; simp [DataW.weights])
        simpa using this
      simp only [reachBytes] at la lb
      exact ⟨⟨0, ⟨sa, sb, m, e, by omega, by omega⟩, c2⟩, rfl, ⟨sp, lp, by show sa.size ≤ _; omega, by show sb.size ≤ _; omega⟩⟩
theorem op12_cells {fuel : Nat} {cs : List Value} {x : DataW H × List MemPlace} (h : DataW.trod enc Try.prog W 0 (fun _ => true) true fuel 36 cs = some x) (hw : ∀ y ∈ x.1.weights Try.prog 36, y ≤ reachBytes) : ∃ p : OpN, cs = p.vals ∧ LtIn W p := by
  obtain ⟨xs, n, _, hx, hl, hlen, hf⟩ := DataW.trod_struct Try.underlying36 h
  rw [show Try.prog.cellsOf 36 = 4 by kernel_rfl] at hl
  have k1 : Try.prog.cellsOf 3 = 1 := by kernel_rfl
  have k3 : Try.prog.cellsOf 34 = 3 := by kernel_rfl
  match xs, hlen with
  | [y0, y1], _ =>
    match cs, hl with
    | [c0, c1, c2, c3], _ =>
      rw [hx] at hw
      simp only [DataW.weights, Try.underlying36] at hw
      obtain ⟨u0, hu0, -, -⟩ := DataW.trod_int Try.underlying3 (show DataW.trod enc Try.prog W 0 (fun _ => true) true n 3 [c0] = some y0 from by simpa [k1] using hf 0 _ rfl)
      obtain ⟨p, hp, hi⟩ := let_cells (show DataW.trod enc Try.prog W 0 (fun _ => true) true n 34 [c1, c2, c3] = some y1 from by simpa [k1, k3] using hf 1 _ rfl) (fun y hy => hw y (DataW.weights_mem_each (ts := [3, 34]) (j := 1) rfl rfl y hy))
      simp [OpN.lets] at hu0 hp
      obtain ⟨rfl, rfl, rfl⟩ := hp
      subst hu0
      exact ⟨⟨u0, p.x, p.bv⟩, rfl, ⟨hi.read, hi.n, hi.f, hi.t⟩⟩
/-- Rows of s cells each, whatever is sure of each. -/
theorem rows_in {te ts : TypeId} {s : Nat} (hu : Try.prog.underlying ts = some (.slice te)) (hC : Try.prog.cellsOf te = s) (V : OpN → List Value) (h0 : ∀ p, ∃ u, (V p)[0]? = some u) (hV : ∀ p, (V p).length = s)
    (hcells : ∀ {fuel : Nat} {cs : List Value} {x : DataW H × List MemPlace}, DataW.trod enc Try.prog W 0 (fun _ => true) true fuel te cs = some x → (∀ y ∈ x.1.weights Try.prog te, y ≤ reachBytes) → ∃ p : OpN, cs = V p ∧ LtIn W p)
    {a : Option Addr} {len cap : Nat} {d : DataW H} {p : List MemPlace} (h : DataW.Trod enc Try.prog W 0 (fun _ => true) true ts (.slice a len cap) d p) (hw : ∀ y ∈ d.weights Try.prog ts, y ≤ reachBytes) :
    ∃ X : Nat → OpN, RowsAt W s len (fun i => V (X i)) (.slice a len cap) ∧ ∀ i, i < len → LtIn W (X i) := by
  obtain ⟨fuel, hf⟩ := h
  rcases open_slice hu hf with ⟨hcs, _⟩ | ⟨x, l, c, m, n, D, Pl, hcs, _, hl, _, hm, hx, hi⟩
  · simp [Value.cells] at hcs
    obtain ⟨rfl, rfl, rfl⟩ := hcs
    exact ⟨fun _ => default, ⟨none, 0, rfl, fun h => by omega⟩, fun i hi => by omega⟩
  · simp [Value.cells] at hcs
    obtain ⟨rfl, rfl, rfl⟩ := hcs
    simp only [Prod.mk.injEq] at hx
    have hd := hx.1
    have hwD : ∀ i, i < len → ∀ y ∈ (D i).weights Try.prog te, y ≤ reachBytes := fun i hi y hy => by
      refine hw y ?_
      rw [hd]
      simp only [DataW.weights, hu, List.mem_cons, List.mem_append]
      exact .inr (.inl (weights_mem _ _ _ (D i) (by simp; exact ⟨i, by omega, rfl⟩) y hy))
    have key : ∀ i, i < len → ∃ X : OpN, LtIn W X ∧ ∀ j u, (V X)[j]? = some u → W.cell? (x.add (i * s + j)) = some u := fun i hlt => by
      obtain ⟨cs', h1, h2⟩ := hi i (by simp at hm; omega)
      rw [hC] at h1
      obtain ⟨X, rfl, hX⟩ := hcells h2 (hwD i hlt)
      obtain ⟨_, _, hat⟩ := World.cells?_some h1
      refine ⟨X, hX, fun j u hj => ?_⟩
      have hj3 : j < s := by have := (List.getElem?_eq_some_iff.1 hj).1; rw [hV] at this; exact this
      have a0 := hat j hj3
      rw [add_add] at a0
      rw [a0]
      exact hj
    obtain ⟨X, hX⟩ := choose_lt (α := OpN) (p := fun i X => LtIn W X ∧ ∀ j u, (V X)[j]? = some u → W.cell? (x.add (i * s + j)) = some u) key
    refine ⟨X, ⟨some x, cap, rfl, fun hm1 => ?_⟩, fun i hi => (hX i hi).1⟩
    obtain ⟨u0, hu0⟩ := h0 (X 0)
    have h0 := (hX 0 (by omega)).2 0 _ hu0
    obtain ⟨b, o, q⟩ := x
    have hsp : q = none := by
      cases q with
      | none => rfl
      | some y =>
        simp [Addr.add, World.cell?] at h0
        split at h0 <;> cases h0
    subst hsp
    refine ⟨b, o, rfl, ?_, fun i hi j u hj => ?_⟩
    · have := block_lt_of_cell h0
      simp [Addr.add] at this
      omega
    · have hc := (hX i hi).2 j u hj
      rw [Addr.add_mid, ← Nat.add_assoc] at hc
      exact hc
theorem ops12_in {a : Option Addr} {len cap : Nat} {d : DataW H} {p : List MemPlace} (h : DataW.Trod enc Try.prog W 0 (fun _ => true) true 22 (.slice a len cap) d p) (hw : ∀ y ∈ d.weights Try.prog 22, y ≤ reachBytes) : ∃ X, OpsIn W len X (.slice a len cap) := by
  obtain ⟨X, h1, h2⟩ := rows_in Try.underlying22 (by kernel_rfl) OpN.vals (fun p => ⟨_, rfl⟩) (s := 4) (fun p => rfl) op12_cells h hw
  exact ⟨X, h1, h2⟩
theorem lets_in {a : Option Addr} {len cap : Nat} {d : DataW H} {p : List MemPlace} (h : DataW.Trod enc Try.prog W 0 (fun _ => true) true 51 (.slice a len cap) d p) (hw : ∀ y ∈ d.weights Try.prog 51, y ≤ reachBytes) : ∃ X, LetsIn W len X (.slice a len cap) := by
  obtain ⟨X, h1, h2⟩ := rows_in Try.underlying51 (by kernel_rfl) OpN.lets (fun p => ⟨_, rfl⟩) (s := 3) (fun p => rfl) let_cells h hw
  exact ⟨X, h1, h2⟩
end
end Go.Proofs.Ytefghgoeppfpfaa.Net
