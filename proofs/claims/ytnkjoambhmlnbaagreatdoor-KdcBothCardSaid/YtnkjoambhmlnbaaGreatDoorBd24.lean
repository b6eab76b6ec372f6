/-
  Slices of elements of several cells each, as laws' arguments are opened; what is sure of each element. A book as a law's argument.
-/
import Derived.Test.YtnkjoambhmlnbaaGreatDoorBd01
import Derived.Test.YtnkjoambhmlnbaaGreatDoorBd04
import Derived.Test.YtnkjoambhmlnbaaGreatDoorProg
import Derived.Test.YtnkjoambhmlnbaaGreatDoorBd05
import Derived.Test.YtnkjoambhmlnbaaGreatDoorBd25
import Derived.Deep.Slices
import Derived.SizedLaws
import Derived.OpenShut
import Derived.ChangeOld
import Derived.Lib.SmallJoins
namespace Go.Proofs.YtnkjoambhmlnbaaGreatDoor.Aid
open Go Go.ChangeShapes Go.WideShapes Go.ChangeAt Go.RowKit Go.Deep Go.Proofs.YtnkjoambhmlnbaaGreatDoor.Field

section
variable {H : Type} {enc : TypeId × Value → H} {W : World} {α : Type} [Inhabited α] {I : α → Prop}
/-- Rows of s cells each, whatever is sure of each. -/
theorem rows_in {te ts : TypeId} {s : Nat} (hu : Tryz.prog.underlying ts = some (.slice te)) (hC : Tryz.prog.cellsOf te = s) (V : α → List Value) (h0 : ∀ p, ∃ u, (V p)[0]? = some u) (hV : ∀ p, (V p).length = s)
    (hcells : ∀ {fuel : Nat} {cs : List Value} {x : DataW H × List MemPlace}, DataW.trod enc Tryz.prog W 0 (fun _ => true) true fuel te cs = some x → (∀ y ∈ x.1.weights Tryz.prog te, y ≤ reachBytes) → ∃ p : α, cs = V p ∧ I p)
    {a : Option Addr} {len cap : Nat} {d : DataW H} {p : List MemPlace} (h : DataW.Trod enc Tryz.prog W 0 (fun _ => true) true ts (.slice a len cap) d p) (hw : ∀ y ∈ d.weights Tryz.prog ts, y ≤ reachBytes) :
    ∃ X : Nat → α, RowsAt W s len (fun i => V (X i)) (.slice a len cap) ∧ ∀ i, i < len → I (X i) := by
  obtain ⟨fuel, hf⟩ := h
  rcases open_slice hu hf with ⟨hcs, _⟩ | ⟨x, l, c, m, n, D, Pl, hcs, _, hl, _, hm, hx, hi⟩
  · simp [Value.cells] at hcs
    obtain ⟨rfl, rfl, rfl⟩ := hcs
    exact ⟨fun _ => default, ⟨none, 0, rfl, fun h => by omega⟩, fun i hi => by omega⟩
  · simp [Value.cells] at hcs
    obtain ⟨rfl, rfl, rfl⟩ := hcs
    simp only [Prod.mk.injEq] at hx
    have hd := hx.1
    have hwD : ∀ i, i < len → ∀ y ∈ (D i).weights Tryz.prog te, y ≤ reachBytes := fun i hi y hy => by
      refine hw y ?_
      rw [hd]
      simp only [DataW.weights, hu, List.mem_cons, List.mem_append]
      exact .inr (.inl (weights_mem _ _ _ (D i) (by simp; exact ⟨i, by omega, rfl⟩) y hy))
    have key : ∀ i, i < len → ∃ X : α, I X ∧ ∀ j u, (V X)[j]? = some u → W.cell? (x.add (i * s + j)) = some u := fun i hlt => by
      obtain ⟨cs', h1, h2⟩ := hi i (by simp at hm; omega)
      rw [hC] at h1
      obtain ⟨X, rfl, hX⟩ := hcells h2 (hwD i hlt)
      obtain ⟨_, _, hat⟩ := World.cells?_some h1
      refine ⟨X, hX, fun j u hj => ?_⟩
      have hj3 : j < s := by have := (List.getElem?_eq_some_iff.1 hj).1; rw [hV] at this; exact this
      have a0 := hat j hj3
      rw [add_add] at a0
      rw [a0]
      exact hj
    obtain ⟨X, hX⟩ := choose_lt (α := α) (p := fun i X => I X ∧ ∀ j u, (V X)[j]? = some u → W.cell? (x.add (i * s + j)) = some u) key
    refine ⟨X, ⟨some x, cap, rfl, fun hm1 => ?_⟩, fun i hi => (hX i hi).1⟩
    obtain ⟨u0, hu0⟩ := h0 (X 0)
    have h0 := (hX 0 (by omega)).2 0 _ hu0
    obtain ⟨b, o, q⟩ := x
    have hsp : q = none := by
      cases q with
      | none => rfl
      | some y =>
        simp [Addr.add, World.cell?] at h0
        split at h0 <;> cases h0
    subst hsp
    refine ⟨b, o, rfl, ?_, fun i hi j u hj => ?_⟩
    · have := block_lt_of_cell h0
      simp [Addr.add] at this
      omega
    · have hc := (hX i hi).2 j u hj
      rw [Addr.add_mid, ← Nat.add_assoc] at hc
      exact hc
end
end Go.Proofs.YtnkjoambhmlnbaaGreatDoor.Aid
namespace Go.Proofs.YtnkjoambhmlnbaaGreatDoor.Book
open Go Go.ChangeShapes Go.WideShapes Go.ChangeAt Go.RowKit Go.Deep Go.Proofs.YtnkjoambhmlnbaaGreatDoor.Aid Go.Proofs.YtnkjoambhmlnbaaGreatDoor.Law01 Go.Proofs.YtnkjoambhmlnbaaGreatDoor.Field

section
variable {H : Type} {enc : TypeId × Value → H} {W : World}
theorem at_cut {cs : List Value} {o n i : Nat} {v : Value} (h : ((cs.drop o).take n)[i]? = some v) : cs[o + i]? = some v := by
  rw [List.getElem?_take] at h
  split at h
  · rw [List.getElem?_drop] at h; exact h
  · cases h
theorem word_list {cs : List Value} (hl : cs.length = 16) (h : ∀ i, i < 16 → cs[i]? = some (.int .u8 ((blkAt cs i).toNat : Int))) : cs = (List.range 16).map (wordF ((List.range 16).map (blkAt cs))) := by
  apply List.ext_getElem?
  intro i
  by_cases hi : i < 16
  · rw [h i hi, List.getElem?_map, List.getElem?_range hi]
    simp only [Option.map_some]
    unfold wordF
    rw [List.getD_eq_getElem?_getD, List.getElem?_map, List.getElem?_range hi]
    rfl
  · rw [List.getElem?_eq_none (by omega), List.getElem?_eq_none (by simp; omega)]
theorem word_cells {fuel : Nat} {cs : List Value} {x : DataW H × List MemPlace} (h : DataW.trod enc Tryz.prog W 0 (fun _ => true) true fuel 25 cs = some x) : ∃ k : Wd, cs = (List.range 16).map (wordF k) ∧ k.length = 16 := by
  obtain ⟨hl, hxx⟩ := arr_list Tryz.underlying25 Tryz.underlying5 (by kernel_rfl) (by kernel_rfl) h
  exact ⟨_, word_list hl hxx, by simp⟩
theorem ent_cells {fuel : Nat} {cs : List Value} {x : DataW H × List MemPlace} (h : DataW.trod enc Tryz.prog W 0 (fun _ => true) true fuel 47 cs = some x) : ∃ p : ByteArray × Wd, cs = (List.range 17).map (entF p) ∧ p.2.length = 16 := by
  obtain ⟨xs, n, _, hx, hl, hlen, hf⟩ := DataW.trod_struct Tryz.underlying47 h
  rw [show Tryz.prog.cellsOf 47 = 17 by kernel_rfl] at hl
  have k2 : Tryz.prog.cellsOf 9 = 1 := by kernel_rfl
  have k3 : Tryz.prog.cellsOf 25 = 16 := by kernel_rfl
  match xs, hlen with
  | [y0, y1], _ =>
    have g0 : DataW.trod enc Tryz.prog W 0 (fun _ => true) true n 9 ((cs.drop 0).take 1) = some y0 := by simpa [k2] using hf 0 _ rfl
    have g1 : DataW.trod enc Tryz.prog W 0 (fun _ => true) true n 25 ((cs.drop 1).take 16) = some y1 := by rw [← k3]; exact hf 1 _ rfl
    obtain ⟨sa, ha, -, -⟩ := DataW.trod_string Tryz.underlying9 g0
    obtain ⟨k, hk, hkl⟩ := word_cells g1
    refine ⟨(sa, k), ?_, hkl⟩
    apply List.ext_getElem?
    intro i
    by_cases hi : i < 17
    · rw [List.getElem?_map, List.getElem?_range hi]
      simp only [Option.map_some]
      unfold entF
      by_cases h0 : i = 0
      · subst h0
        rw [if_pos rfl]
        exact at_cut (o := 0) (n := 1) (i := 0) (by rw [ha]; rfl)
      · rw [if_neg h0]
        have := at_cut (o := 1) (n := 16) (i := i - 1) (cs := cs) (v := wordF k (i - 1)) (by rw [hk, List.getElem?_map, List.getElem?_range (by omega)]; rfl)
        rw [show 1 + (i - 1) = i by omega] at this
        exact this
    · rw [List.getElem?_eq_none (by omega), List.getElem?_eq_none (by simp; omega)]
instance : Inhabited (ByteArray × Wd) := ⟨(nos, zw)⟩
theorem slice_form {ts te : TypeId} (hu : Tryz.prog.underlying ts = some (.slice te)) {fuel : Nat} {u : Value} {x : DataW H × List MemPlace} (h : DataW.trod enc Tryz.prog W 0 (fun _ => true) true fuel ts [u] = some x) : ∃ a len cap, u = .slice a len cap ∧ DataW.Trod enc Tryz.prog W 0 (fun _ => true) true ts (.slice a len cap) x.1 x.2 := by
  rcases open_slice hu h with ⟨hcs, _⟩ | ⟨y, l, c, m, n, D, Pl, hcs, _⟩
  · simp at hcs
    subst hcs
    exact ⟨none, 0, 0, rfl, fuel, h⟩
  · simp at hcs
    subst hcs
    exact ⟨_, _, _, rfl, fuel, h⟩
set_option maxRecDepth 100000 in
theorem book_in {r : Go.Reach} {b0 : Nat} {v : Value} {d : DataW H} {ps : List MemPlace} (hval : Value.okWide Tryz.prog W r b0 27 v) (hd : DataW.Trod enc Tryz.prog W 0 (fun _ => true) true 27 v d ps) (hw : ∀ y ∈ d.weights Tryz.prog 27, y ≤ reachBytes) :
    ∃ (b : Bk) (Lv Rv : Value), v = bookV b Lv Rv ∧ BookRaw W b Lv Rv := by
  obtain ⟨fuel, h⟩ := hd
  obtain ⟨xs, n, _, hx, hl, hlen, hf⟩ := DataW.trod_struct Tryz.underlying27 h
  rw [show Tryz.prog.cellsOf 27 = 19 by kernel_rfl] at hl
  have k1 : Tryz.prog.cellsOf 3 = 1 := by kernel_rfl
  have k2 : Tryz.prog.cellsOf 22 = 1 := by kernel_rfl
  have k3 : Tryz.prog.cellsOf 25 = 16 := by kernel_rfl
  have k4 : Tryz.prog.cellsOf 23 = 1 := by kernel_rfl
  simp only [Value.okWide, Tryz.underlying27] at hval
  obtain ⟨X, rfl, -, _⟩ := hval
  simp only [Value.cells] at hl hf
  match xs, hlen with
  | [y0, y1, y2, y3], _ =>
    simp only [Prod.mk.injEq] at hx
    rw [hx.1] at hw
    simp only [DataW.weights, Tryz.underlying27] at hw
    have g0 : DataW.trod enc Tryz.prog W 0 (fun _ => true) true n 22 ((X.toList.drop 0).take 1) = some y0 := by rw [← k2]; exact hf 0 _ rfl
    have g1 : DataW.trod enc Tryz.prog W 0 (fun _ => true) true n 23 ((X.toList.drop 1).take 1) = some y1 := by rw [← k4]; exact hf 1 _ rfl
    have g2 : DataW.trod enc Tryz.prog W 0 (fun _ => true) true n 3 ((X.toList.drop 2).take 1) = some y2 := by rw [← k1]; exact hf 2 _ rfl
    have g3 : DataW.trod enc Tryz.prog W 0 (fun _ => true) true n 25 ((X.toList.drop 3).take 16) = some y3 := by rw [← k3]; exact hf 3 _ rfl
    have hwt : ∀ (j : Nat) (t : TypeId) (d : DataW H), [22, 23, 3, 25][j]? = some t → ([y0, y1, y2, y3].map (·.1))[j]? = some d → ∀ y ∈ d.weights Tryz.prog t, y ≤ reachBytes := fun j t d ht hd y hy => hw y (DataW.weights_mem_each ht hd y hy)
    obtain ⟨u0, hu0, c0⟩ : ∃ u, (X.toList.drop 0).take 1 = [u] ∧ X.toList[0]? = some u := ⟨X.toList[0]'(by omega), by rw [List.drop_eq_getElem_cons (by omega)]; rfl, List.getElem?_eq_getElem (by omega)⟩
    obtain ⟨u1, hu1, c1⟩ : ∃ u, (X.toList.drop 1).take 1 = [u] ∧ X.toList[1]? = some u := ⟨X.toList[1]'(by omega), by rw [List.drop_eq_getElem_cons (by omega)]; rfl, List.getElem?_eq_getElem (by omega)⟩
    rw [hu0] at g0
    rw [hu1] at g1
    obtain ⟨z, hz, -, -⟩ := DataW.trod_int Tryz.underlying3 g2
    obtain ⟨k, hk, hkl⟩ := word_cells g3
    obtain ⟨a0, len0, cap0, rfl, h0⟩ := slice_form Tryz.underlying22 g0
    obtain ⟨a1, len1, cap1, rfl, h1⟩ := slice_form Tryz.underlying23 g1
    obtain ⟨E, hE, hEk⟩ := rows_in (α := ByteArray × Wd) (I := fun p => p.2.length = 16) Tryz.underlying22 (by kernel_rfl) (fun p => (List.range 17).map (entF p)) (fun p => ⟨_, rfl⟩) (s := 17) (fun p => by simp) (fun h _ => ent_cells h) h0 (hwt 0 _ _ rfl rfl)
    obtain ⟨K, hK, hKk⟩ := rows_in (α := Wd) (I := fun p => p.length = 16) Tryz.underlying23 (by kernel_rfl) (fun p => (List.range 16).map (wordF p)) (fun p => ⟨_, rfl⟩) (s := 16) (fun p => by simp) (fun h _ => word_cells h) h1 (hwt 1 _ _ rfl rfl)
    have hEl : ((List.range len0).map E).length = len0 := by simp
    have hKl : ((List.range len1).map K).length = len1 := by simp
    refine ⟨⟨(List.range len0).map E, (List.range len1).map K, z, k⟩, .slice a0 len0 cap0, .slice a1 len1 cap1, ?_, ⟨?_, ?_, fun p hp => ?_, fun p hp => ?_, hkl⟩⟩
    · unfold bookV
      rw [eq_cellsOf (n := 19) (c := X) (f := bookF ⟨(List.range len0).map E, (List.range len1).map K, z, k⟩ (.slice a0 len0 cap0) (.slice a1 len1 cap1)) (by simpa using hl) (fun i hi => ?_)]
      rw [← Array.getElem?_toList]
      unfold bookF
      by_cases e0 : i = 0
      · subst e0; exact c0
      by_cases e1 : i = 1
      · subst e1; exact c1
      by_cases e2 : i = 2
      · subst e2
        exact at_cut (o := 2) (n := 1) (i := 0) (by rw [hz]; rfl)
      rw [if_neg e0, if_neg e1, if_neg e2]
      have := at_cut (o := 3) (n := 16) (i := i - 3) (cs := X.toList) (v := wordF k (i - 3)) (by rw [hk, List.getElem?_map, List.getElem?_range (by omega)]; rfl)
      rw [show 3 + (i - 3) = i by omega] at this
      exact this
    · show RowsAt W 17 ((List.range len0).map E).length _ _
      rw [hEl]
      obtain ⟨A, c, hv, hr⟩ := hE
      refine ⟨A, c, hv, fun hm => ?_⟩
      obtain ⟨bb, o, hA, hlt, hc⟩ := hr hm
      refine ⟨bb, o, hA, hlt, fun i hi j u hu => hc i hi j u ?_⟩
      have hq : ((List.range len0).map E).getD i (nos, zw) = E i := by rw [List.getD_eq_getElem?_getD, List.getElem?_map, List.getElem?_range hi]; rfl
      have hu' : ((List.range 17).map (entF (((List.range len0).map E).getD i (nos, zw))))[j]? = some u := hu
      rw [hq] at hu'
      exact hu'
    · show RowsAt W 16 ((List.range len1).map K).length _ _
      rw [hKl]
      obtain ⟨A, c, hv, hr⟩ := hK
      refine ⟨A, c, hv, fun hm => ?_⟩
      obtain ⟨bb, o, hA, hlt, hc⟩ := hr hm
      refine ⟨bb, o, hA, hlt, fun i hi j u hu => hc i hi j u ?_⟩
      have hq : ((List.range len1).map K).getD i zw = K i := by rw [List.getD_eq_getElem?_getD, List.getElem?_map, List.getElem?_range hi]; rfl
      have hu' : ((List.range 16).map (wordF (((List.range len1).map K).getD i zw)))[j]? = some u := hu
      rw [hq] at hu'
      exact hu'
    · obtain ⟨i, hi, rfl⟩ := List.mem_map.1 hp
      exact hEk i (List.mem_range.1 hi)
    · obtain ⟨i, hi, rfl⟩ := List.mem_map.1 hp
      exact hKk i (List.mem_range.1 hi)
end
end Go.Proofs.YtnkjoambhmlnbaaGreatDoor.Book
