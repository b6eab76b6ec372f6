/-
  Proved: bartizanlaw01.ShaParts returns true for every list of slices of bytes that is of bulk at most 1048576, and leaves it as it was; conditions: that bound, and the two tables of package sha hold what their initialisers lay, which the card ties to the program's text.
-/
import Derived.Test.YtnfpfpbanbjhjaaDoorLaw01Laid
import Derived.Test.YtnfpfpbanbjhjaaDoorLaw01Parts
import Derived.Deep.Slices
namespace Go.Proofs.YtnfpfpbanbjhjaaDoor.Law01.Parts
open Go Go.ChangeShapes Go.WideShapes Go.ChangeAt Go.RowKit Go.Proofs.YtnfpfpbanbjhjaaDoor.Aid Go.Proofs.YtnfpfpbanbjhjaaDoor.Sha

theorem bulk_lits {H : Type} (k : IntKind) (l : List Int) : l.length ≤ Rows.uptoBulkAll (lits (H := H) k l) := by
  induction l with
  | nil => simp [lits, Rows.uptoBulkAll]
  | cons x l ih =>
    simp only [lits, List.map_cons, Rows.uptoBulkAll, List.length_cons] at ih ⊢
    simp only [Rows.uptoBulk]
    omega
/-- A slice of bytes wherever it is read. -/
theorem slice_at {H : Type} {enc : TypeId × Value → H} {W : World} {fuel : Nat} {u : Value} {x : DataW H × List MemPlace}
    (h : DataW.trod enc Tryd.prog W 0 (fun _ => true) true fuel 22 [u] = some x) : ∃ (n : Nat) (e : Nat → BitVec 8), SliceOf W W.heap.size n e u ∧ n ≤ Rows.uptoBulk x.1 := by
  rcases open_ints Tryd.underlying22 Tryd.underlying5 (by kernel_rfl) h with ⟨hcs, _⟩ | ⟨a, l, c, zs, hcs, _, hl, _, hz, hx, _, _⟩
  · simp at hcs
    subst hcs
    exact ⟨0, fun _ => 0, SliceOf.nil _ _ _, Nat.zero_le _⟩
  · simp at hcs
    subst hcs
    obtain ⟨e, he⟩ := slice_in (enc := enc) (W := W) (a := some a) (len := l) (cap := c) (d := x.1) (p := x.2) ⟨fuel, by simpa [Value.cells] using h⟩
    refine ⟨l, e, he, ?_⟩
    rw [hx]
    have := bulk_lits (H := H) .u8 (zs.take l)
    have hz' : zs.length = c := by simpa using hz
    simp only [List.length_take] at this
    simp only [Rows.uptoBulk]
    omega
theorem bulk_snoc {H : Type} (l : List (DataW H)) (d : DataW H) : Rows.uptoBulkAll (l ++ [d]) = Rows.uptoBulkAll l + Rows.uptoBulk d := by
  induction l with
  | nil => simp [Rows.uptoBulkAll]
  | cons x l ih => simp only [List.cons_append, Rows.uptoBulkAll, ih]; omega
theorem bulk_pos {H : Type} (d : DataW H) : 1 ≤ Rows.uptoBulk d := by
  cases d with
  | lit l => cases l <;> simp [Rows.uptoBulk]
  | _ => simp [Rows.uptoBulk]
theorem off_le {H : Type} (m : Nat → Nat) (D : Nat → DataW H) (len : Nat) (h : ∀ i, i < len → m i ≤ Rows.uptoBulk (D i)) : off m len ≤ Rows.uptoBulkAll ((List.range len).map D) ∧ len ≤ Rows.uptoBulkAll ((List.range len).map D) := by
  induction len with
  | zero => exact ⟨Nat.zero_le _, Nat.zero_le _⟩
  | succ n ih =>
    have h1 := ih (fun i hi => h i (by omega))
    have h2 := h n (by omega)
    have h3 := bulk_pos (D n)
    rw [List.range_succ, List.map_append, List.map_cons, List.map_nil, bulk_snoc]
    show off m n + m n ≤ _ ∧ _
    omega
/-- A list of slices of bytes that came in, as the walk takes it. -/
theorem parts_in {H : Type} {enc : TypeId × Value → H} {W : World} {a : Option Addr} {len cap : Nat} {d : DataW H} {p : List MemPlace}
    (h : DataW.Trod enc Tryd.prog W 0 (fun _ => true) true 27 (.slice a len cap) d p) :
    ∃ (m : Nat → Nat) (e : Nat → Nat → BitVec 8), PartsOf W len m e (.slice a len cap) ∧ off m len ≤ Rows.uptoBulk d ∧ len ≤ Rows.uptoBulk d := by
  obtain ⟨fuel, hf⟩ := h
  rcases Deep.open_slice1 Tryd.underlying27 (by kernel_rfl) hf with ⟨hcs, _⟩ | ⟨x, l, c, k, n, V, D, Pl, hcs, _, hl, _, hk, hx, hV⟩
  · simp [Value.cells] at hcs
    obtain ⟨rfl, rfl, rfl⟩ := hcs
    exact ⟨fun _ => 0, fun _ _ => 0, ⟨none, 0, rfl, fun h0 => absurd h0 (by omega)⟩, Nat.zero_le _, Nat.zero_le _⟩
  · simp [Value.cells] at hcs
    obtain ⟨rfl, rfl, rfl⟩ := hcs
    have hk' : k = cap := by simpa using hk
    have hparts : ∀ i, i < len → ∃ me : Nat × (Nat → BitVec 8), SliceOf W W.heap.size me.1 me.2 (V i) ∧ me.1 ≤ Rows.uptoBulk (D i) := fun i hi => by
      obtain ⟨n', e', h1, h2⟩ := slice_at (hV i (by omega)).2
      exact ⟨(n', e'), h1, h2⟩
    haveI : Inhabited (Nat × (Nat → BitVec 8)) := ⟨(0, fun _ => 0)⟩
    obtain ⟨f, hfp⟩ := Deep.choose_lt hparts
    simp only [Prod.mk.injEq] at hx
    have hd := hx.1
    have hle := off_le (fun i => (f i).1) D len (fun i hi => (hfp i hi).2)
    refine ⟨fun i => (f i).1, fun i => (f i).2, ⟨some x, cap, rfl, fun h0 => ?_⟩, ?_, ?_⟩
    · have hc0 := (hV 0 (by omega)).1
      obtain ⟨b, o, sp⟩ := x
      have hsp : sp = none := by
        cases sp with
        | none => rfl
        | some y =>
          simp [Addr.add, World.cell?] at hc0
          split at hc0 <;> cases hc0
      subst hsp
      refine ⟨b, o, rfl, fun i hi => ⟨V i, ?_, (hfp i hi).1⟩⟩
      have := (hV i (by omega)).1
      rw [Addr.add_mid] at this
      exact this
    · rw [hd]
      simp only [Rows.uptoBulk]
      omega
    · rw [hd]
      simp only [Rows.uptoBulk]
      omega

theorem contract (H : Type) (enc : TypeId × Value → H) (W : World) (base : Nat) (args : Array Value) (ds gs : List (DataW H)) (before : List MemPlace)
    (hval : ∀ (j : Nat) t v, Tryd.f4.params[j]? = some t → args[j]? = some v → Value.okWide Tryd.prog W .any base t v)
    (hW : DataW.Whole enc Tryd.prog Tryd.f4.params.toList Rows.shaPartsSpec.vars false W args.toList ds gs before) (hsmall : Rows.uptoSmall H (ds ++ gs) = true) (hL : laidMetH Tryd.prog Rows.shaPartsUptoRow.laid W) :
    Calls Tryd.prog 4 args W fun e W' => ∃ v, e = .returned v ∧ Rows.shaPartsSpec.post enc Tryd.prog Tryd.f4 false true false false W args v W' := by
  have hW' := hW
  obtain ⟨p, q, hA0, hV, rfl, hfz, hnd⟩ := hW
  have hA : DataW.TrodAll enc Tryd.prog W 0 (fun _ => true) true Tryd.f4.params.toList args.toList ds p := hA0
  rw [Tryd.params4] at hA hval
  obtain ⟨v0, vs0, d0, ds0, p0, q0, hargs, rfl, rfl, h0, r0⟩ := trodAll_cons hA
  obtain ⟨rfl, rfl, rfl⟩ := trodAll_nil r0
  obtain rfl : args = #[v0] := by cases args; simp_all
  obtain ⟨rfl, rfl⟩ := trodVars_none hV
  obtain ⟨a0, len0, cap0, rfl⟩ := okWide_slice Tryd.underlying27 (hval 0 27 v0 rfl rfl)
  have k0 := h0
  have lt0 : ∀ x ∈ p0, x.block < W.heap.size := by obtain ⟨m, hm⟩ := k0; exact DataW.trod_lt m _ _ _ hm
  obtain ⟨m, e, hp, hb1, hb2⟩ := parts_in h0
  have hle : Rows.uptoBulkAll [d0] ≤ 1048576 := by
    have := of_decide_eq_true hsmall
    simpa using this
  simp only [Rows.uptoBulkAll] at hle
  clear hA0
  refine (parts_any len0 m e _ W (consts_of hL) hp (by omega) (by omega)).mono fun e W' ⟨he, bel⟩ => ?_
  subst he
  exact ⟨_, rfl, _, _, _, [], _, [], hW', trodAll_mk1 (shut_bool Tryd.underlying4 _), (trodAll_cons_mk (Below.trod laidOut (by kernel_rfl) (of_decide_eq_true (by kernel_rfl)) k0 bel lt0) trodAll_mk0), rfl, bel.frame _, fun h => by cases h⟩

theorem laid_met (os : Os) : laidMet Tryd.prog Rows.shaPartsUptoRow.laid ((laidWorld os).forCall (fun _ _ => 0) ⟨#[], #[.slice none 0 0], []⟩).memory :=
  laidMet_of_run' 8 (by kernel_rfl) (by kernel_rfl)
theorem reads (os : Os) {H : Type} (enc : TypeId × Value → H) : ∃ places, DataW.whole enc Tryd.prog ((laidWorld os).forCall (fun _ _ => 0) ⟨#[], #[.slice none 0 0], []⟩).memory Tryd.f4.params.toList Rows.shaPartsSpec.vars false #[Value.slice none 0 0].toList 8 = some ([.nil], [], places) :=
  ⟨[], by kernel_rfl⟩

set_option maxRecDepth 100000 in
theorem lifted (os : Os) (started : os.Started) (H : Type) (enc : TypeId × Value → H) (F : Stop.Interp) :
    ReturnsInHanded {} Tryd.checked os 4 .any ((Rows.OpenSpec.upto Rows.shaPartsSpec).preRow enc Tryd.prog Tryd.f4 Rows.shaPartsUptoRow.domain false Rows.shaPartsUptoRow.laid) (((Rows.OpenSpec.upto Rows.shaPartsSpec).at F).post enc Tryd.prog Tryd.f4 false true false false) := by
  obtain ⟨places, hx⟩ := reads os enc
  refine returnsInHanded_of_row (C := Tryd.checked) (s := Rows.OpenSpec.upto Rows.shaPartsSpec) own started (by kernel_rfl) Tryd.func4
    (witness_row_at (enc := enc) (C := Tryd.checked) false (laidWorld os) #[.slice none 0 0] rfl (by kernel_rfl) (by kernel_rfl) (by kernel_rfl)
      (OpenSpec.preRow_of_cond 8 hx (by kernel_rfl) (fun k hk => by cases hk; kernel_rfl) (by kernel_rfl) (laid_met os))) ?_
  intro W base args ds gs before hval hW _ hcond _ hL _ _
  exact contract H enc W base args ds gs before hval hW (hcond _ rfl) hL

theorem saidUpto : Rows.ShaPartsUptoSaid :=
  OpenClaim.holds_of_cond 4 Tryd.f4 rfl rfl rfl rfl rfl rfl rfl ⟨rfl, rfl, rfl, rfl, rfl⟩ rfl rfl rfl rfl rfl (by kernel_rfl) Tryd.func4 (by kernel_rfl)
    (of_decide_eq_true (by kernel_rfl)) (by unfold Func.isWrapper; first | (rw [if_pos (by decide +kernel)]; kernel_rfl) | (rw [if_neg (by decide +kernel)]; exact ⟨rfl, rfl⟩))
    (fun os started H enc _ F => by rw [OpenClaim.pre_eq_preRow]; exact lifted os started H enc F)

theorem plain (f : FuncId) (fn : Func) (hf : Tryd.pinned.checked.prog.funcNamed "bartizan/bartizanlaw01.ShaParts" = some f) (hfn : Tryd.pinned.checked.prog.funcs[f]? = some fn) :
    false = Tryd.pinned.checked.prog.looks [] ∧ ∀ (j : Nat) t, fn.params[j]? = some t → Tryd.pinned.checked.prog.wantsStandIn t = false := by
  obtain rfl : f = 4 := Option.some.inj ((show Tryd.prog.funcNamed "bartizan/bartizanlaw01.ShaParts" = some 4 by kernel_rfl).symm.trans hf) |>.symm
  obtain rfl : fn = Tryd.f4 := (Option.some.inj (Tryd.func4.symm.trans hfn)).symm
  refine ⟨by kernel_rfl, fun j t ht => ?_⟩
  rw [Tryd.params4] at ht
  obtain rfl : t = 27 := by simpa using Array.mem_of_getElem? ht
  exact (show Tryd.prog.wantsStandIn 27 = false by kernel_rfl)

/-- THE SECOND FORM's CARD. -/
theorem cardUpto : Rows.ShaPartsUptoCardSaid :=
  Claim7.holds_tied_plain_at .later [] _ _ _ _ saidUpto (fun _ h => by cases h) (by kernel_rfl) (fun _ h => by cases h) shaPartsUpto_row_tie rfl ⟨rfl, rfl⟩ (by kernel_rfl) rfl plain (by kernel_rfl)
end Go.Proofs.YtnfpfpbanbjhjaaDoor.Law01.Parts
