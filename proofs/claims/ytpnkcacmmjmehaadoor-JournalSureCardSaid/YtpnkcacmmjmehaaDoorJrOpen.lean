/-
  The program's own journal: Open.
-/
import Derived.Test.YtpnkcacmmjmehaaDoorJrNal
import Derived.Test.YtpnkcacmmjmehaaDoorJrRead
import Derived.Test.YtpnkcacmmjmehaaDoorStReplace
namespace Go.Proofs.YtpnkcacmmjmehaaDoor.Jour
open Go Go.RowKit Go.Proofs.YtpnkcacmmjmehaaDoor.Aid Go.Proofs.YtpnkcacmmjmehaaDoor.Cache Go.Proofs.YtpnkcacmmjmehaaDoor.Store
open Go.Proofs.YtpnkcacmmjmehaaDoor.Sha (Consts)

theorem own_in {W : World} {base n : Nat} {e f : Nat → BitVec 8} {v : Value} (h : Own W base n e v) (he : ∀ j, j < n → e j = f j) : BytesIn W (fun k => base ≤ k) n f v := by
  rcases h.form with ⟨rfl, rfl⟩ | ⟨g, cap, cur, rfl, hb, _, hm, hh, _, hc⟩
  · exact ⟨none, 0, rfl, Nat.le_refl _, fun h => by omega⟩
  · exact ⟨_, _, rfl, hm, fun _ => ⟨g, 0, rfl, hb, fun j hj => by rw [Nat.zero_add, cell_of_row W g j cur _ _ hh, hc j hj, he j hj]⟩⟩
theorem bytes_at (st : St) (j : Nat) (hj : j < st.n) : fnL (bytesL st) j = st.e j := by
  show (bytesL st).getD j 0 = _
  rw [List.getD_eq_getElem?_getD]
  simp [bytesL, hj]
/-- The error that Open has of the store. -/
def openC (m : Nat) (st : St) (t : By) : Int := if t = [] then 0 else repC m st (st.n - t.length)
/-- What Open leaves and answers. -/
def OpenPost (w : World) (F : Nat → Prop) (v : Value) (m : Nat) (st : St) (y : Ending) (w' : World) : Prop :=
  (scan Dg (bytesL st) = none ∧ y = .returned (.tuple #[.pointer none, .int .i64 9]) ∧ RepOwn w' F v m st ∧ Cache.Leaves F w w') ∨
  ∃ R t F', scan Dg (bytesL st) = some (R, t) ∧ RepOwn w' F' v m (openS m st t) ∧ Cache.Leaves F w w' ∧ (∀ b, F' b → F b ∨ w.heap.size ≤ b) ∧ (10 * R.length ≤ st.n ∧ ∀ x ∈ R, x.length ≤ 1000) ∧
    ((openC m st t ≠ 0 ∧ y = .returned (.tuple #[.pointer none, .int .i64 (openC m st t)])) ∨
     (openC m st t = 0 ∧ ∃ p FJ, y = .returned (.tuple #[.pointer (some p), .int .i64 0]) ∧ RepJO w' FJ (.pointer (some p)) v R ∧ (∀ b, FJ b → ¬ F' b) ∧ ∀ b, FJ b → w.heap.size ≤ b))
theorem jopen_nil (w : World) : Calls Tryd.prog 7 #[.pointer none] w fun x w' => x = .returned (.tuple #[.pointer none, .int .i64 1]) ∧ Below w.heap.size w w' := by
  go_enter Tryd.func7, Tryd.ntmps7
  go_wp2
  go_ret2
  exact ⟨rfl, Below.refl _ _⟩
/-- A journal of its own, at its birth. -/
theorem born {w3 : World} {K : Nat → Prop} {v V : Value} {R : List By} (hr : RecsOwn w3 K R V) (hK : ∀ b, K b → b < w3.heap.size) : RepJO (w3.alloc (.cells #[v, V] 49)) (fun b => K b ∨ b = w3.heap.size) (.pointer (some ⟨w3.heap.size, 0, none⟩)) v R := by
  have hb : Below w3.heap.size w3 (w3.alloc (.cells #[v, V] 49)) := (Below.refl _ _).alloc (Nat.le_refl _) _
  refine ⟨w3.heap.size, V, rfl, row_new w3 _ _ 2 _ rfl (fun i hi => by match i, hi with | 0, _ => rfl | 1, _ => rfl), .inr rfl, fun b hb' => ?_, ?_⟩
  · have := hb.size
    rcases hb' with h | h
    · have := hK b h; omega
    · rw [h]; simp
  · exact (hr.keep (fun b hlt _ => hb.block b hlt)).less (fun b _ hb' => ⟨.inl hb', by have := hK b hb'; omega⟩)
set_option maxRecDepth 100000 in
set_option maxHeartbeats 1000000 in
theorem jopen {w : World} (hk : Consts w) {F : Nat → Prop} {v : Value} {m : Nat} {st : St} (h : RepOwn w F v m st) :
    Calls Tryd.prog 7 #[v] w (OpenPost w F v m st) := by
  have HK := Lib.hid hk
  have HRD := Lib.hid (read_any h)
  obtain ⟨g, Bv, z, rfl, h⟩ := h
  have HM : Hid (st.n ≤ 1048576) := Lib.hid (by have := h.ok.n; have := h.ok.m; omega)
  have HOK := Lib.hid h.ok
  have HLT := Lib.hid h.lt
  clear h hk
  unfold OpenPost
  go_enter Tryd.func7, Tryd.ntmps7
  go_wp2_with fail
  refine HRD.out.mono ?_
  rintro _ w1 ⟨bv, rfl, hr1, hb1, ho1⟩
  have HR1 := Lib.hid hr1
  have HB1 := Lib.hid hb1
  have HO1 := Lib.hid ho1
  have hin := own_in ho1 (f := fnL (bytesL st)) (fun j hj => (bytes_at st j hj).symm)
  rw [← bytes_len st] at hin
  have HRead := Lib.hid (jread (HK.out.below hb1 (Nat.le_refl _)) hin (by rw [bytes_len]; exact HM.out))
  obtain ⟨A, c, hsh, hcap, hA⟩ := own_shape ho1
  subst hsh
  have HCAP := Lib.hid hcap
  clear hr1 hb1 ho1 hin HRD hcap
  go_wp2_with fail
  refine HRead.out.mono ?_
  rintro _ w2 ⟨hb2, hy⟩
  have HR2 : Hid (RepOwn w2 F (.pointer (some ⟨g, 0, none⟩)) m st) := Lib.hid (by obtain ⟨g', Bv', z', hv', h'⟩ := HR1.out; exact ⟨g', Bv', z', hv', h'.below hb2⟩)
  have HB2 := Lib.hid hb2
  have HL2 : Hid (Cache.Leaves F w w2) := Lib.hid (Cache.Leaves.of_below (HB1.out.trans (hb2.mono HB1.out.size)))
  clear HRead hb2 HR1
  rcases hy with ⟨hs, rfl⟩ | ⟨R, t, V, hs, rfl, hrec, htl, hRl, hsm⟩
  · have HS := Lib.hid hs
    clear hs
    go_wp2
    go_ret2
    exact .inl ⟨HS.out, rfl, HR2.out, HL2.out⟩
  · obtain ⟨VA, vc, hvs⟩ := hrec.shape
    subst hvs
    have HS := Lib.hid hs
    have HREC := Lib.hid (hrec.less (K' := fun b => w1.heap.size ≤ b ∧ b < w2.heap.size) (fun b hlt hb => ⟨hb, hlt⟩))
    rw [bytes_len] at htl hRl
    have HSM := Lib.hid hsm
    have HRL := Lib.hid hRl
    have HTL := Lib.hid htl
    have hwl : ((bytesL st).length - t.length : Nat) = st.n - t.length := by rw [bytes_len]
    rw [hwl]
    clear hs hrec hsm hRl hwl
    by_cases ht : t = []
    · have HT := Lib.hid ht
      have q : ¬ (((st.n - t.length : Nat) : Int) < (st.n : Int)) := by rw [ht]; simp
      have HOS : Hid (openS m st t = st) := Lib.hid (by unfold openS; rw [if_pos ht])
      have HOC : Hid (openC m st t = 0) := Lib.hid (by unfold openC; rw [if_pos ht])
      have HN := Lib.hid (born (v := .pointer (some ⟨g, 0, none⟩)) HREC.out (fun b hb => hb.2))
      have HB3 : Hid (Below w2.heap.size w2 (w2.alloc (.cells #[.pointer (some ⟨g, 0, none⟩), .slice VA R.length vc] 49))) := Lib.hid ((Below.refl _ _).alloc (Nat.le_refl _) _)
      clear ht htl
      go_wp2
      go_ret2
      refine .inr ⟨R, t, F, HS.out, ?_, HL2.out.trans (Cache.Leaves.of_below (F := F) HB3.out) (fun x hx _ => hx), fun b hb => .inl hb, ⟨HRL.out, HSM.out⟩, .inr ⟨HOC.out, _, _, rfl, HN.out, fun b hb hF => ?_, fun b hb => ?_⟩⟩
      · rw [HOS.out]
        obtain ⟨g', Bv', z', hv', h'⟩ := HR2.out
        exact ⟨g', Bv', z', hv', h'.below HB3.out⟩
      · have h1 := HLT.out b hF
        have h2 := HB1.out.size
        have h3 := HB2.out.size
        rcases hb with hb | hb
        · omega
        · omega
      · have h2 := HB1.out.size
        have h3 := HB2.out.size
        rcases hb with hb | hb
        · omega
        · omega
    · have hpos : 0 < t.length := Nat.pos_of_ne_zero (fun h => ht (List.eq_nil_of_length_eq_zero h))
      have q : ((st.n - t.length : Nat) : Int) < (st.n : Int) := by omega
      have HOS : Hid (openS m st t = repS m st (st.n - t.length) st.e) := Lib.hid (by unfold openS; rw [if_neg ht])
      have HOC : Hid (openC m st t = repC m st (st.n - t.length)) := Lib.hid (by unfold openC; rw [if_neg ht])
      have HAP : Hid (Apart w2 F (st.n - t.length) st.e (.slice A (st.n - t.length) c)) := Lib.hid (by
        rcases HO1.out.form with ⟨he, h0⟩ | ⟨g', cap, cur, he, hge, hlt, hm, hh, _, hc⟩
        · omega
        · cases he
          exact ⟨_, _, rfl, by omega, fun _ => ⟨g', 0, rfl, fun hF => by have := HLT.out g' hF; omega, fun j hj => by
            rw [Nat.zero_add]
            exact (HB2.out.cell (p := ⟨g', j, none⟩) hlt).trans ((cell_of_row w1 g' j cur _ _ hh).trans (hc j (by omega)))⟩⟩)
      have HRP := Lib.hid (replace_any HR2.out (st.n - t.length) st.e _ HAP.out)
      have hcut : ∀ W', (Instr.sliceAt 35 (.slice A st.n c) none (some (.int .i64 ((st.n - t.length : Nat) : Int))) none).run Tryd.prog W' = .ok (.slice A (st.n - t.length) c) W' := fun W' => head_run 35 5 Tryd.underlying35 (by kernel_rfl) A hA st.n c (st.n - t.length) (by have := HCAP.out; omega) .i64 W'
      have HPC : Hid (repC m st (st.n - t.length) = 0 ∨ repC m st (st.n - t.length) = 8) := Lib.hid (by
        unfold repC
        by_cases hp : power st = true
        · rw [if_pos hp, if_pos (by have := HOK.out.n; omega)]; exact .inl rfl
        · rw [if_neg hp]; exact .inr rfl)
      clear ht htl hpos
      generalize repC m st (st.n - t.length) = C at *
      go_wp2_with fail
      refine HRP.out.mono ?_
      rintro _ w3 ⟨rfl, F3, h3, hl3, hf3⟩
      have H3 := Lib.hid h3
      have HL3 := Lib.hid hl3
      have HF3 := Lib.hid hf3
      have HLW : Hid (Cache.Leaves F w w3) := Lib.hid (HL2.out.trans hl3 (fun x hx _ => hx))
      have HSZ : Hid (w.heap.size ≤ w1.heap.size ∧ w1.heap.size ≤ w2.heap.size ∧ w2.heap.size ≤ w3.heap.size) := Lib.hid ⟨HB1.out.size, HB2.out.size, hl3.size⟩
      have hrec3 : RecsOwn w3 (fun b => w1.heap.size ≤ b ∧ b < w2.heap.size) R (.slice VA R.length vc) := HREC.out.keep (fun b hlt hb => hl3.block b hlt (fun hF => by have := HLT.out b hF; have := HSZ.out; omega))
      have HREC3 := Lib.hid hrec3
      clear h3 hl3 hf3 hrec3 HRP hcut HAP
      rcases HPC.out with h0 | h8
      · subst h0
        have HN := Lib.hid (born (v := .pointer (some ⟨g, 0, none⟩)) HREC3.out (fun b hb => by have := HSZ.out; omega))
        have HB4 : Hid (Below w3.heap.size w3 (w3.alloc (.cells #[.pointer (some ⟨g, 0, none⟩), .slice VA R.length vc] 49))) := Lib.hid ((Below.refl _ _).alloc (Nat.le_refl _) _)
        clear HPC
        go_wp2
        go_ret2
        refine .inr ⟨R, t, F3, HS.out, ?_, HLW.out.trans (Cache.Leaves.of_below (F := F) HB4.out) (fun x hx _ => hx), fun b hb => (HF3.out b hb).imp_right (fun h => by have := HSZ.out; omega), ⟨HRL.out, HSM.out⟩, .inr ⟨HOC.out, _, _, rfl, HN.out, fun b hb hF => ?_, fun b hb => ?_⟩⟩
        · rw [HOS.out]
          obtain ⟨g', Bv', z', hv', h'⟩ := H3.out
          exact ⟨g', Bv', z', hv', h'.below HB4.out⟩
        · have h1 := HF3.out b hF
          have h4 : b < w3.heap.size := by obtain ⟨g', Bv', z', hv', h'⟩ := H3.out; exact h'.lt b hF
          have h2 := HSZ.out
          rcases hb with hb | hb
          · rcases h1 with h1 | h1
            · have := HLT.out b h1; omega
            · omega
          · omega
        · have h2 := HSZ.out
          rcases hb with hb | hb
          · omega
          · omega
      · subst h8
        clear HPC
        go_wp2
        go_ret2
        refine .inr ⟨R, t, F3, HS.out, ?_, HLW.out, fun b hb => (HF3.out b hb).imp_right (fun h => by have := HSZ.out; omega), ⟨HRL.out, HSM.out⟩, .inl ⟨by rw [HOC.out]; decide, by rw [HOC.out]; rfl⟩⟩
        rw [HOS.out]
        exact H3.out
end Go.Proofs.YtpnkcacmmjmehaaDoor.Jour
