/-
  What the document's Read does of any bytes.
-/
import Derived.Test.YtagehbeliifbkaaDoorRefPut10
import Derived.Test.YtagehbeliifbkaaDoorNoteRead
import Derived.Test.YtagehbeliifbkaaDoorRefSplit
import Derived.Test.YtagehbeliifbkaaDoorAfter
namespace Go.Proofs.YtagehbeliifbkaaDoor.Note
open Go Go.RowKit Go.Proofs.YtagehbeliifbkaaDoor.Aid Go.Proofs.YtagehbeliifbkaaDoor.Law01 Go.Proofs.YtagehbeliifbkaaDoor.Field

theorem enc_none {E : Nat → BitVec 8} {n k : Nat} {c : Int} (hs : SplitSpec (tail1 E) (n - 1) k c) (h : c ≠ 0 ∨ (hasL (kindOf E)).length = 0 ∨ k ≠ (hasL (kindOf E)).length) (M : NoteP) : ¬ IsEnc E n M := fun hM => by
  have hk := (enc_kind hM).2
  have hl := (right_all hM.1).1
  obtain ⟨h1, h2⟩ := split_unique hs (enc_split hM).1
  unfold noteL at h1
  rw [hk] at hl h1
  rcases h with h | h | h
  · exact h h2
  · omega
  · exact h h1
set_option maxRecDepth 100000 in
set_option maxHeartbeats 8000000 in
theorem refRead10_own (A : Option Addr) (c n : Nat) (E : Nat → BitVec 8) (w : World) (hn : n ≤ 100000) (h : SliceOf w w.heap.size n E (.slice A n c)) :
    Calls Tryd.prog 10 #[.slice A n c] w (ReadOwn E n w) := by
  have HZ0 := Lib.hid (row_new w #[.int .i64 0, .string ⟨#[]⟩, .string ⟨#[]⟩, .int .u8 0, .int .u8 0, .int .u8 0, .int .u8 0, .int .u8 0, .int .u8 0, .int .u8 0, .int .u8 0, .int .u8 0, .int .u8 0, .int .u8 0, .int .u8 0, .int .u8 0, .int .u8 0, .int .u8 0, .int .u8 0, .int .u8 0, .int .u8 0, .int .u8 0, .int .u8 0, .int .u8 0, .int .u8 0, .int .u8 0, .int .u8 0, .int .u8 0, .int .u8 0, .int .u8 0, .int .u8 0, .int .u8 0, .int .u8 0, .int .u8 0, .int .u8 0, .slice none 0 0, .slice none 0 0, .slice none 0 0] 29 38 _ rfl (zeroCells_at 0 _ rfl))
  have HB0 : Hid (Below w.heap.size w (w.alloc (.cells #[.int .i64 0, .string ⟨#[]⟩, .string ⟨#[]⟩, .int .u8 0, .int .u8 0, .int .u8 0, .int .u8 0, .int .u8 0, .int .u8 0, .int .u8 0, .int .u8 0, .int .u8 0, .int .u8 0, .int .u8 0, .int .u8 0, .int .u8 0, .int .u8 0, .int .u8 0, .int .u8 0, .int .u8 0, .int .u8 0, .int .u8 0, .int .u8 0, .int .u8 0, .int .u8 0, .int .u8 0, .int .u8 0, .int .u8 0, .int .u8 0, .int .u8 0, .int .u8 0, .int .u8 0, .int .u8 0, .int .u8 0, .int .u8 0, .slice none 0 0, .slice none 0 0, .slice none 0 0] 29))) := Lib.hid ((Below.refl _ _).alloc (Nat.le_refl _) _)
  have HSL := Lib.hid h
  by_cases h0 : n = 0
  · subst h0
    clear h
    go_enter Tryd.func10, Tryd.ntmps10
    go_upto_region 1 with fail
    generalize w.alloc (.cells #[.int .i64 0, .string ⟨#[]⟩, .string ⟨#[]⟩, .int .u8 0, .int .u8 0, .int .u8 0, .int .u8 0, .int .u8 0, .int .u8 0, .int .u8 0, .int .u8 0, .int .u8 0, .int .u8 0, .int .u8 0, .int .u8 0, .int .u8 0, .int .u8 0, .int .u8 0, .int .u8 0, .int .u8 0, .int .u8 0, .int .u8 0, .int .u8 0, .int .u8 0, .int .u8 0, .int .u8 0, .int .u8 0, .int .u8 0, .int .u8 0, .int .u8 0, .int .u8 0, .int .u8 0, .int .u8 0, .int .u8 0, .int .u8 0, .slice none 0 0, .slice none 0 0, .slice none 0 0] 29) = w1 at *
    go_wp2_with (refine store_whole (by rfl) 29 (.tmp 2) (.tmp 16) (by rfl) w.heap.size _ 38 _ (noteF (blank 0) (.slice none 0 0) (.slice none 0 0) (.slice none 0 0)) HZ0.out (by rfl) _ (by rfl) (by kernel_rfl) (by rfl) (zeroCells_at 0 _ (by rfl)) (fun i _ => noteF_one _ _ _ _ rfl rfl rfl i) ?_
                 intro wz hrz hoz)
    exact bodyPost_ret (results_row_tmp rfl _ w.heap.size _ _ _ _ (by rfl) hrz Tryd.underlying29 rfl (by kernel_rfl)) rfl ⟨blank 0, _, _, _, 3, .inr ⟨rfl, rfl, fun M hM => by have := (enc_kind hM).1; omega⟩, rfl, NoteFrom.blank _ _ 0, hoz.below HB0.out (Nat.le_refl _)⟩
  have hcap : n ≤ c := by obtain ⟨A', c', he, hc, _⟩ := h; simp only [Value.slice.injEq, true_and] at he; omega
  obtain ⟨sb, so, rfl, hcell⟩ := SliceOf.at_ h (by omega)
  have hc0 := hcell 0 (by omega)
  have hsb := block_lt_of_cell hc0
  rw [Nat.add_zero] at hc0
  obtain ⟨A1, hA1, hrun⟩ := cut_run (P := Tryd.prog) 24 5 Tryd.underlying24 (by kernel_rfl) sb so n c 1 (by omega) hcap
  have hS1 : SliceOf w w.heap.size (n - 1) (tail1 E) (.slice A1 (n - 1) (c - 1)) := ⟨A1, c - 1, rfl, by omega, fun h1 => ⟨sb, so + 1, hA1 h1, by have : sb < w.heap.size := hsb; omega, fun j hj => by
    rw [show so + 1 + j = so + (j + 1) by omega]
    exact hcell (j + 1) (by omega)⟩⟩
  have HS1 := Lib.hid hS1
  have hlenB : ((n : Int) == 0) = false := by simp; omega
  have q1 : (0 : Int) < (n : Int) := by omega
  have HRUN := Lib.hid hrun
  have hhas := has_any (kindOf E)
  have HHAS := Lib.hid hhas
  have hkE : ((E 0).toNat : Int) = kindOf E := rfl
  clear h hcell hA1 hS1 hrun hhas
  go_enter Tryd.func10, Tryd.ntmps10
  go_upto_region 1 with fail
  generalize w.alloc (.cells #[.int .i64 0, .string ⟨#[]⟩, .string ⟨#[]⟩, .int .u8 0, .int .u8 0, .int .u8 0, .int .u8 0, .int .u8 0, .int .u8 0, .int .u8 0, .int .u8 0, .int .u8 0, .int .u8 0, .int .u8 0, .int .u8 0, .int .u8 0, .int .u8 0, .int .u8 0, .int .u8 0, .int .u8 0, .int .u8 0, .int .u8 0, .int .u8 0, .int .u8 0, .int .u8 0, .int .u8 0, .int .u8 0, .int .u8 0, .int .u8 0, .int .u8 0, .int .u8 0, .int .u8 0, .int .u8 0, .int .u8 0, .int .u8 0, .slice none 0 0, .slice none 0 0, .slice none 0 0] 29) = w1 at *
  have cb := (HB0.out.cell (p := ⟨sb, so, none⟩) hsb).trans hc0
  rw [hkE] at cb hc0
  go_wp2_with fail
  refine (HHAS.out w1).mono ?_
  rintro _ w3 ⟨rfl, hb3⟩
  have hb3' := HB0.out.trans (hb3.mono HB0.out.size)
  have HZ3 := Lib.hid (World.rowIs.of_block HZ0.out (hb3.block _ (World.rowIs.lt HZ0.out)))
  have HB3 := Lib.hid hb3'
  have hsz3 : Hid (w.heap.size < w3.heap.size) := Lib.hid (World.rowIs.lt HZ3.out)
  have cb3 : w3.cell? ⟨sb, so, none⟩ = some (.int .u8 (kindOf E)) := (hb3'.cell (p := ⟨sb, so, none⟩) hsb).trans hc0
  have CB3 := Lib.hid cb3
  have hrun' : ∀ (kd : IntKind) (W : World), (Instr.sliceAt 24 (.slice (some ⟨sb, so, none⟩) n c) (some (.int kd 1)) none none).run Tryd.prog W = .ok (.slice A1 (n - 1) (c - 1)) W := HRUN.out
  have ke : (strL (hasL (kindOf E))).toList.isEmpty = (hasL (kindOf E)).isEmpty := by
    rw [ByteArray.toList_eq]
    simp [strL]
  have hLen : (strL (hasL (kindOf E))).size = (hasL (kindOf E)).length := size_has _
  have HAT := Lib.hid (strL_at (kindOf E))
  have HLEN := Lib.hid hLen
  have hl4 := has_len (kindOf E)
  generalize strL (hasL (kindOf E)) = sL at *
  clear cb HHAS HZ0 HB0 hb3 hb3' HRUN hLen w1
  go_wp2_with fail
  refine (refSplit_any A1 (c - 1) (n - 1) (tail1 E) w3 (by omega) (slice_any (slice_below HS1.out HB3.out) (Nat.le_refl _))).mono ?_
  rintro _ w5 ⟨k, ce, v, R, hspec, rfl, hop, hb5⟩
  have HSP := Lib.hid hspec
  have HZ5 := Lib.hid (World.rowIs.of_block HZ3.out (hb5.block _ (World.rowIs.lt HZ3.out)))
  have HB5 := Lib.hid (HB3.out.trans (hb5.mono HB3.out.size))
  have cb5 := Lib.hid ((hb5.cell (p := ⟨sb, so, none⟩) (block_lt_of_cell CB3.out)).trans CB3.out)
  have hsz5 := Lib.hid (Nat.lt_of_lt_of_le hsz3.out hb5.size)
  have hb53 := Lib.hid hb5
  clear hrun' HS1 cb3 CB3 HZ3 HB3 hb5 hspec
  by_cases hce : ce = 0
  rotate_left
  · have hN := enc_none HSP.out (.inl hce)
    have HN := Lib.hid hN
    have e1 : (ce == 0) = false := by simp; omega
    have e2 : (ce != 0) = true := by simp; omega
    clear hN hop
    go_wp2_with (refine store_whole (by rfl) 29 (.tmp 2) (.tmp 41) (by rfl) w.heap.size _ 38 _ (noteF (blank 0) (.slice none 0 0) (.slice none 0 0) (.slice none 0 0)) HZ5.out (by rfl) _ (by rfl) (by kernel_rfl) (by rfl) (zeroCells_at 0 _ (by rfl)) (fun i _ => noteF_one _ _ _ _ rfl rfl rfl i) ?_
                 intro wz hrz hoz)
    exact bodyPost_ret (results_row_tmp rfl _ w.heap.size _ _ _ _ (by rfl) hrz Tryd.underlying29 rfl (by kernel_rfl)) rfl ⟨blank 0, _, _, _, 3, .inr ⟨rfl, rfl, HN.out⟩, rfl, NoteFrom.blank _ _ 0, hoz.below HB5.out (Nat.le_refl _)⟩
  subst hce
  rw [if_pos rfl] at hop
  obtain ⟨LA, lcap, rfl⟩ := hop.shape
  have hk4 := split_few HSP.out
  by_cases hem : (hasL (kindOf E)).length = 0
  · have hN := enc_none HSP.out (.inr (.inl hem))
    have HN := Lib.hid hN
    have ke' : sL.toList.isEmpty = true := by rw [ke, List.length_eq_zero_iff.1 hem]; rfl
    clear hN hop ke
    go_wp2_with (refine store_whole (by rfl) 29 (.tmp 2) (.tmp 41) (by rfl) w.heap.size _ 38 _ (noteF (blank 0) (.slice none 0 0) (.slice none 0 0) (.slice none 0 0)) HZ5.out (by rfl) _ (by rfl) (by kernel_rfl) (by rfl) (zeroCells_at 0 _ (by rfl)) (fun i _ => noteF_one _ _ _ _ rfl rfl rfl i) ?_
                 intro wz hrz hoz)
    exact bodyPost_ret (results_row_tmp rfl _ w.heap.size _ _ _ _ (by rfl) hrz Tryd.underlying29 rfl (by kernel_rfl)) rfl ⟨blank 0, _, _, _, 3, .inr ⟨rfl, rfl, HN.out⟩, rfl, NoteFrom.blank _ _ 0, hoz.below HB5.out (Nat.le_refl _)⟩
  have ke' : sL.toList.isEmpty = false := by rw [ke]; rw [List.isEmpty_eq_false_iff]; exact fun e => hem (by rw [e]; rfl)
  by_cases hkl : k = (hasL (kindOf E)).length
  rotate_left
  · have hN := enc_none HSP.out (.inr (.inr hkl))
    have HN := Lib.hid hN
    have e1 : ((k : Int) != (sL.size : Int)) = true := by have h := HLEN.out; simp; omega
    clear hN hop ke
    go_wp2_with (refine store_whole (by rfl) 29 (.tmp 2) (.tmp 41) (by rfl) w.heap.size _ 38 _ (noteF (blank 0) (.slice none 0 0) (.slice none 0 0) (.slice none 0 0)) HZ5.out (by rfl) _ (by rfl) (by kernel_rfl) (by rfl) (zeroCells_at 0 _ (by rfl)) (fun i _ => noteF_one _ _ _ _ rfl rfl rfl i) ?_
                 intro wz hrz hoz)
    exact bodyPost_ret (results_row_tmp rfl _ w.heap.size _ _ _ _ (by rfl) hrz Tryd.underlying29 rfl (by kernel_rfl)) rfl ⟨blank 0, _, _, _, 3, .inr ⟨rfl, rfl, HN.out⟩, rfl, NoteFrom.blank _ _ 0, hoz.below HB5.out (Nat.le_refl _)⟩
  obtain ⟨L, hL⟩ : ∃ L, L = (hasL (kindOf E)).length := ⟨_, rfl⟩
  rw [← hL] at hkl hl4 HLEN hem
  subst hkl
  have e1 : ((k : Int) != (sL.size : Int)) = false := by have h := HLEN.out; simp; omega
  have hLk := Lib.hid hL
  have hM5 : Hid (∀ j, j < k → fieldM (tail1 E) j ≤ 500) := Lib.hid (fun j hj => (step_ok (HSP.out.1 j hj).2).2.1)
  have HOP := Lib.hid hop
  have HNF0 : Hid (NoteFrom w5 w3.heap.size (build (kindOf E) (fieldM (tail1 E)) (fieldE (tail1 E)) 0) (.slice none 0 0) (.slice none 0 0) (.slice none 0 0)) := Lib.hid (NoteFrom.blank _ _ _)
  have HR0 := Lib.hid (row_new w5 #[.int .i64 0, .string ⟨#[]⟩, .string ⟨#[]⟩, .int .u8 0, .int .u8 0, .int .u8 0, .int .u8 0, .int .u8 0, .int .u8 0, .int .u8 0, .int .u8 0, .int .u8 0, .int .u8 0, .int .u8 0, .int .u8 0, .int .u8 0, .int .u8 0, .int .u8 0, .int .u8 0, .int .u8 0, .int .u8 0, .int .u8 0, .int .u8 0, .int .u8 0, .int .u8 0, .int .u8 0, .int .u8 0, .int .u8 0, .int .u8 0, .int .u8 0, .int .u8 0, .int .u8 0, .int .u8 0, .int .u8 0, .int .u8 0, .slice none 0 0, .slice none 0 0, .slice none 0 0] 29 38 _ rfl (zeroCells_at 0 _ rfl))
  have HBN : Hid (Below w5.heap.size w5 (w5.alloc (.cells #[.int .i64 0, .string ⟨#[]⟩, .string ⟨#[]⟩, .int .u8 0, .int .u8 0, .int .u8 0, .int .u8 0, .int .u8 0, .int .u8 0, .int .u8 0, .int .u8 0, .int .u8 0, .int .u8 0, .int .u8 0, .int .u8 0, .int .u8 0, .int .u8 0, .int .u8 0, .int .u8 0, .int .u8 0, .int .u8 0, .int .u8 0, .int .u8 0, .int .u8 0, .int .u8 0, .int .u8 0, .int .u8 0, .int .u8 0, .int .u8 0, .int .u8 0, .int .u8 0, .int .u8 0, .int .u8 0, .int .u8 0, .int .u8 0, .slice none 0 0, .slice none 0 0, .slice none 0 0] 29))) := Lib.hid ((Below.refl _ _).alloc (Nat.le_refl _) _)
  have cbx := cb5.out
  clear hL hop ke
  go_wp2_with (refine store_whole (by rfl) 29 (.tmp 7) (.tmp 46) (by rfl) w5.heap.size _ 38 _ (noteF (blank (kindOf E)) (.slice none 0 0) (.slice none 0 0) (.slice none 0 0)) HR0.out (by rfl) _ (by rfl) (by kernel_rfl) (by rfl) (zeroCells_at (kindOf E) _ (by rfl)) (fun i _ => noteF_one _ _ _ _ rfl rfl rfl i) ?_
               intro w6 hr6 ho6)
  have hb6 : Below w5.heap.size w5 w6 := ho6.below HBN.out (Nat.le_refl _)
  clear ho6 HR0 HBN cbx e1 cb5
  go_loopw [8] (fun i wr => ∃ (j : Nat) (P Q R' : Value), j ≤ k ∧ i = .int .i64 (j : Int) ∧ Hid (wr.rowIs w5.heap.size 29 38 (noteF (build (kindOf E) (fieldM (tail1 E)) (fieldE (tail1 E)) j) P Q R')) ∧ Hid (NoteFrom w5 w3.heap.size (build (kindOf E) (fieldM (tail1 E)) (fieldE (tail1 E)) j) P Q R') ∧ Hid (Below w5.heap.size w5 wr)) (fun i _ => k - (intOf i).toNat)
  case atStart => exact ⟨0, _, _, _, by omega, rfl, hr6, HNF0.out, hb6⟩
  case round =>
    clear hr6 hb6 HNF0
    obtain ⟨j, P, Q, R', hj, rfl, hrow, hnf, hbw⟩ := hrel
    by_cases hlt : j < k
    · have hlt' : j < sL.size := by rw [HLEN.out]; exact hlt
      have q0 : (0 : Int) ≤ (j : Int) := by omega
      have q1 : (j : Int) < (sL.size : Int) := by omega
      have q2 : (j : Int) < (k : Int) := by omega
      have hat := HAT.out j hlt'
      have h7 := letter_seven (k := kindOf E) (i := j) (by rw [← hLk.out]; exact hlt)
      have hsl := (HOP.out.part j hlt).slice (g' := w5.heap.size) (.inr (Nat.le_refl _))
      obtain ⟨Aj, cj, hRj, _, _⟩ := id hsl
      rw [hRj] at hsl
      have hcl : ∃ lb, LA = some ⟨lb, 0, none⟩ ∧ w5.cell? ⟨lb, j, none⟩ = some (.slice Aj (fieldM (tail1 E) j) cj) := by
        obtain ⟨lb, cap', he, _, _⟩ := World.ownsRow.form HOP.out.row (by omega)
        simp only [Value.slice.injEq, true_and] at he
        refine ⟨lb, he.1, ?_⟩
        rw [he.1] at HOP
        have := World.ownsRow.cellAt HOP.out.row j (by omega)
        rw [this]
        simp [hlt, hRj]
      obtain ⟨lb, rfl, hcl⟩ := hcl
      have cl := (hbw.out.cell (p := ⟨lb, j, none⟩) (block_lt_of_cell hcl)).trans hcl
      have HCL := Lib.hid hcl
      have HSJ := Lib.hid hsl
      have hm1 : fieldM (tail1 E) j ≤ 1000000 := by have := hM5.out j hlt; omega
      clear hsl hcl
      have HPJ : Hid (∀ g, (g < w3.heap.size ∨ w5.heap.size ≤ g) → SliceOf w5 g (fieldM (tail1 E) j) (fieldE (tail1 E) j) (.slice Aj (fieldM (tail1 E) j) cj)) := Lib.hid (fun g hg => by
        have h := (HOP.out.part j hlt).slice hg
        rw [hRj] at h
        exact h)
      clear hRj
      go_wp2_with fail
      refine (refWord_any Aj cj _ (fieldE (tail1 E) j) _ wr hm1 (slice_below HSJ.out hbw.out)).mono ?_
      rintro _ w6' ⟨rfl, hb6⟩
      have HR6 := Lib.hid (World.rowIs.of_block hrow.out (hb6.block _ (World.rowIs.lt hrow.out)))
      have HB6 := Lib.hid (hbw.out.trans (hb6.mono hbw.out.size))
      have HR0 := Lib.hid (row_new w6' (Array.replicate 16 (.int .u8 0)) 23 16 (fun _ => .int .u8 0) (by simp) (zero16 _ rfl))
      clear cl hrow hbw hb6 wr
      go_upto_region 12 with (refine store_whole (by rfl) 23 (.tmp 9) (.tmp 59) (by rfl) w6'.heap.size _ 16 _ (fun i => .int .u8 ((wordE (fieldM (tail1 E) j) (fieldE (tail1 E) j) i).toNat : Int)) HR0.out (by rfl) _ (by rfl) (by kernel_rfl) (size_cellsOf _ _) (cellsOf_at _ _) (fun _ _ => rfl) ?_
                              intro w7 hr9 ho7
                              have HR9 := Lib.hid hr9
                              have HR7 := Lib.hid (ho7.row (HR6.out.alloc (.cells (Array.replicate 16 (.int .u8 0)) 23)) (Nat.ne_of_lt (World.rowIs.lt HR6.out)))
                              have HB7 : Hid (Below w5.heap.size w5 w7) := Lib.hid (ho7.below (HB6.out.alloc HB6.out.size _) HB6.out.size)
                              have cl := (HB7.out.cell (p := ⟨lb, j, none⟩) (block_lt_of_cell HCL.out)).trans HCL.out
                              clear hr9 ho7 HR0 HR6 HB6)
      have hbs : Hid (build (kindOf E) (fieldM (tail1 E)) (fieldE (tail1 E)) (j + 1) = setL (letter (kindOf E) j) (fieldM (tail1 E) j) (fieldE (tail1 E) j) (build (kindOf E) (fieldM (tail1 E)) (fieldE (tail1 E)) j)) := rfl
      have KX := Lib.hid (str_run Aj cj _ (fieldE (tail1 E) j) _ w7 (slice_below HSJ.out HB7.out))
      generalize letter (kindOf E) j = lt at *
      rcases h7 with rfl | rfl | rfl | rfl | rfl | rfl | rfl
      · have hat' : (sL[j].toNat : Int) = 65 := hat
        have d0 := HR7.out.cell (i := 1) (by omega)
        have f0 := HR7.out.frozen 1
        have HS : Hid ((w7.setCell ⟨w5.heap.size, 1, none⟩ (.string (strOf (fieldE (tail1 E) j) (fieldM (tail1 E) j)))).rowIs w5.heap.size 29 38 (noteF (build (kindOf E) (fieldM (tail1 E)) (fieldE (tail1 E)) (j + 1)) P Q R')) := Lib.hid ((HR7.out.set 1 (.string (strOf (fieldE (tail1 E) j) (fieldM (tail1 E) j)))).congr (fun i hi => by rw [hbs.out]; exact noteF_65 _ _ _ _ _ _ i))
        have HB : Hid (Below w5.heap.size w5 (w7.setCell ⟨w5.heap.size, 1, none⟩ (.string (strOf (fieldE (tail1 E) j) (fieldM (tail1 E) j))))) := Lib.hid (HB7.out.setCell (p := ⟨w5.heap.size, 1, none⟩) (Nat.le_refl _) _)
        have HNF : Hid (NoteFrom w5 w3.heap.size (build (kindOf E) (fieldM (tail1 E)) (fieldE (tail1 E)) (j + 1)) P Q R') := Lib.hid (by rw [hbs.out]; exact ⟨hnf.out.p, hnf.out.q, hnf.out.r⟩)
        have kx := KX.out
        clear hat hbs HR7 HB7 HR9 hnf
        go_wp2
        exact ⟨⟨j + 1, _, _, _, by omega, congrArg (Value.int .i64) (by omega), HS, HNF, HB⟩, by simp [intOf]; omega⟩
      · have hat' : (sL[j].toNat : Int) = 66 := hat
        have d0 := HR7.out.cell (i := 2) (by omega)
        have f0 := HR7.out.frozen 2
        have HS : Hid ((w7.setCell ⟨w5.heap.size, 2, none⟩ (.string (strOf (fieldE (tail1 E) j) (fieldM (tail1 E) j)))).rowIs w5.heap.size 29 38 (noteF (build (kindOf E) (fieldM (tail1 E)) (fieldE (tail1 E)) (j + 1)) P Q R')) := Lib.hid ((HR7.out.set 2 (.string (strOf (fieldE (tail1 E) j) (fieldM (tail1 E) j)))).congr (fun i hi => by rw [hbs.out]; exact noteF_66 _ _ _ _ _ _ i))
        have HB : Hid (Below w5.heap.size w5 (w7.setCell ⟨w5.heap.size, 2, none⟩ (.string (strOf (fieldE (tail1 E) j) (fieldM (tail1 E) j))))) := Lib.hid (HB7.out.setCell (p := ⟨w5.heap.size, 2, none⟩) (Nat.le_refl _) _)
        have HNF : Hid (NoteFrom w5 w3.heap.size (build (kindOf E) (fieldM (tail1 E)) (fieldE (tail1 E)) (j + 1)) P Q R') := Lib.hid (by rw [hbs.out]; exact ⟨hnf.out.p, hnf.out.q, hnf.out.r⟩)
        have kx := KX.out
        clear hat hbs HR7 HB7 HR9 hnf
        go_wp2
        exact ⟨⟨j + 1, _, _, _, by omega, congrArg (Value.int .i64) (by omega), HS, HNF, HB⟩, by simp [intOf]; omega⟩
      · have hat' : (sL[j].toNat : Int) = 88 := hat
        have HNF : Hid (NoteFrom w5 w3.heap.size (build (kindOf E) (fieldM (tail1 E)) (fieldE (tail1 E)) (j + 1)) P Q R') := Lib.hid (by rw [hbs.out]; exact ⟨hnf.out.p, hnf.out.q, hnf.out.r⟩)
        clear hat hnf
        go_wp2_with (first
          | (refine load_whole (by rfl) 23 (.tmp 9) (by rfl) _ _ _ _ HR9.out (by rfl) _ Tryd.underlying23 rfl (by kernel_rfl) ?_)
          | (refine store_row (by rfl) 23 (.tmp 83) (.tmp 82) (by rfl) w5.heap.size 3 _ 38 16 _ (fun i => .int .u8 ((wordE (fieldM (tail1 E) j) (fieldE (tail1 E) j) i).toNat : Int)) HR7.out (by rfl) _ (by rfl) (by kernel_rfl) (by omega) (size_cellsOf _ _) (cellsOf_at _ _) (fun _ _ => rfl) ?_
             intro w8 hr8 ho8
             have hb8 := ho8.below HB7.out (Nat.le_refl _)
             have hr8' : w8.rowIs w5.heap.size 29 38 (noteF (build (kindOf E) (fieldM (tail1 E)) (fieldE (tail1 E)) (j + 1)) P Q R') := hr8.congr (fun i hi => by rw [hbs.out]; exact noteF_88 _ _ _ _ _ _ i)
             clear hr8 ho8))
        exact ⟨⟨j + 1, _, _, _, by omega, congrArg (Value.int .i64) (by omega), hr8', HNF, hb8⟩, by simp [intOf]; omega⟩
      · have hat' : (sL[j].toNat : Int) = 89 := hat
        have HNF : Hid (NoteFrom w5 w3.heap.size (build (kindOf E) (fieldM (tail1 E)) (fieldE (tail1 E)) (j + 1)) P Q R') := Lib.hid (by rw [hbs.out]; exact ⟨hnf.out.p, hnf.out.q, hnf.out.r⟩)
        clear hat hnf
        go_wp2_with (first
          | (refine load_whole (by rfl) 23 (.tmp 9) (by rfl) _ _ _ _ HR9.out (by rfl) _ Tryd.underlying23 rfl (by kernel_rfl) ?_)
          | (refine store_row (by rfl) 23 (.tmp 87) (.tmp 86) (by rfl) w5.heap.size 19 _ 38 16 _ (fun i => .int .u8 ((wordE (fieldM (tail1 E) j) (fieldE (tail1 E) j) i).toNat : Int)) HR7.out (by rfl) _ (by rfl) (by kernel_rfl) (by omega) (size_cellsOf _ _) (cellsOf_at _ _) (fun _ _ => rfl) ?_
             intro w8 hr8 ho8
             have hb8 := ho8.below HB7.out (Nat.le_refl _)
             have hr8' : w8.rowIs w5.heap.size 29 38 (noteF (build (kindOf E) (fieldM (tail1 E)) (fieldE (tail1 E)) (j + 1)) P Q R') := hr8.congr (fun i hi => by rw [hbs.out]; exact noteF_89 _ _ _ _ _ _ i)
             clear hr8 ho8))
        exact ⟨⟨j + 1, _, _, _, by omega, congrArg (Value.int .i64) (by omega), hr8', HNF, hb8⟩, by simp [intOf]; omega⟩
      · have hat' : (sL[j].toNat : Int) = 80 := hat
        have d0 := HR7.out.cell (i := 35) (by omega)
        have f0 := HR7.out.frozen 35
        have HS : Hid ((w7.setCell ⟨w5.heap.size, 35, none⟩ (.slice Aj (fieldM (tail1 E) j) cj)).rowIs w5.heap.size 29 38 (noteF (build (kindOf E) (fieldM (tail1 E)) (fieldE (tail1 E)) (j + 1)) (.slice Aj (fieldM (tail1 E) j) cj) Q R')) := Lib.hid ((HR7.out.set 35 (.slice Aj (fieldM (tail1 E) j) cj)).congr (fun i hi => by rw [hbs.out]; exact noteF_80 _ _ _ _ _ _ _ i))
        have HB : Hid (Below w5.heap.size w5 (w7.setCell ⟨w5.heap.size, 35, none⟩ (.slice Aj (fieldM (tail1 E) j) cj))) := Lib.hid (HB7.out.setCell (p := ⟨w5.heap.size, 35, none⟩) (Nat.le_refl _) _)
        have HNF : Hid (NoteFrom w5 w3.heap.size (build (kindOf E) (fieldM (tail1 E)) (fieldE (tail1 E)) (j + 1)) (.slice Aj (fieldM (tail1 E) j) cj) Q R') := Lib.hid (by rw [hbs.out]; exact ⟨HPJ.out, hnf.out.q, hnf.out.r⟩)
        clear hat hbs HR7 HB7 HR9 hnf
        go_wp2
        exact ⟨⟨j + 1, _, _, _, by omega, congrArg (Value.int .i64) (by omega), HS, HNF, HB⟩, by simp [intOf]; omega⟩
      · have hat' : (sL[j].toNat : Int) = 81 := hat
        have d0 := HR7.out.cell (i := 36) (by omega)
        have f0 := HR7.out.frozen 36
        have HS : Hid ((w7.setCell ⟨w5.heap.size, 36, none⟩ (.slice Aj (fieldM (tail1 E) j) cj)).rowIs w5.heap.size 29 38 (noteF (build (kindOf E) (fieldM (tail1 E)) (fieldE (tail1 E)) (j + 1)) P (.slice Aj (fieldM (tail1 E) j) cj) R')) := Lib.hid ((HR7.out.set 36 (.slice Aj (fieldM (tail1 E) j) cj)).congr (fun i hi => by rw [hbs.out]; exact noteF_81 _ _ _ _ _ _ _ i))
        have HB : Hid (Below w5.heap.size w5 (w7.setCell ⟨w5.heap.size, 36, none⟩ (.slice Aj (fieldM (tail1 E) j) cj))) := Lib.hid (HB7.out.setCell (p := ⟨w5.heap.size, 36, none⟩) (Nat.le_refl _) _)
        have HNF : Hid (NoteFrom w5 w3.heap.size (build (kindOf E) (fieldM (tail1 E)) (fieldE (tail1 E)) (j + 1)) P (.slice Aj (fieldM (tail1 E) j) cj) R') := Lib.hid (by rw [hbs.out]; exact ⟨hnf.out.p, HPJ.out, hnf.out.r⟩)
        clear hat hbs HR7 HB7 HR9 hnf
        go_wp2
        exact ⟨⟨j + 1, _, _, _, by omega, congrArg (Value.int .i64) (by omega), HS, HNF, HB⟩, by simp [intOf]; omega⟩
      · have hat' : (sL[j].toNat : Int) = 82 := hat
        have d0 := HR7.out.cell (i := 37) (by omega)
        have f0 := HR7.out.frozen 37
        have HS : Hid ((w7.setCell ⟨w5.heap.size, 37, none⟩ (.slice Aj (fieldM (tail1 E) j) cj)).rowIs w5.heap.size 29 38 (noteF (build (kindOf E) (fieldM (tail1 E)) (fieldE (tail1 E)) (j + 1)) P Q (.slice Aj (fieldM (tail1 E) j) cj))) := Lib.hid ((HR7.out.set 37 (.slice Aj (fieldM (tail1 E) j) cj)).congr (fun i hi => by rw [hbs.out]; exact noteF_82 _ _ _ _ _ _ _ i hi))
        have HB : Hid (Below w5.heap.size w5 (w7.setCell ⟨w5.heap.size, 37, none⟩ (.slice Aj (fieldM (tail1 E) j) cj))) := Lib.hid (HB7.out.setCell (p := ⟨w5.heap.size, 37, none⟩) (Nat.le_refl _) _)
        have HNF : Hid (NoteFrom w5 w3.heap.size (build (kindOf E) (fieldM (tail1 E)) (fieldE (tail1 E)) (j + 1)) P Q (.slice Aj (fieldM (tail1 E) j) cj)) := Lib.hid (by rw [hbs.out]; exact ⟨hnf.out.p, hnf.out.q, HPJ.out⟩)
        clear hat hbs HR7 HB7 HR9 hnf
        go_wp2
        exact ⟨⟨j + 1, _, _, _, by omega, congrArg (Value.int .i64) (by omega), HS, HNF, HB⟩, by simp [intOf]; omega⟩
    · obtain rfl : j = k := by omega
      have q1 : ¬ ((j : Int) < (sL.size : Int)) := by have h := HLEN.out; omega
      have hN : build (kindOf E) (fieldM (tail1 E)) (fieldE (tail1 E)) j = readN E := by unfold readN; rw [← hLk.out]
      have hsh := build_short (kindOf E) (fieldM (tail1 E)) (fieldE (tail1 E)) 500 j hM5.out
      rw [hN] at hrow hnf hsh
      obtain ⟨sa, sb', sp, sq, sr⟩ := hsh
      have hNA := hnf.out.at_.below hbw.out
      have hput := refPut10_any (readN E) P Q R' wr (by omega) (by omega) hNA
      have HPUT := Lib.hid hput
      have hZr := World.rowIs.of_block HZ5.out (hbw.out.block _ hsz5.out)
      have HZr := Lib.hid hZr
      have oP : P.oneCell' = true := by obtain ⟨_, _, rfl, _⟩ := hNA.p; rfl
      have oQ : Q.oneCell' = true := by obtain ⟨_, _, rfl, _⟩ := hNA.q; rfl
      have oR : R'.oneCell' = true := by obtain ⟨_, _, rfl, _⟩ := hNA.r; rfl
      have HO := Lib.hid (fun i => noteF_one (readN E) P Q R' oP oQ oR i)
      clear hN hNA hput hZr oP oQ oR hlt HAT HLEN
      unfold noteV at HPUT
      go_wp2_with (refine load_whole (by rfl) 29 (.tmp 7) (by rfl) _ _ _ _ hrow.out (by rfl) _ Tryd.underlying29 (by rfl) (by kernel_rfl) ?_)
      refine HPUT.out.mono ?_
      rintro _ w8 ⟨r, rfl, ho8, hb8⟩
      have HZ8 := Lib.hid (World.rowIs.of_block HZr.out (hb8.block _ (World.rowIs.lt HZr.out)))
      have HR8 := Lib.hid (World.rowIs.of_block hrow.out (hb8.block _ (World.rowIs.lt hrow.out)))
      have HB8 := Lib.hid (hbw.out.trans (hb8.mono hbw.out.size))
      have HA8 : Hid (Below w.heap.size w w8) := Lib.hid (HB5.out.trans (HB8.out.mono HB5.out.size))
      clear HPUT HZr hrow hbw hb8
      by_cases hd : rightN (readN E) = true
      rotate_left
      · have hN := none_of (E := E) (n := n) (fun h => hd h.1)
        have HN := Lib.hid hN
        have e1 : put10C (readN E) = 3 := by unfold put10C; rw [if_neg hd]
        rw [e1]
        clear hN ho8 e1
        go_wp2_with (refine store_whole (by rfl) 29 (.tmp 2) (.tmp 122) (by rfl) w.heap.size _ 38 _ (noteF (blank 0) (.slice none 0 0) (.slice none 0 0) (.slice none 0 0)) HZ8.out (by rfl) _ (by rfl) (by kernel_rfl) (by rfl) (zeroCells_at 0 _ (by rfl)) (fun i _ => noteF_one _ _ _ _ rfl rfl rfl i) ?_
                     intro wz hrz hoz)
        exact bodyPost_ret (results_row_tmp rfl _ w.heap.size _ _ _ _ (by rfl) hrz Tryd.underlying29 rfl (by kernel_rfl)) rfl ⟨blank 0, _, _, _, 3, .inr ⟨rfl, rfl, HN.out⟩, rfl, NoteFrom.blank _ _ 0, hoz.below HA8.out (Nat.le_refl _)⟩
      · have e1 : put10C (readN E) = 0 := by unfold put10C; rw [if_pos hd]
        have e2 : put10N (readN E) = encSize (readN E) := by unfold put10N; rw [if_pos hd]
        rw [e2] at ho8
        rw [e1]
        have hoff := right_off hd
        have hlen := has_len (readN E).kind
        have hen : encSize (readN E) ≤ 1000000 := by unfold encSize encN; rw [off_m2]; unfold noteL at *; omega
        have hsr := ho8.slice (g' := w8.heap.size) (.inr (Nat.le_refl _))
        obtain ⟨Ar, cr, rfl, _, _⟩ := id hsr
        have hcall := Mac.same_gen _ Ar n (encSize (readN E)) c cr E (encByte (readN E)) _ _ w8 (slice_below HSL.out HA8.out) hsr (by omega) hen
        have HCALL := Lib.hid hcall
        have hsame := same_all (m := n) (n := encSize (readN E)) (e := E) (f := encByte (readN E))
        have hnot : Mac.sameBytes n (encSize (readN E)) E (encByte (readN E)) = false → ∀ M, ¬ IsEnc E n M := fun hf => none_of (fun h => by
          have := Mac.same_refl E (encByte (readN E)) n (fun q hq => (h.2.2 q hq).symm)
          rw [h.2.1, this] at hf
          cases hf)
        have HSAME := Lib.hid hsame
        have HNOT := Lib.hid hnot
        have HD := Lib.hid hd
        clear e1 e2 ho8 hoff hlen hen hsr hcall hsame hnot hd
        go_wp2_with fail
        refine HCALL.out.mono ?_
        rintro _ w9 ⟨rfl, hq⟩
        have hb9 : Below w8.heap.size w8 w9 := by obtain ⟨q, rfl⟩ := hq; exact drewN_from (Below.refl _ _) q
        have HZ9 := Lib.hid (World.rowIs.of_block HZ8.out (hb9.block _ (World.rowIs.lt HZ8.out)))
        have HR9 := Lib.hid (World.rowIs.of_block HR8.out (hb9.block _ (World.rowIs.lt HR8.out)))
        have HB9 := Lib.hid (HB8.out.trans (hb9.mono HB8.out.size))
        have HA9 := Lib.hid (HA8.out.trans (hb9.mono HA8.out.size))
        clear hb9 hq HZ8 HR8 HB8 HA8 HCALL
        generalize Mac.sameBytes n (encSize (readN E)) E (encByte (readN E)) = ds at *
        rcases ds with _ | _
        · have HN := Lib.hid (HNOT.out (by simp))
          go_wp2_with (refine store_whole (by rfl) 29 (.tmp 2) (.tmp 122) (by rfl) w.heap.size _ 38 _ (noteF (blank 0) (.slice none 0 0) (.slice none 0 0) (.slice none 0 0)) HZ9.out (by rfl) _ (by rfl) (by kernel_rfl) (by rfl) (zeroCells_at 0 _ (by rfl)) (fun i _ => noteF_one _ _ _ _ rfl rfl rfl i) ?_
                       intro wz hrz hoz)
          exact bodyPost_ret (results_row_tmp rfl _ w.heap.size _ _ _ _ (by rfl) hrz Tryd.underlying29 rfl (by kernel_rfl)) rfl ⟨blank 0, _, _, _, 3, .inr ⟨rfl, rfl, HN.out⟩, rfl, NoteFrom.blank _ _ 0, hoz.below HA9.out (Nat.le_refl _)⟩
        · go_wp2_with (first
            | (refine load_whole (by rfl) 29 (.tmp 7) (by rfl) _ _ _ _ HR9.out (by rfl) _ Tryd.underlying29 (by rfl) (by kernel_rfl) ?_)
            | (refine store_whole (by rfl) 29 (.tmp 2) (.tmp 123) (by rfl) w.heap.size _ 38 _ (noteF (readN E) P Q R') HZ9.out (by rfl) _ (by rfl) (by kernel_rfl) (size_cellsOf _ _) (cellsOf_at _ _) (fun i _ => HO.out i) ?_
               intro wz hrz hoz))
          exact bodyPost_ret (results_row_tmp rfl _ w.heap.size _ _ _ _ (by rfl) hrz Tryd.underlying29 rfl (by kernel_rfl)) rfl ⟨readN E, P, Q, R', 0, .inl ⟨rfl, HD.out, (HSAME.out (by simp)).1.symm, fun q hq => ((HSAME.out (by simp)).2 q hq).symm⟩, rfl, hnf.out.only_from HB9.out hoz hsz3.out (Nat.le_of_lt hsz3.out), hoz.below HA9.out (Nat.le_refl _)⟩
theorem refRead10_any (A : Option Addr) (c n : Nat) (E : Nat → BitVec 8) (w : World) (hn : n ≤ 100000) (h : SliceOf w w.heap.size n E (.slice A n c)) :
    Calls Tryd.prog 10 #[.slice A n c] w (ReadPost E n w) :=
  (refRead10_own A c n E w hn h).mono (fun _ _ h => h.post)
end Go.Proofs.YtagehbeliifbkaaDoor.Note
