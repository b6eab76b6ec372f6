/-
  bartizanlaw16.small: whether a book and a note are gone through.
-/
import Derived.Test.YtnkjoambhmlnbaaGreatDoorBd46
import Derived.Test.YtnkjoambhmlnbaaGreatDoorBd48
import Derived.Test.YtnkjoambhmlnbaaGreatDoorBd05
import Derived.Test.YtnkjoambhmlnbaaGreatDoorBd37
namespace Go.Proofs.YtnkjoambhmlnbaaGreatDoor.Kdc
open Go Go.RowKit Go.Proofs.YtnkjoambhmlnbaaGreatDoor.Aid Go.Proofs.YtnkjoambhmlnbaaGreatDoor.Law01 Go.Proofs.YtnkjoambhmlnbaaGreatDoor.Field
open Go.Proofs.YtnkjoambhmlnbaaGreatDoor.Note (NoteP noteF noteV NoteAt NoteFits smallN rightN)
open Go.Proofs.YtnkjoambhmlnbaaGreatDoor.Book (Bk BookRaw bookF bookV)

def small16B (b : Bk) (N : NoteP) : Bool := decide (b.L.length ≤ 60) && (decide (b.rev.length ≤ 60) && (smallN N && rightN N))
theorem small_fits {N : NoteP} (h : smallN N = true) : N.a.size ≤ 1000000 ∧ N.b.size ≤ 1000000 := by
  unfold Note.smallN at h
  have := of_decide_eq_true h
  omega
set_option maxRecDepth 100000 in
set_option maxHeartbeats 1000000 in
theorem small16_any (b : Bk) (N : NoteP) (P Q R Lv Rv : Value) (w : World) (hb : BookRaw w b Lv Rv) (hn : NoteAt w N P Q R) (hf : NoteFits N) :
    Calls Tryz.prog 5 #[bookV b Lv Rv, noteV N P Q R] w fun x w' => x = .returned (.bool (small16B b N)) ∧ Below w.heap.size w w' := by
  obtain ⟨W, hW, rb, rn, hnW, hB⟩ : ∃ W, W = (w.alloc (.cells (cellsOf 19 (bookF b Lv Rv)) 27)).alloc (.cells (cellsOf 38 (noteF N P Q R)) 30) ∧ W.rowIs w.heap.size 27 19 (bookF b Lv Rv) ∧ W.rowIs (w.heap.size + 1) 30 38 (noteF N P Q R) ∧ NoteAt W N P Q R ∧ Below w.heap.size w W := by
    have r1 := row_new w (cellsOf 19 (bookF b Lv Rv)) 27 19 _ (size_cellsOf _ _) (cellsOf_at _ _)
    have r2 := row_new (w.alloc (.cells (cellsOf 19 (bookF b Lv Rv)) 27)) (cellsOf 38 (noteF N P Q R)) 30 38 _ (size_cellsOf _ _) (cellsOf_at _ _)
    rw [World.size_alloc] at r2
    have hb2 : Below w.heap.size w ((w.alloc (.cells (cellsOf 19 (bookF b Lv Rv)) 27)).alloc (.cells (cellsOf 38 (noteF N P Q R)) 30)) := ((Below.refl _ _).alloc (Nat.le_refl _) _).alloc (by simp) _
    exact ⟨_, rfl, r1.alloc _, r2, hn.below hb2, hb2⟩
  obtain ⟨AL, cL, hL, -⟩ := hb.ents
  obtain ⟨AR, cR, hR, -⟩ := hb.revs
  have c0 := rb.cell (i := 0) (by omega)
  rw [show bookF b Lv Rv 0 = Lv from rfl, hL] at c0
  have c1 := rb.cell (i := 1) (by omega)
  rw [show bookF b Lv Rv 1 = Rv from rfl, hR] at c1
  have HRN := Lib.hid rn
  have HN := Lib.hid hnW
  have HB := Lib.hid hB
  have HF := Lib.hid hf
  clear rb rn hnW hB hn hb hf hL hR
  unfold bookV noteV
  obtain ⟨CB, hCB⟩ : ∃ C, C = cellsOf 19 (bookF b Lv Rv) := ⟨_, rfl⟩
  obtain ⟨CN, hCN⟩ : ∃ C, C = cellsOf 38 (noteF N P Q R) := ⟨_, rfl⟩
  rw [← hCB, ← hCN] at hW ⊢
  have HCN := Lib.hid hCN.symm
  have HS : Hid (small16B b N = (decide (b.L.length ≤ 60) && (decide (b.rev.length ≤ 60) && (smallN N && rightN N)))) := Lib.hid rfl
  clear hCB hCN
  go_enter Tryz.func5, Tryz.ntmps5
  go_upto_region 1 with fail
  rw [← hW]
  clear hW
  by_cases h1 : b.L.length ≤ 60
  · have q1 : (b.L.length : Int) ≤ 60 := by omega
    rw [decide_eq_true h1] at HS
    by_cases h2 : b.rev.length ≤ 60
    · have q2 : (b.rev.length : Int) ≤ 60 := by omega
      rw [decide_eq_true h2] at HS
      have HSM := Lib.hid (Note.refSmall_any N P Q R W HN.out HF.out.a HF.out.b HF.out.p HF.out.q HF.out.r)
      unfold noteV at HSM
      rw [HCN.out] at HSM
      obtain ⟨sm, hsm⟩ : ∃ t, t = smallN N := ⟨_, rfl⟩
      rw [← hsm] at HSM HS
      have HSMB := Lib.hid hsm
      have r1 := HRN.out
      clear h1 h2 hsm
      go_wp2_with (refine load_as (by rfl) 30 (.tmp 3) (by rfl) (w.heap.size + 1) 0 _ 38 38 _ CN ((cells_zero _ _).trans HCN.out) r1 (by rfl) _ Tryz.underlying30 (by rfl) (by kernel_rfl) (by omega) ?_)
      refine HSM.out.mono ?_
      rintro _ w2 ⟨rfl, hb2⟩
      have HB2 : Hid (Below w.heap.size w w2) := Lib.hid (HB.out.trans (hb2.mono HB.out.size))
      have HN2 := Lib.hid (HN.out.below hb2)
      have HR2 := Lib.hid (HRN.out.of_block (hb2.block _ (World.rowIs.lt HRN.out)))
      clear hb2 r1 HSM HB HN HRN c0 c1
      cases sm with
      | false =>
        go_wp2
        go_ret
        exact ⟨by rw [HS.out]; rfl, HB2.out⟩
      | true =>
        have hfit := small_fits HSMB.out.symm
        have HRT := Lib.hid (Note.refRight_any N P Q R w2 hfit.1 hfit.2 HN2.out)
        unfold noteV at HRT
        rw [HCN.out] at HRT
        obtain ⟨rt, hrt⟩ : ∃ t, t = rightN N := ⟨_, rfl⟩
        rw [← hrt] at HRT HS
        have r1 := HR2.out
        clear hfit hrt
        go_wp2_with (refine load_as (by rfl) 30 (.tmp 3) (by rfl) (w.heap.size + 1) 0 _ 38 38 _ CN ((cells_zero _ _).trans HCN.out) r1 (by rfl) _ Tryz.underlying30 (by rfl) (by kernel_rfl) (by omega) ?_)
        refine HRT.out.mono ?_
        rintro _ w3 ⟨rfl, hb3⟩
        have HB3 : Hid (Below w.heap.size w w3) := Lib.hid (HB2.out.trans (hb3.mono HB2.out.size))
        clear hb3 r1
        go_wp2
        go_ret
        exact ⟨by rw [HS.out]; rfl, HB3.out⟩
    · have q2 : ¬ (b.rev.length : Int) ≤ 60 := by omega
      rw [decide_eq_false h2] at HS
      clear h1 h2
      go_wp2
      go_ret
      exact ⟨by rw [HS.out]; rfl, HB.out⟩
  · have q1 : ¬ (b.L.length : Int) ≤ 60 := by omega
    rw [decide_eq_false h1] at HS
    clear h1
    go_wp2
    go_ret
    exact ⟨by rw [HS.out]; rfl, HB.out⟩
end Go.Proofs.YtnkjoambhmlnbaaGreatDoor.Kdc
