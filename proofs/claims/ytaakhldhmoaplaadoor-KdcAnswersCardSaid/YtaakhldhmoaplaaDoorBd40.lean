/-
  What the document's Small of a note does. What the document's Small and Same do.
-/
import Derived.Test.YtaakhldhmoaplaaDoorBd12
import Derived.Test.YtaakhldhmoaplaaDoorBd04
import Derived.Test.YtaakhldhmoaplaaDoorBd13
import Derived.Deep.RegionWith
import Derived.Deep.DeepCutAuto
namespace Go.Proofs.YtaakhldhmoaplaaDoor.Note
open Go Go.RowKit Go.Proofs.YtaakhldhmoaplaaDoor.Aid Go.Proofs.YtaakhldhmoaplaaDoor.Law01 Go.Proofs.YtaakhldhmoaplaaDoor.Field

def smallN (N : NoteP) : Bool := decide (N.a.size + N.b.size + N.pn + N.qn + N.rn ≤ 2000)
set_option maxRecDepth 100000 in
set_option maxHeartbeats 1000000 in
theorem refSmall_any (N : NoteP) (P Q R : Value) (w : World) (hn : NoteAt w N P Q R) (ha : N.a.size ≤ 200000000000000) (hb : N.b.size ≤ 200000000000000) (hp : N.pn ≤ 200000000000000) (hq : N.qn ≤ 200000000000000) (hr : N.rn ≤ 200000000000000) :
    Calls Tryd.prog 18 #[noteV N P Q R] w fun x w' => x = .returned (.bool (smallN N)) ∧ Below w.heap.size w w' := by
  obtain ⟨⟨AP, cP, rfl, _, _⟩, ⟨AQ, cQ, rfl, _, _⟩, ⟨AR, cR, rfl, _, _⟩⟩ := hn
  have hr' := row_new w (cellsOf 38 (noteF N (.slice AP N.pn cP) (.slice AQ N.qn cQ) (.slice AR N.rn cR))) 37 38 _ (size_cellsOf _ _) (cellsOf_at _ _)
  have hb0 : Below w.heap.size w (w.alloc (.cells (cellsOf 38 (noteF N (.slice AP N.pn cP) (.slice AQ N.qn cQ) (.slice AR N.rn cR))) 37)) := (Below.refl _ _).alloc (Nat.le_refl _) _
  have hs : smallN N = decide ((N.a.size : Int) + (N.b.size : Int) + (N.pn : Int) + (N.qn : Int) + (N.rn : Int) ≤ 2000) := decide_eq_decide.2 (by omega)
  unfold noteV
  go_enter Tryd.func18, Tryd.ntmps18
  generalize cellsOf 38 (noteF N (.slice AP N.pn cP) (.slice AQ N.qn cQ) (.slice AR N.rn cR)) = C at *
  go_upto_region 1 with fail
  generalize w.alloc (.cells C 37) = w1 at *
  have c1 : w1.cell? ⟨w.heap.size, 1, none⟩ = some (.string N.a) := hr'.cell (i := 1) (by omega)
  have c2 : w1.cell? ⟨w.heap.size, 2, none⟩ = some (.string N.b) := hr'.cell (i := 2) (by omega)
  have c35 : w1.cell? ⟨w.heap.size, 35, none⟩ = some (.slice AP N.pn cP) := hr'.cell (i := 35) (by omega)
  have c36 : w1.cell? ⟨w.heap.size, 36, none⟩ = some (.slice AQ N.qn cQ) := hr'.cell (i := 36) (by omega)
  have c37 : w1.cell? ⟨w.heap.size, 37, none⟩ = some (.slice AR N.rn cR) := hr'.cell (i := 37) (by omega)
  have HS := Lib.hid hs
  have HB := Lib.hid hb0
  clear hr' hs hb0
  go_wp2
  go_ret
  exact ⟨by rw [HS.out] <;> first | rfl | (congr 2; apply propext; omega), HB.out⟩
end Go.Proofs.YtaakhldhmoaplaaDoor.Note
namespace Go.Proofs.YtaakhldhmoaplaaDoor.Note
open Go Go.RowKit Go.Proofs.YtaakhldhmoaplaaDoor.Aid Go.Proofs.YtaakhldhmoaplaaDoor.Law01 Go.Proofs.YtaakhldhmoaplaaDoor.Field

theorem drewN_below' {B : Nat} {w W : World} (h : Below B w W) : ∀ q, Below B w (W.drewN q)
  | 0 => h
  | q + 1 => (drewN_below' h q).drew
theorem eq16 (N M : NoteP) (P Q R P' Q' R' : Value) (W : World) : (Op.equalIn 10000 25 (.agg (cellsOf 16 (fun j => noteF N P Q R (3 + j)))) (.agg (cellsOf 16 (fun j => noteF M P' Q' R' (3 + j))))).run Tryd.prog W = .ok (sameUpto N.x M.x 16) W :=
  run_equalIn_bytes (len := 16) 9998 Tryd.underlying25 Tryd.underlying5 (by kernel_rfl) _ _ N.x M.x (cell_x N P Q R) (cell_x M P' Q' R') W
theorem eq16' (N M : NoteP) (P Q R P' Q' R' : Value) (W : World) : (Op.equalIn 10000 25 (.agg (cellsOf 16 (fun j => noteF N P Q R (19 + j)))) (.agg (cellsOf 16 (fun j => noteF M P' Q' R' (19 + j))))).run Tryd.prog W = .ok (sameUpto N.y M.y 16) W :=
  run_equalIn_bytes (len := 16) 9998 Tryd.underlying25 Tryd.underlying5 (by kernel_rfl) _ _ N.y M.y (cell_y N P Q R) (cell_y M P' Q' R') W
set_option maxRecDepth 100000 in
set_option maxHeartbeats 8000000 in
theorem refSame10_any (N M : NoteP) (P Q R P' Q' R' : Value) (w : World) (hn : NoteAt w N P Q R) (hm : NoteAt w M P' Q' R') (l1 : N.pn ≤ 1000000) (l2 : N.qn ≤ 1000000) (l3 : N.rn ≤ 1000000) (l4 : M.pn ≤ 1000000) (l5 : M.qn ≤ 1000000) (l6 : M.rn ≤ 1000000) :
    Calls Tryd.prog 10 #[noteV N P Q R, noteV M P' Q' R'] w fun x w' => x = .returned (.bool (sameN N M)) ∧ Below w.heap.size w w' := by
  have HN := hn
  have HM := hm
  obtain ⟨⟨AP, cP, rfl, _, _⟩, ⟨AQ, cQ, rfl, _, _⟩, ⟨AR, cR, rfl, _, _⟩⟩ := hn
  obtain ⟨⟨BP, dP, rfl, _, _⟩, ⟨BQ, dQ, rfl, _, _⟩, ⟨BR, dR, rfl, _, _⟩⟩ := hm
  have callP : ∀ W, Below w.heap.size w W → Calls Tryd.prog 14 #[.slice AP N.pn cP, .slice BP M.pn dP] W fun x w' => x = .returned (.bool (Mac.sameBytes N.pn M.pn N.p M.p)) ∧ ∃ q, w' = W.drewN q := fun W hW => Mac.same_gen _ _ _ _ _ _ _ _ _ _ W (HN.below hW).p (HM.below hW).p l1 l4
  have callQ : ∀ W, Below w.heap.size w W → Calls Tryd.prog 14 #[.slice AQ N.qn cQ, .slice BQ M.qn dQ] W fun x w' => x = .returned (.bool (Mac.sameBytes N.qn M.qn N.q M.q)) ∧ ∃ q, w' = W.drewN q := fun W hW => Mac.same_gen _ _ _ _ _ _ _ _ _ _ W (HN.below hW).q (HM.below hW).q l2 l5
  have callR : ∀ W, Below w.heap.size w W → Calls Tryd.prog 14 #[.slice AR N.rn cR, .slice BR M.rn dR] W fun x w' => x = .returned (.bool (Mac.sameBytes N.rn M.rn N.r M.r)) ∧ ∃ q, w' = W.drewN q := fun W hW => Mac.same_gen _ _ _ _ _ _ _ _ _ _ W (HN.below hW).r (HM.below hW).r l3 l6
  have ex := eq16 N M (.slice AP N.pn cP) (.slice AQ N.qn cQ) (.slice AR N.rn cR) (.slice BP M.pn dP) (.slice BQ M.qn dQ) (.slice BR M.rn dR)
  have ey := eq16' N M (.slice AP N.pn cP) (.slice AQ N.qn cQ) (.slice AR N.rn cR) (.slice BP M.pn dP) (.slice BQ M.qn dQ) (.slice BR M.rn dR)
  have HR : Hid (sameN N M = ((N.kind == M.kind) && (N.a.toList == M.a.toList) && (N.b.toList == M.b.toList) && sameUpto N.x M.x 16 && sameUpto N.y M.y 16 && Mac.sameBytes N.pn M.pn N.p M.p && Mac.sameBytes N.qn M.qn N.q M.q && Mac.sameBytes N.rn M.rn N.r M.r)) := rfl
  have h0 := (row_new w (cellsOf 38 (noteF N (.slice AP N.pn cP) (.slice AQ N.qn cQ) (.slice AR N.rn cR))) 37 38 _ (size_cellsOf _ _) (cellsOf_at _ _)).alloc (.cells (cellsOf 38 (noteF M (.slice BP M.pn dP) (.slice BQ M.qn dQ) (.slice BR M.rn dR))) 37)
  have h1 := row_new (w.alloc (.cells (cellsOf 38 (noteF N (.slice AP N.pn cP) (.slice AQ N.qn cQ) (.slice AR N.rn cR))) 37)) (cellsOf 38 (noteF M (.slice BP M.pn dP) (.slice BQ M.qn dQ) (.slice BR M.rn dR))) 37 38 _ (size_cellsOf _ _) (cellsOf_at _ _)
  rw [World.size_alloc] at h1
  have hb0 : Below w.heap.size w ((w.alloc (.cells (cellsOf 38 (noteF N (.slice AP N.pn cP) (.slice AQ N.qn cQ) (.slice AR N.rn cR))) 37)).alloc (.cells (cellsOf 38 (noteF M (.slice BP M.pn dP) (.slice BQ M.qn dQ) (.slice BR M.rn dR))) 37)) := ((Below.refl _ _).alloc (Nat.le_refl _) _).alloc (by simp) _
  generalize hdk : (N.kind == M.kind) = dk at *
  generalize hda : (N.a.toList == M.a.toList) = da at *
  generalize hdb : (N.b.toList == M.b.toList) = db at *
  generalize sameUpto N.x M.x 16 = dx at *
  generalize sameUpto N.y M.y 16 = dy at *
  generalize Mac.sameBytes N.pn M.pn N.p M.p = dp at *
  generalize Mac.sameBytes N.qn M.qn N.q M.q = dq at *
  generalize Mac.sameBytes N.rn M.rn N.r M.r = dr at *
  have CP := Lib.hid callP
  have CQ := Lib.hid callQ
  have CR := Lib.hid callR
  clear callP callQ callR HN HM l1 l2 l3 l4 l5 l6
  unfold noteV
  go_enter Tryd.func10, Tryd.ntmps10
  generalize cellsOf 38 (noteF N (.slice AP N.pn cP) (.slice AQ N.qn cQ) (.slice AR N.rn cR)) = C at *
  generalize cellsOf 38 (noteF M (.slice BP M.pn dP) (.slice BQ M.qn dQ) (.slice BR M.rn dR)) = D at *
  go_upto_region 1 with fail
  generalize (w.alloc (.cells C 37)).alloc (.cells D 37) = w1 at *
  have c0_0 : w1.cell? ⟨w.heap.size, 0, none⟩ = some (.int .i64 N.kind) := h0.cell (i := 0) (by omega)
  have c0_1 : w1.cell? ⟨w.heap.size, 1, none⟩ = some (.string N.a) := h0.cell (i := 1) (by omega)
  have c0_2 : w1.cell? ⟨w.heap.size, 2, none⟩ = some (.string N.b) := h0.cell (i := 2) (by omega)
  have c0_35 : w1.cell? ⟨w.heap.size, 35, none⟩ = some (.slice AP N.pn cP) := h0.cell (i := 35) (by omega)
  have c0_36 : w1.cell? ⟨w.heap.size, 36, none⟩ = some (.slice AQ N.qn cQ) := h0.cell (i := 36) (by omega)
  have c0_37 : w1.cell? ⟨w.heap.size, 37, none⟩ = some (.slice AR N.rn cR) := h0.cell (i := 37) (by omega)
  have c1_0 : w1.cell? ⟨w.heap.size + 1, 0, none⟩ = some (.int .i64 M.kind) := h1.cell (i := 0) (by omega)
  have c1_1 : w1.cell? ⟨w.heap.size + 1, 1, none⟩ = some (.string M.a) := h1.cell (i := 1) (by omega)
  have c1_2 : w1.cell? ⟨w.heap.size + 1, 2, none⟩ = some (.string M.b) := h1.cell (i := 2) (by omega)
  have c1_35 : w1.cell? ⟨w.heap.size + 1, 35, none⟩ = some (.slice BP M.pn dP) := h1.cell (i := 35) (by omega)
  have c1_36 : w1.cell? ⟨w.heap.size + 1, 36, none⟩ = some (.slice BQ M.qn dQ) := h1.cell (i := 36) (by omega)
  have c1_37 : w1.cell? ⟨w.heap.size + 1, 37, none⟩ = some (.slice BR M.rn dR) := h1.cell (i := 37) (by omega)
  have HB := Lib.hid hb0
  clear hb0
  rcases dk with _ | _
  · go_wp2
    go_ret
    exact ⟨by rw [HR.out]; rfl, HB.out⟩
  · rcases da with _ | _
    · go_wp2
      go_ret
      exact ⟨by rw [HR.out]; rfl, HB.out⟩
    · rcases db with _ | _
      · go_wp2
        go_ret
        exact ⟨by rw [HR.out]; rfl, HB.out⟩
      · rcases dx with _ | _
        · go_wp2_with (first | (refine load_row_met (by rfl) 25 (.tmp 25) (by rfl) (w.heap.size) 3 _ 38 16 _ h0 (by rfl) _ Tryd.underlying25 (by rfl) (by kernel_rfl) (by omega) ?_) | (refine load_row_met (by rfl) 25 (.tmp 27) (by rfl) (w.heap.size + 1) 3 _ 38 16 _ h1 (by rfl) _ Tryd.underlying25 (by rfl) (by kernel_rfl) (by omega) ?_) | (refine load_row_met (by rfl) 25 (.tmp 32) (by rfl) (w.heap.size) 19 _ 38 16 _ h0 (by rfl) _ Tryd.underlying25 (by rfl) (by kernel_rfl) (by omega) ?_) | (refine load_row_met (by rfl) 25 (.tmp 34) (by rfl) (w.heap.size + 1) 19 _ 38 16 _ h1 (by rfl) _ Tryd.underlying25 (by rfl) (by kernel_rfl) (by omega) ?_))
          go_ret
          exact ⟨by rw [HR.out]; rfl, HB.out⟩
        · rcases dy with _ | _
          · go_wp2_with (first | (refine load_row_met (by rfl) 25 (.tmp 25) (by rfl) (w.heap.size) 3 _ 38 16 _ h0 (by rfl) _ Tryd.underlying25 (by rfl) (by kernel_rfl) (by omega) ?_) | (refine load_row_met (by rfl) 25 (.tmp 27) (by rfl) (w.heap.size + 1) 3 _ 38 16 _ h1 (by rfl) _ Tryd.underlying25 (by rfl) (by kernel_rfl) (by omega) ?_) | (refine load_row_met (by rfl) 25 (.tmp 32) (by rfl) (w.heap.size) 19 _ 38 16 _ h0 (by rfl) _ Tryd.underlying25 (by rfl) (by kernel_rfl) (by omega) ?_) | (refine load_row_met (by rfl) 25 (.tmp 34) (by rfl) (w.heap.size + 1) 19 _ 38 16 _ h1 (by rfl) _ Tryd.underlying25 (by rfl) (by kernel_rfl) (by omega) ?_))
            go_ret
            exact ⟨by rw [HR.out]; rfl, HB.out⟩
          · go_wp2_with (first | (refine load_row_met (by rfl) 25 (.tmp 25) (by rfl) (w.heap.size) 3 _ 38 16 _ h0 (by rfl) _ Tryd.underlying25 (by rfl) (by kernel_rfl) (by omega) ?_) | (refine load_row_met (by rfl) 25 (.tmp 27) (by rfl) (w.heap.size + 1) 3 _ 38 16 _ h1 (by rfl) _ Tryd.underlying25 (by rfl) (by kernel_rfl) (by omega) ?_) | (refine load_row_met (by rfl) 25 (.tmp 32) (by rfl) (w.heap.size) 19 _ 38 16 _ h0 (by rfl) _ Tryd.underlying25 (by rfl) (by kernel_rfl) (by omega) ?_) | (refine load_row_met (by rfl) 25 (.tmp 34) (by rfl) (w.heap.size + 1) 19 _ 38 16 _ h1 (by rfl) _ Tryd.underlying25 (by rfl) (by kernel_rfl) (by omega) ?_))
            refine (CP.out _ HB.out).mono ?_
            rintro _ _ ⟨rfl, q0, rfl⟩
            rcases dp with _ | _
            · go_wp2
              go_ret
              exact ⟨by rw [HR.out]; rfl, (drewN_below' HB.out _)⟩
            · go_wp2_with fail
              refine (CQ.out _ (drewN_below' HB.out _)).mono ?_
              rintro _ _ ⟨rfl, q1, rfl⟩
              rcases dq with _ | _
              · go_wp2
                go_ret
                exact ⟨by rw [HR.out]; rfl, (drewN_below' HB.out _)⟩
              · go_wp2_with fail
                refine (CR.out _ (drewN_below' HB.out _)).mono ?_
                rintro _ _ ⟨rfl, q2, rfl⟩
                go_wp2
                go_ret
                exact ⟨by rw [HR.out]; rfl, (drewN_below' HB.out _)⟩
end Go.Proofs.YtaakhldhmoaplaaDoor.Note
