/-
  The walk of BookRises.
-/
import Derived.Test.YtebchoeeohmlaaaDoorBd08
import Derived.Deep.CutBlock
import Derived.Deep.DeepCutAuto
namespace Go.Proofs.YtebchoeeohmlaaaDoor.Law15
open Go Go.RowKit Go.Proofs.YtebchoeeohmlaaaDoor.Aid Go.Proofs.YtebchoeeohmlaaaDoor.Book

set_option maxRecDepth 100000 in
set_option maxHeartbeats 8000000 in
theorem rises_any (n : Nat) (X : Nat → OpB) (v : Value) (w : World) (H : BookHas) (hv : OpsBIn w n X v) (AW0 : Calls Tryd.prog 6 #[] w fun y w' => y = .returned (.bool true) ∧ Below w.heap.size w w') :
    Calls Tryd.prog 5 #[v] w fun x w' => x = .returned (.bool true) ∧ Below w.heap.size w w' := by
  obtain ⟨A, c, rfl, hr⟩ := hv.rows
  have HV := Lib.hid hr
  have HOK := Lib.hid hv.ok
  have HH := Lib.hid H
  have AW := Lib.hid AW0
  clear H AW0 hv hr
  go_enter Tryd.func5, Tryd.ntmps5
  go_wp2_with fail
  refine AW.out.mono ?_
  rintro _ w1 ⟨rfl, hb1⟩
  have B1 := Lib.hid hb1
  clear AW hb1
  by_cases hn : 60 < n
  · have q : (60 : Int) < (n : Int) := by omega
    clear HV HOK HH
    go_wp2
    go_ret
    exact ⟨rfl, B1.out⟩
  have q : ¬ (60 : Int) < (n : Int) := by omega
  have HZ := Lib.hid (row_new w1 #[.slice none 0 0, .slice none 0 0, .int .i64 0, .int .u8 0, .int .u8 0, .int .u8 0, .int .u8 0, .int .u8 0, .int .u8 0, .int .u8 0, .int .u8 0, .int .u8 0, .int .u8 0, .int .u8 0, .int .u8 0, .int .u8 0, .int .u8 0, .int .u8 0, .int .u8 0] 38 19 _ rfl (zero19 _ rfl))
  have BZ : Hid (Below w.heap.size w (w1.alloc (.cells #[.slice none 0 0, .slice none 0 0, .int .i64 0, .int .u8 0, .int .u8 0, .int .u8 0, .int .u8 0, .int .u8 0, .int .u8 0, .int .u8 0, .int .u8 0, .int .u8 0, .int .u8 0, .int .u8 0, .int .u8 0, .int .u8 0, .int .u8 0, .int .u8 0, .int .u8 0] 38))) := Lib.hid (B1.out.alloc B1.out.size _)
  go_upto_region 5 with (refine store_whole (by rfl) 38 (.tmp 4) (.tmp 19) (by rfl) w1.heap.size _ 19 _ (bookF bk0 (.slice none 0 0) (.slice none 0 0)) HZ.out (by rfl) _ (by rfl) (by kernel_rfl) (by rfl) (zero19 _ rfl) (fun i _ => book_one (book_empty w1) i) ?_; intro w2 hr2 ho2)
  have HR2 := Lib.hid hr2
  have B2 : Hid (Below w.heap.size w w2) := Lib.hid (ho2.below BZ.out B1.out.size)
  have HG2 : Hid (w.heap.size ≤ w1.heap.size ∧ w1.heap.size < w2.heap.size) := Lib.hid ⟨B1.out.size, World.rowIs.lt hr2⟩
  have HB2 : Hid (BookAt w2 bk0 (.slice none 0 0) (.slice none 0 0)) := book_empty w2
  clear hr2 ho2 HZ BZ B1
  generalize w1.heap.size = gb at *
  clear w1
  go_wp2_with fail
  go_loopw [5] (fun iv wr => ∃ (k : Nat) (b : Bk) (Lv Rv : Value), k ≤ n ∧ iv = .int .i64 (k : Int) ∧ Hid (wr.rowIs gb 38 19 (bookF b Lv Rv)) ∧ Hid (BookAt wr b Lv Rv) ∧ Hid (Below w.heap.size w wr) ∧ Hid (Apart Lv Rv gb)) (fun i _ => n - (intOf i).toNat)
  case atStart => exact ⟨0, bk0, _, _, by omega, rfl, HR2, HB2, B2, Lib.hid ⟨fun h => (by cases h), fun h => (by cases h)⟩⟩
  case round =>
    clear HR2 HB2
    obtain ⟨k, b, Lv, Rv, hk, rfl, hrr, hbb, hbw, hap⟩ := hrel
    have HGR : Hid (gb < wr.heap.size) := Lib.hid (World.rowIs.lt hrr.out)
    by_cases hlt : k < n
    · have q1 : (k : Int) < (n : Int) := by omega
      have q0 : (0 : Int) ≤ (k : Int) := by omega
      obtain ⟨bA, o, rfl, hbA, hc⟩ := HV.out (by omega)
      have HX := Lib.hid (fun (W : World) (hW : Below wr.heap.size wr W) => show W.rangeAt bA (o + k * 19) ((List.range 19).map (opF (X k))) from fun j u hj => ((hbw.out.trans (hW.mono hbw.out.size)).cell (p := ⟨bA, o + k * 19 + j, none⟩) hbA).trans (hc k hlt j u hj))
      have HY := Lib.hid (fun (W : World) (hW : Below wr.heap.size wr W) => range_row (hrr.out.of_block (hW.block gb HGR.out)))
      have HXK := Lib.hid (HOK.out k hlt)
      have HKK : Hid (k ≤ n ∧ k < n) := Lib.hid ⟨hk, hlt⟩
      clear hc HV HOK
      generalize X k = x at *
      go_upto_region 8 with fail
      go_cut [6, 7] from 20 to 79 (fun p e wx => ∃ (g6 : Nat) (Lv' Rv' : Value), p = .pointer (some ⟨g6, 0, none⟩) ∧ e = .int .i64 (applyC b x) ∧ Hid (wx.rowIs gb 38 19 (bookF b Lv Rv) ∧ BookAt wx b Lv Rv ∧ wx.rowIs g6 38 19 (bookF (applyB b x) Lv' Rv') ∧ BookAt wx (applyB b x) Lv' Rv' ∧ Below w.heap.size w wx ∧ gb < g6 ∧ Apart Lv' Rv' gb))
      case first =>
        have hS : Below wr.heap.size wr wr.drew := (Below.refl _ _).drew
        refine region_h (fun W => Below wr.heap.size wr W) 12 (by kernel_rfl) rfl ?_
        refine f_range 0 rfl (by kernel_rfl) (by rfl) 38 (.tmp 4) (by rfl) gb 0 19 (bookF b Lv Rv) HY.out (by rfl) _ Tryd.underlying38 (by rfl) (by kernel_rfl) hS ?_
        simp only [Act.put, List.setIfInBounds_toArray, List.set_cons_zero, List.set_cons_succ]
        refine f_take 1 rfl (by kernel_rfl) (by rfl) _ (fun W hW => by go_simp; rfl) hS ?_
        simp only [Act.put, List.setIfInBounds_toArray, List.set_cons_zero, List.set_cons_succ]
        refine f_take 2 rfl (by kernel_rfl) (by rfl) _ (fun W hW => by go_simp; rfl) hS ?_
        simp only [Act.put, List.setIfInBounds_toArray, List.set_cons_zero, List.set_cons_succ]
        refine f_take 3 rfl (by kernel_rfl) (by rfl) _ (fun W hW => by go_simp; rfl) hS ?_
        simp only [Act.put, List.setIfInBounds_toArray, List.set_cons_zero, List.set_cons_succ]
        refine f_range 4 rfl (by kernel_rfl) (by rfl) 28 (.tmp 30) (by rfl) bA (o + k * 19) 19 (opF x) HX.out (by rfl) _ Tryd.underlying28 (by rfl) (by kernel_rfl) hS ?_
        simp only [Act.put, List.setIfInBounds_toArray, List.set_cons_zero, List.set_cons_succ]
        have BV0 := Lib.hid hS
        have HB0 := Lib.hid (hbb.out.below hS)
        have HGV : Hid (gb < wr.drew.heap.size) := Lib.hid (Nat.lt_of_lt_of_le HGR.out hS.size)
        clear hS
        generalize wr.drew = V0 at *
        refine f_two 5 9 rfl rfl (by kernel_rfl) ?_ ?_
        · go_wp2_with fail
          refine (HH.out.apply x HB0.out HXK.out.1 HXK.out.2).mono ?_
          rintro _ V1 ⟨Lv', Rv', rfl, hb1, hbel1, hap1⟩
          have BV1 : Hid (Below wr.heap.size wr V1) := Lib.hid (BV0.out.trans (hbel1.mono BV0.out.size))
          have HN1 := Lib.hid hb1
          have HAP := Lib.hid hap1
          clear hb1 hbel1 hap1
          go_wp2_with fail
          refine m_on BV1.out ?_
          refine f_take 6 rfl (by kernel_rfl) (by rfl) _ (fun W hW => by go_simp; rfl) BV1.out ?_
          simp only [Act.put, List.setIfInBounds_toArray, List.set_cons_zero, List.set_cons_succ]
          refine f_take 7 rfl (by kernel_rfl) (by rfl) _ (fun W hW => by go_simp; rfl) BV1.out ?_
          simp only [Act.put, List.setIfInBounds_toArray, List.set_cons_zero, List.set_cons_succ]
          refine f_take 8 rfl (by kernel_rfl) (by rfl) _ (fun W hW => by go_simp; rfl) BV1.out ?_
          simp only [Act.put, List.setIfInBounds_toArray, List.set_cons_zero, List.set_cons_succ]
          refine f_go 9 rfl (by kernel_rfl) ?_
          go_wp2_with fail
          have HZ := Lib.hid (row_new V1 #[.slice none 0 0, .slice none 0 0, .int .i64 0, .int .u8 0, .int .u8 0, .int .u8 0, .int .u8 0, .int .u8 0, .int .u8 0, .int .u8 0, .int .u8 0, .int .u8 0, .int .u8 0, .int .u8 0, .int .u8 0, .int .u8 0, .int .u8 0, .int .u8 0, .int .u8 0] 38 19 _ rfl (zero19 _ rfl))
          have bb : Below V1.heap.size V1 (V1.alloc (.cells #[.slice none 0 0, .slice none 0 0, .int .i64 0, .int .u8 0, .int .u8 0, .int .u8 0, .int .u8 0, .int .u8 0, .int .u8 0, .int .u8 0, .int .u8 0, .int .u8 0, .int .u8 0, .int .u8 0, .int .u8 0, .int .u8 0, .int .u8 0, .int .u8 0, .int .u8 0] 38)) := (Below.refl _ _).alloc (Nat.le_refl _) _
          have BV2 : Hid (Below wr.heap.size wr (V1.alloc (.cells #[.slice none 0 0, .slice none 0 0, .int .i64 0, .int .u8 0, .int .u8 0, .int .u8 0, .int .u8 0, .int .u8 0, .int .u8 0, .int .u8 0, .int .u8 0, .int .u8 0, .int .u8 0, .int .u8 0, .int .u8 0, .int .u8 0, .int .u8 0, .int .u8 0, .int .u8 0] 38))) := Lib.hid (BV1.out.trans (bb.mono BV1.out.size))
          have HN := Lib.hid (HN1.out.below bb)
          have HA6 := Lib.hid (HN1.out.apart V1.heap.size (Nat.le_refl _))
          have HG6 : Hid (wr.heap.size ≤ V1.heap.size ∧ gb < V1.heap.size) := Lib.hid ⟨BV1.out.size, Nat.lt_of_lt_of_le HGR.out BV1.out.size⟩
          refine m_on BV2.out ?_
          clear bb BV1 HN1
          generalize (V1.alloc (.cells #[.slice none 0 0, .slice none 0 0, .int .i64 0, .int .u8 0, .int .u8 0, .int .u8 0, .int .u8 0, .int .u8 0, .int .u8 0, .int .u8 0, .int .u8 0, .int .u8 0, .int .u8 0, .int .u8 0, .int .u8 0, .int .u8 0, .int .u8 0, .int .u8 0, .int .u8 0] 38)) = V2 at *
          generalize V1.heap.size = g6 at *
          refine f_go 10 rfl (by kernel_rfl) ?_
          go_wp2_with (refine store_whole (by rfl) 38 (.tmp 6) (.tmp 33) (by rfl) g6 _ 19 _ (bookF (applyB b x) Lv' Rv') HZ.out (by rfl) _ (by rfl) (by kernel_rfl) (size_cellsOf _ _) (cellsOf_at _ _) (fun i _ => book_one HN.out i) ?_; intro V3 hr3 ho3)
          have HR3 := Lib.hid hr3
          have BV3 : Hid (Below wr.heap.size wr V3) := Lib.hid (ho3.below BV2.out HG6.out.1)
          have HN3 := Lib.hid (HN.out.only HA6.out ho3)
          clear hr3 ho3 HZ HN BV2 HA6
          refine m_on BV3.out ?_
          refine f_take 11 rfl (by kernel_rfl) (by rfl) _ (fun W hW => by go_simp; rfl) BV3.out ?_
          simp only [Act.put, List.setIfInBounds_toArray, List.set_cons_zero, List.set_cons_succ]
          refine f_end (by kernel_rfl) ?_
          go_wp2_with fail
          go_meet
          exact ⟨g6, Lv', Rv', rfl, rfl, Lib.hid ⟨hrr.out.of_block (BV3.out.block gb HGR.out), hbb.out.below BV3.out, HR3.out, HN3.out, hbw.out.trans (BV3.out.mono hbw.out.size), HG6.out.2, HAP.out gb HGV.out hap.out⟩⟩
        · go_wp2_with fail
          have HZ0 := row_new V0 #[.slice none 0 0, .slice none 0 0, .int .i64 0, .int .u8 0, .int .u8 0, .int .u8 0, .int .u8 0, .int .u8 0, .int .u8 0, .int .u8 0, .int .u8 0, .int .u8 0, .int .u8 0, .int .u8 0, .int .u8 0, .int .u8 0, .int .u8 0, .int .u8 0, .int .u8 0] 38 19 _ rfl (zero19 _ rfl)
          have bb : Below V0.heap.size V0 (V0.alloc (.cells #[.slice none 0 0, .slice none 0 0, .int .i64 0, .int .u8 0, .int .u8 0, .int .u8 0, .int .u8 0, .int .u8 0, .int .u8 0, .int .u8 0, .int .u8 0, .int .u8 0, .int .u8 0, .int .u8 0, .int .u8 0, .int .u8 0, .int .u8 0, .int .u8 0, .int .u8 0] 38)) := (Below.refl _ _).alloc (Nat.le_refl _) _
          have BV1 : Hid (Below wr.heap.size wr (V0.alloc (.cells #[.slice none 0 0, .slice none 0 0, .int .i64 0, .int .u8 0, .int .u8 0, .int .u8 0, .int .u8 0, .int .u8 0, .int .u8 0, .int .u8 0, .int .u8 0, .int .u8 0, .int .u8 0, .int .u8 0, .int .u8 0, .int .u8 0, .int .u8 0, .int .u8 0, .int .u8 0] 38))) := Lib.hid (BV0.out.trans (bb.mono BV0.out.size))
          have HB1 := Lib.hid (HB0.out.below bb)
          have HA0 := Lib.hid (HB0.out.apart V0.heap.size (Nat.le_refl _))
          have HG6 : Hid (wr.heap.size ≤ V0.heap.size ∧ gb < V0.heap.size) := Lib.hid ⟨BV0.out.size, HGV.out⟩
          have HGW : Hid (gb < (V0.alloc (.cells #[.slice none 0 0, .slice none 0 0, .int .i64 0, .int .u8 0, .int .u8 0, .int .u8 0, .int .u8 0, .int .u8 0, .int .u8 0, .int .u8 0, .int .u8 0, .int .u8 0, .int .u8 0, .int .u8 0, .int .u8 0, .int .u8 0, .int .u8 0, .int .u8 0, .int .u8 0] 38)).heap.size) := Lib.hid (Nat.lt_of_lt_of_le HGV.out bb.size)
          have HZ1 := Lib.hid HZ0
          refine m_on BV1.out ?_
          clear bb BV0 HZ0 HGV HB0
          generalize (V0.alloc (.cells #[.slice none 0 0, .slice none 0 0, .int .i64 0, .int .u8 0, .int .u8 0, .int .u8 0, .int .u8 0, .int .u8 0, .int .u8 0, .int .u8 0, .int .u8 0, .int .u8 0, .int .u8 0, .int .u8 0, .int .u8 0, .int .u8 0, .int .u8 0, .int .u8 0, .int .u8 0] 38)) = V1 at *
          generalize V0.heap.size = g6 at *
          refine f_go 5 rfl (by kernel_rfl) ?_
          go_wp2_with fail
          refine (HH.out.apply x HB1.out HXK.out.1 HXK.out.2).mono ?_
          rintro _ V2 ⟨Lv', Rv', rfl, hb1, hbel1, hap1⟩
          have BV2 : Hid (Below wr.heap.size wr V2) := Lib.hid (BV1.out.trans (hbel1.mono BV1.out.size))
          have HN := Lib.hid hb1
          have HAP := Lib.hid hap1
          have HZ := Lib.hid (HZ1.out.of_block (hbel1.block _ (World.rowIs.lt HZ1.out)))
          have HA6 := Lib.hid (hap1 g6 (World.rowIs.lt HZ1.out) HA0.out)
          have HGV := HGW
          clear hb1 hbel1 hap1 HZ1 HA0 HGW
          go_wp2_with fail
          refine m_on BV2.out ?_
          refine f_take 6 rfl (by kernel_rfl) (by rfl) _ (fun W hW => by go_simp; rfl) BV2.out ?_
          simp only [Act.put, List.setIfInBounds_toArray, List.set_cons_zero, List.set_cons_succ]
          refine f_take 7 rfl (by kernel_rfl) (by rfl) _ (fun W hW => by go_simp; rfl) BV2.out ?_
          simp only [Act.put, List.setIfInBounds_toArray, List.set_cons_zero, List.set_cons_succ]
          refine f_take 8 rfl (by kernel_rfl) (by rfl) _ (fun W hW => by go_simp; rfl) BV2.out ?_
          simp only [Act.put, List.setIfInBounds_toArray, List.set_cons_zero, List.set_cons_succ]
          refine f_go 10 rfl (by kernel_rfl) ?_
          go_wp2_with (refine store_whole (by rfl) 38 (.tmp 6) (.tmp 33) (by rfl) g6 _ 19 _ (bookF (applyB b x) Lv' Rv') HZ.out (by rfl) _ (by rfl) (by kernel_rfl) (size_cellsOf _ _) (cellsOf_at _ _) (fun i _ => book_one HN.out i) ?_; intro V3 hr3 ho3)
          have HR3 := Lib.hid hr3
          have BV3 : Hid (Below wr.heap.size wr V3) := Lib.hid (ho3.below BV2.out HG6.out.1)
          have HN3 := Lib.hid (HN.out.only HA6.out ho3)
          clear hr3 ho3 HZ HN BV2 HA6
          refine m_on BV3.out ?_
          refine f_take 11 rfl (by kernel_rfl) (by rfl) _ (fun W hW => by go_simp; rfl) BV3.out ?_
          simp only [Act.put, List.setIfInBounds_toArray, List.set_cons_zero, List.set_cons_succ]
          refine f_end (by kernel_rfl) ?_
          go_wp2_with fail
          go_meet
          exact ⟨g6, Lv', Rv', rfl, rfl, Lib.hid ⟨hrr.out.of_block (BV3.out.block gb HGR.out), hbb.out.below BV3.out, HR3.out, HN3.out, hbw.out.trans (BV3.out.mono hbw.out.size), HG6.out.2, HAP.out gb HGV.out hap.out⟩⟩
      case rest =>
        obtain ⟨g6, Lv', Rv', rfl, rfl, hx⟩ := hcut
        have hge := apply_gen b x
        have her : applyC b x ≠ 0 → applyB b x = b := apply_err
        have HDD := Lib.hid (fun kk hk => apply_dead b x kk hk)
        clear HX HY HXK hrr hbb
        generalize applyB b x = b2 at *
        generalize applyC b x = e at *
        have HG6 : Hid (gb < g6 ∧ Apart Lv' Rv' gb) := Lib.hid hx.out.2.2.2.2.2
        go_upto_region 9 with fail
        go_cut [63] from 35 to 62 (fun t wx => t = .bool false ∧ Hid (wx.rowIs gb 38 19 (bookF b Lv Rv) ∧ BookAt wx b Lv Rv ∧ wx.rowIs g6 38 19 (bookF b2 Lv' Rv') ∧ BookAt wx b2 Lv' Rv' ∧ Below w.heap.size w wx))
        case first =>
          have c0 : wc.cell? ⟨gb, 2, none⟩ = some (.int .i64 b.gen) := hx.out.1.cell (i := 2) (by omega)
          have c6 : wc.cell? ⟨g6, 2, none⟩ = some (.int .i64 b2.gen) := hx.out.2.2.1.cell (i := 2) (by omega)
          have HR0 := Lib.hid hx.out.1
          have HR6 := Lib.hid hx.out.2.2.1
          have HB0 := Lib.hid hx.out.2.1
          have HB6 := Lib.hid hx.out.2.2.2.1
          have HW := Lib.hid hx.out.2.2.2.2.1
          clear hx
          have HEN : Hid (∀ K W, (binOp .neq 26 (.agg (cellsOf 16 (wordF K))) (.agg (cellsOf 16 (wordF K)))).run Tryd.prog W = .ok (.bool false) W) := Lib.hid (fun K W => run_neq_same Tryd.underlying26 Tryd.underlying5 (by kernel_rfl) _ (fun i hi => ⟨_, cellsOf_at 16 _ i hi⟩) W)
          by_cases he : e = 0
          · subst he
            by_cases hg : b2.gen = b.gen
            · rw [hg] at c6
              have ho := hge.2 hg
              have en : ∀ W, (binOp .neq 26 (.agg (cellsOf 16 (wordF b2.own))) (.agg (cellsOf 16 (wordF b.own)))).run Tryd.prog W = .ok (.bool false) W := by rw [ho]; exact HEN.out _
              clear ho hge her HEN hg
              generalize hgb : b.gen = gg at *
              clear hgb
              go_wp2_with (first
              | (refine load_as (by rfl) 26 (.tmp 57) (by rfl) g6 3 _ 19 16 _ (cellsOf 16 (wordF b2.own)) (own_cells _ _ _) HR6.out (by rfl) _ Tryd.underlying26 (by rfl) (by kernel_rfl) (by omega) ?_)
              | (refine load_as (by rfl) 26 (.tmp 59) (by rfl) gb 3 _ 19 16 _ (cellsOf 16 (wordF b.own)) (own_cells _ _ _) HR0.out (by rfl) _ Tryd.underlying26 (by rfl) (by kernel_rfl) (by omega) ?_))
              go_meet
              exact ⟨rfl, Lib.hid ⟨HR0.out, HB0.out, HR6.out, HB6.out, HW.out⟩⟩
            · have q3 : ¬ b2.gen < b.gen := by omega
              clear HEN her hge
              go_wp2_with fail
              go_meet
              exact ⟨rfl, Lib.hid ⟨HR0.out, HB0.out, HR6.out, HB6.out, HW.out⟩⟩
          · obtain rfl : b = b2 := (her he).symm
            have en := HEN.out b.own
            have qe : (e != 0) = true := by simpa using he
            clear her hge HEN
            go_wp2_with (first
              | (refine load_whole_met (by rfl) 38 (.tmp 4) (by rfl) _ _ _ _ HR0.out (by rfl) _ Tryd.underlying38 (by rfl) (by kernel_rfl) ?_)
              | (refine load_whole_met (by rfl) 38 (.tmp 6) (by rfl) _ _ _ _ HR6.out (by rfl) _ Tryd.underlying38 (by rfl) (by kernel_rfl) ?_))
            refine (HH.out.same HB0.out HB6.out).mono ?_
            rintro _ wd ⟨⟨t, rfl, ht⟩, hbd⟩
            obtain rfl : t = true := ht.2 rfl
            replace c0 := (hbd.cell (p := ⟨gb, 2, none⟩) (block_lt_of_cell c0)).trans c0
            replace c6 := (hbd.cell (p := ⟨g6, 2, none⟩) (block_lt_of_cell c6)).trans c6
            replace HR0 := Lib.hid (HR0.out.of_block (hbd.block _ (World.rowIs.lt HR0.out)))
            replace HR6 := Lib.hid (HR6.out.of_block (hbd.block _ (World.rowIs.lt HR6.out)))
            replace HB0 := Lib.hid (HB0.out.below hbd)
            replace HB6 := Lib.hid (HB6.out.below hbd)
            replace HW := Lib.hid (HW.out.trans (hbd.mono HW.out.size))
            clear ht hbd
            generalize hgb : b.gen = gg at *
            clear hgb
            go_wp2_with (first
              | (refine load_as (by rfl) 26 (.tmp 57) (by rfl) g6 3 _ 19 16 _ (cellsOf 16 (wordF b.own)) (own_cells _ _ _) HR6.out (by rfl) _ Tryd.underlying26 (by rfl) (by kernel_rfl) (by omega) ?_)
              | (refine load_as (by rfl) 26 (.tmp 59) (by rfl) gb 3 _ 19 16 _ (cellsOf 16 (wordF b.own)) (own_cells _ _ _) HR0.out (by rfl) _ Tryd.underlying26 (by rfl) (by kernel_rfl) (by omega) ?_))
            go_meet
            exact ⟨rfl, Lib.hid ⟨HR0.out, HB0.out, HR6.out, HB6.out, HW.out⟩⟩
        case rest =>
          obtain ⟨rfl, hy⟩ := hcut
          obtain ⟨rA, rc, rfl, hrv⟩ := hy.out.2.1.revs
          have HRV := Lib.hid hrv
          have HLEN := Lib.hid hy.out.2.1.reach.words
          have HM := Lib.hid hy.out.2.1.reach.revs
          clear hx hrv hge her
          go_wp2_with fail
          go_loopw [8] (fun jv wr => ∃ j : Nat, j ≤ b.rev.length ∧ jv = .int .i64 (j : Int) ∧ Hid (Below wc.heap.size wc wr)) (fun jv _ => b.rev.length - (intOf jv).toNat)
          case atStart => exact ⟨0, by omega, rfl, Lib.hid (Below.refl _ _)⟩
          case round =>
            obtain ⟨j, hj, rfl, hwy⟩ := hrel
            have HR0 := Lib.hid (hy.out.1.of_block (hwy.out.block _ (World.rowIs.lt hy.out.1)))
            have HR6 := Lib.hid (hy.out.2.2.1.of_block (hwy.out.block _ (World.rowIs.lt hy.out.2.2.1)))
            have HB6 := Lib.hid (hy.out.2.2.2.1.below hwy.out)
            have HW := Lib.hid (hy.out.2.2.2.2.trans (hwy.out.mono hy.out.2.2.2.2.size))
            have c1 : wr.cell? ⟨gb, 1, none⟩ = some (.slice rA b.rev.length rc) := HR0.out.cell (i := 1) (by omega)
            by_cases hjl : j < b.rev.length
            · obtain ⟨rB, ro, hrA, hrB, hrc⟩ := HRV.out (by omega)
              subst hrA
              have q5 : (j : Int) < (b.rev.length : Int) := by omega
              have q6 : (0 : Int) ≤ (j : Int) := by omega
              have HX := Lib.hid (fun (W : World) (hW : Below wr.heap.size wr W) => show W.rangeAt rB (ro + j * 16) ((List.range 16).map (wordF (b.rev.getD j zw))) from fun i u hu => ((hwy.out.trans (hW.mono hwy.out.size)).cell (p := ⟨rB, ro + j * 16 + i, none⟩) hrB).trans (hrc j hjl i u hu))
              have HY := Lib.hid (fun (W : World) (hW : Below wr.heap.size wr W) => range_row (HR6.out.of_block (hW.block g6 (World.rowIs.lt HR6.out))))
              have HC := Lib.hid (fun (W : World) (hW : Below wr.heap.size wr W) => (hW.cell (p := ⟨gb, 1, none⟩) (block_lt_of_cell c1)).trans c1)
              have hmem : b.rev.getD j zw ∈ b.rev := by
                rw [List.getD_eq_getElem?_getD, List.getElem?_eq_getElem hjl]
                exact List.getElem_mem hjl
              have hd : decide (b.rev.getD j zw ∈ b2.rev) = true := decide_eq_true (HDD.out _ hmem)
              have HL := Lib.hid (HLEN.out _ hmem)
              have HD := Lib.hid hd
              have HJ : Hid (j < b.rev.length) := Lib.hid hjl
              have HBR : Hid (b.rev.length ≤ 200) := HM
              have HJV : Hid (wrap64 ((j : Int) + 1) = ((j + 1 : Nat) : Int)) := Lib.hid ((wrap64_id (by omega) (by have := HM.out; omega)).trans (by omega))
              clear hrc hmem hd hj hjl
              generalize b.rev.getD j zw = kw at *
              go_upto_region 14 with fail
              clear c1
              have hS : Below wr.heap.size wr wr.drew := (Below.refl _ _).drew
              refine region_h (fun W => Below wr.heap.size wr W) 8 (by kernel_rfl) rfl ?_
              refine f_range 0 rfl (by kernel_rfl) (by rfl) 38 (.tmp 6) (by rfl) g6 0 19 (bookF b2 Lv' Rv') HY.out (by rfl) _ Tryd.underlying38 (by rfl) (by kernel_rfl) hS ?_
              simp only [Act.put, List.setIfInBounds_toArray, List.set_cons_zero, List.set_cons_succ]
              refine f_take 1 rfl (by kernel_rfl) (by rfl) _ (fun W hW => by go_simp; rfl) hS ?_
              simp only [Act.put, List.setIfInBounds_toArray, List.set_cons_zero, List.set_cons_succ]
              refine f_take 2 rfl (by kernel_rfl) (by rfl) _ (fun W hW => by have u := HC.out W hW; go_simp; rfl) hS ?_
              simp only [Act.put, List.setIfInBounds_toArray, List.set_cons_zero, List.set_cons_succ]
              refine f_take 3 rfl (by kernel_rfl) (by rfl) _ (fun W hW => by go_simp; rfl) hS ?_
              simp only [Act.put, List.setIfInBounds_toArray, List.set_cons_zero, List.set_cons_succ]
              refine f_take 4 rfl (by kernel_rfl) (by rfl) _ (fun W hW => by go_simp; rfl) hS ?_
              simp only [Act.put, List.setIfInBounds_toArray, List.set_cons_zero, List.set_cons_succ]
              refine f_range 5 rfl (by kernel_rfl) (by rfl) 26 (.tmp 75) (by rfl) rB (ro + j * 16) 16 (wordF kw) HX.out (by rfl) _ Tryd.underlying26 (by rfl) (by kernel_rfl) hS ?_
              simp only [Act.put, List.setIfInBounds_toArray, List.set_cons_zero, List.set_cons_succ]
              have DD := HH.out.dead kw (HB6.out.below hS) HL.out
              rw [HD.out] at DD
              have BV0 := Lib.hid hS
              have DDH := Lib.hid DD
              clear hS DD
              generalize wr.drew = V0 at *
              refine f_go 6 rfl (by kernel_rfl) ?_
              go_wp2_with fail
              refine DDH.out.mono ?_
              rintro _ V1 ⟨rfl, hb1⟩
              have BV1 : Hid (Below wr.heap.size wr V1) := Lib.hid (BV0.out.trans (hb1.mono BV0.out.size))
              clear hb1 DDH
              go_wp2_with fail
              refine m_on BV1.out ?_
              refine f_take 7 rfl (by kernel_rfl) (by rfl) _ (fun W hW => by go_simp; rfl) BV1.out ?_
              simp only [Act.put, List.setIfInBounds_toArray, List.set_cons_zero, List.set_cons_succ]
              refine f_end (by kernel_rfl) ?_
              go_wp2
              rw [HJV.out]
              have hjl := HJ.out
              exact ⟨⟨j + 1, hjl, rfl, Lib.hid (hwy.out.trans (BV1.out.mono hwy.out.size))⟩, by simp [intOf]; omega⟩
            · have q5 : ¬ (j : Int) < (b.rev.length : Int) := by omega
              have HON := Lib.hid (fun i (_ : i < 19) => book_one HB6.out i)
              have hkv : wrap64 ((k : Int) + 1) = ((k + 1 : Nat) : Int) := (wrap64_id (by omega) (by omega)).trans (by omega)
              have HKV := Lib.hid hkv
              have HKN : Hid (k + 1 ≤ n ∧ k < n) := Lib.hid (by omega)
              clear HRV HLEN HM HDD hkv hk hlt q1 q0 hn
              go_wp2_with (first
                | (refine load_whole_met (by rfl) 38 (.tmp 6) (by rfl) _ _ _ _ HR6.out (by rfl) _ Tryd.underlying38 (by rfl) (by kernel_rfl) ?_)
                | (refine store_whole (by rfl) 38 (.tmp 4) (.tmp 79) (by rfl) gb _ 19 _ (bookF b2 Lv' Rv') HR0.out (by rfl) _ (by rfl) (by kernel_rfl) (size_cellsOf _ _) (cellsOf_at _ _) HON.out ?_; intro V3 hr3 ho3; clear c1))
              rw [HKV.out]
              have hkn := HKN.out
              exact ⟨⟨k + 1, b2, Lv', Rv', hkn.1, rfl, Lib.hid hr3, Lib.hid (HB6.out.only HG6.out.2 ho3), Lib.hid (ho3.below HW.out HG2.out.1), Lib.hid HG6.out.2⟩, by simp [intOf]; omega⟩
    · have q1 : ¬ (k : Int) < (n : Int) := by omega
      go_wp2_with (refine load_whole_met (by rfl) 38 (.tmp 4) (by rfl) _ _ _ _ hrr.out (by rfl) _ Tryd.underlying38 (by rfl) (by kernel_rfl) ?_)
      refine (HH.out.ops hbb.out).mono ?_
      rintro _ wd ⟨ov, rfl, hops, hbd⟩
      have HRUN := Lib.hid (ops_restore hbb.out.reach)
      have HOK2 := Lib.hid (ops_ok hbb.out.reach)
      have HLN := Lib.hid (ops_len hbb.out.reach)
      have HRb := Lib.hid (hrr.out.of_block (hbd.block _ HGR.out))
      have HBb := Lib.hid (hbb.out.below hbd)
      have HWb := Lib.hid (hbw.out.trans (hbd.mono hbw.out.size))
      have HGb : Hid (gb < wd.heap.size) := Lib.hid (Nat.lt_of_lt_of_le HGR.out hbd.size)
      obtain ⟨oA, oc, rfl, hoc⟩ := hops
      have HOP := Lib.hid hoc
      clear hoc hbd hrr hbb hbw hap HGR HV HOK B2 HG2 hk hlt q1
      generalize opsB b = ol at *
      have HZ := Lib.hid (row_new wd #[.slice none 0 0, .slice none 0 0, .int .i64 0, .int .u8 0, .int .u8 0, .int .u8 0, .int .u8 0, .int .u8 0, .int .u8 0, .int .u8 0, .int .u8 0, .int .u8 0, .int .u8 0, .int .u8 0, .int .u8 0, .int .u8 0, .int .u8 0, .int .u8 0, .int .u8 0] 38 19 _ rfl (zero19 _ rfl))
      have BZ : Hid (Below wd.heap.size wd (wd.alloc (.cells #[.slice none 0 0, .slice none 0 0, .int .i64 0, .int .u8 0, .int .u8 0, .int .u8 0, .int .u8 0, .int .u8 0, .int .u8 0, .int .u8 0, .int .u8 0, .int .u8 0, .int .u8 0, .int .u8 0, .int .u8 0, .int .u8 0, .int .u8 0, .int .u8 0, .int .u8 0] 38))) := Lib.hid ((Below.refl _ _).alloc (Nat.le_refl _) _)
      go_upto_region 19 with (refine store_whole (by rfl) 38 (.tmp 10) (.tmp 82) (by rfl) wd.heap.size _ 19 _ (bookF bk0 (.slice none 0 0) (.slice none 0 0)) HZ.out (by rfl) _ (by rfl) (by kernel_rfl) (by rfl) (zero19 _ rfl) (fun i _ => book_one (book_empty wd) i) ?_; intro w4 hr4 ho4)
      have HR4 := Lib.hid hr4
      have B4 : Hid (Below wd.heap.size wd w4) := Lib.hid (ho4.below BZ.out (Nat.le_refl _))
      have HB4 : Hid (BookAt w4 bk0 (.slice none 0 0) (.slice none 0 0)) := book_empty w4
      have HG4 : Hid (wd.heap.size < w4.heap.size) := Lib.hid (World.rowIs.lt hr4)
      obtain ⟨gc, hgc⟩ : ∃ gc, gc = wd.heap.size := ⟨_, rfl⟩
      have HGC := Lib.hid hgc
      rw [← hgc] at HR4 HG4 ⊢
      clear hr4 ho4 HZ BZ hgc
      go_wp2_with fail
      go_loopw [11] (fun iv wr => ∃ (k : Nat) (d : Bk) (Lw Rw : Value), k ≤ ol.length ∧ iv = .int .i64 (k : Int) ∧ Hid (wr.rowIs gc 38 19 (bookF d Lw Rw)) ∧ Hid (BookAt wr d Lw Rw) ∧ Hid (Below wd.heap.size wd wr) ∧ Hid (Apart Lw Rw gc) ∧ Hid (runB bk0 (ol.take k) = some d)) (fun i _ => ol.length - (intOf i).toNat)
      case atStart => exact ⟨0, bk0, _, _, by omega, rfl, HR4, HB4, B4, Lib.hid ⟨fun h => (by cases h), fun h => (by cases h)⟩, Lib.hid rfl⟩
      case round =>
        clear HR4 HB4
        obtain ⟨k, d, Lw, Rw, hk, rfl, hrr, hbb, hbw, hap, hrun⟩ := hrel
        have HGR : Hid (gc < wr.heap.size) := Lib.hid (World.rowIs.lt hrr.out)
        by_cases hlt : k < ol.length
        · have q1 : (k : Int) < (ol.length : Int) := by omega
          have q0 : (0 : Int) ≤ (k : Int) := by omega
          obtain ⟨oA', oo, hoA, hbA, hc⟩ := HOP.out (by omega)
          subst hoA
          have hx : ol[k]? = some (ol.getD k ⟨0, nos, zw, 0⟩) := by
            rw [List.getD_eq_getElem?_getD, List.getElem?_eq_getElem hlt]
            rfl
          have hmem := List.mem_of_getElem? hx
          have HST := Lib.hid (run_step HRUN.out hlt hrun.out _ hx)
          have HX := Lib.hid (fun (W : World) (hW : Below wr.heap.size wr W) => show W.rangeAt oA' (oo + k * 19) ((List.range 19).map (opF (ol.getD k ⟨0, nos, zw, 0⟩))) from fun j u hj => ((hbw.out.trans (hW.mono hbw.out.size)).cell (p := ⟨oA', oo + k * 19 + j, none⟩) hbA).trans (hc k hlt j u hj))
          have HY := Lib.hid (fun (W : World) (hW : Below wr.heap.size wr W) => range_row (hrr.out.of_block (hW.block gc HGR.out)))
          have HXK := Lib.hid (HOK2.out _ hmem)
          have HKN : Hid (k + 1 ≤ ol.length ∧ k < ol.length) := Lib.hid (by omega)
          have HKV : Hid (wrap64 ((k : Int) + 1) = ((k + 1 : Nat) : Int)) := Lib.hid ((wrap64_id (by omega) (by have := HLN.out; omega)).trans (by omega))
          clear hc hx hmem hk hlt HOK2
          generalize ol.getD k ⟨0, nos, zw, 0⟩ = x at *
          go_upto_region 22 with fail
          clear HOP
          go_cut [12, 13] from 83 to 100 (fun p e wx => ∃ (g6 : Nat) (Lv' Rv' : Value), p = .pointer (some ⟨g6, 0, none⟩) ∧ e = .int .i64 (applyC d x) ∧ Hid (wx.rowIs gc 38 19 (bookF d Lw Rw) ∧ BookAt wx d Lw Rw ∧ wx.rowIs g6 38 19 (bookF (applyB d x) Lv' Rv') ∧ BookAt wx (applyB d x) Lv' Rv' ∧ Below wd.heap.size wd wx ∧ gc < g6 ∧ Apart Lv' Rv' gc))
          case first =>
            have hS : Below wr.heap.size wr wr.drew := (Below.refl _ _).drew
            refine region_h (fun W => Below wr.heap.size wr W) 12 (by kernel_rfl) rfl ?_
            refine f_range 0 rfl (by kernel_rfl) (by rfl) 38 (.tmp 10) (by rfl) gc 0 19 (bookF d Lw Rw) HY.out (by rfl) _ Tryd.underlying38 (by rfl) (by kernel_rfl) hS ?_
            simp only [Act.put, List.setIfInBounds_toArray, List.set_cons_zero, List.set_cons_succ]
            refine f_take 1 rfl (by kernel_rfl) (by rfl) _ (fun W hW => by go_simp; rfl) hS ?_
            simp only [Act.put, List.setIfInBounds_toArray, List.set_cons_zero, List.set_cons_succ]
            refine f_take 2 rfl (by kernel_rfl) (by rfl) _ (fun W hW => by go_simp; rfl) hS ?_
            simp only [Act.put, List.setIfInBounds_toArray, List.set_cons_zero, List.set_cons_succ]
            refine f_take 3 rfl (by kernel_rfl) (by rfl) _ (fun W hW => by go_simp; rfl) hS ?_
            simp only [Act.put, List.setIfInBounds_toArray, List.set_cons_zero, List.set_cons_succ]
            refine f_range 4 rfl (by kernel_rfl) (by rfl) 28 (.tmp 93) (by rfl) oA' (oo + k * 19) 19 (opF x) HX.out (by rfl) _ Tryd.underlying28 (by rfl) (by kernel_rfl) hS ?_
            simp only [Act.put, List.setIfInBounds_toArray, List.set_cons_zero, List.set_cons_succ]
            have BV0 := Lib.hid hS
            have HB0 := Lib.hid (hbb.out.below hS)
            have HGV : Hid (gc < wr.drew.heap.size) := Lib.hid (Nat.lt_of_lt_of_le HGR.out hS.size)
            clear hS
            generalize wr.drew = V0 at *
            refine f_two 5 9 rfl rfl (by kernel_rfl) ?_ ?_
            · go_wp2_with fail
              refine (HH.out.apply x HB0.out HXK.out.1 HXK.out.2).mono ?_
              rintro _ V1 ⟨Lv', Rv', rfl, hb1, hbel1, hap1⟩
              have BV1 : Hid (Below wr.heap.size wr V1) := Lib.hid (BV0.out.trans (hbel1.mono BV0.out.size))
              have HN1 := Lib.hid hb1
              have HAP := Lib.hid hap1
              clear hb1 hbel1 hap1
              go_wp2_with fail
              refine m_on BV1.out ?_
              refine f_take 6 rfl (by kernel_rfl) (by rfl) _ (fun W hW => by go_simp; rfl) BV1.out ?_
              simp only [Act.put, List.setIfInBounds_toArray, List.set_cons_zero, List.set_cons_succ]
              refine f_take 7 rfl (by kernel_rfl) (by rfl) _ (fun W hW => by go_simp; rfl) BV1.out ?_
              simp only [Act.put, List.setIfInBounds_toArray, List.set_cons_zero, List.set_cons_succ]
              refine f_take 8 rfl (by kernel_rfl) (by rfl) _ (fun W hW => by go_simp; rfl) BV1.out ?_
              simp only [Act.put, List.setIfInBounds_toArray, List.set_cons_zero, List.set_cons_succ]
              refine f_go 9 rfl (by kernel_rfl) ?_
              go_wp2_with fail
              have HZ := Lib.hid (row_new V1 #[.slice none 0 0, .slice none 0 0, .int .i64 0, .int .u8 0, .int .u8 0, .int .u8 0, .int .u8 0, .int .u8 0, .int .u8 0, .int .u8 0, .int .u8 0, .int .u8 0, .int .u8 0, .int .u8 0, .int .u8 0, .int .u8 0, .int .u8 0, .int .u8 0, .int .u8 0] 38 19 _ rfl (zero19 _ rfl))
              have bb : Below V1.heap.size V1 (V1.alloc (.cells #[.slice none 0 0, .slice none 0 0, .int .i64 0, .int .u8 0, .int .u8 0, .int .u8 0, .int .u8 0, .int .u8 0, .int .u8 0, .int .u8 0, .int .u8 0, .int .u8 0, .int .u8 0, .int .u8 0, .int .u8 0, .int .u8 0, .int .u8 0, .int .u8 0, .int .u8 0] 38)) := (Below.refl _ _).alloc (Nat.le_refl _) _
              have BV2 : Hid (Below wr.heap.size wr (V1.alloc (.cells #[.slice none 0 0, .slice none 0 0, .int .i64 0, .int .u8 0, .int .u8 0, .int .u8 0, .int .u8 0, .int .u8 0, .int .u8 0, .int .u8 0, .int .u8 0, .int .u8 0, .int .u8 0, .int .u8 0, .int .u8 0, .int .u8 0, .int .u8 0, .int .u8 0, .int .u8 0] 38))) := Lib.hid (BV1.out.trans (bb.mono BV1.out.size))
              have HN := Lib.hid (HN1.out.below bb)
              have HA6 := Lib.hid (HN1.out.apart V1.heap.size (Nat.le_refl _))
              have HG6 : Hid (wr.heap.size ≤ V1.heap.size ∧ gc < V1.heap.size) := Lib.hid ⟨BV1.out.size, Nat.lt_of_lt_of_le HGR.out BV1.out.size⟩
              refine m_on BV2.out ?_
              clear bb BV1 HN1
              generalize (V1.alloc (.cells #[.slice none 0 0, .slice none 0 0, .int .i64 0, .int .u8 0, .int .u8 0, .int .u8 0, .int .u8 0, .int .u8 0, .int .u8 0, .int .u8 0, .int .u8 0, .int .u8 0, .int .u8 0, .int .u8 0, .int .u8 0, .int .u8 0, .int .u8 0, .int .u8 0, .int .u8 0] 38)) = V2 at *
              generalize V1.heap.size = g6 at *
              refine f_go 10 rfl (by kernel_rfl) ?_
              go_wp2_with (refine store_whole (by rfl) 38 (.tmp 12) (.tmp 96) (by rfl) g6 _ 19 _ (bookF (applyB d x) Lv' Rv') HZ.out (by rfl) _ (by rfl) (by kernel_rfl) (size_cellsOf _ _) (cellsOf_at _ _) (fun i _ => book_one HN.out i) ?_; intro V3 hr3 ho3)
              have HR3 := Lib.hid hr3
              have BV3 : Hid (Below wr.heap.size wr V3) := Lib.hid (ho3.below BV2.out HG6.out.1)
              have HN3 := Lib.hid (HN.out.only HA6.out ho3)
              clear hr3 ho3 HZ HN BV2 HA6
              refine m_on BV3.out ?_
              refine f_take 11 rfl (by kernel_rfl) (by rfl) _ (fun W hW => by go_simp; rfl) BV3.out ?_
              simp only [Act.put, List.setIfInBounds_toArray, List.set_cons_zero, List.set_cons_succ]
              refine f_end (by kernel_rfl) ?_
              go_wp2_with fail
              go_meet
              exact ⟨g6, Lv', Rv', rfl, rfl, Lib.hid ⟨hrr.out.of_block (BV3.out.block gc HGR.out), hbb.out.below BV3.out, HR3.out, HN3.out, hbw.out.trans (BV3.out.mono hbw.out.size), HG6.out.2, HAP.out gc HGV.out hap.out⟩⟩
            · go_wp2_with fail
              have HZ0 := row_new V0 #[.slice none 0 0, .slice none 0 0, .int .i64 0, .int .u8 0, .int .u8 0, .int .u8 0, .int .u8 0, .int .u8 0, .int .u8 0, .int .u8 0, .int .u8 0, .int .u8 0, .int .u8 0, .int .u8 0, .int .u8 0, .int .u8 0, .int .u8 0, .int .u8 0, .int .u8 0] 38 19 _ rfl (zero19 _ rfl)
              have bb : Below V0.heap.size V0 (V0.alloc (.cells #[.slice none 0 0, .slice none 0 0, .int .i64 0, .int .u8 0, .int .u8 0, .int .u8 0, .int .u8 0, .int .u8 0, .int .u8 0, .int .u8 0, .int .u8 0, .int .u8 0, .int .u8 0, .int .u8 0, .int .u8 0, .int .u8 0, .int .u8 0, .int .u8 0, .int .u8 0] 38)) := (Below.refl _ _).alloc (Nat.le_refl _) _
              have BV1 : Hid (Below wr.heap.size wr (V0.alloc (.cells #[.slice none 0 0, .slice none 0 0, .int .i64 0, .int .u8 0, .int .u8 0, .int .u8 0, .int .u8 0, .int .u8 0, .int .u8 0, .int .u8 0, .int .u8 0, .int .u8 0, .int .u8 0, .int .u8 0, .int .u8 0, .int .u8 0, .int .u8 0, .int .u8 0, .int .u8 0] 38))) := Lib.hid (BV0.out.trans (bb.mono BV0.out.size))
              have HB1 := Lib.hid (HB0.out.below bb)
              have HA0 := Lib.hid (HB0.out.apart V0.heap.size (Nat.le_refl _))
              have HG6 : Hid (wr.heap.size ≤ V0.heap.size ∧ gc < V0.heap.size) := Lib.hid ⟨BV0.out.size, HGV.out⟩
              have HGW : Hid (gc < (V0.alloc (.cells #[.slice none 0 0, .slice none 0 0, .int .i64 0, .int .u8 0, .int .u8 0, .int .u8 0, .int .u8 0, .int .u8 0, .int .u8 0, .int .u8 0, .int .u8 0, .int .u8 0, .int .u8 0, .int .u8 0, .int .u8 0, .int .u8 0, .int .u8 0, .int .u8 0, .int .u8 0] 38)).heap.size) := Lib.hid (Nat.lt_of_lt_of_le HGV.out bb.size)
              have HZ1 := Lib.hid HZ0
              refine m_on BV1.out ?_
              clear bb BV0 HZ0 HGV HB0
              generalize (V0.alloc (.cells #[.slice none 0 0, .slice none 0 0, .int .i64 0, .int .u8 0, .int .u8 0, .int .u8 0, .int .u8 0, .int .u8 0, .int .u8 0, .int .u8 0, .int .u8 0, .int .u8 0, .int .u8 0, .int .u8 0, .int .u8 0, .int .u8 0, .int .u8 0, .int .u8 0, .int .u8 0] 38)) = V1 at *
              generalize V0.heap.size = g6 at *
              refine f_go 5 rfl (by kernel_rfl) ?_
              go_wp2_with fail
              refine (HH.out.apply x HB1.out HXK.out.1 HXK.out.2).mono ?_
              rintro _ V2 ⟨Lv', Rv', rfl, hb1, hbel1, hap1⟩
              have BV2 : Hid (Below wr.heap.size wr V2) := Lib.hid (BV1.out.trans (hbel1.mono BV1.out.size))
              have HN := Lib.hid hb1
              have HAP := Lib.hid hap1
              have HZ := Lib.hid (HZ1.out.of_block (hbel1.block _ (World.rowIs.lt HZ1.out)))
              have HA6 := Lib.hid (hap1 g6 (World.rowIs.lt HZ1.out) HA0.out)
              have HGV := HGW
              clear hb1 hbel1 hap1 HZ1 HA0 HGW
              go_wp2_with fail
              refine m_on BV2.out ?_
              refine f_take 6 rfl (by kernel_rfl) (by rfl) _ (fun W hW => by go_simp; rfl) BV2.out ?_
              simp only [Act.put, List.setIfInBounds_toArray, List.set_cons_zero, List.set_cons_succ]
              refine f_take 7 rfl (by kernel_rfl) (by rfl) _ (fun W hW => by go_simp; rfl) BV2.out ?_
              simp only [Act.put, List.setIfInBounds_toArray, List.set_cons_zero, List.set_cons_succ]
              refine f_take 8 rfl (by kernel_rfl) (by rfl) _ (fun W hW => by go_simp; rfl) BV2.out ?_
              simp only [Act.put, List.setIfInBounds_toArray, List.set_cons_zero, List.set_cons_succ]
              refine f_go 10 rfl (by kernel_rfl) ?_
              go_wp2_with (refine store_whole (by rfl) 38 (.tmp 12) (.tmp 96) (by rfl) g6 _ 19 _ (bookF (applyB d x) Lv' Rv') HZ.out (by rfl) _ (by rfl) (by kernel_rfl) (size_cellsOf _ _) (cellsOf_at _ _) (fun i _ => book_one HN.out i) ?_; intro V3 hr3 ho3)
              have HR3 := Lib.hid hr3
              have BV3 : Hid (Below wr.heap.size wr V3) := Lib.hid (ho3.below BV2.out HG6.out.1)
              have HN3 := Lib.hid (HN.out.only HA6.out ho3)
              clear hr3 ho3 HZ HN BV2 HA6
              refine m_on BV3.out ?_
              refine f_take 11 rfl (by kernel_rfl) (by rfl) _ (fun W hW => by go_simp; rfl) BV3.out ?_
              simp only [Act.put, List.setIfInBounds_toArray, List.set_cons_zero, List.set_cons_succ]
              refine f_end (by kernel_rfl) ?_
              go_wp2_with fail
              go_meet
              exact ⟨g6, Lv', Rv', rfl, rfl, Lib.hid ⟨hrr.out.of_block (BV3.out.block gc HGR.out), hbb.out.below BV3.out, HR3.out, HN3.out, hbw.out.trans (BV3.out.mono hbw.out.size), HG6.out.2, HAP.out gc HGV.out hap.out⟩⟩
          case rest =>
            obtain ⟨g6, Lv', Rv', rfl, rfl, hy⟩ := hcut
            rw [HST.out.1]
            have HRN := Lib.hid HST.out.2
            clear HST HX HY HXK hrr hbb
            generalize applyB d x = d2 at *
            have HON := Lib.hid (fun i (_ : i < 19) => book_one hy.out.2.2.2.1 i)
            go_wp2_with (first
              | (refine load_whole_met (by rfl) 38 (.tmp 12) (by rfl) _ _ _ _ hy.out.2.2.1 (by rfl) _ Tryd.underlying38 (by rfl) (by kernel_rfl) ?_)
              | (refine store_whole (by rfl) 38 (.tmp 10) (.tmp 100) (by rfl) gc _ 19 _ (bookF d2 Lv' Rv') hy.out.1 (by rfl) _ (by rfl) (by kernel_rfl) (size_cellsOf _ _) (cellsOf_at _ _) HON.out ?_; intro V3 hr3 ho3))
            rw [HKV.out]
            have hkn := HKN.out
            exact ⟨⟨k + 1, d2, Lv', Rv', hkn.1, rfl, Lib.hid hr3, Lib.hid (hy.out.2.2.2.1.only hy.out.2.2.2.2.2.2 ho3), Lib.hid (ho3.below hy.out.2.2.2.2.1 (by rw [HGC.out]; exact Nat.le_refl _)), Lib.hid hy.out.2.2.2.2.2.2, HRN⟩, by simp [intOf]; omega⟩
        · have q1 : ¬ (k : Int) < (ol.length : Int) := by omega
          obtain rfl : k = ol.length := by omega
          obtain rfl : b = d := (run_end HRUN.out hrun.out).symm
          have HR0 := Lib.hid (HRb.out.of_block (hbw.out.block gb HGb.out))
          have HB0 := Lib.hid (HBb.out.below hbw.out)
          clear HRUN hrun HOP HOK2 HRb HBb
          go_wp2_with (first
            | (refine load_whole_met (by rfl) 38 (.tmp 4) (by rfl) _ _ _ _ HR0.out (by rfl) _ Tryd.underlying38 (by rfl) (by kernel_rfl) ?_)
            | (refine load_whole_met (by rfl) 38 (.tmp 10) (by rfl) _ _ _ _ hrr.out (by rfl) _ Tryd.underlying38 (by rfl) (by kernel_rfl) ?_))
          refine (HH.out.same HB0.out hbb.out).mono ?_
          rintro _ we ⟨⟨t, rfl, ht⟩, hbe⟩
          obtain rfl : t = true := ht.2 rfl
          have HE : Hid (Below w.heap.size w we) := Lib.hid (HWb.out.trans ((hbw.out.trans (hbe.mono hbw.out.size)).mono HWb.out.size))
          clear ht hbe
          go_wp2
          go_ret
          exact ⟨rfl, HE.out⟩
end Go.Proofs.YtebchoeeohmlaaaDoor.Law15
