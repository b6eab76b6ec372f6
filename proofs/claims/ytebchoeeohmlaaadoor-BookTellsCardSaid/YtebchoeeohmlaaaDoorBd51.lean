/-
  What the document's Same does of two books.
-/
import Derived.Test.YtebchoeeohmlaaaDoorBd50
namespace Go.Proofs.YtebchoeeohmlaaaDoor.Book
open Go Go.RowKit Go.Proofs.YtebchoeeohmlaaaDoor.Aid Go.Proofs.YtebchoeeohmlaaaDoor.Field

theorem ent_neq (p q : ByteArray × Wd) (hp : p.2.length = 16) (hq : q.2.length = 16) (W : World) : (binOp .neq 94 (.agg (cellsOf 17 (entF p))) (.agg (cellsOf 17 (entF q)))).run Tryd.prog W = .ok (.bool (!decide (p = q))) W := by
  have hS : Tryd.prog.underlying 94 = some (.struct (Tryd.prog.fieldsOf 94)) := by kernel_rfl
  have hP : Tryd.prog.stoodInHeld 94 = false := by kernel_rfl
  have hk := word_same 9997 p.2 q.2 hp hq W
  have e1 : ∀ r : ByteArray × Wd, (cellsOf 17 (entF r)).extract 1 17 = cellsOf 16 (wordF r.2) := fun r => rfl
  have e0 : ∀ r : ByteArray × Wd, (cellsOf 17 (entF r))[0]? = some (.string r.1) := fun r => rfl
  rw [run_neq_struct, show (10000 : Nat) = 9999 + 1 from rfl, run_equalIn_struct W 9999 94 _ _ hS hP]
  simp only [Program.fieldsOf, Tryd.underlying94]
  go_simp
  have hs : (p.1.toList = q.1.toList) = (p.1 = q.1) := propext ⟨fun h => of_decide_eq_true ((str_beq p.1 q.1).symm.trans (beq_iff_eq.2 h)), fun h => by rw [h]⟩
  simp only [hs]
  obtain ⟨a, b⟩ := p
  obtain ⟨c, d⟩ := q
  by_cases h1 : a = c <;> by_cases h2 : b = d <;> simp [h1, h2]
theorem same_take {α : Type} {l m : List α} {k : Nat} {d : α} (h : l.take k = m.take k) (hk : k < l.length) (hm : k < m.length) (he : l.getD k d = m.getD k d) : l.take (k + 1) = m.take (k + 1) := by
  rw [List.take_add_one, List.take_add_one, h]
  rw [List.getD_eq_getElem?_getD, List.getD_eq_getElem?_getD, List.getElem?_eq_getElem hk, List.getElem?_eq_getElem hm] at he
  rw [List.getElem?_eq_getElem hk, List.getElem?_eq_getElem hm]
  simp only [Option.getD_some] at he
  rw [he]
theorem bk_ext {b c : Bk} (h1 : b.L = c.L) (h2 : b.rev = c.rev) (h3 : b.gen = c.gen) (h4 : b.own = c.own) : b = c := by
  obtain ⟨_, _, _, _⟩ := b
  obtain ⟨_, _, _, _⟩ := c
  simp only at h1 h2 h3 h4
  subst h1 h2 h3 h4
  rfl
/-- Two books' rows and what they have, and the world before. -/
structure SameSt (w W : World) (b c : Bk) (Lv Rv Lw Rw : Value) : Prop where
  r1 : W.rowIs w.heap.size 41 19 (bookF b Lv Rv)
  r2 : W.rowIs (w.heap.size + 1) 41 19 (bookF c Lw Rw)
  h1 : BookAt W b Lv Rv
  h2 : BookAt W c Lw Rw
  bel : Below w.heap.size w W
theorem SameSt.drewN {w W : World} {b c : Bk} {Lv Rv Lw Rw : Value} (h : SameSt w W b c Lv Rv Lw Rw) (q : Nat) : SameSt w (W.drewN q) b c Lv Rv Lw Rw := by
  have hb : Below W.heap.size W (W.drewN q) := ⟨rfl, rfl, rfl, Nat.le_refl _, fun _ _ => rfl⟩
  exact ⟨h.r1.of_block rfl, h.r2.of_block rfl, h.h1.below hb, h.h2.below hb, h.bel.trans (hb.mono h.bel.size)⟩
set_option maxRecDepth 100000 in
set_option maxHeartbeats 2000000 in
theorem refSame15_any {w : World} {b c : Bk} {Lv Rv Lw Rw : Value} (h : BookAt w b Lv Rv) (h' : BookAt w c Lw Rw) : Calls Tryd.prog 16 #[bookV b Lv Rv, bookV c Lw Rw] w fun y w' => (∃ t : Bool, y = .returned (.bool t) ∧ (t = true ↔ b = c)) ∧ Below w.heap.size w w' := by
  have S0 : Hid (SameSt w ((w.alloc (.cells (cellsOf 19 (bookF b Lv Rv)) 41)).alloc (.cells (cellsOf 19 (bookF c Lw Rw)) 41)) b c Lv Rv Lw Rw) := by
    have r1 := row_new w (cellsOf 19 (bookF b Lv Rv)) 41 19 _ (size_cellsOf _ _) (cellsOf_at _ _)
    have b1 : Below w.heap.size w (w.alloc (.cells (cellsOf 19 (bookF b Lv Rv)) 41)) := (Below.refl _ _).alloc (Nat.le_refl _) _
    have s1 : (w.alloc (.cells (cellsOf 19 (bookF b Lv Rv)) 41)).heap.size = w.heap.size + 1 := by simp
    generalize w.alloc (.cells (cellsOf 19 (bookF b Lv Rv)) 41) = w1 at *
    have r2 := row_new w1 (cellsOf 19 (bookF c Lw Rw)) 41 19 _ (size_cellsOf _ _) (cellsOf_at _ _)
    have b2 : Below w1.heap.size w1 (w1.alloc (.cells (cellsOf 19 (bookF c Lw Rw)) 41)) := (Below.refl _ _).alloc (Nat.le_refl _) _
    rw [s1] at r2
    exact Lib.hid ⟨r1.of_block (b2.block _ (World.rowIs.lt r1)), r2, (h.below b1).below b2, (h'.below b1).below b2, b1.trans (b2.mono b1.size)⟩
  clear h h'
  unfold bookV
  obtain ⟨AL, cL, rfl, -⟩ := S0.out.h1.ents
  obtain ⟨AR, cR, rfl, -⟩ := S0.out.h1.revs
  obtain ⟨BL, dL, rfl, -⟩ := S0.out.h2.ents
  obtain ⟨BR, dR, rfl, -⟩ := S0.out.h2.revs
  have hm1 := S0.out.h1.reach.most
  have hm2 := S0.out.h1.reach.revs
  have hn1 := S0.out.h2.reach.most
  have hn2 := S0.out.h2.reach.revs
  go_enter Tryd.func16, Tryd.ntmps16
  go_upto_region 1 with fail
  generalize (w.alloc (.cells (cellsOf 19 (bookF b (.slice AL b.L.length cL) (.slice AR b.rev.length cR))) 41)).alloc (.cells (cellsOf 19 (bookF c (.slice BL c.L.length dL) (.slice BR c.rev.length dR))) 41) = w1 at *
  have x0 := S0.out.r1.cell (i := 0) (by omega)
  have x1 := S0.out.r1.cell (i := 1) (by omega)
  have x2 := S0.out.r1.cell (i := 2) (by omega)
  have y0 := S0.out.r2.cell (i := 0) (by omega)
  have y1 := S0.out.r2.cell (i := 1) (by omega)
  have y2 := S0.out.r2.cell (i := 2) (by omega)
  rw [show bookF b (.slice AL b.L.length cL) (.slice AR b.rev.length cR) 0 = .slice AL b.L.length cL from rfl] at x0
  rw [show bookF b (.slice AL b.L.length cL) (.slice AR b.rev.length cR) 1 = .slice AR b.rev.length cR from rfl] at x1
  rw [show bookF b (.slice AL b.L.length cL) (.slice AR b.rev.length cR) 2 = .int .i64 b.gen from rfl] at x2
  rw [show bookF c (.slice BL c.L.length dL) (.slice BR c.rev.length dR) 0 = .slice BL c.L.length dL from rfl] at y0
  rw [show bookF c (.slice BL c.L.length dL) (.slice BR c.rev.length dR) 1 = .slice BR c.rev.length dR from rfl] at y1
  rw [show bookF c (.slice BL c.L.length dL) (.slice BR c.rev.length dR) 2 = .int .i64 c.gen from rfl] at y2
  have HN : Hid (∀ W, (binOp .neq 26 (.agg (cellsOf 16 (wordF b.own))) (.agg (cellsOf 16 (wordF c.own)))).run Tryd.prog W = .ok (.bool (!decide (b.own = c.own))) W) := Lib.hid (word_neq _ _ S0.out.h1.reach.ownLen S0.out.h2.reach.ownLen)
  by_cases g1 : b.L.length = c.L.length
  · have g1' : (b.L.length : Int) = (c.L.length : Int) := by rw [g1]
    by_cases g2 : b.rev.length = c.rev.length
    · have g2' : (b.rev.length : Int) = (c.rev.length : Int) := by rw [g2]
      by_cases g3 : b.gen = c.gen
      · have hneq := HN.out
        by_cases g4 : b.own = c.own
        · rw [decide_eq_true g4] at hneq
          have HG4 := Lib.hid g4
          clear HN g4
          go_wp2_with (first
            | (refine load_as (by rfl) 26 (.tmp 31) (by rfl) w.heap.size 3 _ 19 16 _ (cellsOf 16 (wordF b.own)) (own_cells _ _ _) S0.out.r1 (by rfl) _ Tryd.underlying26 (by rfl) (by kernel_rfl) (by omega) ?_)
            | (refine load_as (by rfl) 26 (.tmp 33) (by rfl) (w.heap.size + 1) 3 _ 19 16 _ (cellsOf 16 (wordF c.own)) (own_cells _ _ _) S0.out.r2 (by rfl) _ Tryd.underlying26 (by rfl) (by kernel_rfl) (by omega) ?_))
          have HG1 := Lib.hid g1
          have HG2 := Lib.hid g2
          have HG3 := Lib.hid g3
          clear x0 x1 x2 y0 y1 y2 hneq g1 g2 g3 g1' g2'
          go_loopw [5] (fun iv wr => ∃ k : Nat, k ≤ b.L.length ∧ iv = .int .i64 (k : Int) ∧ Hid (b.L.take k = c.L.take k) ∧ Hid (SameSt w wr b c (.slice AL b.L.length cL) (.slice AR b.rev.length cR) (.slice BL c.L.length dL) (.slice BR c.rev.length dR))) (fun i _ => b.L.length - (intOf i).toNat)
          case atStart => exact ⟨0, by omega, rfl, Lib.hid (by simp), S0⟩
          case round =>
            obtain ⟨k, hk, rfl, htk, hst⟩ := hrel
            clear S0
            have x0 := hst.out.r1.cell (i := 0) (by omega)
            have y0 := hst.out.r2.cell (i := 0) (by omega)
            rw [show bookF b (.slice AL b.L.length cL) (.slice AR b.rev.length cR) 0 = (.slice AL b.L.length cL) from rfl] at x0
            rw [show bookF c (.slice BL c.L.length dL) (.slice BR c.rev.length dR) 0 = (.slice BL c.L.length dL) from rfl] at y0
            by_cases hlt : k < b.L.length
            · have q1 : (k : Int) < (b.L.length : Int) := by omega
              have hlt' : k < c.L.length := by have := HG1.out; have := HG2.out; omega
              have q2 : (k : Int) < (c.L.length : Int) := by omega
              have q0 : (0 : Int) ≤ (k : Int) := by omega
              obtain ⟨A', c', he, hr'⟩ := hst.out.h1.ents
              simp only [Value.slice.injEq, true_and] at he
              obtain ⟨rfl, rfl⟩ := he
              obtain ⟨bA, oA, rfl, _, hcA⟩ := hr' (by omega)
              obtain ⟨A', c', he, hr''⟩ := hst.out.h2.ents
              simp only [Value.slice.injEq, true_and] at he
              obtain ⟨rfl, rfl⟩ := he
              obtain ⟨bB, oB, rfl, _, hcB⟩ := hr'' (by omega)
              have HSTEP : Hid (b.L.getD k (nos, zw) = c.L.getD k (nos, zw) → b.L.take (k + 1) = c.L.take (k + 1)) := Lib.hid (same_take htk.out hlt hlt')
              have HNE : Hid (¬ b.L.getD k (nos, zw) = c.L.getD k (nos, zw) → ¬ b = c) := Lib.hid (fun hn e => hn (by rw [e]))
              have HRA : Hid (∀ q, (wr.drewN q).rangeAt bA (oA + k * 17) ((List.range 17).map (entF (b.L.getD k (nos, zw))))) := Lib.hid (fun q => hcA k hlt)
              have HRB : Hid (∀ q, (wr.drewN q).rangeAt bB (oB + k * 17) ((List.range 17).map (entF (c.L.getD k (nos, zw))))) := Lib.hid (fun q => hcB k hlt')
              have HNQ : Hid (∀ W, (binOp .neq 94 (.agg (cellsOf 17 (entF (b.L.getD k (nos, zw))))) (.agg (cellsOf 17 (entF (c.L.getD k (nos, zw)))))).run Tryd.prog W = .ok (.bool (!decide (b.L.getD k (nos, zw) = c.L.getD k (nos, zw)))) W) := Lib.hid (ent_neq _ _ (hst.out.h1.reach.right _ (by rw [List.getD_eq_getElem?_getD, List.getElem?_eq_getElem hlt]; exact List.getElem_mem _)).2 (hst.out.h2.reach.right _ (by rw [List.getD_eq_getElem?_getD, List.getElem?_eq_getElem hlt']; exact List.getElem_mem _)).2)
              have HLT := Lib.hid (show k + 1 ≤ b.L.length from hlt)
              clear hcA hcB hr' hr'' hlt hlt' htk
              generalize b.L.getD k (nos, zw) = p at *
              generalize c.L.getD k (nos, zw) = p' at *
              go_upto_region 6 with fail
              refine region_mix (fun W => ∃ q, W = wr.drewN q) [(0, true), (1, true), (2, true), (3, true), (4, true), (5, true), (6, true), (7, true), (8, true), (9, true), (10, true)] (by kernel_rfl) (by kernel_rfl) ⟨1, rfl⟩ ?_
              refine m_val rfl (by rfl) (.pointer (some ⟨w.heap.size, 0, none⟩)) (fun W ⟨q, hW⟩ => by subst hW; go_simp) ?_
              simp only [Act.put, List.setIfInBounds_toArray, List.set_cons_zero, List.set_cons_succ]
              refine m_val rfl (by rfl) (.slice (some ⟨bA, oA, none⟩) b.L.length cL) (fun W ⟨q, hW⟩ => by subst hW; go_simp) ?_
              simp only [Act.put, List.setIfInBounds_toArray, List.set_cons_zero, List.set_cons_succ]
              refine m_val rfl (by rfl) (.int .i64 (k : Int)) (fun W ⟨q, hW⟩ => by subst hW; go_simp) ?_
              simp only [Act.put, List.setIfInBounds_toArray, List.set_cons_zero, List.set_cons_succ]
              refine m_val rfl (by rfl) (.pointer (some ⟨bA, oA + k * 17, none⟩)) (fun W ⟨q, hW⟩ => by subst hW; go_simp) ?_
              simp only [Act.put, List.setIfInBounds_toArray, List.set_cons_zero, List.set_cons_succ]
              refine m_range rfl (by rfl) 94 (.tmp 47) (by rfl) bA (oA + k * 17) 17 (entF p) (fun W ⟨q, hW⟩ => by subst hW; exact HRA.out q) (by rfl) _ Tryd.underlying94 (by rfl) (by kernel_rfl) ?_
              simp only [Act.put, List.setIfInBounds_toArray, List.set_cons_zero, List.set_cons_succ]
              refine m_val rfl (by rfl) (.pointer (some ⟨w.heap.size + 1, 0, none⟩)) (fun W ⟨q, hW⟩ => by subst hW; go_simp) ?_
              simp only [Act.put, List.setIfInBounds_toArray, List.set_cons_zero, List.set_cons_succ]
              refine m_val rfl (by rfl) (.slice (some ⟨bB, oB, none⟩) c.L.length dL) (fun W ⟨q, hW⟩ => by subst hW; go_simp) ?_
              simp only [Act.put, List.setIfInBounds_toArray, List.set_cons_zero, List.set_cons_succ]
              refine m_val rfl (by rfl) (.int .i64 (k : Int)) (fun W ⟨q, hW⟩ => by subst hW; go_simp) ?_
              simp only [Act.put, List.setIfInBounds_toArray, List.set_cons_zero, List.set_cons_succ]
              refine m_val rfl (by rfl) (.pointer (some ⟨bB, oB + k * 17, none⟩)) (fun W ⟨q, hW⟩ => by subst hW; go_simp) ?_
              simp only [Act.put, List.setIfInBounds_toArray, List.set_cons_zero, List.set_cons_succ]
              refine m_range rfl (by rfl) 94 (.tmp 52) (by rfl) bB (oB + k * 17) 17 (entF p') (fun W ⟨q, hW⟩ => by subst hW; exact HRB.out q) (by rfl) _ Tryd.underlying94 (by rfl) (by kernel_rfl) ?_
              simp only [Act.put, List.setIfInBounds_toArray, List.set_cons_zero, List.set_cons_succ]
              have hq := HNQ.out
              refine m_val rfl (by rfl) (.bool (!decide (p = p'))) (fun W _ => by go_simp) ?_
              simp only [Act.put, List.setIfInBounds_toArray, List.set_cons_zero, List.set_cons_succ]
              refine m_end ?_
              have hw : wrap64 ((k : Int) + 1) = ((k + 1 : Nat) : Int) := by unfold wrap64; omega
              have ST1 := Lib.hid (hst.out.drewN 1)
              rw [show wr.drewN 1 = wr.drew from rfl] at ST1
              clear HRA HRB HNQ hst x0 y0 hq
              generalize wr.drew = w5 at *
              by_cases hpp : p = p'
              · rw [decide_eq_true hpp]
                have HT := Lib.hid (HSTEP.out hpp)
                clear HSTEP HNE hpp
                go_wp2
                refine ⟨⟨k + 1, HLT.out, by rw [Int.natCast_add]; rfl, HT, ST1⟩, ?_⟩
                have := HLT.out
                simp [intOf]
                omega
              · rw [decide_eq_false hpp]
                have HF := Lib.hid (HNE.out hpp)
                clear HSTEP HNE hpp
                go_wp2
                exact bodyPost_ret (results_tmp rfl _ _ _) rfl ⟨⟨false, rfl, by simp; exact HF.out⟩, ST1.out.bel⟩
            · have q1 : ¬ (k : Int) < (b.L.length : Int) := by omega
              have HALLL : Hid (b.L = c.L) := Lib.hid (by have := htk.out; have h1 := HG1.out; have h2 := HG2.out; rwa [List.take_of_length_le (by omega), List.take_of_length_le (by omega)] at this)
              have S0 := Lib.hid hst.out
              clear hst htk hlt
              go_upto_region 8 with fail
              clear x0 y0 q1 hk
              go_wp2_with fail
              go_loopw [6] (fun iv wr => ∃ k : Nat, k ≤ b.rev.length ∧ iv = .int .i64 (k : Int) ∧ Hid (b.rev.take k = c.rev.take k) ∧ Hid (SameSt w wr b c (.slice AL b.L.length cL) (.slice AR b.rev.length cR) (.slice BL c.L.length dL) (.slice BR c.rev.length dR))) (fun i _ => b.rev.length - (intOf i).toNat)
              case atStart => exact ⟨0, by omega, rfl, Lib.hid (by simp), S0⟩
              case round =>
                obtain ⟨k, hk, rfl, htk, hst⟩ := hrel
                clear S0
                have x0 := hst.out.r1.cell (i := 1) (by omega)
                have y0 := hst.out.r2.cell (i := 1) (by omega)
                rw [show bookF b (.slice AL b.L.length cL) (.slice AR b.rev.length cR) 1 = (.slice AR b.rev.length cR) from rfl] at x0
                rw [show bookF c (.slice BL c.L.length dL) (.slice BR c.rev.length dR) 1 = (.slice BR c.rev.length dR) from rfl] at y0
                by_cases hlt : k < b.rev.length
                · have q1 : (k : Int) < (b.rev.length : Int) := by omega
                  have hlt' : k < c.rev.length := by have := HG1.out; have := HG2.out; omega
                  have q2 : (k : Int) < (c.rev.length : Int) := by omega
                  have q0 : (0 : Int) ≤ (k : Int) := by omega
                  obtain ⟨A', c', he, hr'⟩ := hst.out.h1.revs
                  simp only [Value.slice.injEq, true_and] at he
                  obtain ⟨rfl, rfl⟩ := he
                  obtain ⟨bA, oA, rfl, _, hcA⟩ := hr' (by omega)
                  obtain ⟨A', c', he, hr''⟩ := hst.out.h2.revs
                  simp only [Value.slice.injEq, true_and] at he
                  obtain ⟨rfl, rfl⟩ := he
                  obtain ⟨bB, oB, rfl, _, hcB⟩ := hr'' (by omega)
                  have HSTEP : Hid (b.rev.getD k zw = c.rev.getD k zw → b.rev.take (k + 1) = c.rev.take (k + 1)) := Lib.hid (same_take htk.out hlt hlt')
                  have HNE : Hid (¬ b.rev.getD k zw = c.rev.getD k zw → ¬ b = c) := Lib.hid (fun hn e => hn (by rw [e]))
                  have HRA : Hid (∀ q, (wr.drewN q).rangeAt bA (oA + k * 16) ((List.range 16).map (wordF (b.rev.getD k zw)))) := Lib.hid (fun q => hcA k hlt)
                  have HRB : Hid (∀ q, (wr.drewN q).rangeAt bB (oB + k * 16) ((List.range 16).map (wordF (c.rev.getD k zw)))) := Lib.hid (fun q => hcB k hlt')
                  have HNQ : Hid (∀ W, (binOp .neq 26 (.agg (cellsOf 16 (wordF (b.rev.getD k zw)))) (.agg (cellsOf 16 (wordF (c.rev.getD k zw))))).run Tryd.prog W = .ok (.bool (!decide (b.rev.getD k zw = c.rev.getD k zw))) W) := Lib.hid (word_neq _ _ (hst.out.h1.reach.words _ (by rw [List.getD_eq_getElem?_getD, List.getElem?_eq_getElem hlt]; exact List.getElem_mem _)) (hst.out.h2.reach.words _ (by rw [List.getD_eq_getElem?_getD, List.getElem?_eq_getElem hlt']; exact List.getElem_mem _)))
                  have HLT := Lib.hid (show k + 1 ≤ b.rev.length from hlt)
                  clear hcA hcB hr' hr'' hlt hlt' htk
                  generalize b.rev.getD k zw = p at *
                  generalize c.rev.getD k zw = p' at *
                  go_upto_region 11 with fail
                  refine region_mix (fun W => ∃ q, W = wr.drewN q) [(0, true), (1, true), (2, true), (3, true), (4, true), (5, true), (6, true), (7, true), (8, true), (9, true), (10, true)] (by kernel_rfl) (by kernel_rfl) ⟨1, rfl⟩ ?_
                  refine m_val rfl (by rfl) (.pointer (some ⟨w.heap.size, 1, none⟩)) (fun W ⟨q, hW⟩ => by subst hW; go_simp) ?_
                  simp only [Act.put, List.setIfInBounds_toArray, List.set_cons_zero, List.set_cons_succ]
                  refine m_val rfl (by rfl) (.slice (some ⟨bA, oA, none⟩) b.rev.length cR) (fun W ⟨q, hW⟩ => by subst hW; go_simp) ?_
                  simp only [Act.put, List.setIfInBounds_toArray, List.set_cons_zero, List.set_cons_succ]
                  refine m_val rfl (by rfl) (.int .i64 (k : Int)) (fun W ⟨q, hW⟩ => by subst hW; go_simp) ?_
                  simp only [Act.put, List.setIfInBounds_toArray, List.set_cons_zero, List.set_cons_succ]
                  refine m_val rfl (by rfl) (.pointer (some ⟨bA, oA + k * 16, none⟩)) (fun W ⟨q, hW⟩ => by subst hW; go_simp) ?_
                  simp only [Act.put, List.setIfInBounds_toArray, List.set_cons_zero, List.set_cons_succ]
                  refine m_range rfl (by rfl) 26 (.tmp 65) (by rfl) bA (oA + k * 16) 16 (wordF p) (fun W ⟨q, hW⟩ => by subst hW; exact HRA.out q) (by rfl) _ Tryd.underlying26 (by rfl) (by kernel_rfl) ?_
                  simp only [Act.put, List.setIfInBounds_toArray, List.set_cons_zero, List.set_cons_succ]
                  refine m_val rfl (by rfl) (.pointer (some ⟨w.heap.size + 1, 1, none⟩)) (fun W ⟨q, hW⟩ => by subst hW; go_simp) ?_
                  simp only [Act.put, List.setIfInBounds_toArray, List.set_cons_zero, List.set_cons_succ]
                  refine m_val rfl (by rfl) (.slice (some ⟨bB, oB, none⟩) c.rev.length dR) (fun W ⟨q, hW⟩ => by subst hW; go_simp) ?_
                  simp only [Act.put, List.setIfInBounds_toArray, List.set_cons_zero, List.set_cons_succ]
                  refine m_val rfl (by rfl) (.int .i64 (k : Int)) (fun W ⟨q, hW⟩ => by subst hW; go_simp) ?_
                  simp only [Act.put, List.setIfInBounds_toArray, List.set_cons_zero, List.set_cons_succ]
                  refine m_val rfl (by rfl) (.pointer (some ⟨bB, oB + k * 16, none⟩)) (fun W ⟨q, hW⟩ => by subst hW; go_simp) ?_
                  simp only [Act.put, List.setIfInBounds_toArray, List.set_cons_zero, List.set_cons_succ]
                  refine m_range rfl (by rfl) 26 (.tmp 70) (by rfl) bB (oB + k * 16) 16 (wordF p') (fun W ⟨q, hW⟩ => by subst hW; exact HRB.out q) (by rfl) _ Tryd.underlying26 (by rfl) (by kernel_rfl) ?_
                  simp only [Act.put, List.setIfInBounds_toArray, List.set_cons_zero, List.set_cons_succ]
                  have hq := HNQ.out
                  refine m_val rfl (by rfl) (.bool (!decide (p = p'))) (fun W _ => by go_simp) ?_
                  simp only [Act.put, List.setIfInBounds_toArray, List.set_cons_zero, List.set_cons_succ]
                  refine m_end ?_
                  have hw : wrap64 ((k : Int) + 1) = ((k + 1 : Nat) : Int) := by unfold wrap64; omega
                  have ST1 := Lib.hid (hst.out.drewN 1)
                  rw [show wr.drewN 1 = wr.drew from rfl] at ST1
                  clear HRA HRB HNQ hst x0 y0 hq
                  generalize wr.drew = w5 at *
                  by_cases hpp : p = p'
                  · rw [decide_eq_true hpp]
                    have HT := Lib.hid (HSTEP.out hpp)
                    clear HSTEP HNE hpp
                    go_wp2
                    refine ⟨⟨k + 1, HLT.out, by rw [Int.natCast_add]; rfl, HT, ST1⟩, ?_⟩
                    have := HLT.out
                    simp [intOf]
                    omega
                  · rw [decide_eq_false hpp]
                    have HF := Lib.hid (HNE.out hpp)
                    clear HSTEP HNE hpp
                    go_wp2
                    exact bodyPost_ret (results_tmp rfl _ _ _) rfl ⟨⟨false, rfl, by simp; exact HF.out⟩, ST1.out.bel⟩
                · have q1 : ¬ (k : Int) < (b.rev.length : Int) := by omega
                  have HALLR : Hid (b.rev = c.rev) := Lib.hid (by have := htk.out; have h1 := HG1.out; have h2 := HG2.out; rwa [List.take_of_length_le (by omega), List.take_of_length_le (by omega)] at this)
                  have S0 := Lib.hid hst.out
                  clear hst htk hlt
                  go_wp2_with fail
                  exact bodyPost_ret (results_tmp rfl _ _ _) rfl ⟨.inr ⟨rfl, bk_ext HALLL.out HALLR.out HG3.out HG4.out⟩, S0.out.bel⟩
        · rw [decide_eq_false g4] at hneq
          have HG4 := Lib.hid g4
          clear HN g4
          go_wp2_with (first
            | (refine load_as (by rfl) 26 (.tmp 31) (by rfl) w.heap.size 3 _ 19 16 _ (cellsOf 16 (wordF b.own)) (own_cells _ _ _) S0.out.r1 (by rfl) _ Tryd.underlying26 (by rfl) (by kernel_rfl) (by omega) ?_)
            | (refine load_as (by rfl) 26 (.tmp 33) (by rfl) (w.heap.size + 1) 3 _ 19 16 _ (cellsOf 16 (wordF c.own)) (own_cells _ _ _) S0.out.r2 (by rfl) _ Tryd.underlying26 (by rfl) (by kernel_rfl) (by omega) ?_))
          exact bodyPost_ret (results_tmp rfl _ _ _) rfl ⟨⟨false, rfl, by simp; intro e; exact HG4.out (by rw [e])⟩, S0.out.bel⟩
      · go_wp2_with fail
        exact bodyPost_ret (results_tmp rfl _ _ _) rfl ⟨⟨false, rfl, by simp; intro e; exact g3 (by rw [e])⟩, S0.out.bel⟩
    · have g2' : ¬ (b.rev.length : Int) = (c.rev.length : Int) := by omega
      go_wp2_with fail
      exact bodyPost_ret (results_tmp rfl _ _ _) rfl ⟨⟨false, rfl, by simp; intro e; exact g2 (by rw [e])⟩, S0.out.bel⟩
  · have g1' : ¬ (b.L.length : Int) = (c.L.length : Int) := by omega
    go_wp2_with fail
    exact bodyPost_ret (results_tmp rfl _ _ _) rfl ⟨⟨false, rfl, by simp; intro e; exact g1 (by rw [e])⟩, S0.out.bel⟩
end Go.Proofs.YtebchoeeohmlaaaDoor.Book
