/-
  What the law's Own of any book does: the same book, for the document.
-/
import Derived.Test.YtaakhldhmoaplaaDoorBd36
import Derived.Test.YtaakhldhmoaplaaDoorBd04
import Derived.Test.YtaakhldhmoaplaaDoorBd06
import Derived.Test.YtaakhldhmoaplaaDoorBd44
import Derived.Test.YtaakhldhmoaplaaDoorBd20
import Derived.Test.YtaakhldhmoaplaaDoorBd13
import Derived.Deep.DeepCutAuto
namespace Go.Proofs.YtaakhldhmoaplaaDoor.Book
open Go Go.RowKit Go.Proofs.YtaakhldhmoaplaaDoor.Aid

theorem info_rent : (Tryd.prog.info? 64).map (fun i => (i.zero, i.size, i.bytes)) = some (some (.agg #[.string ⟨#[]⟩, .int .u8 0, .int .u8 0, .int .u8 0, .int .u8 0, .int .u8 0, .int .u8 0, .int .u8 0, .int .u8 0, .int .u8 0, .int .u8 0, .int .u8 0, .int .u8 0, .int .u8 0, .int .u8 0, .int .u8 0, .int .u8 0]), 17, 32) := by kernel_rfl
theorem entF_o (p : ByteArray × Wd) (i : Nat) : (entF p i).oneCell' = true := by
  unfold entF wordF
  split
  · rfl
  · rfl
set_option maxRecDepth 100000 in
set_option maxHeartbeats 4000000 in
theorem own16_any {w : World} {b : Bk} {Lv Rv : Value} (h : BookIs w b Lv Rv) (hfew : b.L.length ≤ 60) :
    Calls Tryd.prog 9 #[bookV b Lv Rv] w fun y w' => ∃ Lv', y = .returned (bookV b Lv' Rv) ∧ BookIs w' b Lv' Rv ∧ Below w.heap.size w w' := by
  have hb := (Below.refl w.heap.size w).alloc (Nat.le_refl _) (.cells (cellsOf 19 (bookF b Lv Rv)) 27)
  have HROW := Lib.hid (row_new w (cellsOf 19 (bookF b Lv Rv)) 27 19 (bookF b Lv Rv) (size_cellsOf _ _) (cellsOf_at _ _))
  have HSZ : Hid ((w.alloc (.cells (cellsOf 19 (bookF b Lv Rv)) 27)).heap.size = w.heap.size + 1) := Lib.hid (by simp)
  have HA := Lib.hid h
  have HFEW := Lib.hid hfew
  have HB := Lib.hid hb
  have hs1 := h.ents
  have hs2 := h.revs
  obtain ⟨A, c, rfl, -⟩ := hs1
  obtain ⟨A2, c2, rfl, -⟩ := hs2
  clear hb h hfew
  unfold bookV
  go_enter Tryd.func9, Tryd.ntmps9
  generalize cellsOf 19 (bookF b (.slice A b.L.length c) (.slice A2 b.rev.length c2)) = C at *
  go_upto_region 1 with fail
  generalize w.alloc (.cells C 27) = w1 at *
  have hb2 := (Below.refl w1.heap.size w1).alloc (Nat.le_refl _) (.cells #[.slice none 0 0, .slice none 0 0, .int .i64 0, .int .u8 0, .int .u8 0, .int .u8 0, .int .u8 0, .int .u8 0, .int .u8 0, .int .u8 0, .int .u8 0, .int .u8 0, .int .u8 0, .int .u8 0, .int .u8 0, .int .u8 0, .int .u8 0, .int .u8 0, .int .u8 0] 42)
  have HZ := Lib.hid (row_new w1 _ 42 19 (bookF bk0 (.slice none 0 0) (.slice none 0 0)) (by rfl) (zero19 _ rfl))
  rw [HSZ.out] at HZ
  have HROW2 := Lib.hid (HROW.out.of_block (hb2.block _ (World.rowIs.lt HROW.out)))
  have HB2 := Lib.hid (HB.out.trans (hb2.mono HB.out.size))
  have HSZ2 : Hid ((w1.alloc (.cells #[.slice none 0 0, .slice none 0 0, .int .i64 0, .int .u8 0, .int .u8 0, .int .u8 0, .int .u8 0, .int .u8 0, .int .u8 0, .int .u8 0, .int .u8 0, .int .u8 0, .int .u8 0, .int .u8 0, .int .u8 0, .int .u8 0, .int .u8 0, .int .u8 0, .int .u8 0] 42)).heap.size = w.heap.size + 2) := Lib.hid (by have := HSZ.out; simp; omega)
  clear hb2 HB HROW HSZ
  generalize w1.alloc (.cells #[.slice none 0 0, .slice none 0 0, .int .i64 0, .int .u8 0, .int .u8 0, .int .u8 0, .int .u8 0, .int .u8 0, .int .u8 0, .int .u8 0, .int .u8 0, .int .u8 0, .int .u8 0, .int .u8 0, .int .u8 0, .int .u8 0, .int .u8 0, .int .u8 0, .int .u8 0] 42) = w2 at *
  have hb3 := (Below.refl w2.heap.size w2).alloc (Nat.le_refl _) (.cells #[.slice none 0 0, .slice none 0 0, .int .i64 0, .int .u8 0, .int .u8 0, .int .u8 0, .int .u8 0, .int .u8 0, .int .u8 0, .int .u8 0, .int .u8 0, .int .u8 0, .int .u8 0, .int .u8 0, .int .u8 0, .int .u8 0, .int .u8 0, .int .u8 0, .int .u8 0] 42)
  have HN3 := Lib.hid (row_new w2 _ 42 19 (bookF bk0 (.slice none 0 0) (.slice none 0 0)) (by rfl) (zero19 _ rfl))
  have HROW3 := Lib.hid (HROW2.out.of_block (hb3.block _ (World.rowIs.lt HROW2.out)))
  have HZ3 := Lib.hid (HZ.out.of_block (hb3.block _ (World.rowIs.lt HZ.out)))
  have HB3 := Lib.hid (HB2.out.trans (hb3.mono HB2.out.size))
  have HSZ3 : Hid ((w2.alloc (.cells #[.slice none 0 0, .slice none 0 0, .int .i64 0, .int .u8 0, .int .u8 0, .int .u8 0, .int .u8 0, .int .u8 0, .int .u8 0, .int .u8 0, .int .u8 0, .int .u8 0, .int .u8 0, .int .u8 0, .int .u8 0, .int .u8 0, .int .u8 0, .int .u8 0, .int .u8 0] 42)).heap.size = w.heap.size + 3) := Lib.hid (by have := HSZ2.out; simp; omega)
  have HOC : Hid (cellsOf 16 (fun j => bookF b (.slice A b.L.length c) (.slice A2 b.rev.length c2) (3 + j)) = #[wordF b.own 0, wordF b.own 1, wordF b.own 2, wordF b.own 3, wordF b.own 4, wordF b.own 5, wordF b.own 6, wordF b.own 7, wordF b.own 8, wordF b.own 9, wordF b.own 10, wordF b.own 11, wordF b.own 12, wordF b.own 13, wordF b.own 14, wordF b.own 15]) := Lib.hid ((own_cells b _ _).trans rfl)
  have k1 := HROW2.out.cell (i := 1) (by omega)
  rw [show bookF b (.slice A b.L.length c) (.slice A2 b.rev.length c2) 1 = .slice A2 b.rev.length c2 from rfl] at k1
  have k2 := HROW2.out.cell (i := 2) (by omega)
  rw [show bookF b (.slice A b.L.length c) (.slice A2 b.rev.length c2) 2 = .int .i64 b.gen from rfl] at k2
  clear hb3
  go_upto_region 2 with first
    | (refine load_as (by rfl) 25 (.tmp 7) (by rfl) w.heap.size 3 _ 19 16 _ _ HOC.out HROW2.out (by rfl) _ Tryd.underlying25 (by rfl) (by kernel_rfl) (by omega) ?_)
    | (refine store_whole (by rfl) 42 (.tmp 3) (.tmp 11) (by rfl) w2.heap.size _ 19 _ (bookF { b with L := [] } (.slice none 0 0) (.slice A2 b.rev.length c2)) HN3.out (by rfl) _ (by rfl) (by kernel_rfl) (by rfl) (cellsOf_at 19 (bookF { b with L := [] } (.slice none 0 0) (.slice A2 b.rev.length c2))) (fun i _ => bookF_one rfl rfl i) ?_; intro w3 hr3 ho3)
  have HR3 := Lib.hid hr3
  have hb4 : Below w2.heap.size w2 w3 := ho3.below (Below.mono ((Below.refl w2.heap.size w2).alloc (Nat.le_refl _) _) (Nat.le_refl _)) (Nat.le_refl _)
  have HROW4 := Lib.hid (HROW2.out.of_block (hb4.block _ (World.rowIs.lt HROW2.out)))
  have HZ4 := Lib.hid (HZ.out.of_block (hb4.block _ (World.rowIs.lt HZ.out)))
  have HB4 := Lib.hid (HB2.out.trans (hb4.mono HB2.out.size))
  have HG3 : Hid (w.heap.size + 2 ≤ w2.heap.size ∧ w2.heap.size < w3.heap.size) := Lib.hid ⟨by have := HSZ2.out; omega, World.rowIs.lt hr3⟩
  have HN : Hid (b.L.length ≤ 50 + 10) := Lib.hid HFEW.out
  clear hr3 ho3 hb4 HROW2 HZ HB2 HROW3 HZ3 HB3 HSZ3 HSZ2 HN3 HOC k1 k2
  generalize w2.heap.size = g3 at *
  obtain ⟨N, hNN⟩ : ∃ N, N = b.L.length := ⟨_, rfl⟩
  have HNN := Lib.hid hNN
  rw [← hNN] at HN
  clear hNN
  go_wp2_with fail
  go_loopw [4] (fun i wr => ∃ k : Nat, k ≤ N ∧ i = .int .i64 (k : Int) ∧ Hid (∃ Lv', wr.rowIs g3 42 19 (bookF { b with L := b.L.take k } Lv' (.slice A2 b.rev.length c2)) ∧ OwnE wr w3.heap.size 64 17 ((b.L.take k).map entR) Lv') ∧ Hid (Cache.Leaves (fun x => x = g3) w3 wr)) (fun i _ => N - (intOf i).toNat)
  case atStart => exact ⟨0, by omega, rfl, Lib.hid ⟨_, HR3.out, OwnE.nil _ _ _ _⟩, Lib.hid (Cache.Leaves.refl _ _)⟩
  case round =>
    obtain ⟨k, hk, rfl, hst, hlv⟩ := hrel
    have HROWk := Lib.hid (HROW4.out.of_block (hlv.out.block _ (World.rowIs.lt HROW4.out) (by have := HG3.out.1; omega)))
    have c0 := HROWk.out.cell (i := 0) (by omega)
    rw [show bookF b (.slice A b.L.length c) (.slice A2 b.rev.length c2) 0 = .slice A b.L.length c from rfl, ← HNN.out] at c0
    by_cases hlt : k < N
    · obtain ⟨Lv', hrw, hown⟩ := hst.out
      have hkl : k < b.L.length := by have := HNN.out; omega
      obtain ⟨A1, c1, he, hr⟩ := HA.out.ents
      rw [← HNN.out] at he
      simp only [Value.slice.injEq, true_and] at he
      obtain ⟨rfl, rfl⟩ := he
      obtain ⟨sb, so, rfl, hsb, hcc⟩ := hr (by omega)
      have hget := List.getElem?_eq_getElem hkl
      have hq : b.L.getD k (nos, zw) = b.L[k] := by rw [List.getD_eq_getElem?_getD, hget]; rfl
      have HR : Hid (∀ W, Cache.Leaves (fun x => x = g3) w3 W → W.rangeAt sb (so + k * 17) ((List.range 17).map (entF b.L[k]))) := Lib.hid (fun W hW j u hu => by
        have h1 := hcc k hkl j u (by show (entR (b.L.getD k (nos, zw)))[j]? = _; rw [hq]; exact hu)
        have h2 := (HB4.out.cell (p := ⟨sb, so + k * 17 + j, none⟩) hsb).trans h1
        exact hW.cell h2 (by have := HG3.out.1; show sb ≠ g3; omega))
      have HX : Hid ((b.L.take (k + 1)).map entR = (b.L.take k).map entR ++ [entR b.L[k]] ∧ b.L.take (k + 1) = b.L.take k ++ [b.L[k]]) := Lib.hid ⟨by rw [List.take_succ_eq_append_getElem hkl, List.map_append]; rfl, List.take_succ_eq_append_getElem hkl⟩
      have HTL : Hid (((b.L.take k).map entR).length ≤ 60) := Lib.hid (by rw [List.length_map, List.length_take]; have := HN.out; omega)
      have q0 : (0 : Int) ≤ (k : Int) := by omega
      have q1 : (k : Int) < (N : Int) := by omega
      have hw : wrap64 ((k : Int) + 1) = (k : Int) + 1 := wrap64_id (by omega) (by have := HN.out; omega)
      have HW := Lib.hid hw
      clear hget hq hcc hr hw hst
      generalize b.L[k] = p at *
      clear hkl
      have HRW := Lib.hid hrw
      have HOW := Lib.hid hown
      obtain ⟨A5, c5, hs5⟩ := hown.shape
      generalize ((b.L.take k).map entR).length = m5 at hs5
      subst hs5
      clear hrw hown
      go_upto_region 5 with fail
      clear c0
      refine region_mix_tail (fun W => Cache.Leaves (fun x => x = g3) w3 W ∧ W.cell? ⟨g3, 0, none⟩ = some (.slice A5 m5 c5) ∧ W.cell? ⟨w.heap.size, 0, none⟩ = some (.slice (some ⟨sb, so, none⟩) N c)) 10 [(0, true), (1, true), (2, true), (3, true), (4, true), (5, true), (6, true), (7, false), (8, false), (9, true)] (by kernel_rfl) (by rfl) (by kernel_rfl) ⟨hlv.out.drew, by rw [show wr.drew.cell? ⟨g3, 0, none⟩ = wr.cell? ⟨g3, 0, none⟩ from rfl, HRW.out.cell (i := 0) (by omega)]; rfl, by rw [show wr.drew.cell? ⟨w.heap.size, 0, none⟩ = wr.cell? ⟨w.heap.size, 0, none⟩ from rfl, HROWk.out.cell (i := 0) (by omega), HNN.out]; rfl⟩ ?_
      refine m_val rfl (by rfl) (.pointer (some ⟨g3, 0, none⟩)) (fun W hW => by clear hW; go_simp) ?_
      simp only [Act.put, List.setIfInBounds_toArray, List.set_cons_zero, List.set_cons_succ]
      refine m_val rfl (by rfl) (.slice A5 m5 c5) (fun W hW => by have h1 := hW.2.1; clear hW; go_simp) ?_
      simp only [Act.put, List.setIfInBounds_toArray, List.set_cons_zero, List.set_cons_succ]
      refine m_val rfl (by rfl) (.pointer (some ⟨w.heap.size, 0, none⟩)) (fun W hW => by clear hW; go_simp) ?_
      simp only [Act.put, List.setIfInBounds_toArray, List.set_cons_zero, List.set_cons_succ]
      refine m_val rfl (by rfl) (.slice (some ⟨sb, so, none⟩) N c) (fun W hW => by have h1 := hW.2.2; clear hW; go_simp) ?_
      simp only [Act.put, List.setIfInBounds_toArray, List.set_cons_zero, List.set_cons_succ]
      refine m_val rfl (by rfl) (.int .i64 (k : Int)) (fun W hW => by clear hW; go_simp) ?_
      simp only [Act.put, List.setIfInBounds_toArray, List.set_cons_zero, List.set_cons_succ]
      refine m_val rfl (by rfl) (.pointer (some ⟨sb, so + k * 17, none⟩)) (fun W hW => by clear hW; go_simp) ?_
      simp only [Act.put, List.setIfInBounds_toArray, List.set_cons_zero, List.set_cons_succ]
      refine m_range rfl (by rfl) 58 (.tmp 24) (by rfl) sb (so + k * 17) 17 (entF p) (fun W hW => HR.out W hW.1) (by rfl) _ Tryd.underlying58 (by rfl) (by kernel_rfl) ?_
      simp only [Act.put, List.setIfInBounds_toArray, List.set_cons_zero, List.set_cons_succ]
      rw [show cellsOf 17 (entF p) = #[.string p.1, wordF p.2 0, wordF p.2 1, wordF p.2 2, wordF p.2 3, wordF p.2 4, wordF p.2 5, wordF p.2 6, wordF p.2 7, wordF p.2 8, wordF p.2 9, wordF p.2 10, wordF p.2 11, wordF p.2 12, wordF p.2 13, wordF p.2 14, wordF p.2 15] from rfl]
      have HLV := Lib.hid hlv.out.drew
      have HRW1 : Hid (wr.drew.rowIs g3 42 19 (bookF { b with L := b.L.take k } (.slice A5 m5 c5) (.slice A2 b.rev.length c2))) := Lib.hid HRW.out
      have HOW1 : Hid (OwnE wr.drew w3.heap.size 64 17 ((b.L.take k).map entR) (.slice A5 m5 c5)) := Lib.hid (HOW.out.keep (fun _ _ => rfl))
      have HRK1 : Hid (wr.drew.rowIs w.heap.size 27 19 (bookF b (.slice (some ⟨sb, so, none⟩) b.L.length c) (.slice A2 b.rev.length c2))) := Lib.hid HROWk.out
      clear HRW HOW hlv HROWk
      generalize wr.drew = w4 at *
      refine m_go rfl ?_
      go_wp2_with fail
      have HNEW : Hid (RowsAt (w4.alloc (.cells #[.string p.1, wordF p.2 0, wordF p.2 1, wordF p.2 2, wordF p.2 3, wordF p.2 4, wordF p.2 5, wordF p.2 6, wordF p.2 7, wordF p.2 8, wordF p.2 9, wordF p.2 10, wordF p.2 11, wordF p.2 12, wordF p.2 13, wordF p.2 14, wordF p.2 15] 64)) 17 1 (fun _ => entR p) (.slice (some ⟨w4.heap.size, 0, none⟩) 1 1)) := Lib.hid (row_one w4 _ 64 17 (entR p) rfl)
      have hal : Below w4.heap.size w4 (w4.alloc (.cells #[.string p.1, wordF p.2 0, wordF p.2 1, wordF p.2 2, wordF p.2 3, wordF p.2 4, wordF p.2 5, wordF p.2 6, wordF p.2 7, wordF p.2 8, wordF p.2 9, wordF p.2 10, wordF p.2 11, wordF p.2 12, wordF p.2 13, wordF p.2 14, wordF p.2 15] 64)) := (Below.refl _ _).alloc (Nat.le_refl _) _
      have HLV5 : Hid (Cache.Leaves (fun x => x = g3) w3 (w4.alloc (.cells #[.string p.1, wordF p.2 0, wordF p.2 1, wordF p.2 2, wordF p.2 3, wordF p.2 4, wordF p.2 5, wordF p.2 6, wordF p.2 7, wordF p.2 8, wordF p.2 9, wordF p.2 10, wordF p.2 11, wordF p.2 12, wordF p.2 13, wordF p.2 14, wordF p.2 15] 64))) := Lib.hid (HLV.out.trans (F' := fun _ => False) (Cache.Leaves.of_below hal) (fun _ h _ => h.elim))
      have HRW5 := Lib.hid (HRW1.out.of_block (hal.block _ (World.rowIs.lt HRW1.out)))
      have HRK5 := Lib.hid (HRK1.out.of_block (hal.block _ (World.rowIs.lt HRK1.out)))
      have HOW5 := Lib.hid (HOW1.out.below hal)
      clear hal HLV HRW1 HRK1 HOW1
      generalize w4.heap.size = g4 at *
      generalize w4.alloc (.cells #[.string p.1, wordF p.2 0, wordF p.2 1, wordF p.2 2, wordF p.2 3, wordF p.2 4, wordF p.2 5, wordF p.2 6, wordF p.2 7, wordF p.2 8, wordF p.2 9, wordF p.2 10, wordF p.2 11, wordF p.2 12, wordF p.2 13, wordF p.2 14, wordF p.2 15] 64) = w5 at *
      refine m_on ⟨HLV5.out, by rw [HRW5.out.cell (i := 0) (by omega)]; rfl, by rw [HRK5.out.cell (i := 0) (by omega), HNN.out]; rfl⟩ ?_
      refine m_go rfl ?_
      go_wp2_with (at_builtin
                   refine append_rows (by rfl) (.tmp 20) (.tmp 26) 40 (by rfl) w3.heap.size 64 17 32 _ Tryd.underlying40 info_rent (by rfl) (by omega) _ _ (by rfl) HOW5.out 1 _ _ (by rfl) HNEW.out (fun i _ => ⟨entR_len _, entR_one _⟩) (by have := HTL.out; omega) (by omega) HLV5.out.size ?_
                   intro v6 w6 ho6 hg6 hv6
                   have HO6 : Hid (OwnE w6 w3.heap.size 64 17 ((b.L.take (k + 1)).map entR) v6) := Lib.hid (by rw [HX.out.1]; exact ho6)
                   have HLV6 : Hid (Cache.Leaves (fun x => x = g3) w3 w6) := Lib.hid (HLV5.out.trans (F' := fun x => w3.heap.size ≤ x) ⟨hg6.os, hg6.tape, hg6.output, hg6.size, fun x hlt hx => hg6.block x hlt (fun e => hx (HOW5.out.lt x e.symm).1)⟩ (fun x hx hlt => by omega))
                   have HRW6 := Lib.hid (HRW5.out.of_block (hg6.block g3 (World.rowIs.lt HRW5.out) (fun e => by have := (HOW5.out.lt g3 e.symm).1; have := HG3.out.2; omega)))
                   have HRK6 := Lib.hid (HRK5.out.of_block (hg6.block _ (World.rowIs.lt HRK5.out) (fun e => by have := (HOW5.out.lt _ e.symm).1; have := HG3.out.1; have := HG3.out.2; omega)))
                   obtain ⟨A6, c6, hs6⟩ := ho6.shape
                   generalize (List.map entR (b.L.take k) ++ List.map (fun _ => entR p) (List.range 1)).length = m6 at hs6
                   subst hs6
                   clear ho6 hg6 hv6)
      refine m_on ⟨HLV6.out, by rw [HRW6.out.cell (i := 0) (by omega)]; rfl, by rw [HRK6.out.cell (i := 0) (by omega), HNN.out]; rfl⟩ ?_
      refine m_val rfl (by rfl) (.pointer (some ⟨g3, 0, none⟩)) (fun W hW => by clear hW; go_simp) ?_
      simp only [Act.put, List.setIfInBounds_toArray, List.set_cons_zero, List.set_cons_succ]
      refine m_end ?_
      dsimp only
      have d6 := HRW6.out.cell (i := 0) (by omega)
      rw [show bookF { b with L := b.L.take k } (.slice A5 m5 c5) (.slice A2 b.rev.length c2) 0 = .slice A5 m5 c5 from rfl] at d6
      have f6 := HRW6.out.frozen 0
      have ho7 := only_setCells g3 [.slice A6 m6 c6] 0 w6
      rw [show w6.setCells g3 0 [.slice A6 m6 c6] = w6.setCell ⟨g3, 0, none⟩ (.slice A6 m6 c6) from rfl] at ho7
      have HST : Hid (∃ Lv', (w6.setCell ⟨g3, 0, none⟩ (.slice A6 m6 c6)).rowIs g3 42 19 (bookF { b with L := b.L.take (k + 1) } Lv' (.slice A2 b.rev.length c2)) ∧ OwnE (w6.setCell ⟨g3, 0, none⟩ (.slice A6 m6 c6)) w3.heap.size 64 17 ((b.L.take (k + 1)).map entR) Lv') := Lib.hid ⟨_, by
          have := HRW6.out.set 0 (.slice A6 m6 c6)
          rw [bookF_L] at this
          exact this, HO6.out.keep (fun x hx => ho7.block x (by have := (HO6.out.lt x hx).1; have := HG3.out.2; omega))⟩
      have HLV7 : Hid (Cache.Leaves (fun x => x = g3) w3 (w6.setCell ⟨g3, 0, none⟩ (.slice A6 m6 c6))) := Lib.hid (HLV6.out.trans (F' := fun x => x = g3) ⟨ho7.os, ho7.tape, ho7.output, by rw [ho7.size]; exact Nat.le_refl _, fun x _ hx => ho7.block x hx⟩ (fun _ h _ => h))
      clear ho7
      go_wp2_with fail
      refine NoPanic.normal ?_
      clear d6 f6
      go_wp2
      rw [HW.out]
      exact ⟨⟨k + 1, by omega, congrArg (Value.int .i64) (by omega), HST.out, HLV7.out⟩, by show N - ((k : Int) + 1).toNat < N - (k : Int).toNat; omega⟩
    · obtain rfl : k = N := by omega
      obtain ⟨Lv', hrw, hown⟩ := hst.out
      rw [List.take_of_length_le (by have := HNN.out; omega)] at hrw hown
      have HRW := Lib.hid hrw
      have HOW := Lib.hid hown
      have HO1 := Lib.hid (own_one hown)
      have HZ5 := Lib.hid (HZ4.out.of_block (hlv.out.block _ (World.rowIs.lt HZ4.out) (by have := HG3.out.1; omega)))
      have HB5 : Hid (Below w.heap.size w wr) := Lib.hid (HB4.out.trans (hlv.out.below HB4.out.size (fun x hx => by have := HG3.out.1; omega)))
      have HLVK := Lib.hid hlv.out.size
      clear hrw hown hst hlv
      go_wp2_with first
        | (refine load_whole (by rfl) 42 (.tmp 3) (by rfl) g3 _ 19 _ HRW.out (by rfl) _ Tryd.underlying42 (by rfl) (by kernel_rfl) ?_)
        | (refine store_whole (by rfl) 42 (.tmp 2) (.tmp 29) (by rfl) (w.heap.size + 1) _ 19 _ (bookF b Lv' (.slice A2 b.rev.length c2)) HZ5.out (by rfl) _ (by rfl) (by kernel_rfl) (size_cellsOf _ _) (cellsOf_at _ _) (fun i _ => bookF_one HO1.out rfl i) ?_; intro w7 hr7 ho7)
      refine bodyPost_ret (results_row rfl _ (w.heap.size + 1) _ 19 _ _ rfl hr7 Tryd.underlying42 (by rfl) (by kernel_rfl)) rfl ?_
      have hB7 : Below w.heap.size w w7 := ho7.below HB5.out (Nat.le_succ _)
      have ho := HOW.out.keep (W' := w7) (fun x hx => ho7.block x (by have := (HOW.out.lt x hx).1; have := HG3.out.1; have := HG3.out.2; omega))
      have hA7 := HA.out.below hB7
      refine ⟨Lv', rfl, ⟨rowsB_congr ho.rows (by simp) (fun i hi => ?_), hA7.revs, hA7.few, hA7.keys, hA7.words, hA7.own⟩, hB7⟩
      rw [List.length_map] at hi
      rw [List.getD_eq_getElem?_getD, List.getElem?_map, List.getElem?_eq_getElem hi]
      show entR _ = entR _
      rw [List.getD_eq_getElem?_getD, List.getElem?_eq_getElem hi]
      rfl
end Go.Proofs.YtaakhldhmoaplaaDoor.Book
