/-
  What the document's out does.
-/
import Derived.Test.YtmoepcobhapghaaRefTab
import Derived.Test.YtmoepcobhapghaaCutRun
import Derived.Test.YtmoepcobhapghaaMixLast
namespace Go.Proofs.Ytmoepcobhapghaa.Cache
open Go Go.RowKit Go.Proofs.Ytmoepcobhapghaa.Aid

theorem info_int : (Try.prog.info? 3).map (fun i => (i.zero, i.size, i.bytes)) = some (some (.int .i64 0), 1, 8) := by kernel_rfl
theorem info_str : (Try.prog.info? 9).map (fun i => (i.zero, i.size, i.bytes)) = some (some (.string ByteArray.empty), 1, 16) := by kernel_rfl
theorem tab_set1 (m : Nat) (Kv Vv v : Value) (j : Nat) (hj : j < 3) : (if j = 1 then v else tabF m Kv Vv j) = tabF m v Vv j := by
  match j, hj with
  | 0, _ => rfl
  | 1, _ => rfl
  | 2, _ => rfl
theorem tab_set2 (m : Nat) (Kv Vv v : Value) (j : Nat) (hj : j < 3) : (if j = 2 then v else tabF m Kv Vv j) = tabF m Kv v j := by
  match j, hj with
  | 0, _ => rfl
  | 1, _ => rfl
  | 2, _ => rfl
theorem erase_ints (l : List (Int × ByteArray)) (i : Nat) : (ints l).take i ++ (ints l).drop (i + 1) = ints (l.eraseIdx i) := by
  unfold ints
  rw [List.eraseIdx_eq_take_drop_succ, List.map_append, List.map_take, List.map_drop]
theorem erase_strs (l : List (Int × ByteArray)) (i : Nat) : (strs l).take i ++ (strs l).drop (i + 1) = strs (l.eraseIdx i) := by
  unfold strs
  rw [List.eraseIdx_eq_take_drop_succ, List.map_append, List.map_take, List.map_drop]
theorem keys_erase (l : List (Int × ByteArray)) (i : Nat) : keysL (l.eraseIdx i) = (keysL l).eraseIdx i := by
  unfold keysL
  rw [List.eraseIdx_eq_take_drop_succ, List.eraseIdx_eq_take_drop_succ, List.map_append, List.map_take, List.map_drop]
theorem leaves_set {w W : World} {g j : Nat} {v : Value} (h : Below w.heap.size w W) : Leaves (fun b => b = g) w (W.setCell ⟨g, j, none⟩ v) :=
  ⟨by simpa [World.setCell] using h.os, by simpa [World.setCell] using h.tape, by simpa [World.setCell] using h.output, by have := h.size; simpa [World.setCell] using this, fun b hb hn => (heap_setCell_other _ _ _ _ (by simpa using hn)).trans (h.block b hb)⟩
theorem own_keep_set {w W : World} {g j : Nat} {v u : Value} {e : TypeId} {xs : List Value} (h : OwnV W w.heap.size e v xs) (hg : g < w.heap.size) : OwnV (W.setCell ⟨g, j, none⟩ u) w.heap.size e v xs :=
  h.keep (fun b hb => heap_setCell_other _ _ _ _ (by have := (h.lt b hb).1; simp; omega))
set_option maxRecDepth 100000 in
set_option maxHeartbeats 4000000 in
theorem refOut_any {B g : Nat} {Kv Vv : Value} {m : Nat} {l : List (Int × ByteArray)} (i : Nat) (w : World) (h : RefTab w B g Kv Vv m l) (hi : i < l.length) :
    Calls Try.prog 25 #[.pointer (some ⟨g, 0, none⟩), .int .i64 (i : Int)] w fun x w' => x = .returned (.tuple #[]) ∧ ∃ Kv' Vv', RefTab w' B g Kv' Vv' m (l.eraseIdx i) ∧ Leaves (fun b => b = g) w w' ∧ ∀ b, refF g Kv' Vv' b → b = g ∨ w.heap.size ≤ b := by
  have H := Lib.hid h
  have hl2 := h.most.2
  have hl1 := h.len
  have w1 : IntKind.i64.wrap ((i : Int) + 1) = (i : Int) + 1 := IntWalk.i64_in _ (by omega)
  have HG : Hid (g < w.heap.size) := World.rowIs.lt h.row
  obtain ⟨n, hn⟩ : ∃ n, n = l.length := ⟨_, rfl⟩
  rw [← hn] at hl1
  have HN := Lib.hid hn
  obtain ⟨A, ca, hva, hcapa, hc⟩ := h.keys.shape
  rw [ints_len, ← hn] at hva hcapa hc
  obtain ⟨gka, rfl, hk1, hk2a, hk3, hk4⟩ := hc (by omega)
  have k1a : ∀ V, (Instr.sliceAt 40 (.slice (some ⟨gka, 0, none⟩) n ca) none (some (.int .i64 (i : Int))) none).run Try.prog V = _ := fun V => upto_run (P := Try.prog) 40 3 Try.underlying40 (by kernel_rfl) gka 0 n ca i (by omega) hcapa (i : Int) .i64 V rfl
  obtain ⟨oa, hoa, hrun⟩ := from_run (P := Try.prog) 40 3 Try.underlying40 (by kernel_rfl) gka 0 n ca (i + 1) (by omega) hcapa
  have k2a := fun V => hrun ((i : Int) + 1) .i64 V (by omega)
  have HK4a := Lib.hid hk4
  clear hrun hc hk1 hk3 hk4
  have HROWa : Hid (w.rowIs g 44 3 (tabF m Kv Vv)) := h.row
  have HGa := HG
  have c1 := h.row.cell (i := 1) (by omega)
  rw [show tabF m Kv Vv 1 = Kv from rfl, hva] at c1
  have HKa := Lib.hid c1
  clear c1 h hn
  go_enter Try.func25, Try.ntmps25
  go_wp2_with fail
  refine region_mix_last (fun W => Below w.heap.size w W) 19 [(0, true), (2, true), (3, true), (4, true), (5, true), (6, true), (7, true), (9, true), (10, true), (11, true), (12, true), (13, true), (14, true), (15, true), (1, false), (8, false), (16, false), (17, false), (18, false)] (by kernel_rfl) rfl (by kernel_rfl) (Below.refl _ _).drew ?_
  iterate 14
    refine m_val rfl (by rfl) _ (fun W hW => by have cu := (hW.cell (p := ⟨g, 1, none⟩) (block_lt_of_cell HKa.out)).trans HKa.out; go_simp; rfl) ?_
    simp only [Act.put, List.setIfInBounds_toArray, List.set_cons_zero, List.set_cons_succ]
  have HB1 : Hid (Below w.heap.size w (w.alloc (.cells #[] 3)).drew) := ((Below.refl _ w).alloc (Nat.le_refl _) _).drew
  have HO1 : Hid (OwnV (w.alloc (.cells #[] 3)).drew w.heap.size 3 (.slice (some ⟨w.heap.size, 0, none⟩) 0 0) []) := OwnV.empty w 3
  refine m_go rfl ?_
  go_wp2_with fail
  refine m_on HB1.out ?_
  generalize (w.alloc (.cells #[] 3)).drew = W1 at *
  have HLN : Hid ((ints l).length = n) := Lib.hid (by have := HN.out; rw [this]; exact ints_len l)
  have HT1 : Hid (((ints l).take i).length = i) := Lib.hid (by have := HLN.out; have := HN.out; rw [List.length_take]; omega)
  have HT2 : Hid (((ints l).drop (i + 1)).length = n - (i + 1)) := Lib.hid (by have := HLN.out; rw [List.length_drop]; omega)
  have HI1 : Hid (∀ u, u ∈ ints l → u.oneCell' = true) := fun u hu => by
    obtain ⟨p, _, rfl⟩ := List.mem_map.1 hu
    rfl
  have HV1 : Hid (∀ j u, ((ints l).take i)[j]? = some u → W1.cell? ⟨gka, 0 + j, none⟩ = some u) := fun j u hj => by
    have hji : j < i := by have := (List.getElem?_eq_some_iff.1 hj).1; rw [HT1.out] at this; exact this
    rw [List.getElem?_take_of_lt hji] at hj
    have := HK4a.out j u hj
    rw [Nat.zero_add]
    exact (HB1.out.cell (p := ⟨gka, j, none⟩) hk2a).trans this
  refine m_go rfl ?_
  go_wp2_with (at_builtin
               refine append_vals (by rfl) (.tmp 5) (.tmp 11) 40 (by rfl) w.heap.size 3 _ _ Try.underlying40 info_int (by rfl) (by omega) [] _ (by rfl) HO1.out gka 0 ca i ((ints l).take i) (by rfl) HT1.out HV1.out (fun u hu => HI1.out u (List.mem_of_mem_take hu)) (by have := HN.out; simp; omega) HB1.out.size ?_
               intro v2 W2 hown2 hg2 hat2)
  have HB2 : Hid (Below w.heap.size w W2) := HB1.out.grown hg2 HB1.out.size (fun b hb => (HO1.out.lt b hb).1)
  have HO2 : Hid (OwnV W2 w.heap.size 3 v2 ((ints l).take i)) := hown2
  refine m_on HB2.out ?_
  have HV2 : Hid (∀ j u, ((ints l).drop (i + 1))[j]? = some u → W2.cell? ⟨gka, oa + j, none⟩ = some u) := fun j u hj => by
    have hji : j < n - (i + 1) := by have := (List.getElem?_eq_some_iff.1 hj).1; rw [HT2.out] at this; exact this
    rw [List.getElem?_drop] at hj
    have := HK4a.out (i + 1 + j) u hj
    rw [hoa (by omega), Nat.zero_add]
    exact (HB2.out.cell (p := ⟨gka, i + 1 + j, none⟩) hk2a).trans this
  clear hown2 hg2 hat2 HO1 HB1 HV1
  refine m_go rfl ?_
  go_wp2_with (at_builtin
               refine append_vals (by rfl) (.tmp 12) (.tmp 19) 40 (by rfl) w.heap.size 3 _ _ Try.underlying40 info_int (by rfl) (by omega) ((ints l).take i) _ (by rfl) HO2.out gka oa (ca - (i + 1)) (n - (i + 1)) ((ints l).drop (i + 1)) (by rfl) HT2.out HV2.out (fun u hu => HI1.out u (List.mem_of_mem_drop hu)) (by have := HN.out; have := HT1.out; omega) HB2.out.size ?_
               intro va W3 hown3 hg3 hat3)
  have HB3 : Hid (Below w.heap.size w W3) := HB2.out.grown hg3 HB2.out.size (fun b hb => (HO2.out.lt b hb).1)
  have HO3 : Hid (OwnV W3 w.heap.size 3 va ((ints l).take i ++ (ints l).drop (i + 1))) := hown3
  clear hown3 hg3 hat3 HO2 HB2 HV2
  obtain ⟨Aa, za, hva', -, -⟩ := HO3.out.shape
  generalize ((ints l).take i ++ (ints l).drop (i + 1)).length = na at hva'
  subst hva'
  refine m_on HB3.out ?_
  have d1 := (HB3.out.cell (p := ⟨g, 1, none⟩) (block_lt_of_cell HKa.out)).trans HKa.out
  refine m_go rfl ?_
  go_wp2_with fail
  refine m_on HB3.out ?_
  refine m_go rfl ?_
  go_wp2_with fail
  refine m_on HB3.out ?_
  refine m_end ?_
  have HR3 : Hid (W3.rowIs g 44 3 (tabF m Kv Vv)) := HROWa.out.of_block (HB3.out.block g HGa.out)
  have f1 := HR3.out.frozen 1
  have HRa' : Hid ((W3.setCell ⟨g, 1, none⟩ (.slice Aa na za)).rowIs g 44 3 (tabF m (.slice Aa na za) Vv)) := (HR3.out.set 1 (.slice Aa na za)).congr (fun j hj => tab_set1 m _ _ _ j hj)
  have HLa : Hid (Leaves (fun b => b = g) w (W3.setCell ⟨g, 1, none⟩ (.slice Aa na za))) := Lib.hid (leaves_set HB3.out)
  have HOa' : Hid (OwnV (W3.setCell ⟨g, 1, none⟩ (.slice Aa na za)) w.heap.size 3 (.slice Aa na za) ((ints l).take i ++ (ints l).drop (i + 1))) := Lib.hid (own_keep_set HO3.out HGa.out)
  clear HR3 HO3
  dsimp only
  go_wp2_with fail
  refine NoPanic.normal ?_
  clear d1 f1 HB3 HLN HT1 HT2 HI1 HKa HROWa k1a k2a HK4a
  generalize W3.setCell ⟨g, 1, none⟩ (.slice Aa na za) = Wa at *
  have HVV : Hid (OwnV Wa B 9 Vv (strs l)) := Lib.hid (H.out.vals.leaves HLa.out (fun b hb he => H.out.vg (he ▸ hb)))
  have HGb : Hid (g < Wa.heap.size) := Lib.hid (Nat.lt_of_lt_of_le HG.out HLa.out.size)
  have hn := HN.out
  obtain ⟨A, cb, hvb, hcapb, hc⟩ := HVV.out.shape
  rw [strs_len, ← hn] at hvb hcapb hc
  obtain ⟨gkb, rfl, hk1, hk2b, hk3, hk4⟩ := hc (by omega)
  have k1b : ∀ V, (Instr.sliceAt 42 (.slice (some ⟨gkb, 0, none⟩) n cb) none (some (.int .i64 (i : Int))) none).run Try.prog V = _ := fun V => upto_run (P := Try.prog) 42 9 Try.underlying42 (by kernel_rfl) gkb 0 n cb i (by omega) hcapb (i : Int) .i64 V rfl
  obtain ⟨ob, hob, hrun⟩ := from_run (P := Try.prog) 42 9 Try.underlying42 (by kernel_rfl) gkb 0 n cb (i + 1) (by omega) hcapb
  have k2b := fun V => hrun ((i : Int) + 1) .i64 V (by omega)
  have HK4b := Lib.hid hk4
  clear hrun hc hk1 hk3 hk4
  have HROWb := HRa'
  have c1 := HRa'.out.cell (i := 2) (by omega)
  rw [show tabF m (.slice Aa na za) Vv 2 = Vv from rfl, hvb] at c1
  have HKb := Lib.hid c1
  clear c1 hn
  go_wp2_with fail
  refine region_mix_last (fun W => Below Wa.heap.size Wa W) 19 [(0, true), (2, true), (3, true), (4, true), (5, true), (6, true), (7, true), (9, true), (10, true), (11, true), (12, true), (13, true), (14, true), (15, true), (1, false), (8, false), (16, false), (17, false), (18, false)] (by kernel_rfl) rfl (by kernel_rfl) (Below.refl _ _).drew ?_
  iterate 14
    refine m_val rfl (by rfl) _ (fun W hW => by have cu := (hW.cell (p := ⟨g, 2, none⟩) (block_lt_of_cell HKb.out)).trans HKb.out; go_simp; rfl) ?_
    simp only [Act.put, List.setIfInBounds_toArray, List.set_cons_zero, List.set_cons_succ]
  have HB1 : Hid (Below Wa.heap.size Wa (Wa.alloc (.cells #[] 9)).drew) := ((Below.refl _ Wa).alloc (Nat.le_refl _) _).drew
  have HO1 : Hid (OwnV (Wa.alloc (.cells #[] 9)).drew Wa.heap.size 9 (.slice (some ⟨Wa.heap.size, 0, none⟩) 0 0) []) := OwnV.empty Wa 9
  refine m_go rfl ?_
  go_wp2_with fail
  refine m_on HB1.out ?_
  generalize (Wa.alloc (.cells #[] 9)).drew = W1 at *
  have HLN : Hid ((strs l).length = n) := Lib.hid (by have := HN.out; rw [this]; exact strs_len l)
  have HT1 : Hid (((strs l).take i).length = i) := Lib.hid (by have := HLN.out; have := HN.out; rw [List.length_take]; omega)
  have HT2 : Hid (((strs l).drop (i + 1)).length = n - (i + 1)) := Lib.hid (by have := HLN.out; rw [List.length_drop]; omega)
  have HI1 : Hid (∀ u, u ∈ strs l → u.oneCell' = true) := fun u hu => by
    obtain ⟨p, _, rfl⟩ := List.mem_map.1 hu
    rfl
  have HV1 : Hid (∀ j u, ((strs l).take i)[j]? = some u → W1.cell? ⟨gkb, 0 + j, none⟩ = some u) := fun j u hj => by
    have hji : j < i := by have := (List.getElem?_eq_some_iff.1 hj).1; rw [HT1.out] at this; exact this
    rw [List.getElem?_take_of_lt hji] at hj
    have := HK4b.out j u hj
    rw [Nat.zero_add]
    exact (HB1.out.cell (p := ⟨gkb, j, none⟩) hk2b).trans this
  refine m_go rfl ?_
  go_wp2_with (at_builtin
               refine append_vals (by rfl) (.tmp 24) (.tmp 30) 42 (by rfl) Wa.heap.size 9 _ _ Try.underlying42 info_str (by rfl) (by omega) [] _ (by rfl) HO1.out gkb 0 cb i ((strs l).take i) (by rfl) HT1.out HV1.out (fun u hu => HI1.out u (List.mem_of_mem_take hu)) (by have := HN.out; simp; omega) HB1.out.size ?_
               intro v2 W2 hown2 hg2 hat2)
  have HB2 : Hid (Below Wa.heap.size Wa W2) := HB1.out.grown hg2 HB1.out.size (fun b hb => (HO1.out.lt b hb).1)
  have HO2 : Hid (OwnV W2 Wa.heap.size 9 v2 ((strs l).take i)) := hown2
  refine m_on HB2.out ?_
  have HV2 : Hid (∀ j u, ((strs l).drop (i + 1))[j]? = some u → W2.cell? ⟨gkb, ob + j, none⟩ = some u) := fun j u hj => by
    have hji : j < n - (i + 1) := by have := (List.getElem?_eq_some_iff.1 hj).1; rw [HT2.out] at this; exact this
    rw [List.getElem?_drop] at hj
    have := HK4b.out (i + 1 + j) u hj
    rw [hob (by omega), Nat.zero_add]
    exact (HB2.out.cell (p := ⟨gkb, i + 1 + j, none⟩) hk2b).trans this
  clear hown2 hg2 hat2 HO1 HB1 HV1
  refine m_go rfl ?_
  go_wp2_with (at_builtin
               refine append_vals (by rfl) (.tmp 31) (.tmp 38) 42 (by rfl) Wa.heap.size 9 _ _ Try.underlying42 info_str (by rfl) (by omega) ((strs l).take i) _ (by rfl) HO2.out gkb ob (cb - (i + 1)) (n - (i + 1)) ((strs l).drop (i + 1)) (by rfl) HT2.out HV2.out (fun u hu => HI1.out u (List.mem_of_mem_drop hu)) (by have := HN.out; have := HT1.out; omega) HB2.out.size ?_
               intro vb W3 hown3 hg3 hat3)
  have HB3 : Hid (Below Wa.heap.size Wa W3) := HB2.out.grown hg3 HB2.out.size (fun b hb => (HO2.out.lt b hb).1)
  have HO3 : Hid (OwnV W3 Wa.heap.size 9 vb ((strs l).take i ++ (strs l).drop (i + 1))) := hown3
  clear hown3 hg3 hat3 HO2 HB2 HV2
  obtain ⟨Ab, zb, hvb', -, -⟩ := HO3.out.shape
  generalize ((strs l).take i ++ (strs l).drop (i + 1)).length = nb at hvb'
  subst hvb'
  refine m_on HB3.out ?_
  have d1 := (HB3.out.cell (p := ⟨g, 2, none⟩) (block_lt_of_cell HKb.out)).trans HKb.out
  refine m_go rfl ?_
  go_wp2_with fail
  refine m_on HB3.out ?_
  refine m_go rfl ?_
  go_wp2_with fail
  refine m_on HB3.out ?_
  refine m_end ?_
  have HR3 : Hid (W3.rowIs g 44 3 (tabF m (.slice Aa na za) Vv)) := HROWb.out.of_block (HB3.out.block g HGb.out)
  have f1 := HR3.out.frozen 2
  have HRb' : Hid ((W3.setCell ⟨g, 2, none⟩ (.slice Ab nb zb)).rowIs g 44 3 (tabF m (.slice Aa na za) (.slice Ab nb zb))) := (HR3.out.set 2 (.slice Ab nb zb)).congr (fun j hj => tab_set2 m _ _ _ j hj)
  have HLb : Hid (Leaves (fun b => b = g) Wa (W3.setCell ⟨g, 2, none⟩ (.slice Ab nb zb))) := Lib.hid (leaves_set HB3.out)
  have HOb' : Hid (OwnV (W3.setCell ⟨g, 2, none⟩ (.slice Ab nb zb)) Wa.heap.size 9 (.slice Ab nb zb) ((strs l).take i ++ (strs l).drop (i + 1))) := Lib.hid (own_keep_set HO3.out HGb.out)
  clear HR3 HO3
  dsimp only
  go_wp2_with fail
  refine NoPanic.normal ?_
  clear d1 f1 HB3 HLN HT1 HT2 HI1 HKb HROWb k1b k2b HK4b
  generalize W3.setCell ⟨g, 2, none⟩ (.slice Ab nb zb) = Wb at *
  have HOa : Hid (OwnV Wb w.heap.size 3 (.slice Aa na za) (ints (l.eraseIdx i))) := Lib.hid (by have := HOa'.out.leaves HLb.out (fun b hb he => by have := (HOa'.out.lt b hb).1; have := HG.out; omega); rw [erase_ints] at this; exact this)
  have HOb : Hid (OwnV Wb Wa.heap.size 9 (.slice Ab nb zb) (strs (l.eraseIdx i))) := Lib.hid (by have := HOb'.out; rw [erase_strs] at this; exact this)
  have HBW : Hid (B ≤ w.heap.size) := Lib.hid (by have := H.out.gB; have := HG.out; omega)
  have HWW : Hid (w.heap.size ≤ Wa.heap.size) := HLa.out.size
  have HTAB : Hid (RefTab Wb B g (.slice Aa na za) (.slice Ab nb zb) m (l.eraseIdx i)) := Lib.hid ⟨HRb'.out, HOa.out.lower HBW.out, HOb.out.lower (Nat.le_trans HBW.out HWW.out), H.out.gB, fun hb => by have := (HOa.out.lt g hb).1; have := HG.out; omega, fun hb => by have := (HOb.out.lt g hb).1; have := HG.out; have := HWW.out; omega,
    fun b hb hb' => by have := (HOa'.out.lt b hb).2; have := (HOb.out.lt b hb').1; omega, by rw [keys_erase]; exact H.out.nodup.sublist (List.eraseIdx_sublist _ _), by have := H.out.len; have := List.length_eraseIdx_le l i; omega, H.out.most⟩
  have HLL : Hid (Leaves (fun b => b = g) w Wb) := Lib.hid (HLa.out.trans HLb.out (fun x hx _ => hx))
  go_wp2
  refine bodyPost_end (results_none rfl _ _ _) rfl ?_
  exact ⟨rfl, _, _, HTAB.out, HLL.out, fun b hb => by
    rcases hb with hb | hb | hb
    · exact .inl hb
    · exact .inr (HOa.out.lt b hb).1
    · exact .inr (Nat.le_trans HWW.out (HOb.out.lt b hb).1)⟩
end Go.Proofs.Ytmoepcobhapghaa.Cache
