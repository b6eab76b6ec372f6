/-
  What add and revoke do. What change does: an operation that is right, done to a book where it lies.
-/
import Derived.Test.YtebchoeeohmlaaaDoorBd13
import Derived.Test.YtebchoeeohmlaaaDoorBd15
import Derived.Test.YtebchoeeohmlaaaDoorBd20
import Derived.Test.YtebchoeeohmlaaaDoorBd21
import Derived.Test.YtebchoeeohmlaaaDoorBd06
import Derived.Test.YtebchoeeohmlaaaDoorBd07
import Derived.WalkSmall
import Derived.WalkMore
import Derived.OwnWalk
import Derived.Deep.DeepCutAuto
namespace Go.Proofs.YtebchoeeohmlaaaDoor.Book
open Go Go.RowKit Go.Proofs.YtebchoeeohmlaaaDoor.Aid

theorem info_entA : (Tryd.prog.info? 95).map (fun i => (i.zero, i.size, i.bytes)) = some (some (.agg #[.string ⟨#[]⟩, .int .u8 0, .int .u8 0, .int .u8 0, .int .u8 0, .int .u8 0, .int .u8 0, .int .u8 0, .int .u8 0, .int .u8 0, .int .u8 0, .int .u8 0, .int .u8 0, .int .u8 0, .int .u8 0, .int .u8 0, .int .u8 0]), 17, 32) := by kernel_rfl
theorem info_wordA : (Tryd.prog.info? 26).map (fun i => (i.zero, i.size, i.bytes)) = some (some (.agg #[.int .u8 0, .int .u8 0, .int .u8 0, .int .u8 0, .int .u8 0, .int .u8 0, .int .u8 0, .int .u8 0, .int .u8 0, .int .u8 0, .int .u8 0, .int .u8 0, .int .u8 0, .int .u8 0, .int .u8 0, .int .u8 0]), 16, 16) := by kernel_rfl
def adC (b : Bk) (n : ByteArray) : Int := if hasN b.L n = true then 5 else if 50 ≤ b.L.length then 7 else 0
def adB (b : Bk) (n : ByteArray) (k : Wd) : Bk := if adC b n = 0 then { b with L := b.L ++ [(n, k)] } else b
def revC (b : Bk) (k : Wd) : Int := if k ∈ b.rev then 5 else if 200 ≤ b.rev.length then 7 else 0
def revB (b : Bk) (k : Wd) : Bk := if revC b k = 0 then { b with rev := b.rev ++ [k] } else b
set_option maxRecDepth 100000 in
set_option maxHeartbeats 4000000 in
theorem add_any {w : World} {g o t n base : Nat} {b : Bk} {Lv Rv : Value} {f : Nat → Value} (h : BkPtr w g o t n base b Lv Rv f) (hN : b.L.length ≤ 100000) (nm : ByteArray) (hnm : nm.size ≤ 200000000000000) (k : Wd) :
    Calls Tryd.prog 62 #[.pointer (some ⟨g, o, none⟩), .string nm, wordV k] w fun y w' => y = .returned (.int .i64 (adC b nm)) ∧ Turned w w' g o t n base (adB b nm k) Lv Rv f := by
  have hb := (Below.refl w.heap.size w).alloc (Nat.le_refl _) (.cells (cellsOf 16 (wordF k)) 26)
  have HK := Lib.hid (row_new w (cellsOf 16 (wordF k)) 26 16 (wordF k) (size_cellsOf _ _) (cellsOf_at _ _))
  have HP := Lib.hid (h.below hb)
  have HB := Lib.hid hb
  have HNM := Lib.hid hnm
  have hsh := h.own.ents
  obtain ⟨A, c, rfl, -⟩ := hsh
  clear hb h hnm
  unfold wordV
  go_enter Tryd.func62, Tryd.ntmps62
  generalize cellsOf 16 (wordF k) = C at *
  go_upto_region 1 with fail
  generalize w.alloc (.cells C 26) = w1 at *
  have HPL := Lib.hid (place_any (w := w1) b (.slice A b.L.length c) Rv HP.out.own.ents hN nm)
  unfold bookV at HPL
  go_wp2_with first
    | (refine load_as (by rfl) 38 (.tmp 8) (by rfl) g o _ n 19 f _ HP.out.cells HP.out.row (by rfl) _ Tryd.underlying38 (by rfl) (by kernel_rfl) (by have := HP.out.room; omega) ?_)
    | fail
  refine HPL.out.mono ?_
  rintro _ w2 ⟨rfl, hb2⟩
  have HP2 := Lib.hid (HP.out.below hb2)
  have HK2 := Lib.hid (HK.out.of_block (hb2.block w.heap.size (World.rowIs.lt HK.out)))
  have HB2 := Lib.hid (HB.out.trans (hb2.mono HB.out.size))
  clear hb2 HP HK HB HPL
  have c0 := HP2.out.c0
  cases hh : hasN b.L nm with
  | true =>
    obtain ⟨e1, -⟩ := idx_has hh
    rw [e1]
    have HC : Hid (adC b nm = 5 ∧ adB b nm k = b) := Lib.hid (by
      have h5 : adC b nm = 5 := by unfold adC; rw [if_pos hh]
      exact ⟨h5, by unfold adB; rw [h5]; rfl⟩)
    generalize atL b.L nm = i at *
    have q0 : (0 : Int) ≤ (i : Int) := by omega
    clear hh e1 c0
    go_wp2
    go_ret
    rw [HC.out.1, HC.out.2]
    exact ⟨rfl, (HP2.out.same (Below.refl _ _)).drew HB2.out⟩
  | false =>
    rw [idx_not hh]
    by_cases h50 : 50 ≤ b.L.length
    · have HC : Hid (adC b nm = 7 ∧ adB b nm k = b) := Lib.hid (by
        have h5 : adC b nm = 7 := by unfold adC; rw [hh, if_neg (by decide), if_pos h50]
        exact ⟨h5, by unfold adB; rw [h5]; rfl⟩)
      have q0 : (50 : Int) ≤ (b.L.length : Int) := by omega
      clear hh
      go_wp2
      go_ret
      rw [HC.out.1, HC.out.2]
      exact ⟨rfl, (HP2.out.same (Below.refl _ _)).drew HB2.out⟩
    · have HC : Hid (adC b nm = 0 ∧ adB b nm k = { b with L := b.L ++ [(nm, k)] }) := Lib.hid (by
        have h5 : adC b nm = 0 := by unfold adC; rw [hh, if_neg (by decide), if_neg h50]
        exact ⟨h5, by unfold adB; rw [if_pos h5]⟩)
      have q0 : ¬ (50 : Int) ≤ (b.L.length : Int) := by omega
      have HLL : Hid (b.L.length ≤ 50) := Lib.hid (by omega)
      clear hh h50 hN
      go_upto_region 5 with fail
      clear c0
      refine region_mix_tail (fun W => W.cell? ⟨g, o, none⟩ = some (.slice A b.L.length c) ∧ W.rowIs w.heap.size 26 16 (wordF k)) 13 [(0, true), (1, true), (2, true), (3, true), (4, true), (5, true), (7, true), (6, false), (8, true), (9, false), (10, false), (11, true), (12, true)] (by kernel_rfl) (by rfl) (by kernel_rfl) ⟨HP2.out.c0, HK2.out⟩ ?_
      refine m_val rfl (by rfl) (.pointer (some ⟨g, o, none⟩)) (fun W hW => by clear hW; go_simp) ?_
      simp only [Act.put, List.setIfInBounds_toArray, List.set_cons_zero, List.set_cons_succ]
      refine m_val rfl (by rfl) (.pointer (some ⟨g, o, none⟩)) (fun W hW => by clear hW; go_simp) ?_
      simp only [Act.put, List.setIfInBounds_toArray, List.set_cons_zero, List.set_cons_succ]
      refine m_val rfl (by rfl) (.pointer (some ⟨g, o, none⟩)) (fun W hW => by clear hW; go_simp) ?_
      simp only [Act.put, List.setIfInBounds_toArray, List.set_cons_zero, List.set_cons_succ]
      refine m_val rfl (by rfl) (.pointer (some ⟨g, o, none⟩)) (fun W hW => by clear hW; go_simp) ?_
      simp only [Act.put, List.setIfInBounds_toArray, List.set_cons_zero, List.set_cons_succ]
      refine m_val rfl (by rfl) (.slice A b.L.length c) (fun W hW => by have h1 := hW.1; clear hW; go_simp) ?_
      simp only [Act.put, List.setIfInBounds_toArray, List.set_cons_zero, List.set_cons_succ]
      refine m_val rfl (by rfl) (.string nm) (fun W hW => by clear hW; go_simp) ?_
      simp only [Act.put, List.setIfInBounds_toArray, List.set_cons_zero, List.set_cons_succ]
      refine m_range rfl (by rfl) 26 (.tmp 5) (by rfl) w.heap.size 0 16 (wordF k) (fun W hW => range_row hW.2) (by rfl) _ Tryd.underlying26 (by rfl) (by kernel_rfl) ?_
      simp only [Act.put, List.setIfInBounds_toArray, List.set_cons_zero, List.set_cons_succ]
      rw [show cellsOf 16 (wordF k) = #[wordF k 0, wordF k 1, wordF k 2, wordF k 3, wordF k 4, wordF k 5, wordF k 6, wordF k 7, wordF k 8, wordF k 9, wordF k 10, wordF k 11, wordF k 12, wordF k 13, wordF k 14, wordF k 15] from rfl]
      have HP3 := Lib.hid (HP2.out.below ⟨rfl, rfl, rfl, Nat.le_refl _, fun _ _ => rfl⟩ (W' := w2.drew))
      have HB3 : Hid (Below w.heap.size w w2.drew) := Lib.hid (HB2.out.trans ⟨rfl, rfl, rfl, Nat.le_refl _, fun _ _ => rfl⟩)
      have HK3 : Hid (w2.drew.rowIs w.heap.size 26 16 (wordF k)) := Lib.hid HK2.out
      clear HP2 HB2 HK2
      generalize w2.drew = w3 at *
      refine m_go rfl ?_
      go_wp2_with fail
      refine (clone_str nm w3 HNM.out).mono ?_
      rintro _ w4 ⟨rfl, hb4⟩
      have HP4 := Lib.hid (HP3.out.below hb4)
      have HK4 := Lib.hid (HK3.out.of_block (hb4.block w.heap.size (World.rowIs.lt HK3.out)))
      have HB4 := Lib.hid (HB3.out.trans (hb4.mono HB3.out.size))
      clear hb4 HP3 HK3 HB3
      go_wp2_with fail
      refine m_on ⟨HP4.out.c0, HK4.out⟩ ?_
      refine m_val rfl (by rfl) (.agg #[.string nm, wordF k 0, wordF k 1, wordF k 2, wordF k 3, wordF k 4, wordF k 5, wordF k 6, wordF k 7, wordF k 8, wordF k 9, wordF k 10, wordF k 11, wordF k 12, wordF k 13, wordF k 14, wordF k 15]) (fun W hW => by clear hW; go_simp) ?_
      simp only [Act.put, List.setIfInBounds_toArray, List.set_cons_zero, List.set_cons_succ]
      refine m_go rfl ?_
      go_wp2_with fail
      have HNEW : Hid (RowsAt (w4.alloc (.cells #[.string nm, wordF k 0, wordF k 1, wordF k 2, wordF k 3, wordF k 4, wordF k 5, wordF k 6, wordF k 7, wordF k 8, wordF k 9, wordF k 10, wordF k 11, wordF k 12, wordF k 13, wordF k 14, wordF k 15] 95)) 17 1 (fun _ => entR (nm, k)) (.slice (some ⟨w4.heap.size, 0, none⟩) 1 1)) := Lib.hid (row_one w4 _ 95 17 (entR (nm, k)) rfl)
      have hal : Below w4.heap.size w4 (w4.alloc (.cells #[.string nm, wordF k 0, wordF k 1, wordF k 2, wordF k 3, wordF k 4, wordF k 5, wordF k 6, wordF k 7, wordF k 8, wordF k 9, wordF k 10, wordF k 11, wordF k 12, wordF k 13, wordF k 14, wordF k 15] 95)) := (Below.refl _ _).alloc (Nat.le_refl _) _
      have HP5 := Lib.hid (HP4.out.below hal)
      have HK5 := Lib.hid (HK4.out.of_block (hal.block w.heap.size (World.rowIs.lt HK4.out)))
      have HB5 := Lib.hid (HB4.out.trans (hal.mono HB4.out.size))
      clear hal HP4 HK4 HB4
      generalize w4.heap.size = g4 at *
      generalize w4.alloc (.cells #[.string nm, wordF k 0, wordF k 1, wordF k 2, wordF k 3, wordF k 4, wordF k 5, wordF k 6, wordF k 7, wordF k 8, wordF k 9, wordF k 10, wordF k 11, wordF k 12, wordF k 13, wordF k 14, wordF k 15] 95) = w5 at *
      refine m_on ⟨HP5.out.c0, HK5.out⟩ ?_
      refine m_go rfl ?_
      go_wp2_with (at_builtin
                   refine append_rows (by rfl) (.tmp 23) (.tmp 28) 35 (by rfl) base 95 17 32 _ Tryd.underlying35 info_entA (by rfl) (by omega) _ _ (by rfl) HP5.out.own.eL 1 _ _ (by rfl) HNEW.out (fun i _ => ⟨entR_len _, entR_one _⟩) (by rw [List.length_map]; have := HLL.out; omega) (by omega) HP5.out.base_le ?_
                   intro v6 w6 ho6 hg6 hv6
                   have ho6' : OwnE w6 base 95 17 ((b.L ++ [(nm, k)]).map entR) v6 := by rw [List.map_append]; exact ho6
                   have HT := Lib.hid (HP5.out.putL ho6' hg6 (hv6.imp_right .inl))
                   have r6 := HP5.out.row.of_block (hg6.block g HP5.out.lt (fun e => HP5.out.apart.1 e.symm))
                   have HC6 : Hid (w6.cell? ⟨g, o, none⟩ = some (.slice A b.L.length c)) := Lib.hid (by
                     rw [r6.cell (i := o) (by have := HP5.out.room; omega)]
                     exact congrArg some (HP5.out.at_ 0 (by omega)))
                   have HF6 := Lib.hid (r6.frozen o)
                   have HK6 := Lib.hid (HK5.out.of_block (hg6.block w.heap.size (World.rowIs.lt HK5.out) (fun e => own_ne_row HP5.out.own.eL HK5.out (by decide) e.symm)))
                   have hsh := ho6.shape
                   obtain ⟨A6, d6, hs6⟩ := hsh
                   generalize (List.map entR b.L ++ List.map (fun _ => entR (nm, k)) (List.range 1)).length = m6 at hs6
                   subst hs6
                   clear ho6 ho6' hg6 hv6 r6)
      refine m_on ⟨HC6.out, HK6.out⟩ ?_
      refine m_val rfl (by rfl) (.pointer (some ⟨g, o, none⟩)) (fun W hW => by clear hW; go_simp) ?_
      simp only [Act.put, List.setIfInBounds_toArray, List.set_cons_zero, List.set_cons_succ]
      refine m_val rfl (by rfl) (.pointer (some ⟨g, o, none⟩)) (fun W hW => by clear hW; go_simp) ?_
      simp only [Act.put, List.setIfInBounds_toArray, List.set_cons_zero, List.set_cons_succ]
      refine m_end ?_
      dsimp only
      have c6 := HC6.out
      have f6 := HF6.out
      go_wp2_with fail
      refine NoPanic.normal ?_
      clear c6 f6
      go_wp2
      go_ret
      rw [HC.out.1, HC.out.2]
      exact ⟨rfl, HT.out.drew HB5.out⟩
set_option maxRecDepth 100000 in
set_option maxHeartbeats 4000000 in
theorem revoke_any {w : World} {g o t n base : Nat} {b : Bk} {Lv Rv : Value} {f : Nat → Value} (h : BkPtr w g o t n base b Lv Rv f) (hN : b.rev.length ≤ 100000) (hW : ∀ k ∈ b.rev, k.length = 16) (k : Wd) (hk : k.length = 16) :
    Calls Tryd.prog 65 #[.pointer (some ⟨g, o, none⟩), wordV k] w fun y w' => y = .returned (.int .i64 (revC b k)) ∧ Turned w w' g o t n base (revB b k) Lv Rv f := by
  have hb := (Below.refl w.heap.size w).alloc (Nat.le_refl _) (.cells (cellsOf 16 (wordF k)) 26)
  have HK := Lib.hid (row_new w (cellsOf 16 (wordF k)) 26 16 (wordF k) (size_cellsOf _ _) (cellsOf_at _ _))
  have HP := Lib.hid (h.below hb)
  have HB := Lib.hid hb
  have HW := Lib.hid hW
  have HKL := Lib.hid hk
  have HAR : Hid (Rv.ownBlock ≠ some w.heap.size) := Lib.hid (fun e => by have := (h.own.eR.lt _ e).2; omega)
  have hsh := h.own.revs
  obtain ⟨A, c, rfl, -⟩ := hsh
  clear hb h hW hk
  unfold wordV
  go_enter Tryd.func65, Tryd.ntmps65
  generalize hCC : cellsOf 16 (wordF k) = C at *
  have HCC := Lib.hid hCC
  clear hCC
  go_upto_region 1 with fail
  generalize w.alloc (.cells C 26) = w1 at *
  refine region_mix (fun W => W.rowIs g t n f ∧ W.rowIs w.heap.size 26 16 (wordF k)) [(0, true), (1, true), (2, true), (3, true), (4, false)] (by kernel_rfl) (by kernel_rfl) ⟨HP.out.row, HK.out⟩ ?_
  refine m_val rfl (by rfl) (.pointer (some ⟨g, o, none⟩)) (fun W hW => by clear hW; go_simp) ?_
  simp only [Act.put, List.setIfInBounds_toArray, List.set_cons_zero, List.set_cons_succ]
  refine m_val rfl (by rfl) (.pointer (some ⟨g, o, none⟩)) (fun W hW => by clear hW; go_simp) ?_
  simp only [Act.put, List.setIfInBounds_toArray, List.set_cons_zero, List.set_cons_succ]
  refine m_load rfl (by rfl) 38 (.tmp 6) (by rfl) g o t n 19 f (fun W hW => hW.1) (by rfl) _ Tryd.underlying38 (by rfl) (by kernel_rfl) (by have := HP.out.room; omega) ?_
  simp only [Act.put, List.setIfInBounds_toArray, List.set_cons_zero, List.set_cons_succ]
  rw [HP.out.cells]
  refine m_range rfl (by rfl) 26 (.tmp 3) (by rfl) w.heap.size 0 16 (wordF k) (fun W hW => range_row hW.2) (by rfl) _ Tryd.underlying26 (by rfl) (by kernel_rfl) ?_
  simp only [Act.put, List.setIfInBounds_toArray, List.set_cons_zero, List.set_cons_succ]
  have HP1 := Lib.hid (HP.out.below ⟨rfl, rfl, rfl, Nat.le_refl _, fun _ _ => rfl⟩ (W' := w1.drew))
  have HB1 : Hid (Below w.heap.size w w1.drew) := Lib.hid (HB.out.trans ⟨rfl, rfl, rfl, Nat.le_refl _, fun _ _ => rfl⟩)
  have HK1 : Hid (w1.drew.rowIs w.heap.size 26 16 (wordF k)) := Lib.hid HK.out
  clear HP HB HK
  generalize w1.drew = w1' at *
  have HD := Lib.hid (dead_any (w := w1') b Lv (.slice A b.rev.length c) HP1.out.own.revs hN HW.out k HKL.out)
  unfold bookV wordV at HD
  rw [HCC.out] at HD ⊢
  refine m_go rfl ?_
  go_wp2_with fail
  refine HD.out.mono ?_
  rintro _ w2 ⟨rfl, hb2⟩
  have HP2 := Lib.hid (HP1.out.below hb2)
  have HK2 := Lib.hid (HK1.out.of_block (hb2.block w.heap.size (World.rowIs.lt HK1.out)))
  have HB2 := Lib.hid (HB1.out.trans (hb2.mono HB1.out.size))
  clear hb2 HP1 HK1 HB1 HD
  go_wp2_with fail
  refine m_on ⟨HP2.out.row, HK2.out⟩ ?_
  refine m_end ?_
  by_cases hh : k ∈ b.rev
  · have HC : Hid (revC b k = 5 ∧ revB b k = b) := Lib.hid (by
      have h5 : revC b k = 5 := by unfold revC; rw [if_pos hh]
      exact ⟨h5, by unfold revB; rw [h5]; rfl⟩)
    have HDT : Hid (decide (k ∈ b.rev) = true) := Lib.hid (decide_eq_true hh)
    rw [HDT.out]
    clear hh
    go_wp2
    go_ret
    rw [HC.out.1, HC.out.2]
    exact ⟨rfl, (HP2.out.same (Below.refl _ _)).drew HB2.out⟩
  have HDT : Hid (decide (k ∈ b.rev) = false) := Lib.hid (decide_eq_false hh)
  rw [HDT.out]
  have c1 := HP2.out.c1
  by_cases h50 : 200 ≤ b.rev.length
  · have HC : Hid (revC b k = 7 ∧ revB b k = b) := Lib.hid (by
      have h5 : revC b k = 7 := by unfold revC; rw [if_neg hh, if_pos h50]
      exact ⟨h5, by unfold revB; rw [h5]; rfl⟩)
    have q0 : (200 : Int) ≤ (b.rev.length : Int) := by omega
    clear hh
    go_wp2
    go_ret
    rw [HC.out.1, HC.out.2]
    exact ⟨rfl, (HP2.out.same (Below.refl _ _)).drew HB2.out⟩
  have HC : Hid (revC b k = 0 ∧ revB b k = { b with rev := b.rev ++ [k] }) := Lib.hid (by
    have h5 : revC b k = 0 := by unfold revC; rw [if_neg hh, if_neg h50]
    exact ⟨h5, by unfold revB; rw [if_pos h5]⟩)
  have q0 : ¬ (200 : Int) ≤ (b.rev.length : Int) := by omega
  have HLL : Hid (b.rev.length ≤ 200) := Lib.hid (by omega)
  clear hh h50 hN
  go_upto_region 5 with fail
  clear c1
  refine region_mix_tail (fun W => W.cell? ⟨g, o + 1, none⟩ = some (.slice A b.rev.length c) ∧ W.rowIs w.heap.size 26 16 (wordF k)) 10 [(0, true), (1, true), (2, true), (3, true), (4, true), (5, true), (6, false), (7, false), (8, true), (9, true)] (by kernel_rfl) (by rfl) (by kernel_rfl) ⟨HP2.out.c1, HK2.out⟩ ?_
  refine m_val rfl (by rfl) (.pointer (some ⟨g, o, none⟩)) (fun W hW => by clear hW; go_simp) ?_
  simp only [Act.put, List.setIfInBounds_toArray, List.set_cons_zero, List.set_cons_succ]
  refine m_val rfl (by rfl) (.pointer (some ⟨g, o, none⟩)) (fun W hW => by clear hW; go_simp) ?_
  simp only [Act.put, List.setIfInBounds_toArray, List.set_cons_zero, List.set_cons_succ]
  refine m_val rfl (by rfl) (.pointer (some ⟨g, o, none⟩)) (fun W hW => by clear hW; go_simp) ?_
  simp only [Act.put, List.setIfInBounds_toArray, List.set_cons_zero, List.set_cons_succ]
  refine m_val rfl (by rfl) (.pointer (some ⟨g, o + 1, none⟩)) (fun W hW => by clear hW; go_simp) ?_
  simp only [Act.put, List.setIfInBounds_toArray, List.set_cons_zero, List.set_cons_succ]
  refine m_val rfl (by rfl) (.slice A b.rev.length c) (fun W hW => by have h1 := hW.1; clear hW; go_simp) ?_
  simp only [Act.put, List.setIfInBounds_toArray, List.set_cons_zero, List.set_cons_succ]
  refine m_range rfl (by rfl) 26 (.tmp 3) (by rfl) w.heap.size 0 16 (wordF k) (fun W hW => range_row hW.2) (by rfl) _ Tryd.underlying26 (by rfl) (by kernel_rfl) ?_
  simp only [Act.put, List.setIfInBounds_toArray, List.set_cons_zero, List.set_cons_succ]
  rw [show cellsOf 16 (wordF k) = #[wordF k 0, wordF k 1, wordF k 2, wordF k 3, wordF k 4, wordF k 5, wordF k 6, wordF k 7, wordF k 8, wordF k 9, wordF k 10, wordF k 11, wordF k 12, wordF k 13, wordF k 14, wordF k 15] from rfl]
  have HP4 := Lib.hid (HP2.out.below ⟨rfl, rfl, rfl, Nat.le_refl _, fun _ _ => rfl⟩ (W' := w2.drew))
  have HB4 : Hid (Below w.heap.size w w2.drew) := Lib.hid (HB2.out.trans ⟨rfl, rfl, rfl, Nat.le_refl _, fun _ _ => rfl⟩)
  have HK4 : Hid (w2.drew.rowIs w.heap.size 26 16 (wordF k)) := Lib.hid HK2.out
  clear HP2 HB2 HK2
  generalize w2.drew = w4 at *
  refine m_go rfl ?_
  go_wp2_with fail
  have HNEW : Hid (RowsAt (w4.alloc (.cells #[wordF k 0, wordF k 1, wordF k 2, wordF k 3, wordF k 4, wordF k 5, wordF k 6, wordF k 7, wordF k 8, wordF k 9, wordF k 10, wordF k 11, wordF k 12, wordF k 13, wordF k 14, wordF k 15] 26)) 16 1 (fun _ => wordR k) (.slice (some ⟨w4.heap.size, 0, none⟩) 1 1)) := Lib.hid (row_one w4 _ 26 16 (wordR k) rfl)
  have hal : Below w4.heap.size w4 (w4.alloc (.cells #[wordF k 0, wordF k 1, wordF k 2, wordF k 3, wordF k 4, wordF k 5, wordF k 6, wordF k 7, wordF k 8, wordF k 9, wordF k 10, wordF k 11, wordF k 12, wordF k 13, wordF k 14, wordF k 15] 26)) := (Below.refl _ _).alloc (Nat.le_refl _) _
  have HP5 := Lib.hid (HP4.out.below hal)
  have HK5 := Lib.hid (HK4.out.of_block (hal.block w.heap.size (World.rowIs.lt HK4.out)))
  have HB5 := Lib.hid (HB4.out.trans (hal.mono HB4.out.size))
  clear hal HP4 HK4 HB4
  generalize w4.heap.size = g4 at *
  generalize w4.alloc (.cells #[wordF k 0, wordF k 1, wordF k 2, wordF k 3, wordF k 4, wordF k 5, wordF k 6, wordF k 7, wordF k 8, wordF k 9, wordF k 10, wordF k 11, wordF k 12, wordF k 13, wordF k 14, wordF k 15] 26) = w5 at *
  refine m_on ⟨HP5.out.c1, HK5.out⟩ ?_
  refine m_go rfl ?_
  go_wp2_with (at_builtin
               refine append_rows (by rfl) (.tmp 20) (.tmp 22) 36 (by rfl) base 26 16 16 _ Tryd.underlying36 info_wordA (by rfl) (by omega) _ _ (by rfl) HP5.out.own.eR 1 _ _ (by rfl) HNEW.out (fun i _ => ⟨wordR_len _, wordR_one _⟩) (by rw [List.length_map]; have := HLL.out; omega) (by omega) HP5.out.base_le ?_
               intro v6 w6 ho6 hg6 hv6
               have ho6' : OwnE w6 base 26 16 ((b.rev ++ [k]).map wordR) v6 := by rw [List.map_append]; exact ho6
               have HT := Lib.hid (HP5.out.putR ho6' hg6 (hv6.imp_right .inl))
               have r6 := HP5.out.row.of_block (hg6.block g HP5.out.lt (fun e => HP5.out.apart.2 e.symm))
               have HC6 : Hid (w6.cell? ⟨g, o + 1, none⟩ = some (.slice A b.rev.length c)) := Lib.hid (by
                 rw [r6.cell (i := o + 1) (by have := HP5.out.room; omega)]
                 exact congrArg some (HP5.out.at_ 1 (by omega)))
               have HF6 := Lib.hid (r6.frozen (o + 1))
               have HK6 := Lib.hid (HK5.out.of_block (hg6.block w.heap.size (World.rowIs.lt HK5.out) (fun e => HAR.out e.symm)))
               have hsh := ho6.shape
               obtain ⟨A6, d6, hs6⟩ := hsh
               generalize (List.map wordR b.rev ++ List.map (fun _ => wordR k) (List.range 1)).length = m6 at hs6
               subst hs6
               clear ho6 ho6' hg6 hv6 r6)
  refine m_on ⟨HC6.out, HK6.out⟩ ?_
  refine m_val rfl (by rfl) (.pointer (some ⟨g, o, none⟩)) (fun W hW => by clear hW; go_simp) ?_
  simp only [Act.put, List.setIfInBounds_toArray, List.set_cons_zero, List.set_cons_succ]
  refine m_val rfl (by rfl) (.pointer (some ⟨g, o + 1, none⟩)) (fun W hW => by clear hW; go_simp) ?_
  simp only [Act.put, List.setIfInBounds_toArray, List.set_cons_zero, List.set_cons_succ]
  refine m_end ?_
  dsimp only
  have c6 := HC6.out
  have f6 := HF6.out
  go_wp2_with fail
  refine NoPanic.normal ?_
  clear c6 f6
  go_wp2
  go_ret
  rw [HC.out.1, HC.out.2]
  exact ⟨rfl, HT.out.drew HB5.out⟩
end Go.Proofs.YtebchoeeohmlaaaDoor.Book
namespace Go.Proofs.YtebchoeeohmlaaaDoor.Book
open Go Go.RowKit Go.Proofs.YtebchoeeohmlaaaDoor.Aid

section
variable {b : Bk} {x : OpB}
theorem ap1 (hx : rightB x = true) (hk : x.kind = 1) : applyC b x = adC b x.name ∧ applyB b x = adB b x.name x.key := by
  have hc : applyC b x = adC b x.name := by
    unfold applyC adC
    rw [hx, if_neg (by decide), if_pos hk]
  refine ⟨hc, ?_⟩
  unfold applyB adB doneB
  rw [hc, if_pos hk]
theorem ap2 (hx : rightB x = true) (hk : x.kind = 2) : applyC b x = hadC b x.name ∧ applyB b x = rmBk b x.name := by
  have hc : applyC b x = hadC b x.name := by
    unfold applyC hadC
    rw [hx, if_neg (by decide), if_neg (by omega), if_pos (.inl hk)]
  refine ⟨hc, ?_⟩
  unfold applyB doneB rmBk
  rw [hc]
  unfold hadC
  by_cases h : hasN b.L x.name = true
  · rw [if_pos h, if_pos rfl, if_pos h, if_neg (by omega), if_pos hk]
  · rw [if_neg h, if_neg (by decide), if_neg h]
theorem ap3 (hx : rightB x = true) (hk : x.kind = 3) : applyC b x = hadC b x.name ∧ applyB b x = reBk b x.name x.key := by
  have hc : applyC b x = hadC b x.name := by
    unfold applyC hadC
    rw [hx, if_neg (by decide), if_neg (by omega), if_pos (.inr hk)]
  refine ⟨hc, ?_⟩
  unfold applyB doneB reBk
  rw [hc]
  unfold hadC
  by_cases h : hasN b.L x.name = true
  · rw [if_pos h, if_pos rfl, if_pos h, if_neg (by omega), if_neg (by omega), if_pos hk]
  · rw [if_neg h, if_neg (by decide), if_neg h]
theorem ap4 (hx : rightB x = true) (hk : x.kind = 4) : applyC b x = revC b x.key ∧ applyB b x = revB b x.key := by
  have hc : applyC b x = revC b x.key := by
    unfold applyC revC
    rw [hx, if_neg (by decide), if_neg (by omega), if_neg (by omega), if_pos hk]
  have hd : doneB b x = { b with rev := b.rev ++ [x.key] } := by
    unfold doneB
    rw [if_neg (by omega), if_neg (by omega), if_neg (by omega), if_pos hk]
  refine ⟨hc, ?_⟩
  unfold applyB revB
  rw [hc, hd]
theorem ap5 (hx : rightB x = true) (hk : x.kind = 5) : applyC b x = nxtC b x.gen ∧ applyB b x = nxtB b x.gen x.key := by
  have hc : applyC b x = nxtC b x.gen := by
    unfold applyC nxtC
    rw [hx, if_neg (by decide), if_neg (by omega), if_neg (by omega), if_neg (by omega)]
  have hd : doneB b x = { b with gen := x.gen, own := x.key } := by
    unfold doneB
    rw [if_neg (by omega), if_neg (by omega), if_neg (by omega), if_neg (by omega)]
  refine ⟨hc, ?_⟩
  unfold applyB
  rw [hc, hd]
  unfold nxtC nxtB
  by_cases h : x.gen ≤ b.gen
  · rw [if_pos h, if_neg (by decide), if_pos h]
  · rw [if_neg h, if_pos rfl, if_neg h]
end
set_option maxRecDepth 100000 in
set_option maxHeartbeats 4000000 in
theorem change_any {w : World} {g o t n base : Nat} {b : Bk} {Lv Rv : Value} {f : Nat → Value} (h : BkPtr w g o t n base b Lv Rv f) (hr : Reach b) (x : OpB) (hx : rightB x = true) (hk : x.key.length = 16) :
    Calls Tryd.prog 45 #[.pointer (some ⟨g, o, none⟩), opV x] w fun y w' => y = .returned (.int .i64 (applyC b x)) ∧ Turned w w' g o t n base (applyB b x) Lv Rv f := by
  have hb := (Below.refl w.heap.size w).alloc (Nat.le_refl _) (.cells (cellsOf 19 (opF x)) 28)
  have HROW := Lib.hid (row_new w (cellsOf 19 (opF x)) 28 19 (opF x) (size_cellsOf _ _) (cellsOf_at _ _))
  have HP := Lib.hid (h.below hb)
  have HB := Lib.hid hb
  have HR := Lib.hid hr
  have HX := Lib.hid hx
  have HKL := Lib.hid hk
  have hok := op_key x
  have hkd := right_kind hx
  have HNS : Hid (x.kind ≤ 3 → x.name.size ≤ 20) := Lib.hid (fun h3 => by
    have := right_name hx h3
    exact (of_decide_eq_true this).2.1)
  clear hb h hr hx hk
  unfold opV
  go_enter Tryd.func45, Tryd.ntmps45
  generalize cellsOf 19 (opF x) = C at *
  go_upto_region 1 with fail
  generalize w.alloc (.cells C 28) = w1 at *
  have c0 := HROW.out.cell (i := 0) (by omega)
  have c1 := HROW.out.cell (i := 1) (by omega)
  have c2 := HROW.out.cell (i := 18) (by omega)
  rw [show opF x 0 = .int .i64 x.kind from rfl] at c0
  rw [show opF x 1 = .string x.name from rfl] at c1
  rw [show opF x 18 = .int .i64 x.gen from rfl] at c2
  rcases (show x.kind = 1 ∨ x.kind = 2 ∨ x.kind = 3 ∨ x.kind = 4 ∨ x.kind = 5 by omega) with k | k | k | k | k
  · rw [k] at c0
    have HC := Lib.hid (ap1 (b := b) HX.out k)
    have HA := Lib.hid (add_any HP.out (by have := HR.out.most; omega) x.name (by have := HNS.out (by omega); omega) x.key)
    unfold wordV at HA
    clear k hkd
    go_wp2_with first
      | (refine load_as (by rfl) 26 (.tmp 18) (by rfl) w.heap.size 2 _ 19 16 _ _ hok HROW.out (by rfl) _ Tryd.underlying26 (by rfl) (by kernel_rfl) (by omega) ?_)
      | fail
    refine HA.out.mono ?_
    rintro _ w2 ⟨rfl, hT⟩
    have HT := Lib.hid hT
    clear hT HA
    go_wp2
    go_ret
    rw [HC.out.1, HC.out.2]
    exact ⟨rfl, HT.out.drew HB.out⟩
  · rw [k] at c0
    have HC := Lib.hid (ap2 (b := b) HX.out k)
    have HA := Lib.hid (remove_any HP.out (by have := HR.out.most; omega) x.name)
    clear k hkd
    go_wp2_with fail
    refine HA.out.mono ?_
    rintro _ w2 ⟨rfl, hT⟩
    have HT := Lib.hid hT
    clear hT HA
    go_wp2
    go_ret
    rw [HC.out.1, HC.out.2]
    exact ⟨rfl, HT.out.drew HB.out⟩
  · rw [k] at c0
    have HC := Lib.hid (ap3 (b := b) HX.out k)
    have HA := Lib.hid (rekey_any HP.out (by have := HR.out.most; omega) x.name x.key)
    unfold wordV at HA
    clear k hkd
    go_wp2_with first
      | (refine load_as (by rfl) 26 (.tmp 32) (by rfl) w.heap.size 2 _ 19 16 _ _ hok HROW.out (by rfl) _ Tryd.underlying26 (by rfl) (by kernel_rfl) (by omega) ?_)
      | fail
    refine HA.out.mono ?_
    rintro _ w2 ⟨rfl, hT⟩
    have HT := Lib.hid hT
    clear hT HA
    go_wp2
    go_ret
    rw [HC.out.1, HC.out.2]
    exact ⟨rfl, HT.out.drew HB.out⟩
  · rw [k] at c0
    have HC := Lib.hid (ap4 (b := b) HX.out k)
    have HA := Lib.hid (revoke_any HP.out (by have := HR.out.revs; omega) HR.out.words x.key HKL.out)
    unfold wordV at HA
    clear k hkd
    go_wp2_with first
      | (refine load_as (by rfl) 26 (.tmp 38) (by rfl) w.heap.size 2 _ 19 16 _ _ hok HROW.out (by rfl) _ Tryd.underlying26 (by rfl) (by kernel_rfl) (by omega) ?_)
      | fail
    refine HA.out.mono ?_
    rintro _ w2 ⟨rfl, hT⟩
    have HT := Lib.hid hT
    clear hT HA
    go_wp2
    go_ret
    rw [HC.out.1, HC.out.2]
    exact ⟨rfl, HT.out.drew HB.out⟩
  · rw [k] at c0
    have HC := Lib.hid (ap5 (b := b) HX.out k)
    have HA := Lib.hid (next_any HP.out x.gen x.key)
    unfold wordV at HA
    clear k hkd
    go_wp2_with first
      | (refine load_as (by rfl) 26 (.tmp 10) (by rfl) w.heap.size 2 _ 19 16 _ _ hok HROW.out (by rfl) _ Tryd.underlying26 (by rfl) (by kernel_rfl) (by omega) ?_)
      | fail
    refine HA.out.mono ?_
    rintro _ w2 ⟨rfl, hT⟩
    have HT := Lib.hid hT
    clear hT HA
    go_wp2
    go_ret
    rw [HC.out.1, HC.out.2]
    exact ⟨rfl, HT.out.drew HB.out⟩
end Go.Proofs.YtebchoeeohmlaaaDoor.Book
