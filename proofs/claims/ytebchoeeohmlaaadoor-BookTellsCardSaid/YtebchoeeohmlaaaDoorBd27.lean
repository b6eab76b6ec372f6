/-
  What Apply does. The program's own functions on books, as the laws of layer 15 want them.
-/
import Derived.Test.YtebchoeeohmlaaaDoorBd22
import Derived.Test.YtebchoeeohmlaaaDoorBd26
import Derived.Test.YtebchoeeohmlaaaDoorBd28
import Derived.Test.YtebchoeeohmlaaaDoorBd20
namespace Go.Proofs.YtebchoeeohmlaaaDoor.Book
open Go Go.RowKit Go.Proofs.YtebchoeeohmlaaaDoor.Aid

set_option maxRecDepth 100000 in
set_option maxHeartbeats 4000000 in
theorem apply_own {w : World} (b : Bk) (Lv Rv : Value) (h : BookAt w b Lv Rv) (x : OpB) (hk : x.key.length = 16) (hs : x.name.size ≤ 9000000000000000000) :
    Calls Tryd.prog 14 #[bookV b Lv Rv, opV x] w fun y w' => ∃ Lv' Rv', y = .returned (.tuple #[bookV (applyB b x) Lv' Rv', .int .i64 (applyC b x)]) ∧ OwnBk w' w.heap.size (applyB b x) Lv' Rv' ∧ Below w.heap.size w w' := by
  have hb := (Below.refl w.heap.size w).alloc (Nat.le_refl _) (.cells (cellsOf 19 (bookF b Lv Rv)) 38)
  have HROW := Lib.hid (row_new w (cellsOf 19 (bookF b Lv Rv)) 38 19 (bookF b Lv Rv) (size_cellsOf _ _) (cellsOf_at _ _))
  have HSZ : Hid ((w.alloc (.cells (cellsOf 19 (bookF b Lv Rv)) 38)).heap.size = w.heap.size + 1) := Lib.hid (by simp)
  have HBK := Lib.hid (h.below hb)
  have HB := Lib.hid hb
  have HKL := Lib.hid hk
  have HNS := Lib.hid hs
  clear hb h hk hs
  unfold bookV opV
  generalize hCB : cellsOf 19 (bookF b Lv Rv) = CB at *
  have HCB := Lib.hid hCB
  clear hCB
  go_enter Tryd.func14, Tryd.ntmps14
  go_upto_region 1 with fail
  generalize w.alloc (.cells CB 38) = w1 at *
  have hb2 := (Below.refl w1.heap.size w1).alloc (Nat.le_refl _) (.cells (cellsOf 19 (opF x)) 28)
  have HX2 := Lib.hid (row_new w1 (cellsOf 19 (opF x)) 28 19 (opF x) (size_cellsOf _ _) (cellsOf_at _ _))
  rw [HSZ.out] at HX2
  have HROW2 := Lib.hid (HROW.out.of_block (hb2.block w.heap.size (World.rowIs.lt HROW.out)))
  have HBK2 := Lib.hid (HBK.out.below hb2)
  have HB2 := Lib.hid (HB.out.trans (hb2.mono HB.out.size))
  have HSZ2 : Hid ((w1.alloc (.cells (cellsOf 19 (opF x)) 28)).heap.size = w.heap.size + 2) := Lib.hid (by have := HSZ.out; simp; omega)
  clear hb2 HB HBK HROW HSZ
  generalize w1.alloc (.cells (cellsOf 19 (opF x)) 28) = w2 at *
  have hb3 := (Below.refl w2.heap.size w2).alloc (Nat.le_refl _) (.cells #[.slice none 0 0, .slice none 0 0, .int .i64 0, .int .u8 0, .int .u8 0, .int .u8 0, .int .u8 0, .int .u8 0, .int .u8 0, .int .u8 0, .int .u8 0, .int .u8 0, .int .u8 0, .int .u8 0, .int .u8 0, .int .u8 0, .int .u8 0, .int .u8 0, .int .u8 0] 38)
  have HZ := Lib.hid (row_new w2 _ 38 19 (bookF bk0 (.slice none 0 0) (.slice none 0 0)) (by rfl) (zero19 _ rfl))
  rw [HSZ2.out] at HZ
  have HROW3 := Lib.hid (HROW2.out.of_block (hb3.block w.heap.size (World.rowIs.lt HROW2.out)))
  have HX3 := Lib.hid (HX2.out.of_block (hb3.block (w.heap.size + 1) (World.rowIs.lt HX2.out)))
  have HBK3 := Lib.hid (HBK2.out.below hb3)
  have HB3 := Lib.hid (HB2.out.trans (hb3.mono HB2.out.size))
  have HSZ3 : Hid ((w2.alloc (.cells #[.slice none 0 0, .slice none 0 0, .int .i64 0, .int .u8 0, .int .u8 0, .int .u8 0, .int .u8 0, .int .u8 0, .int .u8 0, .int .u8 0, .int .u8 0, .int .u8 0, .int .u8 0, .int .u8 0, .int .u8 0, .int .u8 0, .int .u8 0, .int .u8 0, .int .u8 0] 38)).heap.size = w.heap.size + 3) := Lib.hid (by have := HSZ2.out; simp; omega)
  clear hb3 HB2 HBK2 HROW2 HX2 HSZ2
  generalize w2.alloc (.cells #[.slice none 0 0, .slice none 0 0, .int .i64 0, .int .u8 0, .int .u8 0, .int .u8 0, .int .u8 0, .int .u8 0, .int .u8 0, .int .u8 0, .int .u8 0, .int .u8 0, .int .u8 0, .int .u8 0, .int .u8 0, .int .u8 0, .int .u8 0, .int .u8 0, .int .u8 0] 38) = w3 at *
  rw [show w.heap.size + 1 + 1 = w.heap.size + 2 from rfl]
  have HCO := Lib.hid (copyOf_any (w := w3) b Lv Rv HBK3.out.ents HBK3.out.revs (by have := HBK3.out.reach.most; omega) (by have := HBK3.out.reach.revs; omega) HBK3.out.apart)
  have HRE := Lib.hid HBK3.out.reach
  unfold bookV at HCO
  rw [HCB.out] at HCO
  have HROW3' : Hid (w3.rangeAt w.heap.size 0 CB.toList) := Lib.hid (by
    rw [← HCB.out]
    have := range_row HROW3.out
    simpa [cellsOf] using this)
  clear HBK3
  go_wp2_with first
    | (refine load_as (by rfl) 38 (.tmp 2) (by rfl) w.heap.size 0 _ 19 19 _ CB (by rw [cells_zero]; exact HCB.out) HROW3.out (by rfl) _ Tryd.underlying38 (by rfl) (by kernel_rfl) (by omega) ?_)
    | fail
  refine HCO.out.mono ?_
  rintro _ w4 ⟨L4, R4, rfl, ho4, hb4⟩
  have HO4 := Lib.hid ho4
  have HX4 := Lib.hid (HX3.out.of_block (hb4.block (w.heap.size + 1) (by have := HSZ3.out; omega)))
  have HZ4 := Lib.hid (HZ.out.of_block (hb4.block (w.heap.size + 2) (by have := HSZ3.out; omega)))
  have HB4 := Lib.hid (HB3.out.trans (hb4.mono HB3.out.size))
  have HS4 : Hid (w.heap.size + 3 ≤ w4.heap.size) := Lib.hid (by have := hb4.size; have := HSZ3.out; omega)
  have HBS : Hid (w3.heap.size = w.heap.size + 3) := Lib.hid HSZ3.out
  clear ho4 hb4 HCO HROW3 HROW3' HX3 HZ HB3 HSZ3
  have hb5 := (Below.refl w4.heap.size w4).alloc (Nat.le_refl _) (.cells #[.slice none 0 0, .slice none 0 0, .int .i64 0, .int .u8 0, .int .u8 0, .int .u8 0, .int .u8 0, .int .u8 0, .int .u8 0, .int .u8 0, .int .u8 0, .int .u8 0, .int .u8 0, .int .u8 0, .int .u8 0, .int .u8 0, .int .u8 0, .int .u8 0, .int .u8 0] 38)
  have HN5 := Lib.hid (row_new w4 _ 38 19 (bookF bk0 (.slice none 0 0) (.slice none 0 0)) (by rfl) (zero19 _ rfl))
  have HO5 := Lib.hid (HO4.out.below hb5)
  have HX5 := Lib.hid (HX4.out.of_block (hb5.block (w.heap.size + 1) (World.rowIs.lt HX4.out)))
  have HZ5 := Lib.hid (HZ4.out.of_block (hb5.block (w.heap.size + 2) (World.rowIs.lt HZ4.out)))
  have HB5 := Lib.hid (HB4.out.trans (hb5.mono HB4.out.size))
  have H1L := Lib.hid (own_one HO4.out.eL)
  have H1R := Lib.hid (own_one HO4.out.eR)
  have HAP : Hid (Apart L4 R4 w4.heap.size) := Lib.hid (HO4.out.apart (.inr (Nat.le_refl _)))
  have HG3 : Hid (w3.heap.size ≤ w4.heap.size) := Lib.hid (by have := HBS.out; have := HS4.out; omega)
  clear hb5 HO4 HX4 HZ4 HB4
  go_upto_region 2 with (refine store_whole (by rfl) 38 (.tmp 6) (.tmp 9) (by rfl) w4.heap.size _ 19 _ (bookF b L4 R4) HN5.out (by rfl) _ (by rfl) (by kernel_rfl) (size_cellsOf _ _) (cellsOf_at _ _) (fun i _ => bookF_one H1L.out H1R.out i) ?_; intro w6 hr6 ho6)
  have HP6 : Hid (BkPtr w6 w4.heap.size 0 38 19 w3.heap.size b L4 R4 (bookF b L4 R4)) := Lib.hid ⟨hr6, by omega, fun j _ => by rw [Nat.zero_add], HO5.out.keep (fun k hk => ho6.block k (fun e => by subst e; rcases hk with hk | hk; exact HAP.out.1 hk; exact HAP.out.2 hk)), by rw [ho6.size]; have := World.rowIs.lt HN5.out; have := HG3.out; omega, HAP.out⟩
  have HX6 := Lib.hid (HX5.out.of_block (ho6.block (w.heap.size + 1) (by have := HS4.out; omega)))
  have HZ6 := Lib.hid (HZ5.out.of_block (ho6.block (w.heap.size + 2) (by have := HS4.out; omega)))
  have HB6 := Lib.hid (ho6.below HB5.out (by have := HS4.out; omega))
  clear hr6 ho6 HN5 HO5 HX5 HZ5 HB5 HAP
  generalize w4.heap.size = g6 at *
  have HRT := Lib.hid (fun W => right_any x HKL.out HNS.out W)
  unfold opV at HRT
  cases hrt : rightB x with
  | false =>
    rw [hrt] at HRT
    have HC : Hid (applyC b x = 3 ∧ applyB b x = b) := Lib.hid (by
      have h3 : applyC b x = 3 := by unfold applyC; rw [if_pos hrt]
      exact ⟨h3, by unfold applyB; rw [h3]; rfl⟩)
    clear hrt
    go_wp2_with first
      | (refine load_whole (by rfl) 28 (.tmp 3) (by rfl) (w.heap.size + 1) _ 19 _ HX6.out (by rfl) _ Tryd.underlying28 (by rfl) (by kernel_rfl) ?_)
      | fail
    refine (HRT.out _).mono ?_
    rintro _ w7 ⟨rfl, hb7⟩
    have HP7 := Lib.hid (HP6.out.below hb7)
    have HZ7 := Lib.hid (HZ6.out.of_block (hb7.block (w.heap.size + 2) (World.rowIs.lt HZ6.out)))
    have HB7 := Lib.hid (HB6.out.trans (hb7.mono HB6.out.size))
    clear hb7 HP6 HX6 HZ6 HB6 HRT
    go_wp2_with first
      | (refine load_whole (by rfl) 38 (.tmp 6) (by rfl) g6 _ 19 _ HP7.out.row (by rfl) _ Tryd.underlying38 (by rfl) (by kernel_rfl) ?_)
      | (refine store_whole (by rfl) 38 (.tmp 4) (.tmp 13) (by rfl) (w.heap.size + 2) _ 19 _ (bookF b L4 R4) HZ7.out (by rfl) _ (by rfl) (by kernel_rfl) (size_cellsOf _ _) (cellsOf_at _ _) (fun i _ => bookF_one H1L.out H1R.out i) ?_; intro w8 hr8 ho8)
    refine bodyPost_ret (results_row_tmp rfl _ (w.heap.size + 2) _ 19 _ _ rfl hr8 Tryd.underlying38 (by rfl) (by kernel_rfl)) rfl ?_
    rw [HC.out.1, HC.out.2]
    have hk8 := HP7.out.own.keep (W' := w8) (fun k hk => ho8.block k (by have := HP7.out.own.lt k hk; have := HBS.out; omega))
    exact ⟨L4, R4, rfl, ⟨hk8.eL.base_ (by have := HBS.out; omega), hk8.eR.base_ (by have := HBS.out; omega)⟩, ho8.below HB7.out (by omega)⟩
  | true =>
    rw [hrt] at HRT
    have HRX := Lib.hid hrt
    clear hrt
    go_wp2_with first
      | (refine load_whole (by rfl) 28 (.tmp 3) (by rfl) (w.heap.size + 1) _ 19 _ HX6.out (by rfl) _ Tryd.underlying28 (by rfl) (by kernel_rfl) ?_)
      | fail
    refine (HRT.out _).mono ?_
    rintro _ w7 ⟨rfl, hb7⟩
    have HP7 := Lib.hid (HP6.out.below hb7)
    have HX7 := Lib.hid (HX6.out.of_block (hb7.block (w.heap.size + 1) (World.rowIs.lt HX6.out)))
    have HZ7 := Lib.hid (HZ6.out.of_block (hb7.block (w.heap.size + 2) (World.rowIs.lt HZ6.out)))
    have HB7 := Lib.hid (HB6.out.trans (hb7.mono HB6.out.size))
    clear hb7 HP6 HX6 HZ6 HB6 HRT
    have HCH := Lib.hid (change_any HP7.out HRE.out x HRX.out HKL.out)
    unfold opV at HCH
    go_wp2_with first
      | (refine load_whole (by rfl) 28 (.tmp 3) (by rfl) (w.heap.size + 1) _ 19 _ HX7.out (by rfl) _ Tryd.underlying28 (by rfl) (by kernel_rfl) ?_)
      | fail
    refine HCH.out.mono ?_
    rintro _ w8 ⟨rfl, L8, R8, f8, hp8, -, hl8, hfp8⟩
    have HP8 := Lib.hid hp8
    have hge : ∀ k, BkFp g6 L4 R4 k → w.heap.size + 3 ≤ k := fun k hk => by
      have h3 := HBS.out
      rcases hk with hk | hk
      · have := HS4.out; omega
      · have := HP7.out.own.lt k hk; omega
    have HZ8 := Lib.hid (HZ7.out.of_block (hl8.block (w.heap.size + 2) (World.rowIs.lt HZ7.out) (fun hk => by have := hge _ hk; omega)))
    have HB8 : Hid (Below w.heap.size w w8) := Lib.hid (HB7.out.trans (hl8.below HB7.out.size (fun k hk => by have := hge _ hk; omega)))
    have H8L := Lib.hid (own_one hp8.own.eL)
    have H8R := Lib.hid (own_one hp8.own.eR)
    clear hp8 hl8 hfp8 hge HCH HP7 HX7 HZ7 HB7
    go_wp2_with first
      | (refine load_as (by rfl) 38 (.tmp 6) (by rfl) g6 0 _ 19 19 _ (cellsOf 19 (bookF (applyB b x) L8 R8)) HP8.out.cells HP8.out.row (by rfl) _ Tryd.underlying38 (by rfl) (by kernel_rfl) (by omega) ?_)
      | (refine store_whole (by rfl) 38 (.tmp 4) (.tmp 16) (by rfl) (w.heap.size + 2) _ 19 _ (bookF (applyB b x) L8 R8) HZ8.out (by rfl) _ (by rfl) (by kernel_rfl) (size_cellsOf _ _) (cellsOf_at _ _) (fun i _ => bookF_one H8L.out H8R.out i) ?_; intro w9 hr9 ho9)
    refine bodyPost_ret (results_row_tmp rfl _ (w.heap.size + 2) _ 19 _ _ rfl hr9 Tryd.underlying38 (by rfl) (by kernel_rfl)) rfl ?_
    have hk9 := HP8.out.own.keep (W' := w9) (fun k hk => ho9.block k (by have := HP8.out.own.lt k hk; have := HBS.out; omega))
    exact ⟨L8, R8, rfl, ⟨hk9.eL.base_ (by have := HBS.out; omega), hk9.eR.base_ (by have := HBS.out; omega)⟩, ho9.below HB8.out (by omega)⟩
end Go.Proofs.YtebchoeeohmlaaaDoor.Book
namespace Go.Proofs.YtebchoeeohmlaaaDoor.Book
open Go Go.RowKit Go.Proofs.YtebchoeeohmlaaaDoor.Aid

theorem same_iff (b c : Bk) : (decide (b.L = c.L) && (decide (b.rev = c.rev) && (decide (b.gen = c.gen) && decide (b.own = c.own)))) = true ↔ b = c := by
  simp only [Bool.and_eq_true, decide_eq_true_eq]
  constructor
  · intro ⟨h1, h2, h3, h4⟩
    obtain ⟨_, _, _, _⟩ := b
    obtain ⟨_, _, _, _⟩ := c
    simp_all
  · intro h
    subst h
    exact ⟨rfl, rfl, rfl, rfl⟩
theorem ops_rows {W : World} {base : Nat} {l : List OpB} {v : Value} (h : OwnE W base 28 19 (l.map ox) v) : RowsAt W 19 l.length (fun i => (List.range 19).map (opF (l.getD i ⟨0, nos, zw, 0⟩))) v :=
  rowsB_congr h.rows (by simp) (fun i hi => by
    rw [List.length_map] at hi
    rw [List.getD_eq_getElem?_getD, List.getD_eq_getElem?_getD, List.getElem?_map, List.getElem?_eq_getElem hi]
    rfl)
theorem bookOwn : BookHas where
  apply := fun {w b Lv Rv} x h hk hs => (apply_own b Lv Rv h x hk hs).mono fun y w' ⟨Lv', Rv', hy, ho, hb⟩ => ⟨Lv', Rv', hy, ho.book (reach_apply h.reach x hk), hb, fun g hg _ => ho.apart (.inl hg)⟩
  same := fun {w b c Lv Rv Lw Rw} h k => (same_any b c Lv Rv Lw Rw h.ents h.revs k.ents k.revs h.reach k.reach).mono fun y w' ⟨hy, hb⟩ => ⟨⟨_, hy, same_iff b c⟩, hb⟩
  key := fun {w b Lv Rv} n h _ => key_any b Lv Rv h.ents (by have := h.reach.most; omega) n
  dead := fun {w b Lv Rv} k h hk => dead_any b Lv Rv h.revs (by have := h.reach.revs; omega) h.reach.words k hk
  ops := fun {w b Lv Rv} h => (ops_any b Lv Rv h).mono fun y w' ⟨v, hy, ho, hb⟩ => ⟨v, hy, ops_rows ho, hb⟩
end Go.Proofs.YtebchoeeohmlaaaDoor.Book
