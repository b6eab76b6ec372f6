/-
  What the document's Fuse does where the spans and the liars may be.
-/
import Derived.Test.YtmkmmpmhbahmeaaRefFuse
namespace Go.Proofs.Ytmkmmpmhbahmeaa.Sweep
open Go Go.RowKit Go.Proofs.Ytmkmmpmhbahmeaa.Aid Go.Proofs.Ytmkmmpmhbahmeaa.Span

theorem set_lo {w : World} {g t : Nat} {a b a' : Int} (h : w.rowIs g t 2 (spf a b)) : (w.setCell ⟨g, 0, none⟩ (.int .i64 a')).rowIs g t 2 (spf a' b) :=
  (h.set 0 (.int .i64 a')).congr (fun i hi => by match i, hi with | 0, _ => rfl | 1, _ => rfl)
theorem set_hi {w : World} {g t : Nat} {a b b' : Int} (h : w.rowIs g t 2 (spf a b)) : (w.setCell ⟨g, 1, none⟩ (.int .i64 b')).rowIs g t 2 (spf a b') :=
  (h.set 1 (.int .i64 b')).congr (fun i hi => by match i, hi with | 0, _ => rfl | 1, _ => rfl)

set_option maxRecDepth 100000 in
set_option maxHeartbeats 2000000 in
theorem refFuse_ok (e : Nat → Int × Int) (N : Nat) (L : Int) (hm : may e N L) (v : Value) (w : World) (hv : SpansAt w w.heap.size N e v) :
    Calls Try.prog 25 #[v, .int .i64 L] w fun x w' => ∃ lo hi c, x = .returned (.tuple #[sp lo hi, .int .i64 c]) ∧ FuseSpec e N L lo hi c ∧ Below w.heap.size w w' := by
  have hN : N ≤ 100 := by have := (valid_at hm.1).2.1; omega
  have hL0 : 0 ≤ L := hm.2.1
  have hL1 : L < (N : Int) := hm.2.2
  have hb0 : Below w.heap.size w (w.alloc (.cells #[.int .i64 0, .int .i64 0] 23)) := (Below.refl _ _).alloc (Nat.le_refl _) _
  have hr4 := row_new w #[.int .i64 0, .int .i64 0] 23 2 (spf 0 0) rfl (fun i hi => by match i, hi with | 0, _ => rfl | 1, _ => rfl)
  have hv0 := (hv.below hb0).mono hb0.size
  have hmay := refMay7_any e N hN v _ hv0
  rw [hm.1] at hmay
  have HM := Lib.hid hmay
  clear hmay hv0
  have HV := Lib.hid hv
  obtain ⟨A, c, rfl, hv⟩ := hv
  have HC := Lib.hid hv
  have Hm := Lib.hid hm
  clear hv hm
  go_enter Try.func25, Try.ntmps25
  go_wp2_with fail
  refine (HM.out).mono ?_
  rintro _ w1 ⟨rfl, hb1⟩
  replace hr4 := hr4.of_block (hb1.block _ hr4.lt)
  replace hb1 := hb0.trans (hb1.mono hb0.size)
  have hr6 := row_new w1 #[.int .i64 0, .int .i64 0] 23 2 (spf 0 0) rfl (fun i hi => by match i, hi with | 0, _ => rfl | 1, _ => rfl)
  have hb2 : Below w.heap.size w (w1.alloc (.cells #[.int .i64 0, .int .i64 0] 23)) := hb1.alloc hb1.size _
  have hg : w.heap.size < w1.heap.size := hr4.lt
  replace hr4 := hr4.alloc (.cells #[.int .i64 0, .int .i64 0] 23)
  clear HM hb0 hb1
  go_wp2
  generalize w1.alloc (.cells #[.int .i64 0, .int .i64 0] 23) = w2 at *
  generalize w1.heap.size = g6 at *
  go_loopw [7, 8] (fun s i wr => ∃ (k : Nat) (s' : Bool) (lo : Int), k ≤ N ∧ i = .int .i64 (k : Int) ∧ s = .bool s' ∧ Hid (Lows e N L k s' lo) ∧ Hid (wr.rowIs g6 23 2 (spf lo 0)) ∧ Hid (wr.rowIs w.heap.size 23 2 (spf 0 0)) ∧ Hid (Below w.heap.size w wr)) (fun _ i _ => N - (intOf i).toNat)
  case atStart => exact ⟨0, false, 0, by omega, rfl, rfl, ⟨fun _ => ⟨rfl, fun j hj => by omega⟩, fun h => by cases h⟩, hr6, hr4, hb2⟩
  case round =>
    clear hr4 hr6 hb2
    obtain ⟨k, s, lo, hk, rfl, rfl, hlow, hr6, hr4, hb⟩ := hrel
    by_cases hlt : k < N
    · obtain ⟨b, o, rfl, hB, hc⟩ := HC.out (by omega)
      have hvw : ∀ x, SpansAt (after wr x) (after wr x).heap.size N e (.slice (some ⟨b, o, none⟩) N c) := fun x => ((HV.out.below (hb.out.trans ((after_below wr x).mono hb.out.size))).mono (Nat.le_trans hb.out.size (after_below wr x).size))
      have hvt : ∀ x, Calls Try.prog 39 #[.slice (some ⟨b, o, none⟩) N c, .int .i64 (e k).1] (after wr x) fun r w' => r = .returned (.int .i64 (votes e (e k).1 N : Int)) ∧ Below (after wr x).heap.size (after wr x) w' := fun x => refVotes_any e N hN (e k).1 _ _ (hvw x)
      have HT := Lib.hid hvt
      have c0 := (hb.out.cell (p := ⟨b, o + k * 2, none⟩) hB).trans (hc k hlt).1
      have d0 := hr6.out.cell (i := 0) (by omega)
      have lb : b < wr.heap.size := Nat.lt_of_lt_of_le hB hb.out.size
      have lg := hr6.out.lt
      have q0 : (0 : Int) ≤ (k : Int) := by omega
      have q1 : (k : Int) < (N : Int) := by omega
      have F1 := after_cell wr
      have hqq : enough e N L (e k).1 ↔ (N : Int) - L ≤ (votes e (e k).1 N : Int) := Iff.rfl
      generalize (votes e (e k).1 N : Int) = vt at *
      clear hvw hvt hc HV HC
      have after_hid : ∀ x, Hid ((after wr x).rowIs g6 23 2 (spf lo 0)) ∧ Hid ((after wr x).rowIs w.heap.size 23 2 (spf 0 0)) ∧ Hid (Below w.heap.size w (after wr x)) := fun x =>
        ⟨hr6.out.of_block ((after_below wr x).block _ hr6.out.lt), hr4.out.of_block ((after_below wr x).block _ hr4.out.lt), hb.out.trans ((after_below wr x).mono hb.out.size)⟩
      have AH := Lib.hid after_hid
      clear after_hid
      simp only [spf, if_true] at d0
      have hs : IntKind.i64.wrap ((N : Int) - L) = (N : Int) - L := IntWalk.i64_in _ (by omega)
      by_cases hq : (N : Int) - L ≤ vt
      · have hq' : decide ((N : Int) - L ≤ vt) = true := by rw [decide_eq_true_iff]; exact hq
        have hen : enough e N L (e k).1 := hqq.2 hq
        by_cases hl : s = true ∧ ¬ (e k).1 < lo
        · obtain ⟨rfl, hn⟩ := hl
          have hl' : Hid (Lows e N L (k + 1) true lo) := hlow.out.keep hn
          have hn' : decide ((e k).1 < lo) = false := by rw [decide_eq_false_iff_not]; exact hn
          clear hqq hr6 hr4 hb hlow hq hen hn
          go_wp2
          refine region_after (by kernel_rfl) (by kernel_rfl) ?_
          repeat (go_big_quiet_step ((go_at_call 39; exact after_call_at (HT.out _))))
          refine wpQuiet_nil ?_
          rintro _ ⟨x, rfl⟩
          obtain ⟨hr6, hr4, hb⟩ := AH.out x
          have c0 : (after wr x).cell? ⟨b, o + k * 2, none⟩ = some (.int .i64 (e k).1) := (after_cell wr x b _ lb).trans c0
          have lb : b < (after wr x).heap.size := Nat.lt_of_lt_of_le lb (after_below wr x).size
          have d0 := hr6.out.cell (i := 0) (by omega)
          have f0 := hr6.out.frozen 0
          clear F1 AH HT
          generalize after wr x = wz at *
          go_wp2
          exact ⟨⟨k + 1, true, lo, by omega, vI (by omega), rfl, hl', hr6, hr4, hb⟩, by simp [intOf]; omega⟩
        · have hl' : Hid (Lows e N L (k + 1) true (e k).1) := hlow.out.take hen (fun hs => by by_cases hh : (e k).1 < lo; exact hh; exact absurd ⟨hs, hh⟩ hl)
          clear hqq hr6 hr4 hb hlow hq hen
          rcases s with _ | _
          · clear hl
            go_wp2
            refine region_after (by kernel_rfl) (by kernel_rfl) ?_
            repeat (go_big_quiet_step ((go_at_call 39; exact after_call_at (HT.out _))))
            refine wpQuiet_nil ?_
            rintro _ ⟨x, rfl⟩
            obtain ⟨hr6, hr4, hb⟩ := AH.out x
            have c0 : (after wr x).cell? ⟨b, o + k * 2, none⟩ = some (.int .i64 (e k).1) := (after_cell wr x b _ lb).trans c0
            have lb : b < (after wr x).heap.size := Nat.lt_of_lt_of_le lb (after_below wr x).size
            have d0 := hr6.out.cell (i := 0) (by omega)
            have f0 := hr6.out.frozen 0
            clear F1 AH HT
            generalize after wr x = wz at *
            have hr6' : Hid ((wz.setCell ⟨g6, 0, none⟩ (.int .i64 (e k).1)).rowIs g6 23 2 (spf (e k).1 0)) := set_lo hr6.out
            have hr4' : Hid ((wz.setCell ⟨g6, 0, none⟩ (.int .i64 (e k).1)).rowIs w.heap.size 23 2 (spf 0 0)) := hr4.out.of_block (Below.heap_setCell wz ⟨g6, 0, none⟩ _ _ (by simp; omega))
            have hb' : Hid (Below w.heap.size w (wz.setCell ⟨g6, 0, none⟩ (.int .i64 (e k).1))) := hb.out.setCell (by simp; omega) _
            clear hr6 hr4 hb
            go_wp2
            exact ⟨⟨k + 1, true, (e k).1, by omega, vI (by omega), rfl, hl', hr6', hr4', hb'⟩, by simp [intOf]; omega⟩
          · have hn' : decide ((e k).1 < lo) = true := by
              rw [decide_eq_true_iff]
              by_cases hh : (e k).1 < lo
              · exact hh
              · exact absurd ⟨rfl, hh⟩ hl
            clear hl
            go_wp2
            refine region_after (by kernel_rfl) (by kernel_rfl) ?_
            repeat (go_big_quiet_step ((go_at_call 39; exact after_call_at (HT.out _))))
            refine wpQuiet_nil ?_
            rintro _ ⟨x, rfl⟩
            obtain ⟨hr6, hr4, hb⟩ := AH.out x
            have c0 : (after wr x).cell? ⟨b, o + k * 2, none⟩ = some (.int .i64 (e k).1) := (after_cell wr x b _ lb).trans c0
            have lb : b < (after wr x).heap.size := Nat.lt_of_lt_of_le lb (after_below wr x).size
            have d0 := hr6.out.cell (i := 0) (by omega)
            have f0 := hr6.out.frozen 0
            clear F1 AH HT
            generalize after wr x = wz at *
            have hr6' : Hid ((wz.setCell ⟨g6, 0, none⟩ (.int .i64 (e k).1)).rowIs g6 23 2 (spf (e k).1 0)) := set_lo hr6.out
            have hr4' : Hid ((wz.setCell ⟨g6, 0, none⟩ (.int .i64 (e k).1)).rowIs w.heap.size 23 2 (spf 0 0)) := hr4.out.of_block (Below.heap_setCell wz ⟨g6, 0, none⟩ _ _ (by simp; omega))
            have hb' : Hid (Below w.heap.size w (wz.setCell ⟨g6, 0, none⟩ (.int .i64 (e k).1))) := hb.out.setCell (by simp; omega) _
            clear hr6 hr4 hb
            go_wp2
            exact ⟨⟨k + 1, true, (e k).1, by omega, vI (by omega), rfl, hl', hr6', hr4', hb'⟩, by simp [intOf]; omega⟩
      · have hl' : Hid (Lows e N L (k + 1) s lo) := hlow.out.no (fun hh => hq (hqq.1 hh))
        have hq' : decide ((N : Int) - L ≤ vt) = false := by rw [decide_eq_false_iff_not]; exact hq
        clear hqq hr6 hr4 hb hlow hq
        go_wp2
        refine region_after (by kernel_rfl) (by kernel_rfl) ?_
        repeat (go_big_quiet_step ((go_at_call 39; exact after_call_at (HT.out _))))
        refine wpQuiet_nil ?_
        rintro _ ⟨x, rfl⟩
        obtain ⟨hr6, hr4, hb⟩ := AH.out x
        have c0 : (after wr x).cell? ⟨b, o + k * 2, none⟩ = some (.int .i64 (e k).1) := (after_cell wr x b _ lb).trans c0
        have lb : b < (after wr x).heap.size := Nat.lt_of_lt_of_le lb (after_below wr x).size
        have d0 := hr6.out.cell (i := 0) (by omega)
        have f0 := hr6.out.frozen 0
        clear F1 AH HT
        generalize after wr x = wz at *
        go_wp2
        exact ⟨⟨k + 1, s, lo, by omega, vI (by omega), rfl, hl', hr6, hr4, hb⟩, by simp [intOf]; omega⟩
    · obtain rfl : k = N := by omega
      have q1 : ¬ (k : Int) < (k : Int) := by omega
      rcases s with _ | _
      · have hf := fuse_none Hm.out hlow.out
        have e0 := hr4.out.cell (i := 0) (by omega)
        have e1 := hr4.out.cell (i := 1) (by omega)
        have f0 := hr4.out.frozen 0
        have f1 := hr4.out.frozen 1
        have hbo := hb.out
        clear hr6 hr4 hb hlow HV HC Hm
        go_wp2
        exact bodyPost_ret (v := .tuple #[sp 0 0, .int .i64 11]) (by simp [sp, results, Try.results25, go_sem, e0, e1]) rfl ⟨0, 0, 11, rfl, hf, (hbo.setCell (by simp) _).setCell (by simp) _⟩
      · have d0 := hr6.out.cell (i := 0) (by omega)
        have d1 := hr6.out.cell (i := 1) (by omega)
        have f1 := hr6.out.frozen 1
        simp only [spf, if_true] at d0 d1
        have hr6' : Hid ((wr.setCell ⟨g6, 1, none⟩ (.int .i64 lo)).rowIs g6 23 2 (spf lo lo)) := set_hi hr6.out
        have hr4' : Hid ((wr.setCell ⟨g6, 1, none⟩ (.int .i64 lo)).rowIs w.heap.size 23 2 (spf 0 0)) := hr4.out.of_block (Below.heap_setCell wr ⟨g6, 1, none⟩ _ _ (by simp; omega))
        have hb' : Hid (Below w.heap.size w (wr.setCell ⟨g6, 1, none⟩ (.int .i64 lo))) := hb.out.setCell (by simp; omega) _
        have hen : enough e k L lo := (hlow.out.2 rfl).1
        have Hen := Lib.hid hen
        clear hr6 hr4 hb hen
        go_wp2
        generalize wr.setCell ⟨g6, 1, none⟩ (.int .i64 lo) = w3 at *
        clear d0 d1 f1
        go_loopw [9] (fun i wr => ∃ (j : Nat) (hi : Int), j ≤ k ∧ i = .int .i64 (j : Int) ∧ Hid (Highs e k L j hi) ∧ Hid (wr.rowIs g6 23 2 (spf lo hi)) ∧ Hid (wr.rowIs w.heap.size 23 2 (spf 0 0)) ∧ Hid (Below w.heap.size w wr)) (fun i _ => k - (intOf i).toNat)
        case atStart => exact ⟨0, lo, by omega, rfl, ⟨Hen.out, fun j hj => by omega⟩, hr6', hr4', hb'⟩
        case round =>
          clear hr4' hr6' hb'
          obtain ⟨j, hi, hj, rfl, hhi, hr6, hr4, hb⟩ := hrel
          by_cases hlt : j < k
          · obtain ⟨b, o, rfl, hB, hc⟩ := HC.out (by omega)
            have hvw : SpansAt wr wr.heap.size k e (.slice (some ⟨b, o, none⟩) k c) := (HV.out.below hb.out).mono hb.out.size
            have hvt := refVotes_any e k hN (e j).2 _ _ hvw
            have HT := Lib.hid hvt
            have c1 := (hb.out.cell (p := ⟨b, o + j * 2 + 1, none⟩) hB).trans (hc j hlt).2
            have lb : b < wr.heap.size := Nat.lt_of_lt_of_le hB hb.out.size
            have q0 : (0 : Int) ≤ (j : Int) := by omega
            have q1 : (j : Int) < (k : Int) := by omega
            have hs : IntKind.i64.wrap ((k : Int) - L) = (k : Int) - L := IntWalk.i64_in _ (by omega)
            have hqq : enough e k L (e j).2 ↔ (k : Int) - L ≤ (votes e (e j).2 k : Int) := Iff.rfl
            generalize (votes e (e j).2 k : Int) = vt at *
            clear hvw hvt hc HV HC Hen hlow
            go_wp2_with fail
            refine (HT.out).mono ?_
            rintro _ w9 ⟨rfl, hb9⟩
            replace hr6 : Hid (w9.rowIs g6 23 2 (spf lo hi)) := hr6.out.of_block (hb9.block _ hr6.out.lt)
            replace hr4 : Hid (w9.rowIs w.heap.size 23 2 (spf 0 0)) := hr4.out.of_block (hb9.block _ hr4.out.lt)
            replace c1 := (hb9.cell (p := ⟨b, o + j * 2 + 1, none⟩) lb).trans c1
            replace hb : Hid (Below w.heap.size w w9) := hb.out.trans (hb9.mono hb.out.size)
            clear HT hb9 lb
            by_cases hq : (k : Int) - L ≤ vt
            · have hq' : decide ((k : Int) - L ≤ vt) = true := by rw [decide_eq_true_iff]; exact hq
              have hhi' : Hid (Highs e k L (j + 1) (max hi (e j).2)) := hhi.out.take (hqq.2 hq)
              have e1 : (if hi < (e j).2 then (e j).2 else hi) = max hi (e j).2 := by omega
              have d1 := hr6.out.cell (i := 1) (by omega)
              have f1 := hr6.out.frozen 1
              simp only [spf] at d1
              rw [if_neg (by omega)] at d1
              clear hqq hq hhi
              generalize max hi (e j).2 = hi' at *
              go_wp2
              go_still_tail 9, (by kernel_rfl)
              change wpList _ _ _ _ _ w9.drew
              replace hr6 : Hid (w9.drew.rowIs g6 23 2 (spf lo hi)) := hr6.out
              replace hr4 : Hid (w9.drew.rowIs w.heap.size 23 2 (spf 0 0)) := hr4.out
              replace hb : Hid (Below w.heap.size w w9.drew) := hb.out.drew
              replace d1 := hr6.out.cell (i := 1) (by omega)
              replace f1 := hr6.out.frozen 1
              clear c1 e1
              generalize w9.drew = wx at *
              have hr6' : Hid ((wx.setCell ⟨g6, 1, none⟩ (.int .i64 hi')).rowIs g6 23 2 (spf lo hi')) := set_hi hr6.out
              have hr4' : Hid ((wx.setCell ⟨g6, 1, none⟩ (.int .i64 hi')).rowIs w.heap.size 23 2 (spf 0 0)) := hr4.out.of_block (Below.heap_setCell wx ⟨g6, 1, none⟩ _ _ (by simp; omega))
              have hb' : Hid (Below w.heap.size w (wx.setCell ⟨g6, 1, none⟩ (.int .i64 hi'))) := hb.out.setCell (by simp; omega) _
              clear hr6 hr4 hb
              go_wp2
              exact ⟨⟨j + 1, hi', by omega, vI (by omega), hhi', hr6', hr4', hb'⟩, by simp [intOf]; omega⟩
            · have hq' : decide ((k : Int) - L ≤ vt) = false := by rw [decide_eq_false_iff_not]; exact hq
              have hhi' : Hid (Highs e k L (j + 1) hi) := hhi.out.no (fun hh => hq (hqq.1 hh))
              clear hqq hq hhi
              go_wp2
              exact ⟨⟨j + 1, hi, by omega, vI (by omega), hhi', hr6, hr4, hb⟩, by simp [intOf]; omega⟩
          · obtain rfl : j = k := by omega
            have q1 : ¬ (j : Int) < (j : Int) := by omega
            have hf := fuse_some Hm.out hlow.out hhi.out
            have d0 := hr6.out.cell (i := 0) (by omega)
            have d1 := hr6.out.cell (i := 1) (by omega)
            have e0 := hr4.out.cell (i := 0) (by omega)
            have e1 := hr4.out.cell (i := 1) (by omega)
            have f0 := hr4.out.frozen 0
            have f1 := hr4.out.frozen 1
            simp only [spf, if_true] at d0 d1 e0 e1
            have hbo := hb.out
            clear hr6 hr4 hb hlow HV HC Hm hhi Hen
            go_wp2
            exact bodyPost_ret (v := .tuple #[sp lo hi, .int .i64 0]) (by simp [sp, results, Try.results25, go_sem, e0, e1]) rfl ⟨lo, hi, 0, rfl, hf, (hbo.setCell (by simp) _).setCell (by simp) _⟩
theorem refFuse_any (e : Nat → Int × Int) (N : Nat) (hN : N ≤ 100) (L : Int) (v : Value) (w : World) (hv : SpansAt w w.heap.size N e v) :
    Calls Try.prog 25 #[v, .int .i64 L] w fun x w' => x = .returned (.tuple #[sp (fuseR e N L).1 (fuseR e N L).2.1, .int .i64 (fuseR e N L).2.2]) ∧ Below w.heap.size w w' := by
  by_cases h : may e N L
  · refine (refFuse_ok e N L h v w hv).mono ?_
    rintro _ w' ⟨lo, hi, c, rfl, hf, hb⟩
    obtain ⟨e1, e2, e3⟩ := hf.eq
    exact ⟨by rw [← e1, ← e2, ← e3], hb⟩
  · refine (refFuse_arg e N hN L h v w hv).mono ?_
    rintro _ w' ⟨rfl, hb⟩
    obtain ⟨e1, e2, e3⟩ := (show FuseSpec e N L 0 0 1 from .inl ⟨h, rfl, rfl, rfl⟩).eq
    exact ⟨by rw [← e1, ← e2, ← e3], hb⟩
/-- What it answers is what the document's words ask. -/
theorem fuse_spec (e : Nat → Int × Int) (N : Nat) (L : Int) (h : ∃ lo hi c, FuseSpec e N L lo hi c) : FuseSpec e N L (fuseR e N L).1 (fuseR e N L).2.1 (fuseR e N L).2.2 := by
  obtain ⟨lo, hi, c, h⟩ := h
  obtain ⟨e1, e2, e3⟩ := h.eq
  rwa [← e1, ← e2, ← e3]
end Go.Proofs.Ytmkmmpmhbahmeaa.Sweep
