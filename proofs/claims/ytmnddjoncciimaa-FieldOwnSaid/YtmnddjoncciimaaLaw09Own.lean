/-
  The walk of bartizanlaw09.FieldOwn: for any bytes it returns true, and writes nothing that was there.
-/
import Derived.Test.YtmnddjoncciimaaLaw09Back
import Derived.Test.YtmnddjoncciimaaMix
namespace Go.Proofs.Ytmnddjoncciimaa.Field
open Go Go.RowKit Go.Proofs.Ytmnddjoncciimaa.Aid Go.Proofs.Ytmnddjoncciimaa.Law01

theorem xor255 (x : BitVec 8) : bits .xor .u8 (x.toNat : Int) 255 = ((x ^^^ 255).toNat : Int) := by
  revert x
  decide
/-- The first k bytes of the first part are turned. -/
def turnE (E : Nat → BitVec 8) (k i j : Nat) : BitVec 8 := if i = 0 ∧ j < k then E j ^^^ 255 else E j
theorem turn_next (E : Nat → BitVec 8) (k i j : Nat) : (if i = 0 then setAt (turnE E k 0) k (E k ^^^ 255) j else turnE E k i j) = turnE E (k + 1) i j := by
  by_cases h : i = 0
  · subst h
    rw [if_pos rfl]
    show (if j = k then E k ^^^ 255 else turnE E k 0 j) = _
    by_cases h2 : j = k
    · subst h2
      rw [if_pos rfl]
      unfold turnE
      rw [if_pos ⟨rfl, by omega⟩]
    · rw [if_neg h2]
      unfold turnE
      by_cases h3 : j < k
      · rw [if_pos ⟨rfl, h3⟩, if_pos ⟨rfl, by omega⟩]
      · rw [if_neg (by omega), if_neg (by omega)]
  · rw [if_neg h]
    unfold turnE
    rw [if_neg (by omega), if_neg (by omega)]
theorem OwnParts.congrE {W : World} {base k : Nat} {m : Nat → Nat} {E E' : Nat → Nat → BitVec 8} {R : Nat → Value} {v : Value} (h : OwnParts W base k m E R v) (he : ∀ i, i < k → ∀ j, j < m i → E i j = E' i j) : OwnParts W base k m E' R v :=
  ⟨h.row, fun i hi => (h.part i hi).congr' (he i hi), h.ne, h.apart⟩
theorem OwnParts.congrM {W : World} {base k : Nat} {m m' : Nat → Nat} {E : Nat → Nat → BitVec 8} {R : Nat → Value} {v : Value} (h : OwnParts W base k m E R v) (hm : ∀ i, i < k → m i = m' i) : OwnParts W base k m' E R v :=
  ⟨h.row, fun i hi => by rw [← hm i hi]; exact h.part i hi, h.ne, h.apart⟩
/-- A byte of part i is another. -/
theorem OwnParts.put {W : World} {base k : Nat} {m : Nat → Nat} {E : Nat → Nat → BitVec 8} {R : Nat → Value} {v : Value} (h : OwnParts W base k m E R v) (i : Nat) (hi : i < k) (g cap : Nat) (hR : R i = .slice (some ⟨g, 0, none⟩) (m i) cap) (j : Nat) (hj : j < m i) (x : BitVec 8) (z : Int) (hz : z = (x.toNat : Int)) :
    OwnParts (W.setCell ⟨g, j, none⟩ (.int .u8 z)) base k m (fun i' => if i' = i then setAt (E i) j x else E i') R v := by
  have hb : (R i).ownBlock = some g := by rw [hR]; rfl
  refine ⟨⟨h.row.1, ?_⟩, fun i' hi' => ?_, h.ne, h.apart⟩
  · rcases h.row.2 with h0 | ⟨G, cap', cur, rfl, hG, hh, rest⟩
    · exact .inl h0
    · have hne : G ≠ g := fun e => h.ne i hi g hb (by rw [e]; rfl)
      exact .inr ⟨G, cap', cur, rfl, hG, (heap_setCell_other W ⟨g, j, none⟩ G _ hne).trans hh, rest⟩
  · by_cases e : i' = i
    · subst e
      rw [if_pos rfl, hR]
      have := h.part i' hi'
      rw [hR] at this
      exact own_put this j hj x z hz
    · rw [if_neg e]
      refine (h.part i' hi').keep (fun b hb' => heap_setCell_other W ⟨g, j, none⟩ b _ (fun eb => ?_))
      simp at eb
      subst eb
      rcases Nat.lt_or_gt_of_ne e with h1 | h1
      · exact h.apart i' i h1 hi b hb' hb
      · exact h.apart i i' h1 hi' b hb hb'
/-- The list's own cells. -/
theorem OwnParts.cells {W : World} {base k : Nat} {m : Nat → Nat} {E : Nat → Nat → BitVec 8} {R : Nat → Value} {v : Value} (h : OwnParts W base k m E R v) (hk : 0 < k) : ∃ G cap, v = .slice (some ⟨G, 0, none⟩) k cap ∧ ∀ i, i < k → W.cell? ⟨G, i, none⟩ = some (R i) := by
  obtain ⟨G, cap, rfl, hb, hG⟩ := World.ownsRow.form h.row hk
  refine ⟨G, cap, rfl, fun i hi => ?_⟩
  rw [World.ownsRow.cellAt h.row i (by omega)]
  simp [hi]
theorem pair_parts (w : World) (nb : Nat) (E : Nat → BitVec 8) (B : Option Addr) (d : Nat) (h : SliceOf w w.heap.size nb E (.slice B nb d)) :
    PartsOf (w.alloc (.cells #[.slice B nb d, .slice B nb d] 23)) 2 (fun _ => nb) (fun _ => E) (.slice (some ⟨w.heap.size, 0, none⟩) 2 2) := by
  have r2 := row_new w #[.slice B nb d, .slice B nb d] 23 2 (fun _ => .slice B nb d) rfl (fun i hi => by
    match i, hi with
    | 0, _ => rfl
    | 1, _ => rfl)
  refine ⟨_, 2, rfl, fun _ => ⟨w.heap.size, 0, rfl, fun i hi => ?_⟩⟩
  rw [Nat.zero_add]
  exact ⟨_, r2.cell hi, slice_any (slice_below h ((Below.refl _ _).alloc (Nat.le_refl _) _)) (Nat.le_refl _)⟩
set_option maxRecDepth 100000 in
set_option maxHeartbeats 4000000 in
theorem own_any (C : FieldHas) (nb : Nat) (E : Nat → BitVec 8) (B : Option Addr) (d : Nat) (w : World) (hs : SliceOf w w.heap.size nb E (.slice B nb d)) :
    Calls Try.prog 5 #[.slice B nb d] w fun x w' => x = .returned (.bool true) ∧ Below w.heap.size w w' := by
  have HS := Lib.hid hs
  clear hs
  go_enter Try.func5, Try.ntmps5
  go_wp2_with fail
  refine (awake_any C _).mono ?_
  rintro _ w1 ⟨rfl, hb1⟩
  have HB1 := Lib.hid hb1
  clear hb1
  by_cases hn : 500 < nb
  · have q : (500 : Int) < (nb : Int) := by omega
    clear HS
    go_wp2
    go_ret
    exact ⟨rfl, HB1.out⟩
  have q : ¬ (500 : Int) < (nb : Int) := by omega
  have hs1 := slice_any (slice_below HS.out HB1.out) (Nat.le_refl _)
  have hpp := pair_parts w1 nb E B d hs1
  have hb2 : Below w.heap.size w (w1.alloc (.cells #[.slice B nb d, .slice B nb d] 23)) := HB1.out.alloc HB1.out.size _
  have f1 := C.put 2 (fun _ => nb) (fun _ => E) _ _ hpp (by show 0 + nb + nb + 2 ≤ 100000; omega)
  have hpb : putB 2 (fun _ => nb) = true := putB_of (by omega) (fun i _ => by omega)
  rw [show putC 2 (fun _ => nb) = 0 by unfold putC; rw [if_pos hpb], show putN 2 (fun _ => nb) = encN (fun _ => nb) 2 by unfold putN; rw [if_pos hpb]] at f1
  have hsp := split_put (fun _ => E) hpb
  have hL : encN (fun _ => nb) 2 ≤ 100000 := by show 0 + (nb + 2) + (nb + 2) ≤ 100000; omega
  have F1 := Lib.hid f1
  have HSP := Lib.hid hsp
  have HB2 := Lib.hid hb2
  have HL := Lib.hid hL
  clear hs1 hpp hb2 f1 hpb hsp hL HB1
  go_wp2_with fail
  refine F1.out.mono ?_
  rintro _ w3 ⟨r, rfl, hr, hb3⟩
  have HB3 := Lib.hid (HB2.out.trans (hb3.mono HB2.out.size))
  obtain ⟨Ar, cr, rfl, -, -⟩ := own_shape hr
  have HX := Lib.hid (hr.slice (g' := w3.heap.size) (.inr (Nat.le_refl _)))
  have f2 := C.split Ar cr (encN (fun _ => nb) 2) (encB (fun _ => nb) (fun _ => E) 2) w3 HL.out HX.out
  have F2 := Lib.hid f2
  clear f2 hr hb3 F1 HB2
  generalize encN (fun _ => nb) 2 = L at *
  generalize encB (fun _ => nb) (fun _ => E) 2 = EX at *
  go_wp2_with fail
  refine F2.out.mono ?_
  rintro _ w4 ⟨k4, c4, v4, R, hspec, rfl, hown, hb4⟩
  obtain ⟨hk4, hc4⟩ := split_unique hspec HSP.out.1
  subst hk4 hc4
  rw [if_pos rfl] at hown
  have ho := (hown.congrM (m' := fun _ => nb) (fun i hi => (HSP.out.2 i hi).1)).congrE (E' := turnE E 0) (fun i hi j hj => by
    rw [(HSP.out.2 i hi).2 j hj]
    unfold turnE
    rw [if_neg (by omega)])
  obtain ⟨G, cG, rfl, -⟩ := ho.cells (by omega)
  have HO := Lib.hid ho
  have HB4 := Lib.hid hb4
  clear ho hown hspec hb4 F2
  go_wp2
  go_loopw [8] (fun i wi => ∃ k : Nat, k ≤ nb ∧ i = .int .i64 (k : Int) ∧ Hid (OwnParts wi w3.heap.size 2 (fun _ => nb) (turnE E k) R (.slice (some ⟨G, 0, none⟩) 2 cG)) ∧ Hid (Below w3.heap.size w3 wi)) (fun i _ => nb - (intOf i).toNat)
  case atStart => exact ⟨0, by omega, rfl, HO, HB4⟩
  case round =>
    clear HO HB4
    obtain ⟨k, hk, rfl, ho, hb⟩ := hrel
    obtain ⟨G', cG', hG, hcell⟩ := ho.out.cells (by omega)
    simp only [Value.slice.injEq, Option.some.injEq, Addr.mk.injEq, and_true, true_and] at hG
    obtain ⟨rfl, rfl⟩ := hG
    have c0 := hcell 0 (by omega)
    have c1 := hcell 1 (by omega)
    by_cases hlt : k < nb
    · obtain ⟨g0, cap0, hR0, hg0, -, -, -, -⟩ := own_cells (ho.out.part 0 (by omega)) (by omega)
      have hne : g0 ≠ G := fun e => ho.out.ne 0 (by omega) g0 (by rw [hR0]; rfl) (by rw [e]; rfl)
      rw [hR0] at c0
      have q0 : (0 : Int) ≤ (k : Int) := by omega
      have q1 : (k : Int) < (nb : Int) := by omega
      clear hcell c1
      go_wp2_with fail
      have hoD : Hid (OwnParts wr.drew w3.heap.size 2 (fun _ => nb) (turnE E k) R (.slice (some ⟨G, 0, none⟩) 2 cG)) := ho.out.below (Below.refl _ _).drew
      have hbD : Hid (Below w3.heap.size w3 wr.drew) := hb.out.drew
      have hS : wr.drew.cell? ⟨G, 0, none⟩ = some (.slice (some ⟨g0, 0, none⟩) nb cap0) := by simpa using c0
      clear c0 ho hb
      refine region_mix (fun W => W.cell? ⟨G, 0, none⟩ = some (.slice (some ⟨g0, 0, none⟩) nb cap0)) [(0, true), (1, true), (2, true), (3, true), (4, true), (5, true), (6, true), (7, true), (8, true), (9, false), (10, false), (11, false), (12, false)] (by kernel_rfl) (by kernel_rfl) hS ?_
      iterate 9
        refine m_val rfl (by rfl) _ (fun W hW => by go_simp; rfl) ?_
        simp only [Act.put, List.setIfInBounds_toArray, List.set_cons_zero, List.set_cons_succ]
      generalize wr.drew = wd at *
      obtain ⟨g0', cap0', hR0', -, -, -, hcs, hfz⟩ := own_cells (hoD.out.part 0 (by omega)) (by omega)
      rw [hR0] at hR0'
      simp only [Value.slice.injEq, Option.some.injEq, Addr.mk.injEq, and_true, true_and] at hR0'
      obtain ⟨rfl, rfl⟩ := hR0'
      have d0 := hcs k hlt
      have e0 : turnE E k 0 k = E k := by unfold turnE; rw [if_neg (by omega)]
      rw [e0] at d0
      have f0 := hfz k
      have hput := hoD.out.put 0 (by omega) g0 cap0 hR0 k hlt (E k ^^^ 255) ((E k ^^^ 255).toNat : Int) rfl
      have hput' := hput.congrE (E' := turnE E (k + 1)) (fun i hi j hj => by
        have := turn_next E k i j
        by_cases e : i = 0
        · subst e; rw [if_pos rfl] at this ⊢; exact this
        · rw [if_neg e] at this ⊢; exact this)
      have hb' : Below w3.heap.size w3 (wd.setCell ⟨g0, k, none⟩ (.int .u8 ((E k ^^^ 255).toNat : Int))) := hbD.out.setCell (p := ⟨g0, k, none⟩) hg0 _
      have hS' : (wd.setCell ⟨g0, k, none⟩ (.int .u8 ((E k ^^^ 255).toNat : Int))).cell? ⟨G, 0, none⟩ = some (.slice (some ⟨g0, 0, none⟩) nb cap0) := by
        rw [World.cell?_setCell_other _ _ _ _ (by simp <;> omega)]
        exact hS
      have kx := xor255 (E k)
      have HP' := Lib.hid hput'
      have HB' := Lib.hid hb'
      have HS' := Lib.hid hS'
      have HS0 := Lib.hid hS
      clear hput hput' hb' hS' hS hcs hfz e0 hoD hbD
      refine m_go rfl ?_
      go_wp2_with fail
      refine m_on HS0.out ?_
      refine m_go rfl ?_
      go_wp2_with fail
      refine m_on HS0.out ?_
      refine m_go rfl ?_
      go_wp2_with fail
      refine m_on HS0.out ?_
      refine m_go rfl ?_
      go_wp2_with fail
      refine m_on HS'.out ?_
      refine m_end ?_
      go_wp2
      exact ⟨⟨k + 1, by omega, congrArg (Value.int .i64) (by omega), HP', HB'⟩, by simp [intOf]; omega⟩
    · obtain rfl : k = nb := by omega
      obtain ⟨A0, cap0, hR0, -, -⟩ := own_shape (ho.out.part 0 (by omega))
      obtain ⟨A1, cap1, hR1, -, -⟩ := own_shape (ho.out.part 1 (by omega))
      rw [hR0] at c0
      have hw : Hid (Below w.heap.size w wr) := Lib.hid (HB3.out.trans (hb.out.mono HB3.out.size))
      have hx := slice_any (slice_below HX.out hb.out) (Nat.le_refl _)
      have f5 := C.split Ar cr L EX wr HL.out hx
      have hr1 := ho.out.part 1 (by omega)
      rw [hR1] at hr1 c1
      have HR1 := Lib.hid (hr1.congr' (e' := E) (fun j _ => by unfold turnE; rw [if_neg (by omega)]))
      have HC1 := Lib.hid c1
      have F5 := Lib.hid f5
      clear f5 hx hr1 c1 hcell ho
      go_wp2_with fail
      refine F5.out.mono ?_
      rintro _ w5 ⟨k5, c5, v5, R5, hspec, rfl, hown, hb5⟩
      obtain ⟨hk5, hc5⟩ := split_unique hspec HSP.out.1
      subst hk5 hc5
      rw [if_pos rfl] at hown
      have ho5 := (hown.congrM (m' := fun _ => k) (fun i hi => (HSP.out.2 i hi).1)).congrE (E' := fun _ => E) (fun i hi j hj => (HSP.out.2 i hi).2 j hj)
      obtain ⟨G5, cG5, rfl, hc5⟩ := ho5.cells (by omega)
      obtain ⟨B0, d0, hB0, -, -⟩ := own_shape (ho5.part 0 (by omega))
      have y0 := hc5 0 (by omega)
      rw [hB0] at y0
      have hp0 := ho5.part 0 (by omega)
      rw [hB0] at hp0
      have hw5 := hw.out.trans (hb5.mono hw.out.size)
      have f6 := same_true B0 B k d0 d E E w5.heap.size w5.heap.size w5 (hp0.slice (.inr (Nat.le_refl _))) (slice_any (slice_below HS.out hw5) (Nat.le_refl _)) (by omega) (fun _ _ => rfl)
      have y1 := (hb5.cell (p := ⟨G, 1, none⟩) (block_lt_of_cell HC1.out)).trans HC1.out
      have HR5 := Lib.hid (HR1.out.below hb5)
      have HW5 := Lib.hid hw5
      have HY1 := Lib.hid y1
      have F6 := Lib.hid f6
      clear f6 hw5 y1 hp0 hc5 hown hspec hb5 ho5 F5 HR1 HC1 hw c0
      go_wp2_with fail
      refine F6.out.mono ?_
      rintro _ w6 ⟨rfl, hb6⟩
      have y1 := (hb6.cell (p := ⟨G, 1, none⟩) (block_lt_of_cell HY1.out)).trans HY1.out
      have hw6 := HW5.out.trans (hb6.mono HW5.out.size)
      have hr6 := HR5.out.below hb6
      have f7 := same_true A1 B k cap1 d E E w6.heap.size w6.heap.size w6 (hr6.slice (.inr (Nat.le_refl _))) (slice_any (slice_below HS.out hw6) (Nat.le_refl _)) (by omega) (fun _ _ => rfl)
      have F7 := Lib.hid f7
      have HW6 := Lib.hid hw6
      clear f7 hw6 hr6 hb6 F6 HW5 HR5 HY1 y0
      go_wp2_with fail
      refine F7.out.mono ?_
      rintro _ w7 ⟨rfl, hb7⟩
      have hbz := HW6.out.trans (hb7.mono HW6.out.size)
      clear F7 HW6 hb7 y1
      go_wp2
      go_ret
      exact ⟨rfl, hbz⟩
end Go.Proofs.Ytmnddjoncciimaa.Field
