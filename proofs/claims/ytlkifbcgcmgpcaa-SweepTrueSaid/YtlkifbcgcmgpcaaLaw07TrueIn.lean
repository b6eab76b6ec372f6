/-
  The walk of bartizanlaw07.SweepTrue where the spans are few and the liars may be.
-/
import Derived.Test.YtlkifbcgcmgpcaaLaw07True
namespace Go.Proofs.Ytlkifbcgcmgpcaa.Sweep
open Go Go.RowKit Go.Proofs.Ytlkifbcgcmgpcaa.Aid Go.Proofs.Ytlkifbcgcmgpcaa.Span

set_option maxRecDepth 100000 in
set_option maxHeartbeats 4000000 in
theorem true_mid (C : SweepHas) (e : Nat → Int × Int) (N : Nat) (L t : Int) (hN : N ≤ 70) (hL0 : 0 ≤ L) (hL1 : L < (N : Int)) (A : Option Addr) (c : Nat) (w : World) (hv : SpansAt w w.heap.size N e (.slice A N c)) :
    Calls Try.prog 4 #[.slice A N c, .int .i64 L, .int .i64 t] w fun x w' => x = .returned (.bool true) ∧ Below w.heap.size w w' := by
  have hN' : ¬ (70 : Int) < (N : Int) := by omega
  have hL0' : ¬ L < 0 := by omega
  have hL1' : ¬ (N : Int) ≤ L := by omega
  have f1 := fun W hW => C.fuse e N (by omega) L (.slice A N c) W hW
  have hspec := fuseR_spec e N L
  generalize (fuseR e N L).1 = a0 at *
  generalize (fuseR e N L).2.1 = a1 at *
  generalize (fuseR e N L).2.2 = a2 at *
  have HS := Lib.hid hspec
  unfold sp at f1
  have F1 := Lib.hid f1
  have HV := Lib.hid hv
  obtain ⟨A', c', he, hv⟩ := hv
  simp only [Value.slice.injEq, true_and] at he
  obtain ⟨rfl, rfl⟩ := he
  have HC := Lib.hid hv
  clear f1 hv hspec
  go_enter Try.func4, Try.ntmps4
  go_wp2_with fail
  refine (awake_any C _).mono ?_
  rintro _ u0 ⟨rfl, hb0⟩
  have hM : TM w u0.heap.size (u0.heap.size + 1) t t 0 0 ((u0.alloc (.cells #[.int .i64 t, .int .i64 t] 25)).alloc (.cells #[.int .i64 0, .int .i64 0] 33)) := by
    have r1 := row_new u0 #[.int .i64 t, .int .i64 t] 25 2 (sp2 t t) rfl (fun i hi => by match i, hi with | 0, _ => rfl | 1, _ => rfl)
    have r2 := row_new (u0.alloc (.cells #[.int .i64 t, .int .i64 t] 25)) #[.int .i64 0, .int .i64 0] 33 2 (sp2 0 0) rfl (fun i hi => by match i, hi with | 0, _ => rfl | 1, _ => rfl)
    rw [World.size_alloc] at r2
    exact ⟨(hb0.alloc hb0.size _).alloc (by have := hb0.size; simp; omega) _, r1.alloc _, r2⟩
  have hg : w.heap.size ≤ u0.heap.size := hb0.size
  have HM := Lib.hid hM
  clear hM hb0
  go_wp2
  generalize (u0.alloc (.cells #[.int .i64 t, .int .i64 t] 25)).alloc (.cells #[.int .i64 0, .int .i64 0] 33) = u2 at *
  generalize u0.heap.size = gH at *
  go_loopw [8, 11] (fun m i wr => ∃ (k : Nat) (h0 h1 w0 w1 : Int), k ≤ N ∧ i = .int .i64 (k : Int) ∧ m = .int .i64 (votes e t k : Int) ∧ Hid (Wide e N t k h0 h1 w0 w1) ∧ Hid (TM w gH (gH + 1) h0 h1 w0 w1 wr)) (fun _ i _ => N - (intOf i).toNat)
  case atStart => exact ⟨0, t, t, 0, 0, by omega, rfl, rfl, ⟨fun h => by omega, fun j hj => by omega, by omega, by omega, by omega, by omega, by omega, fun j hj => by omega, fun i j hi => by omega⟩, HM.out⟩
  case round =>
    clear HM
    obtain ⟨k, h0, h1, w0, w1, hk, rfl, rfl, hwide, hm⟩ := hrel
    by_cases hlt : k < N
    · have q0 : (0 : Int) ≤ (k : Int) := by omega
      have q1 : (k : Int) < (N : Int) := by omega
      by_cases h64 : N ≤ 64
      · obtain ⟨b, o, rfl, hB, hc⟩ := HC.out (by omega)
        have c0 := (hm.out.1.cell (p := ⟨b, o + k * 2, none⟩) hB).trans (hc k hlt).1
        have c1 := (hm.out.1.cell (p := ⟨b, o + k * 2 + 1, none⟩) hB).trans (hc k hlt).2
        have lb : b < wr.heap.size := Nat.lt_of_lt_of_le hB hm.out.1.size
        have Z0 := Lib.hid (hc k hlt).1
        have Z1 := Lib.hid (hc k hlt).2
        have h64' : ¬ (64 : Int) < (N : Int) := by omega
        have rr := refRight_any (e k).1 (e k).2
        have hh := has_any (e k).1 (e k).2 t
        have hhE : hasE e t k = hasB (e k).1 (e k).2 t := rfl
        obtain ⟨x, hx⟩ : ∃ x, x = rightB (e k).1 (e k).2 := ⟨_, rfl⟩
        obtain ⟨y, hy⟩ : ∃ y, y = hasB (e k).1 (e k).2 t := ⟨_, rfl⟩
        rw [← hx] at rr
        rw [← hy] at hh
        unfold sp at rr hh
        have RR := Lib.hid rr
        have HH := Lib.hid hh
        have HX := Lib.hid hx
        have HY := Lib.hid hy
        clear hc HV HC F1 HS rr hh hx hy hhE
        rcases x with _ | _
        · go_wp2_with fail
          refine (RR.out _).mono ?_
          rintro _ u1 ⟨rfl, hb1⟩
          have hb2 := (hm.out.step hb1).1
          go_wp2
          go_ret
          exact ⟨rfl, hb2⟩
        · go_wp2_with fail
          refine (RR.out _).mono ?_
          rintro _ u1 ⟨rfl, hb1⟩
          replace c0 := (hb1.cell (p := ⟨b, o + k * 2, none⟩) lb).trans c0
          replace c1 := (hb1.cell (p := ⟨b, o + k * 2 + 1, none⟩) lb).trans c1
          replace lb := Nat.lt_of_lt_of_le lb hb1.size
          replace hm : Hid (TM w gH (gH + 1) h0 h1 w0 w1 u1) := hm.out.step hb1
          clear hb1 RR
          go_wp2_with fail
          refine (HH.out _).mono ?_
          rintro _ u3 ⟨rfl, hb1⟩
          replace c0 := (hb1.cell (p := ⟨b, o + k * 2, none⟩) lb).trans c0
          replace c1 := (hb1.cell (p := ⟨b, o + k * 2 + 1, none⟩) lb).trans c1
          replace lb := Nat.lt_of_lt_of_le lb hb1.size
          replace hm : Hid (TM w gH (gH + 1) h0 h1 w0 w1 u3) := hm.out.step hb1
          clear hb1 HH
          rcases y with _ | _
          · have hw' : Hid (Wide e N t (k + 1) h0 h1 w0 w1) := hwide.out.skip h64 HX.out.symm HY.out.symm
            have hvt : (votes e t (k + 1) : Int) = votes e t k := votes_no e t k (fun hh => by have := hasE_iff.2 hh; rw [show hasE e t k = false from HY.out.symm] at this; cases this)
            have HVT := Lib.hid hvt
            clear hwide HX HY c0 c1 hvt
            go_wp2
            exact ⟨⟨k + 1, h0, h1, w0, w1, by omega, vI (by omega), vI HVT.out.symm, hw', hm⟩, by simp [intOf]; omega⟩
          · have hvt : (votes e t (k + 1) : Int) = votes e t k + 1 := by have := hasE_iff.1 (show hasE e t k = true from HY.out.symm); exact votes_yes e t k this.1 this.2
            have HVT := Lib.hid hvt
            have hq := right_range _ _ HX.out.symm
            have v1 := width_any (e k).1 (e k).2 (IntWalk.i64_in _ (by omega))
            have l1 := hull_any h0 h1 (e k).1 (e k).2
            have hw1 := fun a b hp => hwide.out.take h64 HX.out.symm HY.out.symm a b hp
            have q2 : (votes e t k : Int) ≤ (k : Int) := by have := votes_le e t k; omega
            have q3 : (0 : Int) ≤ (votes e t k : Int) := by omega
            generalize (e k).2 - (e k).1 = xw at *
            unfold sp at v1 l1
            have V1 := Lib.hid v1
            have L1 := Lib.hid l1
            have HW1 := Lib.hid hw1
            clear hvt hq v1 l1 hw1 hwide HX HY c0 c1 lb
            go_wp2
            have hS : Below w.heap.size w u3.drew := hm.out.1.drew
            refine region_mix (fun W => Below w.heap.size w W) [(1, true), (2, true), (3, true), (4, true), (0, false), (5, false), (6, false)] (by kernel_rfl) (by kernel_rfl) hS ?_
            iterate 4
              refine m_val rfl (by rfl) _ (fun W hW => by have c0 := (hW.cell (p := ⟨b, o + k * 2, none⟩) hB).trans Z0.out; have c1 := (hW.cell (p := ⟨b, o + k * 2 + 1, none⟩) hB).trans Z1.out; go_simp; rfl) ?_
              simp only [Act.put, List.setIfInBounds_toArray, List.set_cons_zero, List.set_cons_succ]
            replace hm : Hid (TM w gH (gH + 1) h0 h1 w0 w1 u3.drew) := hm.out.step (Below.refl _ _).drew
            clear hS
            generalize u3.drew = u4 at *
            have d0 := hm.out.2.1.cell (i := 0) (by omega)
            have d1 := hm.out.2.1.cell (i := 1) (by omega)
            simp only [sp2, if_true] at d0 d1
            rw [if_neg (by omega)] at d1
            refine m_go rfl ?_
            go_wp2_with fail
            refine m_on hm.out.1 ?_
            clear d0 d1
            refine m_go rfl ?_
            go_wp2_with fail
            refine (L1.out _).mono ?_
            rintro _ u5 ⟨rfl, hb1⟩
            replace hm : Hid (TM w gH (gH + 1) h0 h1 w0 w1 u5) := hm.out.step hb1
            clear hb1 L1
            go_wp2_with fail
            refine m_on hm.out.1 ?_
            have d0 := hm.out.2.1.cell (i := 0) (by omega)
            have d1 := hm.out.2.1.cell (i := 1) (by omega)
            have e0 := hm.out.2.1.frozen 0
            have e1 := hm.out.2.1.frozen 1
            refine m_go rfl ?_
            go_wp2_with fail
            have hm6 := hm.out.setH hg (by omega) (min h0 (e k).1) (max h1 (e k).2)
            refine m_on hm6.1 ?_
            refine m_end ?_
            clear d0 d1 e0 e1 hm
            generalize min h0 (e k).1 = H0 at *
            generalize max h1 (e k).2 = H1 at *
            generalize (u5.setCell ⟨gH, 0, none⟩ (.int .i64 H0)).setCell ⟨gH, 1, none⟩ (.int .i64 H1) = u6 at *
            have hm : Hid (TM w gH (gH + 1) H0 H1 w0 w1 u6) := hm6
            have c0 := (hm6.1.cell (p := ⟨b, o + k * 2, none⟩) hB).trans Z0.out
            have c1 := (hm6.1.cell (p := ⟨b, o + k * 2 + 1, none⟩) hB).trans Z1.out
            clear hm6
            go_wp2_with fail
            refine (V1.out _).mono ?_
            rintro _ u7 ⟨rfl, hb1⟩
            replace hm : Hid (TM w gH (gH + 1) H0 H1 w0 w1 u7) := hm.out.step hb1
            clear hb1 V1 c0 c1 Z0 Z1
            have d0 := hm.out.2.2.cell (i := 0) (by omega)
            have d1 := hm.out.2.2.cell (i := 1) (by omega)
            have e0 := hm.out.2.2.frozen 0
            have e1 := hm.out.2.2.frozen 1
            simp only [sp2, if_true] at d0 d1
            rw [if_neg (by omega)] at d1
            by_cases p1 : w0 < xw
            · have hw' : Hid (Wide e N t (k + 1) H0 H1 xw w0) := HW1.out _ _ (.inl ⟨p1, rfl, rfl⟩)
              have hm' : Hid (TM w gH (gH + 1) H0 H1 xw w0 ((u7.setCell ⟨gH + 1, 1, none⟩ (.int .i64 w0)).setCell ⟨gH + 1, 0, none⟩ (.int .i64 xw))) := (hm.out.setW1 (by omega) (by omega) w0).setW0 (by omega) (by omega) xw
              clear HW1 hm
              go_wp2
              exact ⟨⟨k + 1, H0, H1, xw, w0, by omega, vI (by omega), vI HVT.out.symm, hw', hm'⟩, by simp [intOf]; omega⟩
            · by_cases p2 : w1 < xw
              · have hw' : Hid (Wide e N t (k + 1) H0 H1 w0 xw) := HW1.out _ _ (.inr (.inl ⟨by omega, by omega, rfl, rfl⟩))
                have hm' : Hid (TM w gH (gH + 1) H0 H1 w0 xw (u7.setCell ⟨gH + 1, 1, none⟩ (.int .i64 xw))) := hm.out.setW1 (by omega) (by omega) xw
                clear HW1 hm
                go_wp2
                exact ⟨⟨k + 1, H0, H1, w0, xw, by omega, vI (by omega), vI HVT.out.symm, hw', hm'⟩, by simp [intOf]; omega⟩
              · have hw' : Hid (Wide e N t (k + 1) H0 H1 w0 w1) := HW1.out _ _ (.inr (.inr ⟨by omega, by omega, rfl, rfl⟩))
                clear HW1
                go_wp2
                exact ⟨⟨k + 1, H0, H1, w0, w1, by omega, vI (by omega), vI HVT.out.symm, hw', hm⟩, by simp [intOf]; omega⟩
      · have h64' : (64 : Int) < (N : Int) := by omega
        have hbo := hm.out.1
        clear HV HC F1 HS hwide hm
        go_wp2
        go_ret
        exact ⟨rfl, hbo⟩
    · obtain rfl : k = N := by omega
      have q1 : ¬ (k : Int) < (k : Int) := by omega
      have q2 : (votes e t k : Int) ≤ (k : Int) := by have := votes_le e t k; omega
      have q3 : (0 : Int) ≤ (votes e t k : Int) := by omega
      by_cases hen : (votes e t k : Int) < (k : Int) - L
      · have hbo := hm.out.1
        clear HV HC F1 HS hwide hm
        generalize (votes e t k : Int) = vt at *
        go_wp2
        go_ret
        exact ⟨rfl, hbo⟩
      · obtain ⟨z1, z2, z3, z4⟩ := wide_end hwide.out HS.out hL0 hL1 (show enough e k L t by unfold enough; omega)
        obtain ⟨y1, y2, y3, y4⟩ := fused_range HS.out
        have y5 := hwide.out.pos
        have y6 := hwide.out.le
        have y7 := hwide.out.most
        have S := (HV.out.below hm.out.1).mono hm.out.1.size
        have hx : hasB a0 a1 t = true := by unfold hasB; rw [decide_eq_true_iff]; exact ⟨z2, z3⟩
        have hh := has_any a0 a1 t
        rw [hx] at hh
        have hwd := width_any a0 a1 (IntWalk.i64_in _ (by omega))
        have hs2 : IntKind.i64.wrap (w0 + w1) = w0 + w1 := IntWalk.i64_in _ (by omega)
        unfold sp at hh hwd
        subst z1
        have HH := Lib.hid hh
        have HWD := Lib.hid hwd
        have HS2 := Lib.hid hs2
        have HZ := Lib.hid z4
        clear HV HC HS hwide hx hh hwd hs2 z4
        generalize (votes e t k : Int) = vt at *
        go_wp2_with fail
        refine (F1.out _ S).mono ?_
        rintro _ u1 ⟨rfl, hb1⟩
        have M1 := hm.out.step hb1
        have hal : Below u1.heap.size u1 (u1.alloc (.cells #[.int .i64 a0, .int .i64 a1] 25)) := (Below.refl _ _).alloc (Nat.le_refl _) _
        have M : Mem w [(u1.heap.size, 0, .int .i64 a0), (u1.heap.size, 1, .int .i64 a1), (gH, 0, .int .i64 h0), (gH, 1, .int .i64 h1), (gH + 1, 0, .int .i64 w0), (gH + 1, 1, .int .i64 w1)] (u1.alloc (.cells #[.int .i64 a0, .int .i64 a1] 25)) := by
          have m0 : Mem w [] u1 := ⟨M1.1, by simp⟩
          have m1 : Mem w [(gH + 1, 0, sp2 w0 w1 0), (gH + 1, 1, sp2 w0 w1 1)] u1 := m0.row M1.2.2
          have m2 : Mem w [(gH, 0, sp2 h0 h1 0), (gH, 1, sp2 h0 h1 1), (gH + 1, 0, sp2 w0 w1 0), (gH + 1, 1, sp2 w0 w1 1)] u1 := m1.row M1.2.1
          exact m2.two (.int .i64 a0) (.int .i64 a1) 25 u1.heap.size rfl
        clear F1 S hm hb1 M1 hal
        go_wp2_with fail
        refine (HH.out _).mono ?_
        rintro _ u3 ⟨rfl, hb1⟩
        replace M := M.step hb1
        clear hb1 HH
        have x0 := M.at_ 0 rfl
        have x1 := M.at_ 1 rfl
        have x2 := M.at_ 2 rfl
        have x3 := M.at_ 3 rfl
        have x4 := M.at_ 4 rfl
        have x5 := M.at_ 5 rfl
        by_cases h2 : (k : Int) ≤ 2 * L
        · clear HZ HWD HS2
          go_wp2
          go_ret
          exact ⟨rfl, M.below⟩
        · obtain ⟨g1, g2, g3⟩ := HZ.out (by omega)
          have hs2 := HS2.out
          clear HZ HS2
          go_wp2
          have l0 := M.lt 0 rfl
          have l2 := M.lt 2 rfl
          have l4 := M.lt 4 rfl
          have hB := M.below
          have FC := after_cell u3
          refine region_after (by kernel_rfl) (by kernel_rfl) ?_
          repeat (go_big_quiet_step ((go_at_call 17; exact after_call HWD.out)))
          refine wpQuiet_nil ?_
          rintro _ ⟨x, rfl⟩
          have hb1 := hB.trans ((after_below u3 x).mono hB.size)
          clear FC HWD x0 x1 x2 x3 x4 x5 l0 l2 l4 hB M
          generalize after u3 x = uz at *
          go_wp2
          go_ret
          exact ⟨rfl, hb1⟩
theorem true_any (C : SweepHas) (e : Nat → Int × Int) (N : Nat) (L t : Int) (A : Option Addr) (c : Nat) (w : World) (hv : SpansAt w w.heap.size N e (.slice A N c)) :
    Calls Try.prog 4 #[.slice A N c, .int .i64 L, .int .i64 t] w fun x w' => x = .returned (.bool true) ∧ Below w.heap.size w w' := by
  by_cases h : 70 < N ∨ L < 0 ∨ (N : Int) ≤ L
  · exact true_out C N L t h A c w
  · exact true_mid C e N L t (by omega) (by omega) (by omega) A c w hv
end Go.Proofs.Ytlkifbcgcmgpcaa.Sweep
