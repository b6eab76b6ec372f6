/-
  The walk of bartizanlaw08.ClockTrue: for any servers and five numbers it returns true, and writes nothing that was there.
-/
import Derived.Test.YtmkmmpmhbahmeaaLaw08Awake
import Derived.Test.YtmkmmpmhbahmeaaLaw08TrueKit
namespace Go.Proofs.Ytmkmmpmhbahmeaa.Clock
open Go Go.RowKit Go.Proofs.Ytmkmmpmhbahmeaa.Aid Go.Proofs.Ytmkmmpmhbahmeaa.Span Go.Proofs.Ytmkmmpmhbahmeaa.Sweep

set_option maxRecDepth 100000 in
set_option maxHeartbeats 16000000 in
theorem true_in (C : ClockHas) (X : Nat → Srv) (N : Nat) (A : Option Addr) (c : Nat) (n0 n1 n2 n3 n4 : Int) (w : World) (hN0 : 1 ≤ N) (hN : N ≤ 12) (g0 : 0 ≤ n0) (g1 : n0 ≤ 1099511627776) (g2 : 0 ≤ n1) (g3 : n1 ≤ 1099511627776) (g4 : 0 ≤ n2) (g5 : n2 ≤ 100000) (g6 : 0 ≤ n3) (g7 : n3 ≤ 1099511627776)
    (hv : SrvsAt w w.heap.size N X (.slice A N c)) :
    Calls Try.prog 4 #[.slice A N c, .agg #[.int .i64 n0, .int .i64 n1, .int .i64 n2, .int .i64 n3, .int .i64 n4]] w fun x w' => x = .returned (.bool true) ∧ Below w.heap.size w w' := by
  have M := (Mem.nil w).five (.int .i64 n0) (.int .i64 n1) (.int .i64 n2) (.int .i64 n3) (.int .i64 n4) 27 w.heap.size rfl
  have hp : ppmB n2 = true := by unfold ppmB; rw [decide_eq_true_iff]; omega
  have f1 := C.new n2
  rw [(new_ok hp).1, (new_ok hp).2] at f1
  unfold ck at f1
  have F1 := Lib.hid f1
  have HV := Lib.hid hv
  obtain ⟨A', c', he, hv⟩ := hv
  simp only [Value.slice.injEq, true_and] at he
  obtain ⟨rfl, rfl⟩ := he
  have HC := Lib.hid hv
  have HP := Lib.hid hp
  have z1 : ((N : Int) == 0) = false := by simp; omega
  have z2 : ¬ (12 : Int) < (N : Int) := by omega
  clear f1 hv hp
  go_enter Try.func4, Try.ntmps4
  go_wp2_with fail
  refine (awake_any C _).mono ?_
  rintro _ wa ⟨rfl, hb⟩
  replace M := M.step hb
  clear hb
  have x0 := M.at_ 0 rfl
  have x1 := M.at_ 1 rfl
  have x2 := M.at_ 2 rfl
  have x3 := M.at_ 3 rfl
  go_wp2_with fail
  refine (F1.out _).mono ?_
  rintro _ wb ⟨rfl, hb⟩
  replace M := (M.step hb).five (.int .i64 n2) (.bool false) (.int .i64 0) (.int .i64 0) (.int .i64 0) 25 wb.heap.size rfl
  clear hb x0 x1 x2 x3 F1
  go_wp2
  generalize wb.alloc (.cells #[.int .i64 n2, .bool false, .int .i64 0, .int .i64 0, .int .i64 0] 25) = U at *
  generalize wb.heap.size = gC at *
  have hMU := M
  have hg : gC < U.heap.size := M.lt 0 rfl
  have HM := Lib.hid hMU
  clear M hMU z1 z2
  go_loopg [6, 7, 11, 12, 13] N (fun gg now read liars smp i wr => ∃ (k : Nat) (tn tr tl : Int) (e : Nat → Int × Int), k + gg = N ∧ i = .int .i64 (k : Int) ∧ now = .int .i64 tn ∧ read = .int .i64 tr ∧ liars = .int .i64 tl ∧ Hid (Known e k tn tr tl) ∧ Hid (OwnS wr U.heap.size k e smp) ∧ Hid (Below U.heap.size U wr))
  case atStart => exact ⟨0, n0, n1, 0, fun _ => (0, 0), by omega, rfl, rfl, rfl, rfl, ⟨g0, by omega, g2, by omega, by omega, by omega, fun j hj => by omega, by simp [votes]⟩, ⟨rfl, .inl ⟨rfl, rfl⟩⟩, Below.refl _ _⟩
  case round =>
    obtain ⟨k, tn, tr, tl, e, hk, rfl, rfl, rfl, rfl, hkn, hown, hb⟩ := hrel
    obtain ⟨gO, hgO⟩ : ∃ gO, gO = gk := ⟨_, rfl⟩
    by_cases hlt : k < N
    · as_aux_lemma =>
        obtain ⟨b, o, rfl, hB, hc⟩ := HC.out hN0
        have hbw := HM.out.below.trans (hb.out.mono HM.out.below.size)
        have hc : ∀ i, i < N → ∀ j u, (X i).vals[j]? = some u → w.cell? ⟨b, o + i * 9 + j, none⟩ = some u := hc
        have y0 := (hbw.cell (p := ⟨b, o + k * 9, none⟩) hB).trans (hc k hlt 0 _ rfl)
        have y1 := (hbw.cell (p := ⟨b, o + k * 9 + 1, none⟩) hB).trans (hc k hlt 1 _ rfl)
        have y2 := (hbw.cell (p := ⟨b, o + k * 9 + 2, none⟩) hB).trans (hc k hlt 2 _ rfl)
        have y3 := (hbw.cell (p := ⟨b, o + k * 9 + 3, none⟩) hB).trans (hc k hlt 3 _ rfl)
        have y4 := (hbw.cell (p := ⟨b, o + k * 9 + 4, none⟩) hB).trans (hc k hlt 4 _ rfl)
        have y5 := (hbw.cell (p := ⟨b, o + k * 9 + 5, none⟩) hB).trans (hc k hlt 5 _ rfl)
        have y6 := (hbw.cell (p := ⟨b, o + k * 9 + 6, none⟩) hB).trans (hc k hlt 6 _ rfl)
        have y7 := (hbw.cell (p := ⟨b, o + k * 9 + 7, none⟩) hB).trans (hc k hlt 7 _ rfl)
        have y8 := (hbw.cell (p := ⟨b, o + k * 9 + 8, none⟩) hB).trans (hc k hlt 8 _ rfl)
        have q0 : (0 : Int) ≤ (k : Int) := by omega
        have q1 : (k : Int) < (N : Int) := by omega
        have pa := fun a b => parted_any a b n2
        have PA := Lib.hid pa
        have M := HM.out.step hb.out
        have HBU := Lib.hid HM.out.below
        clear hc HC HV pa HM
        generalize X k = s at *
        obtain ⟨early, late, lies, slo, shi, xto, back, pto, pback⟩ := s
        dsimp only at y0 y1 y2 y3 y4 y5 y6 y7 y8
        go_upto_region 16 with fail
        have hb1 : Below U.heap.size U (wr.alloc (.cells #[.int .i64 early, .int .i64 late, .bool lies, .int .i64 slo, .int .i64 shi, .int .i64 xto, .int .i64 back, .int .i64 pto, .int .i64 pback] 46)) := hb.out.alloc hb.out.size _
        have ho1 := hown.out.below ((Below.refl _ _).alloc (Nat.le_refl _) (.cells #[.int .i64 early, .int .i64 late, .bool lies, .int .i64 slo, .int .i64 shi, .int .i64 xto, .int .i64 back, .int .i64 pto, .int .i64 pback] 46))
        replace M := M.nine (.int .i64 early) (.int .i64 late) (.bool lies) (.int .i64 slo) (.int .i64 shi) (.int .i64 xto) (.int .i64 back) (.int .i64 pto) (.int .i64 pback) 46 wr.heap.size rfl
        have hg1 : U.heap.size ≤ wr.heap.size := hb.out.size
        have hbo : ∀ b, u12.ownBlock = some b → b < wr.heap.size := fun b hb => (hown.out.lt b hb).2
        clear hb hown y0 y1 y2 y3 y4 y5 y6 y7 y8 hbw
        generalize wr.alloc (.cells #[.int .i64 early, .int .i64 late, .bool lies, .int .i64 slo, .int .i64 shi, .int .i64 xto, .int .i64 back, .int .i64 pto, .int .i64 pback] 46) = W1 at *
        generalize wr.heap.size = gX at *
        have HM := Lib.hid M
        have HO := Lib.hid ho1
        have HB := Lib.hid hb1
        have HBO := Lib.hid hbo
        have x0 := M.at_ 0 rfl
        have x1 := M.at_ 1 rfl
        have x2 := M.at_ 2 rfl
        have x3 := M.at_ 3 rfl
        have x4 := M.at_ 4 rfl
        have x5 := M.at_ 5 rfl
        have x6 := M.at_ 6 rfl
        have x7 := M.at_ 7 rfl
        have x8 := M.at_ 8 rfl
        have lX := M.lt 0 rfl
        clear M ho1 hb1 hbo
        go_cut [15] (fun v wx => v = .bool (smallB early late xto back) ∧ wx = W1)
        case first =>
          as_aux_lemma =>
            go_wp2_with fail
            all_goals
              go_meet
              exact ⟨congrArg Value.bool (by unfold smallB; first | exact decide_eq_decide.2 (by omega) | (rw [decide_eq_false (by omega)]) | (rw [decide_eq_true (by omega)])), rfl⟩
        case rest =>
          obtain ⟨rfl, rfl⟩ := hcut
          have hsm : smallB early late xto back = true → (0 ≤ early ∧ 0 ≤ late ∧ early < 1099511627776 ∧ late < 1099511627776 ∧ 0 ≤ xto ∧ 0 ≤ back ∧ xto < 1073741824 ∧ back < 1073741824) := fun h => by unfold smallB at h; exact of_decide_eq_true h
          have k1 := fun h0 h1 => @parted_small xto pto n2 h0 h1
          have k2 := fun h0 h1 => @parted_small back pback n2 h0 h1
          have p1 := PA.out xto pto
          have p2 := PA.out back pback
          generalize smallB early late xto back = sm at *
          generalize partT xto pto = t1 at *
          generalize partT back pback = t2 at *
          generalize partB xto pto n2 = okA at *
          generalize partB back pback n2 = okB at *
          have HS := Lib.hid hsm
          have K1 := Lib.hid k1
          have K2 := Lib.hid k2
          have P1 := Lib.hid p1
          have P2 := Lib.hid p2
          clear hsm k1 k2 p1 p2
          go_wp2_with fail
          refine (P1.out _).mono ?_
          rintro _ W2 ⟨rfl, rfl⟩
          go_wp2_with fail
          refine (P2.out _).mono ?_
          rintro _ W2 ⟨rfl, rfl⟩
          rcases sm with _ | _
          · as_aux_lemma =>
              have hbl := HBU.out.trans (HB.out.mono HBU.out.size)
              clear HS K1 K2 P1 P2 PA HO HM
              go_wp2
              go_ret
              exact ⟨rfl, hbl⟩
          rcases okA with _ | _
          · as_aux_lemma =>
              have hbl := HBU.out.trans (HB.out.mono HBU.out.size)
              clear HS K1 K2 P1 P2 PA HO HM
              go_wp2
              go_ret
              exact ⟨rfl, hbl⟩
          rcases okB with _ | _
          · as_aux_lemma =>
              have hbl := HBU.out.trans (HB.out.mono HBU.out.size)
              clear HS K1 K2 P1 P2 PA HO HM
              go_wp2
              go_ret
              exact ⟨rfl, hbl⟩
          obtain ⟨e1, e2, e3, e4, e5, e6, e7, e8⟩ := HS.out rfl
          obtain ⟨r1, r2, r3, r4, -, -⟩ := K1.out (by omega) (by omega) rfl
          obtain ⟨s1, s2, s3, s4, -, -⟩ := K2.out (by omega) (by omega) rfl
          subst r1 s1
          have k3 := fun h0 h1 => @parted_small (xto + back) (pto + pback) n2 h0 h1
          have p3 := PA.out (xto + back) (pto + pback)
          have v1 : IntKind.i64.wrap (xto + back) = xto + back := IntWalk.i64_in _ (by omega)
          have v2 : IntKind.i64.wrap (pto + pback) = pto + pback := IntWalk.i64_in _ (by omega)
          generalize partT (xto + back) (pto + pback) = t3 at *
          generalize partB (xto + back) (pto + pback) n2 = okC at *
          have K3 := Lib.hid k3
          have P3 := Lib.hid p3
          clear k3 p3 HS K1 K2 P1 P2 PA
          go_wp2_with fail
          refine (P3.out _).mono ?_
          rintro _ W2 ⟨rfl, rfl⟩
          rcases okC with _ | _
          · as_aux_lemma =>
              have hbl := HBU.out.trans (HB.out.mono HBU.out.size)
              clear K3 P3 HO HM
              go_wp2
              go_ret
              exact ⟨rfl, hbl⟩
          obtain ⟨m1, m2, m3, m4, m5, m6⟩ := K3.out (by omega) (by omega) rfl
          clear K3 P3
          have d1 := hkn.out.now0
          have d2 := hkn.out.now1
          have d3 := hkn.out.read0
          have d4 := hkn.out.read1
          have d5 := hkn.out.liars0
          have d6 := hkn.out.liars1
          have a1 : 0 ≤ xto + pto ∧ xto + pto ≤ 1100585369600 := by omega
          have a2 : 0 ≤ back + pback ∧ back + pback ≤ 1100585369600 := by omega
          have a3 : xto + back + (pto + pback) = xto + pto + (back + pback) := by omega
          rw [a3] at m5 m6
          have c1 : -(slackZ (xto + pto + (back + pback)) n2) ≤ xto + back - (xto + pto + (back + pback)) := by omega
          have c2 : xto + back - (xto + pto + (back + pback)) ≤ slackZ (xto + pto + (back + pback)) n2 := by omega
          have v3 : IntKind.i64.wrap (tn + xto) = tn + xto := IntWalk.i64_in _ (by omega)
          have v4 : IntKind.i64.wrap (tn + xto - early) = tn + xto - early := IntWalk.i64_in _ (by omega)
          have v5 : IntKind.i64.wrap (tn + xto + late) = tn + xto + late := IntWalk.i64_in _ (by omega)
          have v6 : IntKind.i64.wrap (tl + 1) = tl + 1 := IntWalk.i64_in _ (by omega)
          have w1 : tn + xto - early ≤ tn + xto := by omega
          have w2 : tn + xto ≤ tn + xto + late := by omega
          have A1 := Lib.hid a1
          have A2 := Lib.hid a2
          have C1 := Lib.hid c1
          have C2 := Lib.hid c2
          have W1' := Lib.hid w1
          have W2' := Lib.hid w2
          have E5 := Lib.hid e5
          have E6 := Lib.hid e6
          have E7 := Lib.hid e7
          have E8 := Lib.hid e8
          clear m1 m2 m3 m4 m5 m6 a1 a2 a3 c1 c2 r2 r3 r4 s2 s3 s4 e1 e2 e3 e4 v1 v2 w1 w2 d2 d4 d6
          go_upto_if 204 with fail
          generalize tn + xto - early = ta at *
          generalize tn + xto + late = tb at *
          generalize xto + pto = t1 at *
          generalize back + pback = t2 at *
          have hml : ∀ x ∈ [(gX, 0, Value.int IntKind.i64 early), (gX, 1, .int .i64 late), (gX, 2, .bool lies), (gX, 3, .int .i64 slo), (gX, 4, .int .i64 shi), (gX, 5, .int .i64 xto), (gX, 6, .int .i64 back), (gX, 7, .int .i64 pto), (gX, 8, .int .i64 pback), (gC, 0, .int .i64 n2), (gC, 1, .bool false), (gC, 2, .int .i64 0), (gC, 3, .int .i64 0), (gC, 4, .int .i64 0), (w.heap.size, 0, .int .i64 n0), (w.heap.size, 1, .int .i64 n1), (w.heap.size, 2, .int .i64 n2), (w.heap.size, 3, .int .i64 n3), (w.heap.size, 4, .int .i64 n4)], x.1 < wc.heap.size := fun x hx => (HM.out.2 x hx).1
          have hol : ∀ b, u12.ownBlock = some b → b < wc.heap.size := fun b hb => (HO.out.lt b hb).2
          have hb2 : Below U.heap.size U (wc.alloc (.cells #[.int .i64 ta, .int .i64 tb] 23)) := HB.out.alloc HB.out.size _
          have ho2 := HO.out.below ((Below.refl _ _).alloc (Nat.le_refl _) (.cells #[.int .i64 ta, .int .i64 tb] 23))
          have hM2 := HM.out.two (.int .i64 ta) (.int .i64 tb) 23 wc.heap.size rfl
          have fz0 : (wc.alloc (.cells #[.int .i64 ta, .int .i64 tb] 23)).frozen? ⟨wc.heap.size, 0, none⟩ = false := by go_simp
          have fz1 : (wc.alloc (.cells #[.int .i64 ta, .int .i64 tb] 23)).frozen? ⟨wc.heap.size, 1, none⟩ = false := by go_simp
          have hg2 : U.heap.size ≤ wc.heap.size := HB.out.size
          have hwg : w.heap.size ≤ wc.heap.size := HM.out.1.size
          clear HM HO HB lX x0 x1 x2 x3 x4 x5 x6 x7 x8
          generalize wc.alloc (.cells #[.int .i64 ta, .int .i64 tb] 23) = W3 at *
          generalize wc.heap.size = gT at *
          have HL := Lib.hid hml
          have HOL := Lib.hid hol
          have HB2 := Lib.hid hb2
          have HO2 := Lib.hid ho2
          have HM2 := Lib.hid hM2
          have x2 := hM2.at_ 4 rfl
          have x3 := hM2.at_ 5 rfl
          have x4 := hM2.at_ 6 rfl
          have t0 := hM2.at_ 0 rfl
          have t1' := hM2.at_ 1 rfl
          clear hml hol hb2 ho2 hM2
          go_cut [11] (fun v wx => Told [(gX, 0, Value.int IntKind.i64 early), (gX, 1, .int .i64 late), (gX, 2, .bool lies), (gX, 3, .int .i64 slo), (gX, 4, .int .i64 shi), (gX, 5, .int .i64 xto), (gX, 6, .int .i64 back), (gX, 7, .int .i64 pto), (gX, 8, .int .i64 pback), (gC, 0, .int .i64 n2), (gC, 1, .bool false), (gC, 2, .int .i64 0), (gC, 3, .int .i64 0), (gC, 4, .int .i64 0), (w.heap.size, 0, .int .i64 n0), (w.heap.size, 1, .int .i64 n1), (w.heap.size, 2, .int .i64 n2), (w.heap.size, 3, .int .i64 n3), (w.heap.size, 4, .int .i64 n4)] w U U.heap.size k gT e u12 tl (tn + xto) v wx)
          case first =>
            as_aux_lemma =>
              rcases lies with _ | _
              · as_aux_lemma =>
                  go_wp2_with fail
                  go_meet
                  exact ⟨ta, tb, 0, vI (by omega), .inr ⟨rfl, W1'.out, W2'.out⟩, HM2.out, HO2.out, HB2.out⟩
              · as_aux_lemma =>
                  go_wp2_with fail
                  go_meet
                  exact ⟨slo, shi, 1, rfl, .inl rfl, Mem.put2 HM2.out _ _ hwg HL.out, HO2.out.keep (fun b hb => by
                    have hlt' := HOL.out b hb
                    rw [heap_setCell_other _ _ _ _ (by simp; omega), heap_setCell_other _ _ _ _ (by simp; omega)]), (HB2.out.setCell (p := ⟨gT, 0, none⟩) hg2 _).setCell (p := ⟨gT, 1, none⟩) hg2 _⟩
          case rest =>
            obtain ⟨a, b', lz, hv, hlz, hM3, hO3, hB3⟩ := hcut
            have HLZ := Lib.hid hlz
            have HB3 := Lib.hid hB3
            have HO3 := Lib.hid hO3
            have HM3 := Lib.hid hM3
            subst hv
            have t0 := hM3.at_ 0 rfl
            have t1' := hM3.at_ 1 rfl
            have rr := refRight_any a b'
            obtain ⟨okR, hokR⟩ : ∃ x, x = rightB a b' := ⟨_, rfl⟩
            rw [← hokR] at rr
            unfold sp at rr
            have RR := Lib.hid rr
            have HKR := Lib.hid hokR
            clear rr hokR hlz hB3 hO3 hM3 x2 x3 x4 HM2 HO2 HB2 HL HOL fz0 fz1
            go_wp2_with fail
            refine (RR.out _).mono ?_
            rintro _ W4 ⟨rfl, hb4⟩
            have hM4 := HM3.out.step hb4
            have hO4 := HO3.out.below hb4
            have hB4 := HB3.out.trans (hb4.mono HB3.out.size)
            clear HM3 HO3 HB3 hb4 RR t0 t1'
            rcases okR with _ | _
            · as_aux_lemma =>
                have hbl := HBU.out.trans (hB4.mono HBU.out.size)
                clear hM4 hO4 hB4
                go_wp2
                go_ret
                exact ⟨rfl, hbl⟩
            have d2 := hkn.out.now1
            have d4 := hkn.out.read1
            have a1 := A1.out
            have a2 := A2.out
            have hs := C.sample a b' tr (tr + t1 + t2) n2
            obtain ⟨s1, s2, s3⟩ := sample_ok (p := n2) HKR.out.symm d3 (show tr ≤ tr + t1 + t2 by omega) (by omega) HP.out
            rw [s1, s2, s3, show tr + t1 + t2 - tr = t1 + t2 by omega] at hs
            obtain ⟨gh, hgh⟩ : ∃ x, x = growHi b' (t1 + t2) n2 := ⟨_, rfl⟩
            rw [← hgh] at hs
            unfold sp at hs
            have v7 : IntKind.i64.wrap (tr + t1) = tr + t1 := IntWalk.i64_in _ (by omega)
            have v8 : IntKind.i64.wrap (tr + t1 + t2) = tr + t1 + t2 := IntWalk.i64_in _ (by omega)
            have v9 : IntKind.i64.wrap (tn + xto + back) = tn + xto + back := IntWalk.i64_in _ (by omega)
            have v10 : IntKind.i64.wrap (t1 + t2) = t1 + t2 := IntWalk.i64_in _ (by omega)
            have SS := Lib.hid hs
            have HGH := Lib.hid hgh
            have HM4 := Lib.hid hM4
            have HO4 := Lib.hid hO4
            have HB4 := Lib.hid hB4
            have t0 := hM4.at_ 0 rfl
            have t1' := hM4.at_ 1 rfl
            clear hs hgh s1 s2 s3 a1 a2 d2 d4 hM4 hO4 hB4 v4 v5 v6
            go_wp2_with fail
            refine (SS.out _).mono ?_
            rintro _ W5 ⟨rfl, hb5⟩
            have hM5 := (HM4.out.step hb5).two (.int .i64 a) (.int .i64 gh) 23 W5.heap.size rfl
            have hO5 := (HO4.out.below hb5).below ((Below.refl _ _).alloc (Nat.le_refl _) (.cells #[.int .i64 a, .int .i64 gh] 23))
            have hB5 := (HB4.out.trans (hb5.mono HB4.out.size)).alloc (by have := HB4.out.size; have := hb5.size; omega) (.cells #[.int .i64 a, .int .i64 gh] 23)
            have hgS : ∀ b, u12.ownBlock = some b → b ≠ W5.heap.size := fun b hb => by have := ((HO4.out.below hb5).lt b hb).2; omega
            have x5 := hM5.at_ 9 rfl
            have x6 := hM5.at_ 10 rfl
            have hSC : SCells W5.heap.size a gh (W5.alloc (.cells #[.int .i64 a, .int .i64 gh] 23)) := ⟨hM5.lt 0 rfl, hM5.at_ 0 rfl, hM5.at_ 1 rfl⟩
            obtain ⟨As, cs, hu12⟩ := hO5.shape
            subst hu12
            have HM5 := Lib.hid hM5
            have HO5 := Lib.hid hO5
            have HB5 := Lib.hid hB5
            have HSC := Lib.hid hSC
            have HGS := Lib.hid hgS
            clear hM5 hO5 hB5 hSC hgS hb5 HM4 HO4 HB4 SS t0 t1'
            go_wp2
            clear HM5 x5 x6
            generalize W5.alloc (.cells #[.int .i64 a, .int .i64 gh] 23) = W6 at *
            generalize W5.heap.size = gS at *
            clear v3 v7 v8 v9
            go_loopg [25] k (fun gg j wi => ∃ m : Nat, m + gg = k ∧ j = .int .i64 (m : Int) ∧ Hid (OwnS wi U.heap.size k (mixE e (t1 + t2) n2 m) (.slice As k cs)) ∧ Hid (Below U.heap.size U wi) ∧ Hid (SCells gS a gh wi))
            case atStart => exact ⟨0, by omega, rfl, by rw [mix_zero]; exact HO5.out, HB5.out, HSC.out⟩
            case round =>
              clear HO5 HB5 HSC
              obtain ⟨m, hm, rfl, hoi, hbi, hsi⟩ := hrel
              by_cases hlt2 : m < k
              · obtain ⟨g, cap, hu, hgb, hgw⟩ := hoi.out.form (by omega)
                simp only [Value.slice.injEq, true_and] at hu
                obtain ⟨rfl, rfl⟩ := hu
                obtain ⟨c0, c1, -, -⟩ := hoi.out.at_ m hlt2
                rw [mix_at] at c0 c1
                have gr := grow_any (e m).1 (e m).2 (t1 + t2) n2 (hkn.out.right m hlt2)
                obtain ⟨z0, hz0⟩ : ∃ x, x = growLo (e m).1 (t1 + t2) n2 := ⟨_, rfl⟩
                obtain ⟨z1, hz1⟩ : ∃ x, x = growHi (e m).2 (t1 + t2) n2 := ⟨_, rfl⟩
                have hgr : grown e (t1 + t2) n2 m = (z0, z1) := by unfold grown; rw [hz0, hz1]
                rw [← hz0, ← hz1] at gr
                unfold sp at gr
                have GR := Lib.hid gr
                have HGR := Lib.hid hgr
                have o0 : (0 : Int) ≤ (m : Int) := by omega
                have o1 : (m : Int) < (k : Int) := by omega
                clear gr hgr hz0 hz1
                go_wp2_with fail
                refine (GR.out _).mono ?_
                rintro _ W7 ⟨rfl, hb7⟩
                have ho7 := hoi.out.below hb7
                have hb7' := hbi.out.trans (hb7.mono hbi.out.size)
                have hs7 := hsi.out.step hb7
                obtain ⟨c0', c1', f0, f1⟩ := ho7.at_ m hlt2
                rw [mix_at] at c0' c1'
                have hput := ho7.put m hlt2 (z0, z1)
                rw [← HGR.out] at hput
                have hoN := hput.congr (fun i _ => mix_put e (t1 + t2) n2 m i)
                rw [HGR.out] at hoN
                have hbN := (hb7'.setCell (p := ⟨g, m * 2, none⟩) hgb (.int .i64 z0)).setCell (p := ⟨g, m * 2 + 1, none⟩) hgb (.int .i64 z1)
                have hsN := hs7.other (HGS.out g rfl) (m * 2) (m * 2 + 1) (.int .i64 z0) (.int .i64 z1)
                have HON := Lib.hid hoN
                have HBN := Lib.hid hbN
                have HSN := Lib.hid hsN
                clear hput hoN hbN hsN ho7 hb7' hs7 hoi hbi hsi GR HGR c0 c1 hb7
                go_wp2
                go_roundg (gk - 1)
                case measure => omega
                case rel => exact ⟨m + 1, by omega, vI (by omega), HON, HBN, HSN⟩
              · obtain rfl : m = k := by omega
                have hoA : OwnS wr U.heap.size m (addE (grown e (t1 + t2) n2) m (a, gh)) (.slice As m cs) := hoi.out.congr (fun i hi => mix_all e (t1 + t2) n2 m (a, gh) i hi)
                have hsc := hsi.out
                obtain ⟨hs0, hs1, hs2⟩ := hsc
                have hea : addE (grown e (t1 + t2) n2) m (a, gh) m = (a, gh) := by unfold addE; rw [if_pos rfl]
                have hx0 : (wr.alloc (.cells #[.int .i64 a, .int .i64 gh] 23)).cell? ⟨wr.heap.size, 0, none⟩ = some (.int .i64 (addE (grown e (t1 + t2) n2) m (a, gh) m).1) := by rw [hea]; go_simp
                have hx1 : (wr.alloc (.cells #[.int .i64 a, .int .i64 gh] 23)).cell? ⟨wr.heap.size, 1, none⟩ = some (.int .i64 (addE (grown e (t1 + t2) n2) m (a, gh) m).2) := by rw [hea]; go_simp
                have hb1 : Below U.heap.size U (wr.alloc (.cells #[.int .i64 a, .int .i64 gh] 23)) := hbi.out.alloc hbi.out.size _
                have hown1 := hoA.below ((Below.refl _ wr).alloc (Nat.le_refl _) (.cells #[.int .i64 a, .int .i64 gh] 23))
                have hnext := known_next hkn.out (by omega) E5.out E7.out E6.out E8.out A1.out.1 A1.out.2 A2.out.1 A2.out.2 (may_of (by have := A1.out; have := A2.out; omega) (by have := A1.out; have := A2.out; omega) HP.out) C1.out C2.out HKR.out.symm lz HLZ.out
                rw [← HGH.out] at hnext
                have HX0 := Lib.hid hx0
                have HX1 := Lib.hid hx1
                have HB1 := Lib.hid hb1
                have HO1 := Lib.hid hown1
                have HN := Lib.hid hnext
                clear hx0 hx1 hb1 hown1 hnext hoA hoi hbi hsi hea
                go_wp2_with (at_builtin
                             refine append_span (by rfl) (.tmp 257) (.tmp 259) (by rfl) U.heap.size m (addE (grown e (t1 + t2) n2) m (a, gh)) _ (by rfl) HO1.out wr.heap.size 1 (by rfl) HX0.out HX1.out (by omega) HB1.out.size ?_
                             intro v2 w2 hown2 hg2')
                have hb2 : Hid (Below U.heap.size U w2) := HB1.out.grown hg2' HB1.out.size (fun x hx => (HO1.out.lt x hx).1)
                have ho2 : Hid (OwnS w2 U.heap.size (m + 1) (addE (grown e (t1 + t2) n2) m (a, gh)) v2) := hown2
                clear hown2 hg2' HO1 HX0 HX1 HB1 hs0 hs1 hs2
                go_wp2
                go_roundg (gO - 1)
                case measure => omega
                case rel => exact ⟨m + 1, tn + xto + back, tr + t1 + t2, tl + lz, addE (grown e (t1 + t2) n2) m (a, gh), by omega, vI (by omega), rfl, rfl, rfl, HN, ho2, hb2⟩
    · as_aux_lemma =>
        have hkN : k = N := by omega
        subst hkN
        have M := HM.out.step hb.out
        clear HM HC HV
        have d1 := hkn.out.now0
        have d2 := hkn.out.now1
        have d3 := hkn.out.read0
        have d4 := hkn.out.read1
        obtain ⟨As, cs, hu12⟩ := hown.out.shape
        subst hu12
        by_cases hll : tl < (k : Int)
        · obtain ⟨lo, hi, hE1, hE2, hE3, hE4, hE5, hE6, hE7⟩ := known_end hkn.out hN0 hN hll HP.out
          have f2 := fun W hS => C.set n2 false 0 0 0 tr e k (by omega) tl (.slice As k cs) W (by unfold mayC; rw [HP.out]; rfl) hS
          rw [hE1, hE2] at f2
          have hsl := slack_range 0 n2
          have hN1 := now_later (p := n2) (t := tr) (lo := lo) (hi := hi) (now := tn) (later := 0) (ran := 0) hE6 HP.out hE3 hE4 (by omega) (by rw [Int.add_zero]; exact hE7) d3 (by omega) (by omega) (by omega) (by omega)
          rw [Int.add_zero, Int.add_zero] at hN1
          have f3 := C.now n2 true tr lo hi tr
          rw [hN1.1] at f3
          obtain ⟨x0, hx0⟩ : ∃ x, x = nowLo n2 true tr lo hi tr := ⟨_, rfl⟩
          obtain ⟨x1, hx1⟩ : ∃ x, x = nowHi n2 true tr lo hi tr := ⟨_, rfl⟩
          rw [← hx0, ← hx1] at f3 hN1
          have f4 := has_any x0 x1 tn
          rw [show hasB x0 x1 tn = true by unfold hasB; rw [decide_eq_true_iff]; exact hN1.2] at f4
          have f5 := parted_any n3 n4 n2
          have k5 := fun h0 h1 => @parted_small n3 n4 n2 h0 h1
          obtain ⟨t5, ht5⟩ : ∃ x, x = partT n3 n4 := ⟨_, rfl⟩
          obtain ⟨ok5, hok5⟩ : ∃ x, x = partB n3 n4 n2 := ⟨_, rfl⟩
          rw [← ht5, ← hok5] at f5 k5
          unfold ck sp at *
          have S := hown.out.spans
          have F2 := Lib.hid f2
          have F3 := Lib.hid f3
          have F4 := Lib.hid f4
          have F5 := Lib.hid f5
          have K5 := Lib.hid k5
          have HKN := hkn
          have HLO := Lib.hid (And.intro hE3 (And.intro hE4 (And.intro hE6 hE7)))
          clear f2 f3 f4 f5 k5 hx0 hx1 ht5 hok5 hsl hN1 hE1 hE2 hE3 hE4 hE5 hE6 hE7 hkn hown hb
          have x0' := M.at_ 0 rfl
          have x1' := M.at_ 1 rfl
          have x2' := M.at_ 2 rfl
          have x3' := M.at_ 3 rfl
          have x4' := M.at_ 4 rfl
          go_wp2_with fail
          go_wp2_with fail
          refine (F2.out _ S).mono ?_
          rintro _ W2 ⟨rfl, hb2⟩
          replace M := (M.step hb2).five (.int .i64 n2) (.bool true) (.int .i64 tr) (.int .i64 lo) (.int .i64 hi) 25 W2.heap.size rfl
          clear S F2 hb2 x0' x1' x2' x3' x4'
          have x0' := M.at_ 0 rfl
          have x1' := M.at_ 1 rfl
          have x2' := M.at_ 2 rfl
          have x3' := M.at_ 3 rfl
          have x4' := M.at_ 4 rfl
          go_wp2_with fail
          refine (F3.out _).mono ?_
          rintro _ W3 ⟨rfl, hb3⟩
          replace M := (M.step hb3).two (.int .i64 x0) (.int .i64 x1) 23 W3.heap.size rfl
          clear F3 hb3 x0' x1' x2' x3' x4'
          have y0' := M.at_ 0 rfl
          have y1' := M.at_ 1 rfl
          go_wp2_with fail
          refine (F4.out _).mono ?_
          rintro _ W4 ⟨rfl, hb4⟩
          replace M := M.step hb4
          clear F4 hb4 y0' y1'
          have x0' := M.at_ 2 rfl
          have x1' := M.at_ 3 rfl
          have x2' := M.at_ 4 rfl
          have x3' := M.at_ 5 rfl
          have x4' := M.at_ 6 rfl
          have z3 := M.at_ 15 rfl
          have z4 := M.at_ 16 rfl
          go_wp2_with fail
          refine (F5.out _).mono ?_
          rintro _ W5 ⟨rfl, rfl⟩
          rcases ok5 with _ | _
          · have hbl := M.below
            clear M K5 HKN HLO HP F5
            go_wp2
            go_ret
            exact ⟨rfl, hbl⟩
          obtain ⟨hl1, hl2, hl3, hl4⟩ := HLO.out
          obtain ⟨p1, p2, p3, p4, p5, p6⟩ := K5.out g6 (by omega) rfl
          subst p1
          have hRB : readB (tr + (n3 + n4)) = true := by unfold readB; rw [decide_eq_true_iff]; omega
          have hN2 := now_later (p := n2) (t := tr) (lo := lo) (hi := hi) (now := tn) (later := n3 + n4) (ran := n3) hl3 HP.out hl1 hl2 p2 hRB d3 (by omega) (by omega) (by omega) (by omega)
          have f3 := C.now n2 true tr lo hi (tr + (n3 + n4))
          rw [hN2.1] at f3
          obtain ⟨s0, hs0⟩ : ∃ x, x = nowLo n2 true tr lo hi (tr + (n3 + n4)) := ⟨_, rfl⟩
          obtain ⟨s1, hs1⟩ : ∃ x, x = nowHi n2 true tr lo hi (tr + (n3 + n4)) := ⟨_, rfl⟩
          rw [← hs0, ← hs1] at f3 hN2
          have f4 := has_any s0 s1 (tn + n3)
          rw [show hasB s0 s1 (tn + n3) = true by unfold hasB; rw [decide_eq_true_iff]; exact hN2.2] at f4
          unfold ck sp at *
          have F3 := Lib.hid f3
          have F4 := Lib.hid f4
          have v1 : IntKind.i64.wrap (tr + (n3 + n4)) = tr + (n3 + n4) := IntWalk.i64_in _ (by omega)
          have v2 : IntKind.i64.wrap (tn + n3) = tn + n3 := IntWalk.i64_in _ (by omega)
          clear f3 f4 hs0 hs1 hN2 hRB hl1 hl2 hl3 hl4 p2 p3 p4 p5 p6 K5 HLO HKN F5 d2 d4
          go_wp2_with fail
          refine (F3.out _).mono ?_
          rintro _ W6 ⟨rfl, hb6⟩
          replace M := (M.step hb6).two (.int .i64 s0) (.int .i64 s1) 23 W6.heap.size rfl
          clear F3 hb6 x0' x1' x2' x3' x4' z3 z4
          have y0' := M.at_ 0 rfl
          have y1' := M.at_ 1 rfl
          have z3 := M.at_ 17 rfl
          go_wp2_with fail
          refine (F4.out _).mono ?_
          rintro _ W7 ⟨rfl, hb7⟩
          have hbl := (M.step hb7).below
          clear F4 M hb7 y0' y1' z3
          go_wp2
          go_ret
          exact ⟨rfl, hbl⟩
        · have hbl := M.below
          clear hkn hown hb HP M
          have hll' : (k : Int) ≤ tl := by omega
          go_wp2
          go_ret
          exact ⟨rfl, hbl⟩
end Go.Proofs.Ytmkmmpmhbahmeaa.Clock
