/-
  The walk of NetDoes.
-/
import Derived.Test.YtefghgoeppfpfaaLaw12Awake
import Derived.Test.YtefghgoeppfpfaaLaw12Size
import Derived.Test.YtefghgoeppfpfaaNetTwo12
import Derived.Test.YtefghgoeppfpfaaRefSame12
import Derived.Test.YtefghgoeppfpfaaMix
import Derived.Deep.CutBlock
import Derived.Deep.DeepCutAuto
namespace Go.Proofs.Ytefghgoeppfpfaa.Law12
open Go Go.RowKit Go.Proofs.Ytefghgoeppfpfaa.Aid Go.Proofs.Ytefghgoeppfpfaa.Cache Go.Proofs.Ytefghgoeppfpfaa.Net

set_option maxRecDepth 100000 in
set_option maxHeartbeats 4000000 in
theorem does_any {Rep : RepN} (H : NetHas Rep) (room : Int) (n : Nat) (X : Nat → OpN) (v : Value) (w : World) (hv : OpsIn w n X v) :
    Calls Try.prog 3 #[.int .i64 room, v] w fun x w' => x = .returned (.bool true) ∧ Below w.heap.size w w' := by
  have SZ := Lib.hid (fun w1 hb => size_any n X v w1 w hv hb)
  obtain ⟨A, c, rfl, hr⟩ := hv.rows
  have HV := Lib.hid hr
  have HLT := Lib.hid hv.lt
  have HH := Lib.hid H
  have AW := Lib.hid (awake_in H w)
  clear hv hr H
  go_enter Try.func3, Try.ntmps3
  go_wp2_with fail
  refine AW.out.mono ?_
  rintro _ w1 ⟨rfl, hb1⟩
  have B1 := Lib.hid hb1
  clear AW hb1
  go_wp2_with fail
  refine (SZ.out w1 B1.out).mono ?_
  rintro _ w2 ⟨s, rfl, hb2, hsz⟩
  have B2 : Hid (Below w.heap.size w w2) := Lib.hid (B1.out.trans (hb2.mono B1.out.size))
  have HSZ := Lib.hid hsz
  clear B1 hb2 hsz SZ
  by_cases hs : 2000 < s
  · have q : (2000 : Int) < (s : Int) := by omega
    clear HV HH HLT HSZ
    go_wp2
    go_ret
    exact ⟨rfl, B2.out⟩
  have q : ¬ (2000 : Int) < (s : Int) := by omega
  have HS2 := Lib.hid (HSZ.out (by omega))
  clear HSZ
  by_cases hm : 1 ≤ room ∧ room ≤ 1000
  · obtain ⟨m, rfl⟩ : ∃ m : Nat, room = (m : Int) := ⟨room.toNat, by omega⟩
    have HM : Hid (1 ≤ m ∧ m ≤ 1000) := Lib.hid (by omega)
    clear hm
    go_wp2_with fail
    refine (HH.out.form.newH m HM.out w w2 B2.out).mono ?_
    rintro _ w3 ⟨p, rfl, g3, hb3⟩
    have G3 := Lib.hid g3
    clear g3 hb3 B2
    go_wp2_with fail
    refine (refNew12_ok m w3 HM.out).mono ?_
    rintro _ w4 ⟨rv, F4, rfl, h4, hF4, hb4⟩
    obtain ⟨g, -, -, rfl, -⟩ := h4.read
    have G4 : Hid (Two Rep RefNet w w4 (fun _ => False) (.pointer (some p)) (.pointer (some ⟨g, 0, none⟩)) m [] []) := Lib.hid (Two.start G3.out HH.out.form.keep h4 h4.lt hF4 hb4)
    clear h4 hF4 hb4 G3
    go_wp2
    go_loopw [10] (fun i wr => ∃ (k : Nat) (l : List Lt), k ≤ n ∧ i = .int .i64 (k : Int) ∧ Hid (Two Rep RefNet w wr (fun _ => False) (.pointer (some p)) (.pointer (some ⟨g, 0, none⟩)) m l l)) (fun i _ => n - (intOf i).toNat)
    case atStart => exact ⟨0, [], by omega, rfl, G4⟩
    case round =>
      clear G4
      obtain ⟨k, l, hk, rfl, hh⟩ := hrel
      by_cases hlt : k < n
      · obtain ⟨b, o, rfl, hbB, hc⟩ := HV.out (by omega)
        have hbel := hh.out.bel
        obtain ⟨bA, bc, hbv⟩ := (HLT.out k hlt).shape
        have hread := (HLT.out k hlt).read
        have c0 := (hbel.cell (p := ⟨b, o + k * 4, none⟩) hbB).trans (hc k hlt 0 _ rfl)
        have c1 := (hbel.cell (p := ⟨b, o + k * 4 + 1, none⟩) hbB).trans (hc k hlt 1 _ rfl)
        have c2 := (hbel.cell (p := ⟨b, o + k * 4 + 2, none⟩) hbB).trans (hc k hlt 2 _ rfl)
        have c3 := (hbel.cell (p := ⟨b, o + k * 4 + 3, none⟩) hbB).trans (hc k hlt 3 _ rfl)
        rw [hbv] at c3 hread
        have q0 : (0 : Int) ≤ (k : Int) := by omega
        have q1 : (k : Int) < (n : Int) := by omega
        have HX : Hid ((X k).x.n ≤ 2000) := Lib.hid (HS2.out.2 k hlt)
        have HRD := Lib.hid hread
        generalize (X k).d = d at *
        generalize (X k).x = x at *
        clear hc HV hbel hbv hread HLT
        have hb0 : Below wr.heap.size wr (wr.alloc (.cells #[.int .i64 d, .string x.f, .string x.t, .slice bA x.n bc] 36)) := (Below.refl _ _).alloc (Nat.le_refl _) _
        have G0 := Lib.hid (hh.out.more (X' := fun b => b = wr.heap.size) HH.out.form.keep refForm.keep hb0 (fun b hb => .inr (by rw [hb]; simp)))
        have e0 : (wr.alloc (.cells #[.int .i64 d, .string x.f, .string x.t, .slice bA x.n bc] 36)).cell? ⟨wr.heap.size, 0, none⟩ = some (.int .i64 d) := by go_simp
        have e1 : (wr.alloc (.cells #[.int .i64 d, .string x.f, .string x.t, .slice bA x.n bc] 36)).cell? ⟨wr.heap.size, 1, none⟩ = some (.string x.f) := by go_simp
        have e2 : (wr.alloc (.cells #[.int .i64 d, .string x.f, .string x.t, .slice bA x.n bc] 36)).cell? ⟨wr.heap.size, 2, none⟩ = some (.string x.t) := by go_simp
        have e3 : (wr.alloc (.cells #[.int .i64 d, .string x.f, .string x.t, .slice bA x.n bc] 36)).cell? ⟨wr.heap.size, 3, none⟩ = some (.slice bA x.n bc) := by go_simp
        have E0 := Lib.hid e0
        have E1 := Lib.hid e1
        have E2 := Lib.hid e2
        have E3 := Lib.hid e3
        clear hh hb0 e0 e1 e2 e3
        go_upto_region 14 with fail
        clear c0 c1 c2 c3
        have e0 := E0.out
        generalize wr.alloc (.cells #[.int .i64 d, .string x.f, .string x.t, .slice bA x.n bc] 36) = W0 at *
        generalize wr.heap.size = gx at *
        go_upto_block 2 with fail
        clear e0
        go_cut [12, 13, 14, 15, 16, 17] (fun f _ _ _ _ _ wx => f = .bool true ∧ ∃ l2, Hid (Two Rep RefNet w wx (fun _ => False) (.pointer (some p)) (.pointer (some ⟨g, 0, none⟩)) m l2 l2))
        case first =>
          by_cases hd : d = 0
          · subst hd
            go_wp2_with fail
            have hS0 : W0.cell? ⟨gx, 1, none⟩ = some (.string x.f) ∧ W0.cell? ⟨gx, 2, none⟩ = some (.string x.t) ∧ W0.cell? ⟨gx, 3, none⟩ = some (.slice bA x.n bc) := ⟨E1.out, E2.out, E3.out⟩
            have G1 : Hid (Two Rep RefNet w W0.drew (fun b => b = gx) (.pointer (some p)) (.pointer (some ⟨g, 0, none⟩)) m l l) := Lib.hid (G0.out.more HH.out.form.keep refForm.keep (Below.refl _ _).drew (fun _ hb => .inl hb))
            refine region_mix (fun W => W.cell? ⟨gx, 1, none⟩ = some (.string x.f) ∧ W.cell? ⟨gx, 2, none⟩ = some (.string x.t) ∧ W.cell? ⟨gx, 3, none⟩ = some (.slice bA x.n bc)) [(0, true), (1, true), (2, true), (4, true), (5, true), (6, true), (3, false), (7, false), (8, false), (9, false)] (by kernel_rfl) (by kernel_rfl) hS0 ?_
            iterate 6
              refine m_val rfl (by rfl) _ (fun W hW => by have u1 := hW.1; have u2 := hW.2.1; have u3 := hW.2.2; go_simp; rfl) ?_
              simp only [Act.put, List.setIfInBounds_toArray, List.set_cons_zero, List.set_cons_succ]
            clear E0 E1 E2 E3 G0
            refine m_go rfl ?_
            go_wp2_with fail
            refine (HH.out.form.send2 refForm.keep G1.out x (.slice bA x.n bc) (slice_here (slice_below HRD.out G1.out.bel)) HX.out).mono ?_
            rintro _ w5 ⟨rfl, g5, kp⟩
            have hS5 : w5.cell? ⟨gx, 1, none⟩ = some (.string x.f) ∧ w5.cell? ⟨gx, 2, none⟩ = some (.string x.t) ∧ w5.cell? ⟨gx, 3, none⟩ = some (.slice bA x.n bc) := ⟨kp.cell (p := ⟨gx, 1, none⟩) hS0.1 rfl, kp.cell (p := ⟨gx, 2, none⟩) hS0.2.1 rfl, kp.cell (p := ⟨gx, 3, none⟩) hS0.2.2 rfl⟩
            have G5 := Lib.hid g5
            clear g5 kp hS0 G1
            generalize hcode : sendC m l = cd at *
            go_wp2_with fail
            refine m_on hS5 ?_
            refine m_go rfl ?_
            go_wp2_with fail
            refine (refForm.send2 HH.out.form.keep G5.out.swap x (.slice bA x.n bc) (slice_here (slice_below HRD.out G5.out.bel)) HX.out).mono ?_
            rintro _ w6 ⟨rfl, g6, kp⟩
            rw [hcode]
            have hS6 : w6.cell? ⟨gx, 1, none⟩ = some (.string x.f) ∧ w6.cell? ⟨gx, 2, none⟩ = some (.string x.t) ∧ w6.cell? ⟨gx, 3, none⟩ = some (.slice bA x.n bc) := ⟨kp.cell (p := ⟨gx, 1, none⟩) hS5.1 rfl, kp.cell (p := ⟨gx, 2, none⟩) hS5.2.1 rfl, kp.cell (p := ⟨gx, 3, none⟩) hS5.2.2 rfl⟩
            have G6 := Lib.hid (g6.swap.less (X' := fun _ => False) (fun _ h => h.elim))
            clear g6 kp hS5 G5 hcode
            go_wp2_with fail
            refine m_on hS6 ?_
            refine m_go rfl ?_
            go_wp2_with fail
            refine m_on hS6 ?_
            refine m_go rfl ?_
            go_wp2_with fail
            refine m_on hS6 ?_
            refine m_end ?_
            clear hS6
            go_wp2
            go_meet
            exact ⟨rfl, _, G6⟩
          · have hd0 : (d == 0) = false := by simp [hd]
            by_cases hd1 : d = 1
            · subst hd1
              clear hd hd0 E0 E1 E2 E3
              go_wp2_with fail
              refine (HH.out.own2 refForm.keep G0.out).mono ?_
              rintro _ w5 ⟨A5, c5, r5, rfl, got5, g5, -⟩
              have HY : Hid ((l.headD zeroL).n ≤ 2000) := Lib.hid (two_small G0.out)
              generalize hbl : decide (0 < l.length) = bl at *
              generalize hy : l.headD zeroL = y at *
              have b5 : Below w5.heap.size w5 (w5.alloc (.cells #[.string y.f, .string y.t, .slice A5 y.n c5] 34)) := (Below.refl _ _).alloc (Nat.le_refl _) _
              have g5a := g5.more (X' := fun b => r5 b ∨ b = w5.heap.size) HH.out.form.keep refForm.keep b5 (fun b hb => hb.elim (fun h => .inl (.inl h)) (fun h => .inr (by rw [h]; simp)))
              have rd5 : ∀ b, r5 b → (w5.alloc (.cells #[.string y.f, .string y.t, .slice A5 y.n c5] 34)).heap[b]? = w5.heap[b]? := fun b hb => b5.block b (by obtain ⟨_, _, h⟩ := g5; exact h.old b (.inl hb))
              have f0 : (w5.alloc (.cells #[.string y.f, .string y.t, .slice A5 y.n c5] 34)).cell? ⟨w5.heap.size, 0, none⟩ = some (.string y.f) := by go_simp
              have f1 : (w5.alloc (.cells #[.string y.f, .string y.t, .slice A5 y.n c5] 34)).cell? ⟨w5.heap.size, 1, none⟩ = some (.string y.t) := by go_simp
              have f2 : (w5.alloc (.cells #[.string y.f, .string y.t, .slice A5 y.n c5] 34)).cell? ⟨w5.heap.size, 2, none⟩ = some (.slice A5 y.n c5) := by go_simp
              have GOT := Lib.hid got5
              have F0 := Lib.hid f0
              have F1 := Lib.hid f1
              have F2 := Lib.hid f2
              have G5 := Lib.hid g5a
              have RD := Lib.hid rd5
              have HYL := Lib.hid hy
              have HBL := Lib.hid hbl
              clear g5 g5a b5 rd5 f0 f1 f2 got5 G0 hy hbl
              unfold ltV
              go_upto_region 21 with fail
              generalize w5.alloc (.cells #[.string y.f, .string y.t, .slice A5 y.n c5] 34) = W5 at *
              generalize w5.heap.size = k5 at *
              go_wp2_with fail
              refine (refForm.take2 HH.out.form.keep G5.out.swap).mono ?_
              rintro _ w6 ⟨A6, c6, rfl, s6, g6, kp⟩
              rw [HYL.out, HBL.out] at *
              have b6 : Below w6.heap.size w6 (w6.alloc (.cells #[.string y.f, .string y.t, .slice A6 y.n c6] 39)) := (Below.refl _ _).alloc (Nat.le_refl _) _
              have S6 := Lib.hid (slice_here (slice_below s6 b6))
              have S5 := Lib.hid (GOT.out.read (w6.alloc (.cells #[.string y.f, .string y.t, .slice A6 y.n c6] 39)) (fun b hb => (b6.block b (by obtain ⟨_, _, h⟩ := g6; exact h.old b (.inl hb))).trans ((kp b (.inl hb)).trans (RD.out b hb))))
              have k0 := kp.cell F0.out (.inr rfl)
              have k1 := kp.cell F1.out (.inr rfl)
              have k2 := kp.cell F2.out (.inr rfl)
              have f0 := (b6.cell (p := ⟨k5, 0, none⟩) (block_lt_of_cell k0)).trans k0
              have f1 := (b6.cell (p := ⟨k5, 1, none⟩) (block_lt_of_cell k1)).trans k1
              have f2 := (b6.cell (p := ⟨k5, 2, none⟩) (block_lt_of_cell k2)).trans k2
              have h0 : (w6.alloc (.cells #[.string y.f, .string y.t, .slice A6 y.n c6] 39)).cell? ⟨w6.heap.size, 0, none⟩ = some (.string y.f) := by go_simp
              have h1 : (w6.alloc (.cells #[.string y.f, .string y.t, .slice A6 y.n c6] 39)).cell? ⟨w6.heap.size, 1, none⟩ = some (.string y.t) := by go_simp
              have h2 : (w6.alloc (.cells #[.string y.f, .string y.t, .slice A6 y.n c6] 39)).cell? ⟨w6.heap.size, 2, none⟩ = some (.slice A6 y.n c6) := by go_simp
              have G6 := Lib.hid (g6.swap.more (X' := fun _ => False) HH.out.form.keep refForm.keep b6 (fun _ h => h.elim))
              have HE : Hid (f0 = f0) := Lib.hid rfl
              clear g6 s6 kp k0 k1 k2 b6 F0 F1 F2 G5 GOT RD HE
              unfold ltV
              go_upto_region 22 with fail
              generalize w6.alloc (.cells #[.string y.f, .string y.t, .slice A6 y.n c6] 39) = W6 at *
              generalize w6.heap.size = k6 at *
              go_wp2_with fail
              refine (refSame12_any y y (.slice A5 y.n c5) (.slice A6 y.n c6) W6 S5.out S6.out HY.out HY.out).mono ?_
              rintro _ w7 ⟨rfl, b7⟩
              rw [sameLt_refl]
              have G7 := Lib.hid (G6.out.more (X' := fun _ => False) HH.out.form.keep refForm.keep b7 (fun _ h => h.elim))
              clear b7 G6 S5 S6 f0 f1 f2 h0 h1 h2
              go_wp2
              all_goals (go_meet; exact ⟨by simp, _, G7⟩)
            · have hd2 : (d == 1) = false := by simp [hd1]
              by_cases hd3 : d = 2
              · subst hd3
                clear hd hd0 hd1 hd2 E0 E1 E2 E3
                go_wp2_with fail
                refine (HH.out.form.later2 refForm.keep G0.out).mono ?_
                rintro _ w5 ⟨rfl, g5, -⟩
                have G5 := Lib.hid g5
                clear g5 G0
                generalize hbl : decide (0 < l.length) = bl at *
                go_wp2_with fail
                refine (refForm.later2 HH.out.form.keep G5.out.swap).mono ?_
                rintro _ w6 ⟨rfl, g6, -⟩
                rw [hbl]
                have G6 := Lib.hid (g6.swap.less (X' := fun _ => False) (fun _ h => h.elim))
                clear g6 G5 hbl
                go_wp2
                go_meet
                exact ⟨rfl, _, G6⟩
              · have hd4 : (d == 2) = false := by simp [hd3]
                clear E0 E1 E2 E3
                go_wp2_with fail
                refine (HH.out.form.twice2 refForm.keep G0.out).mono ?_
                rintro _ w5 ⟨rfl, g5, -⟩
                have G5 := Lib.hid g5
                clear g5 G0
                generalize hbl : twiceC m l = bl at *
                go_wp2_with fail
                refine (refForm.twice2 HH.out.form.keep G5.out.swap).mono ?_
                rintro _ w6 ⟨rfl, g6, -⟩
                rw [hbl]
                have G6 := Lib.hid (g6.swap.less (X' := fun _ => False) (fun _ h => h.elim))
                clear g6 G5 hbl
                go_wp2
                go_meet
                exact ⟨rfl, _, G6⟩
        case rest =>
          obtain ⟨rfl, l2, G6⟩ := hcut
          clear E0 E1 E2 E3 G0
          obtain ⟨A7, c7, r7⟩ := two_read G6.out
          have r8 : wc.drew.cell? ⟨g, 1, none⟩ = some (.slice A7 l2.length c7) := r7
          have G8 : Hid (Two Rep RefNet w wc.drew (fun _ => False) (.pointer (some p)) (.pointer (some ⟨g, 0, none⟩)) m l2 l2) := Lib.hid (G6.out.more HH.out.form.keep refForm.keep (Below.refl _ _).drew (fun _ h => h.elim))
          clear r7 G6
          go_wp2_with fail
          refine region_mix (fun W => W.cell? ⟨g, 1, none⟩ = some (.slice A7 l2.length c7)) [(0, true), (1, true), (2, true), (3, true), (5, true), (6, true), (7, true), (8, true), (9, true), (4, false), (10, false), (11, false)] (by kernel_rfl) (by kernel_rfl) r8 ?_
          iterate 9
            refine m_val rfl (by rfl) _ (fun W hW => by go_simp; rfl) ?_
            simp only [Act.put, List.setIfInBounds_toArray, List.set_cons_zero, List.set_cons_succ]
          refine m_go rfl ?_
          go_wp2_with fail
          refine (HH.out.len2R G8.out).mono ?_
          rintro _ w9 ⟨rfl, g9, -, kp⟩
          have r9 : w9.cell? ⟨g, 1, none⟩ = some (.slice A7 l2.length c7) := by
            rw [← r8]
            unfold World.cell?
            rw [kp]
          have G9 := Lib.hid g9
          clear g9 kp r8 G8
          go_wp2_with fail
          refine m_on r9 ?_
          refine m_go rfl ?_
          go_wp2_with fail
          refine m_on r9 ?_
          refine m_go rfl ?_
          go_wp2_with fail
          refine m_on r9 ?_
          refine m_end ?_
          clear r9
          have HW5 : Hid (wrap64 ((k : Int) + 1) = ((k + 1 : Nat) : Int)) := Lib.hid ((wrap64_id (by omega) (by have := HS2.out.1; omega)).trans (by omega))
          go_wp2
          rw [HW5.out]
          exact ⟨⟨k + 1, l2, by omega, rfl, G9⟩, by simp [intOf]; omega⟩
      · obtain rfl : k = n := by omega
        have hb := Lib.hid hh.out.bel
        clear HV HH hh HLT HS2
        go_wp2
        go_ret
        exact ⟨rfl, hb.out⟩
  · have HM : Hid (¬ (1 ≤ room ∧ room ≤ 1000)) := Lib.hid hm
    clear hm
    go_wp2_with fail
    refine (HH.out.form.new_no room w2 HM.out).mono ?_
    rintro _ w3 ⟨rfl, hb3⟩
    have B3 : Hid (Below w.heap.size w w3) := Lib.hid (B2.out.trans (hb3.mono B2.out.size))
    clear HV HH B2 hb3 HLT
    go_wp2_with fail
    refine (refNew12_no room w3 HM.out).mono ?_
    rintro _ w4 ⟨rfl, hb4⟩
    have B4 : Hid (Below w.heap.size w w4) := Lib.hid (B3.out.trans (hb4.mono B3.out.size))
    clear B3 hb4
    go_wp2
    go_ret
    exact ⟨rfl, B4.out⟩
end Go.Proofs.Ytefghgoeppfpfaa.Law12
