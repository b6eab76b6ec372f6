/-
  The walk of CacheDoes.
-/
import Derived.Test.YtmoepcobhapghaaLaw11Awake
import Derived.Test.YtmoepcobhapghaaCacheBoth
import Derived.Test.YtmoepcobhapghaaOpsAt
import Derived.Test.YtmoepcobhapghaaMix
import Derived.Deep.CutBlock
import Derived.Deep.DeepCutAuto
namespace Go.Proofs.Ytmoepcobhapghaa.Law11
open Go Go.RowKit Go.Proofs.Ytmoepcobhapghaa.Aid Go.Proofs.Ytmoepcobhapghaa.Cache

theorem get_at {α β : Type} [DecidableEq α] : ∀ {l : List (α × β)} {k : α} (_ : hasK (keysL l) k = true), ∃ hl : atN (keysL l) k < l.length, getL l k = some (l[atN (keysL l) k]'hl).2
  | [], k, h => by simp [hasK, keysL] at h
  | p :: l, k, h => by
    have hk : keysL (p :: l) = p.1 :: keysL l := rfl
    have hg : getL (p :: l) k = if p.1 = k then some p.2 else getL l k := by
      unfold getL
      rw [List.find?_cons]
      by_cases e : p.1 = k
      · rw [decide_eq_true e, if_pos e]; rfl
      · rw [decide_eq_false e, if_neg e]
    by_cases e : p.1 = k
    · have e0 : atN (keysL (p :: l)) k = 0 := by rw [hk, at_cons, if_pos e]
      refine ⟨by rw [e0]; simp, ?_⟩
      rw [hg, if_pos e]
      simp only [e0]
      rfl
    · have e0 : atN (keysL (p :: l)) k = atN (keysL l) k + 1 := by rw [hk, at_cons, if_neg e]
      obtain ⟨hl, hh⟩ := get_at (l := l) (k := k) (by
        unfold hasK at h ⊢
        rw [hk] at h
        have := of_decide_eq_true h
        rw [List.mem_cons] at this
        exact decide_eq_true (this.resolve_left (fun h1 => e h1.symm)))
      refine ⟨by rw [e0]; simpa using hl, ?_⟩
      rw [hg, if_neg e, hh]
      simp only [e0]
      rfl
set_option maxRecDepth 100000 in
set_option maxHeartbeats 4000000 in
theorem does_any {Rep : RepI} (H : CacheHas Rep) (most : Int) (n : Nat) (X : Nat → OpV) (v : Value) (w : World) (hv : OpsAt w w.heap.size n X v) :
    Calls Try.prog 3 #[.int .i64 most, v] w fun x w' => x = .returned (.bool true) ∧ Below w.heap.size w w' := by
  obtain ⟨hok, A, c, rfl, hv⟩ := hv
  have HOK := Lib.hid hok
  have HV := Lib.hid hv
  have HH := Lib.hid H
  have AW := Lib.hid (awake_any H w)
  clear hv H hok
  go_enter Try.func3, Try.ntmps3
  go_wp2_with fail
  refine AW.out.mono ?_
  rintro _ w1 ⟨rfl, hb1⟩
  have B1 := Lib.hid hb1
  clear AW hb1
  by_cases h60 : 60 < n
  · have q : (60 : Int) < (n : Int) := by omega
    clear HV HH h60
    go_wp2
    go_ret
    exact ⟨rfl, B1.out⟩
  have q : ¬ (60 : Int) < (n : Int) := by omega
  by_cases hm : 1 ≤ most ∧ most ≤ 1000
  · obtain ⟨m, rfl⟩ : ∃ m : Nat, most = (m : Int) := ⟨most.toNat, by omega⟩
    have HM : Hid (1 ≤ m ∧ m ≤ 1000) := Lib.hid (by omega)
    clear hm
    go_wp2_with fail
    refine (HH.out.tab.newH m HM.out w w1 B1.out).mono ?_
    rintro _ w2 ⟨p, rfl, g2, hb2⟩
    have G2 := Lib.hid g2
    have B2 : Hid (w.heap.size ≤ w2.heap.size) := Lib.hid (Nat.le_trans B1.out.size hb2.size)
    clear B1 g2 hb2
    go_wp2_with fail
    refine (refNew_ok w.heap.size m HM.out w2 B2.out).mono ?_
    rintro _ w3 ⟨rfl, h3, hb3⟩
    have G3 := Lib.hid (Both.start HH.out G2.out h3 hb3)
    clear h3 hb3 G2 B2
    generalize w2.heap.size = g at *
    go_wp2
    go_loopw [10] (fun i wr => ∃ (k : Nat) (l : List (Int × ByteArray)) (Kv Vv : Value), k ≤ n ∧ i = .int .i64 (k : Int) ∧ Hid (Both Rep w wr (fun _ => False) (.pointer (some p)) g Kv Vv m l l)) (fun i _ => n - (intOf i).toNat)
    case atStart => exact ⟨0, [], _, _, by omega, rfl, G3⟩
    case round =>
      clear G3
      obtain ⟨k, l, Kv, Vv, hk, rfl, hh⟩ := hrel
      by_cases hlt : k < n
      · obtain ⟨b, o, rfl, hbB, hc⟩ := HV.out (by omega)
        have hbel := hh.out.bel
        have c0 := (hbel.cell (p := ⟨b, o + k * 3 + 0, none⟩) hbB).trans (hc k hlt 0 _ rfl)
        have c1 := (hbel.cell (p := ⟨b, o + k * 3 + 1, none⟩) hbB).trans (hc k hlt 1 _ rfl)
        have c2 := (hbel.cell (p := ⟨b, o + k * 3 + 2, none⟩) hbB).trans (hc k hlt 2 _ rfl)
        have q0 : (0 : Int) ≤ (k : Int) := by omega
        have q1 : (k : Int) < (n : Int) := by omega
        rw [Nat.add_zero] at c0
        have KOK : Hid (okI (X k).k) := HOK.out k hlt
        generalize (X k).d = d at *
        generalize (X k).k = ky at *
        generalize (X k).s = s at *
        clear hc HV hbel
        have hb0 : Below wr.heap.size wr (wr.alloc (.cells #[.int .i64 d, .int .i64 ky, .string s] 32)) := (Below.refl _ _).alloc (Nat.le_refl _) _
        have G0 := Lib.hid (hh.out.below HH.out (X' := fun b => b = wr.heap.size) hb0 (fun b hb => .inr (by rw [hb]; simp)))
        have e0 : (wr.alloc (.cells #[.int .i64 d, .int .i64 ky, .string s] 32)).cell? ⟨wr.heap.size, 0, none⟩ = some (.int .i64 d) := by go_simp
        have e1 : (wr.alloc (.cells #[.int .i64 d, .int .i64 ky, .string s] 32)).cell? ⟨wr.heap.size, 1, none⟩ = some (.int .i64 ky) := by go_simp
        have e2 : (wr.alloc (.cells #[.int .i64 d, .int .i64 ky, .string s] 32)).cell? ⟨wr.heap.size, 2, none⟩ = some (.string s) := by go_simp
        have E0 := Lib.hid e0
        have E1 := Lib.hid e1
        have E2 := Lib.hid e2
        clear hh hb0 e0 e1 e2
        go_upto_region 14 with fail
        clear c0 c1 c2
        have e0 := E0.out
        generalize wr.alloc (.cells #[.int .i64 d, .int .i64 ky, .string s] 32) = W0 at *
        generalize wr.heap.size = gx at *
        go_upto_block 2 with fail
        clear e0
        go_cut [12, 13, 14, 15] (fun _ _ _ _ wx => ∃ l2 Kv2 Vv2, Hid (Both Rep w wx (fun b => b = gx) (.pointer (some p)) g Kv2 Vv2 m l2 l2) ∧ Hid (wx.cell? ⟨gx, 1, none⟩ = some (.int .i64 ky)))
        case first =>
          by_cases hd : d = 0
          · subst hd
            have x1 := E1.out
            have x2 := E2.out
            go_wp2_with fail
            refine (G0.out.putT HH.out ky s KOK.out).mono ?_
            rintro _ w4 ⟨rfl, g4, kp⟩
            have G4 := Lib.hid g4
            have y1 := kp.cell x1 rfl
            have y2 := kp.cell x2 rfl
            clear x1 x2 g4 kp E0 E1 E2
            go_wp2_with fail
            refine (G4.out.putR HH.out ky s).mono ?_
            rintro _ w5 ⟨rfl, Kv2, Vv2, g5, kp⟩
            have G5 := Lib.hid g5
            have Y1 := Lib.hid (kp.cell y1 rfl)
            clear y1 y2 g5 kp G4
            generalize goneK 0 m (keysL l) ky = z
            generalize goneB m (keysL l) ky = b
            go_wp2
            all_goals first
              | (go_meet; exact ⟨_, Kv2, Vv2, G5, Y1⟩)
              | (exfalso; simp at *)
          · have hd0 : (d == 0) = false := by simp [hd]
            by_cases hd1 : d = 1
            · subst hd1
              clear hd hd0
              go_wp2_with fail
              have hS0 : W0.cell? ⟨gx, 1, none⟩ = some (.int .i64 ky) := E1.out
              have G1 : Hid (Both Rep w W0.drew (fun b => b = gx) (.pointer (some p)) g Kv Vv m l l) := Lib.hid (G0.out.below HH.out (Below.refl _ _).drew (fun _ hb => .inl hb))
              refine region_mix (fun W => W.cell? ⟨gx, 1, none⟩ = some (.int .i64 ky)) [(0, true), (1, true), (2, true), (4, true), (5, true), (6, true), (3, false), (7, false), (8, false)] (by kernel_rfl) (by kernel_rfl) hS0 ?_
              iterate 6
                refine m_val rfl (by rfl) _ (fun W hW => by go_simp; rfl) ?_
                simp only [Act.put, List.setIfInBounds_toArray, List.set_cons_zero, List.set_cons_succ]
              clear E0 E1 E2 G0
              refine m_go rfl ?_
              go_wp2_with fail
              refine (G1.out.dropT HH.out ky KOK.out).mono ?_
              rintro _ w4 ⟨rfl, g4, kp⟩
              have G4 := Lib.hid g4
              have y1 : w4.cell? ⟨gx, 1, none⟩ = some (.int .i64 ky) := kp.cell (p := ⟨gx, 1, none⟩) hS0 rfl
              clear g4 kp hS0 G1
              go_wp2_with fail
              refine m_on y1 ?_
              refine m_go rfl ?_
              go_wp2_with fail
              refine (G4.out.dropR HH.out ky).mono ?_
              rintro _ w5 ⟨rfl, Kv2, Vv2, g5, kp⟩
              have G5 := Lib.hid g5
              have Y1 := Lib.hid (kp.cell y1 rfl)
              clear y1 g5 kp G4
              go_wp2_with fail
              refine m_on Y1.out ?_
              generalize hasK (keysL l) ky = b
              refine m_go rfl ?_
              go_wp2_with fail
              refine m_on Y1.out ?_
              refine m_end ?_
              go_wp2
              go_meet
              exact ⟨_, Kv2, Vv2, G5, Y1⟩
            · have hd2 : (d == 1) = false := by simp [hd1]
              go_wp2
              go_meet
              exact ⟨l, Kv, Vv, G0, E1⟩
        case rest =>
          obtain ⟨l2, Kv2, Vv2, G6, Y6⟩ := hcut
          clear E0 E1 E2 G0
          have x1 := Y6.out
          cases hhk : hasK (keysL l2) ky with
          | true =>
            have hat := at_lt hhk
            have e1 : atI l2 ky = (atN (keysL l2) ky : Int) := by unfold atI; rw [hhk]; rfl
            obtain ⟨_, e2⟩ := get_at hhk
            go_wp2_with fail
            refine (G6.out.getT HH.out ky KOK.out).mono ?_
            rintro _ w7 ⟨rfl, g7, kp⟩
            rw [hhk, e2, Option.getD_some]
            have G7 := Lib.hid g7
            have y1 := kp.cell x1 rfl
            clear x1 kp g7 G6 Y6
            go_wp2_with fail
            refine (G7.out.atR ky).mono ?_
            rintro _ w8 ⟨rfl, rfl⟩
            rw [e1]
            clear y1 e1 e2
            have HAT := Lib.hid hat
            have HS := Lib.hid (strs_at hat)
            generalize (l2[atN (keysL l2) ky]'hat).2 = sv at *
            generalize atN (keysL l2) ky = i at *
            clear hat hhk
            have G8 : Hid (Both Rep w w7.drew (fun b => b = gx) (.pointer (some p)) g Kv2 Vv2 m l2 l2) := Lib.hid (G7.out.below HH.out (Below.refl _ _).drew (fun _ hb => .inl hb))
            obtain ⟨A8, c8, hK8, hk8, -⟩ := G8.out.read
            have HL2 : Hid (l2.length ≤ 1000) := Lib.hid (by have := G8.out.tab.len; have := HM.out; omega)
            obtain ⟨L, hL⟩ : ∃ L, L = l2.length := ⟨_, rfl⟩
            rw [← hL] at hK8
            subst hK8
            have HLL := Lib.hid hL
            clear hL G7
            go_wp2_with fail
            refine region_mix (fun W => W.cell? ⟨g, 1, none⟩ = some (.slice A8 L c8)) [(0, true), (2, true), (3, true), (4, true), (5, true), (1, false), (6, false), (7, false)] (by kernel_rfl) (by kernel_rfl) hk8 ?_
            iterate 5
              refine m_val rfl (by rfl) _ (fun W hW => by go_simp; rfl) ?_
              simp only [Act.put, List.setIfInBounds_toArray, List.set_cons_zero, List.set_cons_succ]
            refine m_go rfl ?_
            go_wp2_with fail
            refine (G8.out.keysT HH.out).mono ?_
            rintro _ w9 ⟨A9, c9, rfl, g9, -, lst⟩
            rw [← HLL.out] at lst ⊢
            have G9 := Lib.hid g9
            have LST := Lib.hid lst
            have hk9 : w9.cell? ⟨g, 1, none⟩ = some (.slice A8 L c8) := g9.tab.row.cell (i := 1) (by omega)
            clear lst g9 hk8 G8
            go_wp2_with fail
            refine m_on hk9 ?_
            refine m_go rfl ?_
            go_wp2_with fail
            have lr := G9.out.readL
            rw [← HLL.out] at lr
            refine (refInts_same L (fun i => (keysL l2).getD i 0) _ _ w9 LST.out lr (by have := HLL.out; have := HL2.out; omega)).mono ?_
            rintro _ w10 ⟨rfl, hb10⟩
            have G10 : Hid (Both Rep w w10 (fun b => b = gx) (.pointer (some p)) g (.slice A8 L c8) Vv2 m l2 l2) := Lib.hid (G9.out.below HH.out hb10 (fun _ hb => .inl hb))
            have hk10 : w10.cell? ⟨g, 1, none⟩ = some (.slice A8 L c8) := G10.out.tab.row.cell (i := 1) (by omega)
            clear lr hb10 hk9 G9 LST
            go_wp2_with fail
            refine m_on hk10 ?_
            refine m_go rfl ?_
            go_wp2_with fail
            refine m_on hk10 ?_
            refine m_end ?_
            have G11 : Hid (Both Rep w w10.drew (fun b => b = gx) (.pointer (some p)) g (.slice A8 L c8) Vv2 m l2 l2) := Lib.hid (G10.out.below HH.out (Below.refl _ _).drew (fun _ hb => .inl hb))
            clear G10
            have hk11 : w10.drew.cell? ⟨g, 1, none⟩ = some (.slice A8 L c8) := hk10
            clear hk10
            have qi : (0 : Int) ≤ (i : Int) := by omega
            go_wp2_with fail
            refine region_mix (fun W => W.cell? ⟨g, 1, none⟩ = some (.slice A8 L c8)) [(0, true), (1, true), (2, true), (3, true), (4, true), (5, true), (6, true), (7, true), (8, true), (9, true), (11, true), (12, true), (13, true), (14, true), (15, true), (10, false), (16, false), (17, false)] (by kernel_rfl) (by kernel_rfl) hk11 ?_
            iterate 15
              refine m_val rfl (by rfl) _ (fun W hW => by go_simp; rfl) ?_
              simp only [Act.put, List.setIfInBounds_toArray, List.set_cons_zero, List.set_cons_succ]
            refine m_go rfl ?_
            go_wp2_with fail
            refine (G11.out.lenT HH.out).mono ?_
            rintro _ w12 ⟨rfl, g12, -⟩
            rw [← HLL.out]
            have G12 := Lib.hid g12
            have hk12 : w12.cell? ⟨g, 1, none⟩ = some (.slice A8 L c8) := g12.tab.row.cell (i := 1) (by omega)
            clear g12 hk11 G11
            go_wp2_with fail
            refine m_on hk12 ?_
            refine m_go rfl ?_
            go_wp2_with fail
            refine m_on hk12 ?_
            refine m_go rfl ?_
            go_wp2_with fail
            refine m_on hk12 ?_
            refine m_end ?_
            have G13 : Hid (Both Rep w w12 (fun _ => False) (.pointer (some p)) g (.slice A8 L c8) Vv2 m l2 l2) := Lib.hid (G12.out.less (fun _ hb => hb.elim))
            clear G12
            obtain ⟨Av, cv, hVv, hv12, hcv⟩ := G13.out.readV
            obtain ⟨gv, hAv, hcell⟩ := hcv (by have := HAT.out; omega)
            have x12 := hcell i _ HS.out
            subst hAv
            rw [← HLL.out] at hVv
            subst hVv
            have qL : (i : Int) < (L : Int) := by have := HAT.out; have := HLL.out; omega
            clear hcv hcell
            go_wp2
            exact ⟨⟨k + 1, l2, _, _, by omega, congrArg (Value.int .i64) (by omega), G13⟩, by simp [intOf]; omega⟩
          | false =>
            have e1 : atI l2 ky = -1 := by unfold atI; rw [hhk]; rfl
            have e2 : getL l2 ky = none := by
              have := get_some (l := l2) (k := ky)
              rw [hhk] at this
              exact Option.not_isSome_iff_eq_none.1 (by rw [this]; simp)
            go_wp2_with fail
            refine (G6.out.getT HH.out ky KOK.out).mono ?_
            rintro _ w7 ⟨rfl, g7, kp⟩
            rw [hhk, e2, Option.getD_none]
            have G7 := Lib.hid g7
            have y1 := kp.cell x1 rfl
            clear x1 kp g7 G6 Y6
            go_wp2_with fail
            refine (G7.out.atR ky).mono ?_
            rintro _ w8 ⟨rfl, rfl⟩
            rw [e1]
            clear y1 e1 e2 hhk
            have G8 : Hid (Both Rep w w7.drew (fun b => b = gx) (.pointer (some p)) g Kv2 Vv2 m l2 l2) := Lib.hid (G7.out.below HH.out (Below.refl _ _).drew (fun _ hb => .inl hb))
            obtain ⟨A8, c8, hK8, hk8, -⟩ := G8.out.read
            have HL2 : Hid (l2.length ≤ 1000) := Lib.hid (by have := G8.out.tab.len; have := HM.out; omega)
            obtain ⟨L, hL⟩ : ∃ L, L = l2.length := ⟨_, rfl⟩
            rw [← hL] at hK8
            subst hK8
            have HLL := Lib.hid hL
            clear hL G7
            go_wp2_with fail
            refine region_mix (fun W => W.cell? ⟨g, 1, none⟩ = some (.slice A8 L c8)) [(0, true), (2, true), (3, true), (4, true), (5, true), (1, false), (6, false), (7, false)] (by kernel_rfl) (by kernel_rfl) hk8 ?_
            iterate 5
              refine m_val rfl (by rfl) _ (fun W hW => by go_simp; rfl) ?_
              simp only [Act.put, List.setIfInBounds_toArray, List.set_cons_zero, List.set_cons_succ]
            refine m_go rfl ?_
            go_wp2_with fail
            refine (G8.out.keysT HH.out).mono ?_
            rintro _ w9 ⟨A9, c9, rfl, g9, -, lst⟩
            rw [← HLL.out] at lst ⊢
            have G9 := Lib.hid g9
            have LST := Lib.hid lst
            have hk9 : w9.cell? ⟨g, 1, none⟩ = some (.slice A8 L c8) := g9.tab.row.cell (i := 1) (by omega)
            clear lst g9 hk8 G8
            go_wp2_with fail
            refine m_on hk9 ?_
            refine m_go rfl ?_
            go_wp2_with fail
            have lr := G9.out.readL
            rw [← HLL.out] at lr
            refine (refInts_same L (fun i => (keysL l2).getD i 0) _ _ w9 LST.out lr (by have := HLL.out; have := HL2.out; omega)).mono ?_
            rintro _ w10 ⟨rfl, hb10⟩
            have G10 : Hid (Both Rep w w10 (fun b => b = gx) (.pointer (some p)) g (.slice A8 L c8) Vv2 m l2 l2) := Lib.hid (G9.out.below HH.out hb10 (fun _ hb => .inl hb))
            have hk10 : w10.cell? ⟨g, 1, none⟩ = some (.slice A8 L c8) := G10.out.tab.row.cell (i := 1) (by omega)
            clear lr hb10 hk9 G9 LST
            go_wp2_with fail
            refine m_on hk10 ?_
            refine m_go rfl ?_
            go_wp2_with fail
            refine m_on hk10 ?_
            refine m_end ?_
            have G11 : Hid (Both Rep w w10.drew (fun b => b = gx) (.pointer (some p)) g (.slice A8 L c8) Vv2 m l2 l2) := Lib.hid (G10.out.below HH.out (Below.refl _ _).drew (fun _ hb => .inl hb))
            clear G10
            have hk11 : w10.drew.cell? ⟨g, 1, none⟩ = some (.slice A8 L c8) := hk10
            clear hk10
            go_wp2_with fail
            refine region_mix (fun W => W.cell? ⟨g, 1, none⟩ = some (.slice A8 L c8)) [(0, true), (1, true), (2, true), (3, true), (4, true), (5, true), (6, true), (7, true), (8, true), (9, true), (11, true), (12, true), (13, true), (14, true), (15, true), (10, false), (16, false), (17, false)] (by kernel_rfl) (by kernel_rfl) hk11 ?_
            iterate 15
              refine m_val rfl (by rfl) _ (fun W hW => by go_simp; rfl) ?_
              simp only [Act.put, List.setIfInBounds_toArray, List.set_cons_zero, List.set_cons_succ]
            refine m_go rfl ?_
            go_wp2_with fail
            refine (G11.out.lenT HH.out).mono ?_
            rintro _ w12 ⟨rfl, g12, -⟩
            rw [← HLL.out]
            have G12 := Lib.hid g12
            have hk12 : w12.cell? ⟨g, 1, none⟩ = some (.slice A8 L c8) := g12.tab.row.cell (i := 1) (by omega)
            clear g12 hk11 G11
            go_wp2_with fail
            refine m_on hk12 ?_
            refine m_go rfl ?_
            go_wp2_with fail
            refine m_on hk12 ?_
            refine m_go rfl ?_
            go_wp2_with fail
            refine m_on hk12 ?_
            refine m_end ?_
            have G13 : Hid (Both Rep w w12 (fun _ => False) (.pointer (some p)) g (.slice A8 L c8) Vv2 m l2 l2) := Lib.hid (G12.out.less (fun _ hb => hb.elim))
            clear G12
            go_wp2
            exact ⟨⟨k + 1, l2, _, _, by omega, congrArg (Value.int .i64) (by omega), G13⟩, by simp [intOf]; omega⟩
      · obtain rfl : k = n := by omega
        have hb := Lib.hid hh.out.bel
        clear HV HH hh
        go_wp2
        go_ret
        exact ⟨rfl, hb.out⟩
  · have HM : Hid (¬ (1 ≤ most ∧ most ≤ 1000)) := Lib.hid hm
    clear hm
    go_wp2_with fail
    refine (HH.out.tab.new_no most w1 HM.out).mono ?_
    rintro _ w2 ⟨rfl, hb2⟩
    have B2 : Hid (Below w.heap.size w w2) := Lib.hid (B1.out.trans (hb2.mono B1.out.size))
    clear HV HH B1 hb2
    go_wp2_with fail
    refine (refNew_no most HM.out w2).mono ?_
    rintro _ w3 ⟨rfl, rfl⟩
    go_wp2
    go_ret
    exact ⟨rfl, B2.out⟩
end Go.Proofs.Ytmoepcobhapghaa.Law11
