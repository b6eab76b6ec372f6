/-
  The walk of CacheBound.
-/
import Derived.Test.YtmoepcobhapghaaLaw11Awake
import Derived.Test.YtmoepcobhapghaaOpsAt
namespace Go.Proofs.Ytmoepcobhapghaa.Law11
open Go Go.RowKit Go.Proofs.Ytmoepcobhapghaa.Aid Go.Proofs.Ytmoepcobhapghaa.Cache

set_option maxRecDepth 100000 in
set_option maxHeartbeats 4000000 in
theorem bound_any {Rep : RepI} (H : CacheHas Rep) (most : Int) (n : Nat) (X : Nat → OpV) (v : Value) (w : World) (hv : OpsAt w w.heap.size n X v) :
    Calls Try.prog 4 #[.int .i64 most, v] w fun x w' => x = .returned (.bool true) ∧ Below w.heap.size w w' := by
  obtain ⟨hok, A, c, rfl, hv⟩ := hv
  have HOK := Lib.hid hok
  have HV := Lib.hid hv
  have HH := Lib.hid H
  have AW := Lib.hid (awake_any H w)
  clear hv H hok
  go_enter Try.func4, Try.ntmps4
  go_wp2_with fail
  refine AW.out.mono ?_
  rintro _ w1 ⟨rfl, hb1⟩
  have B1 := Lib.hid hb1
  clear AW hb1
  by_cases h60 : 60 < n
  · have q : (60 : Int) < (n : Int) := by omega
    clear HV HH h60
    go_wp2
    go_ret
    exact ⟨rfl, B1.out⟩
  have q : ¬ (60 : Int) < (n : Int) := by omega
  by_cases hm : 1 ≤ most ∧ most ≤ 1000
  · obtain ⟨m, rfl⟩ : ∃ m : Nat, most = (m : Int) := ⟨most.toNat, by omega⟩
    have HM : Hid (1 ≤ m ∧ m ≤ 1000) := Lib.hid (by omega)
    have qm : (m : Int) ≤ 1000 := by omega
    clear hm
    go_wp2_with fail
    refine (HH.out.tab.newH m HM.out w w1 B1.out).mono ?_
    rintro _ w2 ⟨p, rfl, g2, -⟩
    have h2 := Lib.hid g2
    clear B1 g2
    go_wp2
    go_loopw [8] (fun i wr => ∃ (k : Nat) (l : List (Int × ByteArray)), k ≤ n ∧ i = .int .i64 (k : Int) ∧ l.length ≤ m ∧ Hid (Held Rep w wr (fun _ => False) (.pointer (some p)) m l)) (fun i _ => n - (intOf i).toNat)
    case atStart => exact ⟨0, [], by omega, rfl, Nat.zero_le _, h2⟩
    case round =>
      clear h2
      obtain ⟨k, l, hk, rfl, hl, hh⟩ := hrel
      by_cases hlt : k < n
      · obtain ⟨b, o, rfl, hbB, hc⟩ := HV.out (by omega)
        have hbel := hh.out.bel
        have c0 := (hbel.cell (p := ⟨b, o + k * 3 + 0, none⟩) hbB).trans (hc k hlt 0 _ rfl)
        have c1 := (hbel.cell (p := ⟨b, o + k * 3 + 1, none⟩) hbB).trans (hc k hlt 1 _ rfl)
        have c2 := (hbel.cell (p := ⟨b, o + k * 3 + 2, none⟩) hbB).trans (hc k hlt 2 _ rfl)
        have q0 : (0 : Int) ≤ (k : Int) := by omega
        have q1 : (k : Int) < (n : Int) := by omega
        rw [Nat.add_zero] at c0
        have KOK : Hid (okI (X k).k) := HOK.out k hlt
        generalize (X k).d = d at *
        generalize (X k).k = ky at *
        generalize (X k).s = s at *
        clear hc HV hbel
        go_wp2_with fail
        have hb0 : Below wr.heap.size wr (wr.alloc (.cells #[.int .i64 d, .int .i64 ky, .string s] 32)) := (Below.refl _ _).alloc (Nat.le_refl _) _
        have G0 := Lib.hid (HH.out.tab.more (K' := fun b => b = wr.heap.size) hh.out hb0 (fun b hb => .inr (by rw [hb]; simp)))
        have e0 : (wr.alloc (.cells #[.int .i64 d, .int .i64 ky, .string s] 32)).cell? ⟨wr.heap.size, 0, none⟩ = some (.int .i64 d) := by go_simp
        have e1 : (wr.alloc (.cells #[.int .i64 d, .int .i64 ky, .string s] 32)).cell? ⟨wr.heap.size, 1, none⟩ = some (.int .i64 ky) := by go_simp
        have e2 : (wr.alloc (.cells #[.int .i64 d, .int .i64 ky, .string s] 32)).cell? ⟨wr.heap.size, 2, none⟩ = some (.string s) := by go_simp
        clear hh hb0 c0 c1 c2
        generalize wr.alloc (.cells #[.int .i64 d, .int .i64 ky, .string s] 32) = W0 at *
        generalize wr.heap.size = g at *
        refine (HH.out.keysH G0.out).mono ?_
        rintro _ w3 ⟨Ak, ck, rfl, kp, r, g4, lst⟩
        have x0 := kp.cell e0 rfl
        have x1 := kp.cell e1 rfl
        have x2 := kp.cell e2 rfl
        have G4 := Lib.hid g4
        have LST := Lib.hid lst
        clear e0 e1 e2 kp g4 lst G0
        by_cases hd : d = 1
        · subst hd
          go_wp2_with fail
          refine (HH.out.tab.dropH G4.out ky KOK.out).mono ?_
          rintro _ w4 ⟨rfl, g5, kp⟩
          have y1 := kp.cell x1 (.inr rfl)
          have G5 := Lib.hid g5
          clear x0 x1 x2 kp g5 G4 LST
          go_wp2_with fail
          refine (HH.out.tab.getH G5.out ky KOK.out).mono ?_
          rintro _ w5 ⟨rfl, g6, kp⟩
          have G6 := Lib.hid (g6.less (K' := fun _ => False) (fun _ h => h.elim))
          rw [show hasK (keysL (dropL l ky)) ky = false by rw [keys_drop]; exact has_drop _ _]
          clear y1 kp g6 G5
          have hl2 : (dropL l ky).length ≤ m := Nat.le_trans (List.length_filter_le _ _) hl
          go_wp2
          exact ⟨⟨k + 1, dropL l ky, by omega, congrArg (Value.int .i64) (by omega), hl2, G6⟩, by simp [intOf]; omega⟩
        · have hd' : (d == 1) = false := by simp [hd]
          go_wp2_with fail
          refine (HH.out.tab.putH G4.out ky s KOK.out).mono ?_
          rintro _ w4 ⟨rfl, g5, kp⟩
          have y1 := kp.cell x1 (.inr rfl)
          have y2 := kp.cell x2 (.inr rfl)
          have G5 := Lib.hid g5
          have KP := Lib.hid kp
          clear x0 x1 x2 kp g5 G4
          go_wp2_with fail
          refine (HH.out.tab.getH G5.out ky KOK.out).mono ?_
          rintro _ w5 ⟨rfl, g6, kp⟩
          have z2 := kp.cell y2 (.inr rfl)
          have G6 := Lib.hid g6
          have KP2 := Lib.hid (KP.out.trans kp)
          rw [show hasK (keysL (putL m l ky s)) ky = true by rw [keys_put]; exact has_put _ _ _, get_put, Option.getD_some]
          clear y1 y2 kp g6 G5 KP
          go_wp2_with fail
          refine (HH.out.tab.lenH G6.out).mono ?_
          rintro _ w6 ⟨rfl, g7, kp⟩
          have G7 := Lib.hid g7
          have KP3 := Lib.hid (KP2.out.trans kp)
          have hl2 : (putL m l ky s).length ≤ m := by have := len_put m (keysL l) ky (by rw [keys_len]; exact hl) HM.out.1; rwa [← keys_put, keys_len] at this
          obtain ⟨L2, hL2⟩ : ∃ L2, L2 = (putL m l ky s).length := ⟨_, rfl⟩
          rw [← hL2] at hl2 ⊢
          have HL2 := Lib.hid hL2
          have q5 : ¬ (m : Int) < (L2 : Int) := by omega
          obtain ⟨L1, hL1⟩ : ∃ L1, L1 = l.length := ⟨_, rfl⟩
          have HL1 := Lib.hid hL1
          rw [← hL1] at LST ⊢
          clear z2 kp g7 G6 KP2 hL2 hL1
          cases hg : goneB m (keysL l) ky with
          | true =>
            have hlm := gone_len hg
            rw [keys_len, ← HL1.out] at hlm
            have q6 : ((L1 : Int) == (m : Int)) = true := by simp [hlm]
            have hgk : goneK 0 m (keysL l) ky = (keysL l).getD 0 0 := by
              rw [gone_head hg]
              cases keysL l <;> rfl
            rw [hgk]
            obtain ⟨A', c', hA, _, hcell⟩ := LST.out w6 (fun b hb => KP3.out b (.inl hb))
            simp only [Value.slice.injEq, true_and] at hA
            obtain ⟨rfl, rfl⟩ := hA
            have hm1 := HM.out.1
            obtain ⟨gk, ok, rfl, hcc⟩ := hcell (by omega)
            have x0 : w6.cell? ⟨gk, ok, none⟩ = some (.int .i64 ((keysL l).getD 0 0)) := by have := hcc 0 (by omega); rwa [Nat.add_zero] at this
            have q7 : (0 : Int) < (L1 : Int) := by omega
            have hle : Hid ((putL m l ky s).length ≤ m) := Lib.hid (by rw [← HL2.out]; exact hl2)
            generalize (keysL l).getD 0 0 = kz at *
            have G8 := Lib.hid (G7.out.less (K' := fun _ => False) (fun _ h => h.elim))
            clear hcc hcell LST KP3 G7 hg hgk
            go_wp2
            exact ⟨⟨k + 1, putL m l ky s, by omega, congrArg (Value.int .i64) (by omega), hle.out, G8⟩, by simp [intOf]; omega⟩
          | false =>
            have hge : L1 ≤ L2 := by
              have := len_more m (keysL l) ky hg
              rwa [← keys_put, keys_len, keys_len, ← HL1.out, ← HL2.out] at this
            have hle : Hid ((putL m l ky s).length ≤ m) := Lib.hid (by rw [← HL2.out]; exact hl2)
            clear LST KP3 hg
            go_wp2_with fail
            refine (HH.out.keysH G7.out).mono ?_
            rintro _ w7 ⟨A9, c9, rfl, -, r9, g9, -⟩
            rw [← HL2.out]
            have q8 : ¬ (L2 : Int) < (L1 : Int) := by omega
            have G9 := Lib.hid (g9.less (K' := fun _ => False) (fun _ h => h.elim))
            clear g9 G7
            go_wp2
            exact ⟨⟨k + 1, putL m l ky s, by omega, congrArg (Value.int .i64) (by omega), hle.out, G9⟩, by simp [intOf]; omega⟩
      · obtain rfl : k = n := by omega
        have hb := Lib.hid hh.out.bel
        clear HV HH hh
        go_wp2
        go_ret
        exact ⟨rfl, hb.out⟩
  · have HM : Hid (¬ (1 ≤ most ∧ most ≤ 1000)) := Lib.hid hm
    go_wp2_with fail
    refine (HH.out.tab.new_no most w1 HM.out).mono ?_
    rintro _ w2 ⟨rfl, hb2⟩
    have B2 : Hid (Below w.heap.size w w2) := Lib.hid (B1.out.trans (hb2.mono B1.out.size))
    clear HV HH B1 hb2
    by_cases hm1 : most < 1
    · clear hm
      go_wp2
      go_ret
      exact ⟨rfl, B2.out⟩
    · have hm2 : (1000 : Int) < most := by omega
      clear hm
      go_wp2
      go_ret
      exact ⟨rfl, B2.out⟩
end Go.Proofs.Ytmoepcobhapghaa.Law11
