/-
  The walk of StoreDown.
-/
import Derived.Test.YthacldkmjpjgiaaLaw13Sure
namespace Go.Proofs.Ythacldkmjpjgiaa.Law13
open Go Go.RowKit Go.Proofs.Ythacldkmjpjgiaa.Aid Go.Proofs.Ythacldkmjpjgiaa.Cache Go.Proofs.Ythacldkmjpjgiaa.Store

theorem burn_off {s : St} (h : power s = false) : burnS s = { s with down := true } := by
  unfold power at h
  unfold burnS
  rw [if_pos]
  cases hd : s.down with
  | true => exact .inl rfl
  | false =>
    rw [hd] at h
    exact .inr (by simpa using h)
theorem power_off {s : St} (h : power s = false) : power (burnS s) = false := by
  rw [burn_off h]
  rfl
theorem fuse_off (s : St) : power (fuseS s 0) = false := by
  unfold power fuseS
  show (!(s.down || decide (max (0 : Int) (-1) = 0))) = false
  rw [show decide (max (0 : Int) (-1) = 0) = true from rfl, Bool.or_true]
  rfl
theorem down_code {m : Nat} {s : St} (h : power s = false) {d : Int} (hd : 0 ≤ d ∧ d ≤ 2) (k : Int) (n : Nat) : doC m s d k n = 8 := by
  have hp : ¬ power s = true := by rw [h]; exact Bool.false_ne_true
  unfold doC
  rcases (show d = 0 ∨ d = 1 ∨ d = 2 by omega) with rfl | rfl | rfl
  · rw [if_pos rfl]; unfold appC; rw [if_neg hp]
  · rw [if_neg (by omega), if_pos rfl]; unfold syncC; rw [if_neg hp]
  · rw [if_neg (by omega), if_neg (by omega), if_pos rfl]; unfold repC; rw [if_neg hp]
theorem down_state {m : Nat} {s : St} (h : power s = false) {d : Int} (hd : 0 ≤ d ∧ d ≤ 2) (k : Int) (n : Nat) (e : Nat → BitVec 8) : doS m s d k n e = burnS s := by
  have hp : ¬ power s = true := by rw [h]; exact Bool.false_ne_true
  unfold doS
  rcases (show d = 0 ∨ d = 1 ∨ d = 2 by omega) with rfl | rfl | rfl
  · rw [if_pos rfl]; unfold appS; rw [if_neg (fun h => hp h.1)]
  · rw [if_neg (by omega), if_pos rfl]; unfold syncS; rw [if_neg hp]
  · rw [if_neg (by omega), if_neg (by omega), if_pos rfl]; unfold repS; rw [if_neg (fun h => hp h.1)]
set_option maxRecDepth 100000 in
set_option maxHeartbeats 4000000 in
theorem down_any {Rep : RepSt} (H : StoreHas Rep) (n : Nat) (X : Nat → OpT) (v : Value) (n2 : Nat) (X2 : Nat → OpT) (v2 : Value) (w : World) (hv : OpsTIn w n X v) (hv2 : OpsTIn w n2 X2 v2) :
    Calls Try.prog 5 #[v, v2] w fun x w' => x = .returned (.bool true) ∧ Below w.heap.size w w' := by
  have SZ := Lib.hid (fun w1 hb => size_any n X v w1 w hv hb)
  have SZ2 := Lib.hid (fun w1 hb => size_any n2 X2 v2 w1 w hv2 hb)
  obtain ⟨A, c, rfl, hr⟩ := hv.rows
  obtain ⟨Ab, cb, rfl, hr2⟩ := hv2.rows
  have HV := Lib.hid hr
  have HLT := Lib.hid hv.lt
  have HV2 := Lib.hid hr2
  have HLT2 := Lib.hid hv2.lt
  have HH := Lib.hid H
  have AW := Lib.hid (awake_in H w)
  clear hv hr H hv2 hr2
  go_enter Try.func5, Try.ntmps5
  go_wp2_with fail
  refine AW.out.mono ?_
  rintro _ w1 ⟨rfl, hb1⟩
  have B1 := Lib.hid hb1
  clear AW hb1
  go_wp2_with fail
  refine (SZ.out w1 B1.out).mono ?_
  rintro _ w2 ⟨s, rfl, hb2, hsz, hsm⟩
  have B2 : Hid (Below w.heap.size w w2) := Lib.hid (B1.out.trans (hb2.mono B1.out.size))
  have HSZ := Lib.hid hsz
  have HSM := Lib.hid hsm
  clear B1 hb2 hsz SZ hsm
  by_cases hs : 2000 < s
  · have q : (2000 : Int) < (s : Int) := by omega
    clear HV HH HLT HSZ HSM HV2 HLT2 SZ2
    go_wp2
    go_ret
    exact ⟨rfl, B2.out⟩
  have q : ¬ (2000 : Int) < (s : Int) := by omega
  have HS2 := Lib.hid (HSZ.out (by omega))
  have HS3 := Lib.hid (HSM.out (by omega))
  clear HSZ HSM
  go_wp2_with fail
  refine (SZ2.out w2 B2.out).mono ?_
  rintro _ w3 ⟨sb, rfl, hb3, hsz, -⟩
  have B3 : Hid (Below w.heap.size w w3) := Lib.hid (B2.out.trans (hb3.mono B2.out.size))
  have HSZ := Lib.hid hsz
  clear B2 hb3 hsz SZ2
  by_cases hsb : 2000 < sb
  · have qb : (2000 : Int) < (sb : Int) := by omega
    clear HV HH HLT HSZ HV2 HLT2 HS2 HS3
    go_wp2
    go_ret
    exact ⟨rfl, B3.out⟩
  have qb : ¬ (2000 : Int) < (sb : Int) := by omega
  have HT2 := Lib.hid (HSZ.out (by omega))
  clear HSZ
  go_wp2_with fail
  refine (HH.out.form.newH 1048576 (Nat.le_refl _) w w3 B3.out).mono ?_
  rintro _ w4 ⟨p, rfl, g3, -⟩
  have G4 := Lib.hid g3
  clear g3 B3
  go_wp2
  go_loopw [8] (fun i wr => ∃ (k : Nat) (s : St), k ≤ n ∧ i = .int .i64 (k : Int) ∧ Hid (s.n ≤ sumN X k) ∧ Hid (Held Rep w wr (fun _ => False) (.pointer (some p)) 1048576 s)) (fun i _ => n - (intOf i).toNat)
  case atStart => exact ⟨0, st0, by omega, rfl, Lib.hid (Nat.le_refl _), G4⟩
  case round =>
    clear G4
    obtain ⟨k, s, hk, rfl, hsum, hh⟩ := hrel
    by_cases hlt : k < n
    · obtain ⟨b, o, rfl, hbB, hc⟩ := HV.out (by omega)
      have hbel := hh.out.bel
      obtain ⟨bA, bc, hbv⟩ := (HLT.out k hlt).shape
      have hread := (HLT.out k hlt).read
      have c0 := (hbel.cell (p := ⟨b, o + k * 3, none⟩) hbB).trans (hc k hlt 0 _ rfl)
      have c1 := (hbel.cell (p := ⟨b, o + k * 3 + 1, none⟩) hbB).trans (hc k hlt 1 _ rfl)
      have c2 := (hbel.cell (p := ⟨b, o + k * 3 + 2, none⟩) hbB).trans (hc k hlt 2 _ rfl)
      rw [hbv] at c2 hread
      have q0 : (0 : Int) ≤ (k : Int) := by omega
      have q1 : (k : Int) < (n : Int) := by omega
      have HX : Hid ((X k).n ≤ 2000) := Lib.hid (HS2.out.2 k hlt)
      have HK : Hid (-9223372036854775808 ≤ (X k).k ∧ (X k).k ≤ 9223372036854775807) := Lib.hid (HLT.out k hlt).k
      have HRD := Lib.hid hread
      have HSU : Hid (s.n + (X k).n ≤ sumN X (k + 1)) := Lib.hid (by have := hsum.out; show s.n + (X k).n ≤ sumN X k + (X k).n; omega)
      generalize (X k).d = d at *
      generalize (X k).k = kk at *
      generalize (X k).e = e at *
      generalize hxn : (X k).n = bn at *
      clear hc HV hbel hbv hread HLT hxn hsum HV2 HLT2
      have G0 := hh
      clear hh
      go_wp2_with fail
      refine (held_do HH.out G0.out d kk bn e bA bc ((bytes_old HRD.out G0.out.bel).less (fun b _ h => .inl h)) HX.out HK.out).mono ?_
      rintro _ w5 ⟨rfl, g5, -⟩
      have HSN : Hid ((doS 1048576 s d kk bn e).n ≤ sumN X (k + 1)) := Lib.hid (Nat.le_trans (doS_n (HH.out.form.okH G0.out) d kk bn e) HSU.out)
      have G5 := Lib.hid g5
      clear g5 G0 c0 c1 c2 HRD HSU
      generalize doC 1048576 s d kk bn = cd at *
      generalize doS 1048576 s d kk bn e = s2 at *
      have HW5 : Hid (wrap64 ((k : Int) + 1) = ((k + 1 : Nat) : Int)) := Lib.hid ((wrap64_id (by omega) (by have := HS2.out.1; omega)).trans (by omega))
      go_wp2
      rw [HW5.out]
      exact ⟨⟨k + 1, s2, by omega, rfl, HSN, G5⟩, by simp [intOf]; omega⟩
    · obtain rfl : k = n := by omega
      have HN : Hid (s.n ≤ 2000) := Lib.hid (Nat.le_trans hsum.out HS3.out)
      have G0 := hh
      clear HV hh HLT HS2 HS3 hsum
      go_wp2_with fail
      refine (HH.out.readH G0.out).mono ?_
      rintro _ w5 ⟨bv, r5, rfl, -, g5, by5, -⟩
      obtain ⟨A5, c5, hbv, hc5, hr5⟩ := by5
      subst hbv
      have Y5 : Hid (BytesIn w5 r5 s.n s.e (.slice A5 s.n c5)) := Lib.hid ⟨A5, c5, rfl, hc5, hr5⟩
      have G5 := Lib.hid g5
      clear g5 hc5 hr5 G0
      go_wp2_with fail
      refine (HH.out.form.fuseH G5.out 0 (by omega) (by omega)).mono ?_
      rintro _ w6 ⟨rfl, g6, kp6⟩
      have Y6 := Lib.hid (BytesIn_kept Y5.out kp6 (fun b hb => .inl hb))
      have G6 := Lib.hid g6
      have HOFF := Lib.hid (fuse_off s)
      have HFN : Hid ((fuseS s 0).n = s.n ∧ (fuseS s 0).e = s.e) := Lib.hid ⟨rfl, rfl⟩
      clear g6 kp6 Y5 G5
      generalize fuseS s 0 = t0 at *
      go_wp2
      go_loopw [10] (fun i wr => ∃ (k : Nat) (t : St), k ≤ n2 ∧ i = .int .i64 (k : Int) ∧ Hid (power t = false ∧ t.n = s.n ∧ t.e = s.e) ∧ Hid (BytesIn wr r5 s.n s.e (.slice A5 s.n c5)) ∧ Hid (Held Rep w wr (fun b => r5 b ∨ False) (.pointer (some p)) 1048576 t)) (fun i _ => n2 - (intOf i).toNat)
      case atStart => exact ⟨0, t0, by omega, rfl, Lib.hid ⟨HOFF.out, HFN.out.1, HFN.out.2⟩, Y6, G6⟩
      case round =>
        clear G6 Y6 HOFF HFN
        obtain ⟨k2, t, hk2, rfl, hoff, hby, hh⟩ := hrel
        by_cases hlt2 : k2 < n2
        · obtain ⟨b, o, rfl, hbB, hc⟩ := HV2.out (by omega)
          have hbel := hh.out.bel
          obtain ⟨bA, bc, hbv⟩ := (HLT2.out k2 hlt2).shape
          have hread := (HLT2.out k2 hlt2).read
          have c0 := (hbel.cell (p := ⟨b, o + k2 * 3, none⟩) hbB).trans (hc k2 hlt2 0 _ rfl)
          have c1 := (hbel.cell (p := ⟨b, o + k2 * 3 + 1, none⟩) hbB).trans (hc k2 hlt2 1 _ rfl)
          have c2 := (hbel.cell (p := ⟨b, o + k2 * 3 + 2, none⟩) hbB).trans (hc k2 hlt2 2 _ rfl)
          rw [hbv] at c2 hread
          have q0 : (0 : Int) ≤ (k2 : Int) := by omega
          have q1 : (k2 : Int) < (n2 : Int) := by omega
          have HX : Hid ((X2 k2).n ≤ 2000) := Lib.hid (HT2.out.2 k2 hlt2)
          have HK : Hid (-9223372036854775808 ≤ (X2 k2).k ∧ (X2 k2).k ≤ 9223372036854775807) := Lib.hid (HLT2.out k2 hlt2).k
          have HRD := Lib.hid hread
          have HW5 : Hid (wrap64 ((k2 : Int) + 1) = ((k2 + 1 : Nat) : Int)) := Lib.hid ((wrap64_id (by omega) (by have := HT2.out.1; omega)).trans (by omega))
          generalize (X2 k2).d = d at *
          generalize (X2 k2).k = kk at *
          generalize (X2 k2).e = e at *
          generalize (X2 k2).n = bn at *
          clear hc HV2 hbel hbv hread HLT2 hlt
          by_cases hd : 0 ≤ d ∧ d ≤ 2
          · have d0 : ¬ d < 0 := by omega
            have d2 : ¬ (2 : Int) < d := by omega
            have HC8 := Lib.hid (down_code (m := 1048576) hoff.out.1 hd kk bn)
            have HS8 := Lib.hid (down_state (m := 1048576) hoff.out.1 hd kk bn e)
            have HO8 := Lib.hid (power_off hoff.out.1)
            have HN8 := Lib.hid (burn_n t)
            have HF8 := Lib.hid hoff.out.2
            have G7 := hh
            have Y7 := hby
            clear hd hoff hh hby
            go_wp2_with fail
            refine (held_do HH.out G7.out d kk bn e bA bc ((bytes_old HRD.out G7.out.bel).less (fun b _ h => .inl h)) HX.out HK.out).mono ?_
            rintro _ w8 ⟨rfl, g8, kp8⟩
            rw [HC8.out]
            rw [HS8.out] at g8
            have Y8 := Lib.hid (BytesIn_kept Y7.out kp8 (fun b hb => .inl hb))
            have G8 := Lib.hid g8
            have HB8 : Hid (power (burnS t) = false ∧ (burnS t).n = s.n ∧ (burnS t).e = s.e) := Lib.hid ⟨HO8.out, HN8.out.1.trans HF8.out.1, HN8.out.2.1.trans HF8.out.2⟩
            clear g8 kp8 G7 Y7 HC8 HS8 HO8 HN8 HF8 c0 c1 c2 HRD
            generalize burnS t = t8 at *
            go_wp2
            rw [HW5.out]
            exact ⟨⟨k2 + 1, t8, by omega, rfl, HB8, Y8, G8⟩, by simp [intOf]; omega⟩
          · by_cases d0 : d < 0
            · clear hd c1 c2 HRD
              go_wp2
              rw [HW5.out]
              exact ⟨⟨k2 + 1, t, by omega, rfl, hoff, hby, hh⟩, by simp [intOf]; omega⟩
            · have d2 : (2 : Int) < d := by omega
              clear hd c1 c2 HRD
              go_wp2
              rw [HW5.out]
              exact ⟨⟨k2 + 1, t, by omega, rfl, hoff, hby, hh⟩, by simp [intOf]; omega⟩
        · obtain rfl : k2 = n2 := by omega
          have G7 := hh
          have Y7 := hby
          have HO7 := hoff
          clear hh hby hoff HV2 HLT2
          go_wp2_with fail
          refine (HH.out.readH G7.out).mono ?_
          rintro _ w8 ⟨bv, r8, rfl, kp8, g8, by8, -⟩
          rw [HO7.out.2.1, HO7.out.2.2] at by8
          obtain ⟨A8, c8, hbv, hc8, hr8⟩ := by8
          subst hbv
          have Y8 : Hid (BytesIn w8 r8 s.n s.e (.slice A8 s.n c8)) := Lib.hid ⟨A8, c8, rfl, hc8, hr8⟩
          have Z8 := Lib.hid (BytesIn_kept Y7.out kp8 (fun b hb => .inl hb))
          have B8 : Hid (∀ q, Below w.heap.size w (w8.drewN q)) := Lib.hid (fun q => drewN_below13 g8.bel q)
          clear g8 hc8 hr8 kp8 G7 Y7 HO7
          go_wp2_with fail
          refine (Go.Proofs.Ythacldkmjpjgiaa.Mac.same_gen A8 A5 s.n s.n c8 c5 s.e s.e _ _ w8 Y8.out.slice Z8.out.slice (by have := HN.out; omega) (by have := HN.out; omega)).mono ?_
          rintro _ w9 ⟨rfl, q9, rfl⟩
          rw [Go.Proofs.Ythacldkmjpjgiaa.Mac.same_refl s.e s.e s.n (fun j _ => rfl)]
          have B9 := Lib.hid (B8.out q9)
          clear B8 Y8 Z8
          go_wp2
          go_ret
          exact ⟨rfl, B9.out⟩
end Go.Proofs.Ythacldkmjpjgiaa.Law13
