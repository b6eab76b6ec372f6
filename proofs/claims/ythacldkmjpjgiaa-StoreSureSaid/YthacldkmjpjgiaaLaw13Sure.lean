/-
  The walk of StoreSure.
-/
import Derived.Test.YthacldkmjpjgiaaLaw13Does
import Derived.Test.YthacldkmjpjgiaaCutAny
namespace Go.Proofs.Ythacldkmjpjgiaa.Law13
open Go Go.RowKit Go.Proofs.Ythacldkmjpjgiaa.Aid Go.Proofs.Ythacldkmjpjgiaa.Cache Go.Proofs.Ythacldkmjpjgiaa.Store

theorem BytesIn_kept {W W' : World} {P X : Nat → Prop} {n : Nat} {e : Nat → BitVec 8} {v : Value} (h : BytesIn W P n e v) (hk : Keep X W W') (hP : ∀ b, P b → X b) : BytesIn W' P n e v := h.keep (fun b _ hb => hk b (hP b hb))
theorem crash_again (s : St) (k : Int) : (crashS (crashS s k) 0).n = (crashS s k).n := by
  show crashN (crashS s k) 0 = crashN s k
  unfold crashN
  rw [if_neg (by show ¬ (0 : Int) < (crashN s k : Int) - (crashN s k : Int); omega)]
  rfl
theorem two_crash {Rep : RepSt} {w0 W : World} {X : Nat → Prop} {a b : Value} {m : Nat} {s sb : St} (H : StoreHas Rep) (h : Two Rep RefSt w0 W X a b m s sb) (k : Int) (hk : -9223372036854775808 ≤ k ∧ k ≤ 9223372036854775807) :
    Calls Try.prog 14 #[a, .int .i64 k] W fun x W' => x = .returned (.tuple #[]) ∧ Two Rep RefSt w0 W' X a b m (crashS s k) sb ∧ Keep X W W' := by
  obtain ⟨FA, FB, h⟩ := h
  exact (H.form.crash k h.ra hk.1 hk.2).mono (fun x W' ⟨h1, h2⟩ => ⟨h1, H.form.mv2 refForm13.keep h h2⟩)
theorem sum_mono (X : Nat → OpT) (k j : Nat) : sumN X k ≤ sumN X (k + j) := by
  induction j with
  | zero => exact Nat.le_refl _
  | succ j ih => exact Nat.le_trans ih (Nat.le_add_right _ _)
set_option maxRecDepth 100000 in
set_option maxHeartbeats 4000000 in
theorem sure_any {Rep : RepSt} (H : StoreHas Rep) (kept : Int) (hkept : -9223372036854775808 ≤ kept ∧ kept ≤ 9223372036854775807) (n : Nat) (X : Nat → OpT) (v : Value) (w : World) (hv : OpsTIn w n X v) :
    Calls Try.prog 4 #[v, .int .i64 kept] w fun x w' => x = .returned (.bool true) ∧ Below w.heap.size w w' := by
  have SZ := Lib.hid (fun w1 hb => size_any n X v w1 w hv hb)
  obtain ⟨A, c, rfl, hr⟩ := hv.rows
  have HV := Lib.hid hr
  have HLT := Lib.hid hv.lt
  have HH := Lib.hid H
  have HKE := Lib.hid hkept
  have AW := Lib.hid (awake_in H w)
  clear hv hr H hkept
  go_enter Try.func4, Try.ntmps4
  go_wp2_with fail
  refine AW.out.mono ?_
  rintro _ w1 ⟨rfl, hb1⟩
  have B1 := Lib.hid hb1
  clear AW hb1
  go_wp2_with fail
  refine (SZ.out w1 B1.out).mono ?_
  rintro _ w2 ⟨s, rfl, hb2, hsz, hsm⟩
  have B2 : Hid (Below w.heap.size w w2) := Lib.hid (B1.out.trans (hb2.mono B1.out.size))
  have HSZ := Lib.hid hsz
  have HSM := Lib.hid hsm
  clear B1 hb2 hsz SZ hsm
  by_cases hs : 2000 < s
  · have q : (2000 : Int) < (s : Int) := by omega
    clear HV HH HLT HSZ HSM
    go_wp2
    go_ret
    exact ⟨rfl, B2.out⟩
  have q : ¬ (2000 : Int) < (s : Int) := by omega
  have HS2 := Lib.hid (HSZ.out (by omega))
  have HS3 := Lib.hid (HSM.out (by omega))
  clear HSZ HSM
  go_wp2_with fail
  refine (HH.out.form.newH 1048576 (Nat.le_refl _) w w2 B2.out).mono ?_
  rintro _ w3 ⟨p, rfl, g3, hb3⟩
  have G3 := Lib.hid g3
  clear g3 hb3 B2
  go_wp2_with fail
  refine (refNew13_ok 1048576 w3 (Nat.le_refl _)).mono ?_
  rintro _ w4 ⟨rv, F4, rfl, h4, hF4, hb4⟩
  have h5 := h4
  obtain ⟨g, Bv5, rfl, -⟩ := h5
  have G4 : Hid (Two Rep RefSt w w4 (fun _ => False) (.pointer (some p)) (.pointer (some ⟨g, 0, none⟩)) 1048576 st0 st0) := Lib.hid (Two.start G3.out HH.out.form.keep h4 (refForm13.lt h4) hF4 hb4)
  clear h4 hF4 hb4 G3
  go_wp2
  go_loopw [10] (fun i wr => ∃ (k : Nat) (s : St), k ≤ n ∧ i = .int .i64 (k : Int) ∧ Hid (s.n ≤ sumN X k) ∧ Hid (Two Rep RefSt w wr (fun _ => False) (.pointer (some p)) (.pointer (some ⟨g, 0, none⟩)) 1048576 s s)) (fun i _ => n - (intOf i).toNat)
  case atStart => exact ⟨0, st0, by omega, rfl, Lib.hid (Nat.le_refl _), G4⟩
  case round =>
    clear G4
    obtain ⟨k, s, hk, rfl, hsum, hh⟩ := hrel
    by_cases hlt : k < n
    · obtain ⟨b, o, rfl, hbB, hc⟩ := HV.out (by omega)
      have hbel := hh.out.bel
      obtain ⟨bA, bc, hbv⟩ := (HLT.out k hlt).shape
      have hread := (HLT.out k hlt).read
      have c0 := (hbel.cell (p := ⟨b, o + k * 3, none⟩) hbB).trans (hc k hlt 0 _ rfl)
      have c1 := (hbel.cell (p := ⟨b, o + k * 3 + 1, none⟩) hbB).trans (hc k hlt 1 _ rfl)
      have c2 := (hbel.cell (p := ⟨b, o + k * 3 + 2, none⟩) hbB).trans (hc k hlt 2 _ rfl)
      rw [hbv] at c2 hread
      have q0 : (0 : Int) ≤ (k : Int) := by omega
      have q1 : (k : Int) < (n : Int) := by omega
      have HX : Hid ((X k).n ≤ 2000) := Lib.hid (HS2.out.2 k hlt)
      have HK : Hid (-9223372036854775808 ≤ (X k).k ∧ (X k).k ≤ 9223372036854775807) := Lib.hid (HLT.out k hlt).k
      have HRD := Lib.hid hread
      have HC1 : Hid (∀ W, Below w.heap.size w W → W.cell? ⟨b, o + k * 3, none⟩ = some (.int .i64 (X k).d) ∧ W.cell? ⟨b, o + k * 3 + 1, none⟩ = some (.int .i64 (X k).k) ∧ W.cell? ⟨b, o + k * 3 + 2, none⟩ = some (.slice bA (X k).n bc)) := Lib.hid (fun W hW => ⟨(hW.cell (p := ⟨b, o + k * 3, none⟩) hbB).trans (hc k hlt 0 _ rfl), (hW.cell (p := ⟨b, o + k * 3 + 1, none⟩) hbB).trans (hc k hlt 1 _ rfl), by rw [← hbv]; exact (hW.cell (p := ⟨b, o + k * 3 + 2, none⟩) hbB).trans (hc k hlt 2 _ rfl)⟩)
      have HSU : Hid (s.n + (X k).n ≤ sumN X (k + 1)) := Lib.hid (by have := hsum.out; show s.n + (X k).n ≤ sumN X k + (X k).n; omega)
      generalize (X k).d = d at *
      generalize (X k).k = kk at *
      generalize (X k).e = e at *
      generalize hxn : (X k).n = bn at *
      clear hc HV hbel hbv hread HLT hxn hsum
      have G0 := hh
      clear hh
      go_wp2_with fail
      refine (two_do HH.out G0.out d kk bn e bA bc ((bytes_old HRD.out G0.out.bel).less (fun b _ h => .inl h)) HX.out HK.out).mono ?_
      rintro _ w5 ⟨rfl, g5, -⟩
      have G5 := Lib.hid g5
      obtain ⟨c0, c1, c2⟩ := HC1.out w5 g5.bel
      clear g5 G0
      generalize doC 1048576 s d kk bn = cd at *
      go_wp2_with fail
      refine (two_told HH.out G5.out d kk bn e bA bc ((bytes_old HRD.out G5.out.bel).less (fun b _ h => .inl h)) HX.out HK.out).mono ?_
      rintro _ w6 ⟨rfl, g6, -⟩
      generalize doC 1048576 s d kk bn = cd at *
      have HSN : Hid ((doS 1048576 s d kk bn e).n ≤ sumN X (k + 1)) := Lib.hid (Nat.le_trans (doS_n (two_okB G5.out) d kk bn e) HSU.out)
      have G6 := Lib.hid g6
      clear g6 G5 c0 c1 c2 HC1 HRD HSU
      generalize doS 1048576 s d kk bn e = s2 at *
      have HW5 : Hid (wrap64 ((k : Int) + 1) = ((k + 1 : Nat) : Int)) := Lib.hid ((wrap64_id (by omega) (by have := HS2.out.1; omega)).trans (by omega))
      go_wp2
      rw [HW5.out]
      exact ⟨⟨k + 1, s2, by omega, rfl, HSN, G6⟩, by simp [intOf]; omega⟩
    · obtain rfl : k = n := by omega
      have HN : Hid (s.n ≤ 2000) := Lib.hid (Nat.le_trans hsum.out HS3.out)
      have G0 := hh
      have HOK := Lib.hid (two_okB hh.out)
      clear HV hh HLT HS2 HS3 hsum
      go_wp2_with fail
      refine (two_read13 HH.out G0.out).mono ?_
      rintro _ w5 ⟨A5, c5, r5, rfl, g5, -, by5, -, -⟩
      have G5 := Lib.hid g5
      have Y5 := Lib.hid by5
      clear g5 by5 G0
      go_wp2_with fail
      refine (two_crash HH.out G5.out kept HKE.out).mono ?_
      rintro _ w6 ⟨rfl, g6, kp6⟩
      have Y6 := Lib.hid (BytesIn_kept Y5.out kp6 (fun b hb => .inl hb))
      have G6 := Lib.hid g6
      clear g6 kp6 Y5 G5
      have HCN := Lib.hid (crash_le HOK.out kept)
      have HCE : Hid ((crashS s kept).e = s.e) := Lib.hid rfl
      have HCC : Hid (crashN s kept = (crashS s kept).n) := Lib.hid rfl
      have HAG := Lib.hid (crash_again s kept)
      have HAE : Hid ((crashS (crashS s kept) 0).e = s.e) := Lib.hid rfl
      go_wp2_with fail
      refine (two_read13 HH.out G6.out).mono ?_
      rintro _ w7 ⟨A7, c7, r7, rfl, g7, kp7, by7, -, -⟩
      have Y7 := Lib.hid (BytesIn_kept Y6.out kp7 (fun b hb => .inl hb))
      have Z7 := Lib.hid by7
      have G7 := Lib.hid g7
      obtain ⟨_, _, -, e1, -⟩ := two_row g7
      clear g7 kp7 by7 Y6 G6
      generalize crashS s kept = t at *
      have HT : Hid (s.sure ≤ t.n ∧ t.n ≤ s.n) := Lib.hid (by have := HCN.out; rw [HCC.out] at this; exact ⟨this.2, this.1⟩)
      have u0 : ¬ (s.n : Int) < (t.n : Int) := by have := HT.out.2; omega
      have u1 : ¬ (t.n : Int) < (s.sure : Int) := by have := HT.out.1; omega
      obtain ⟨A8, by8, run8⟩ := Y7.out.cut (k := t.n) HT.out.2
      have Z8 := Lib.hid by8
      have run8' := run8 .i64
      have HE2 : Hid (t.e = s.e) := HCE
      clear by8 run8 HCN HCC
      go_wp2_with fail
      refine (Go.Proofs.Ythacldkmjpjgiaa.Mac.same_gen A7 A8 t.n t.n c7 c5 t.e s.e _ _ w7 Z7.out.slice Z8.out.slice (by have := HT.out.2; have := HN.out; omega) (by have := HT.out.2; have := HN.out; omega)).mono ?_
      rintro _ w8 ⟨rfl, q8, rfl⟩
      rw [Go.Proofs.Ythacldkmjpjgiaa.Mac.same_refl t.e s.e t.n (fun j _ => by rw [HE2.out])]
      have G8 : Hid (∀ q, Two Rep RefSt w (w7.drewN q) (fun b => r7 b ∨ (r5 b ∨ False)) (.pointer (some p)) (.pointer (some ⟨g, 0, none⟩)) 1048576 t s) := Lib.hid (fun q => G7.out.more HH.out.form.keep refForm13.keep (drewN_below13 (Below.refl _ _) q) (fun _ h => .inl h))
      have G9 := Lib.hid (G8.out q8)
      have Z9 : Hid (BytesIn (w7.drewN q8) r7 t.n t.e (.slice A7 t.n c7)) := Lib.hid (Z7.out.keep (fun b _ _ => drewN_heap w7 q8 b))
      clear G8 G7 Z7 Z8 Y7 e1 run8'
      generalize w7.drewN q8 = w9 at *
      go_wp2_with fail
      refine (two_crash HH.out G9.out 0 (by omega)).mono ?_
      rintro _ w10 ⟨rfl, g10, kp10⟩
      have Z10 := Lib.hid (BytesIn_kept Z9.out kp10 (fun b hb => .inl hb))
      have G10 := Lib.hid g10
      clear g10 kp10 Z9 G9
      go_wp2_with fail
      refine (two_read13 HH.out G10.out).mono ?_
      rintro _ w11 ⟨A11, c11, r11, rfl, g11, kp11, by11, -, -⟩
      rw [HAG.out] at by11 ⊢
      have Z11 := Lib.hid (BytesIn_kept Z10.out kp11 (fun b hb => .inl hb))
      have Y11 := Lib.hid by11
      have B11 : Hid (∀ q, Below w.heap.size w (w11.drewN q)) := Lib.hid (fun q => drewN_below13 g11.bel q)
      clear g11 kp11 by11 Z10 G10
      go_wp2_with fail
      refine (Go.Proofs.Ythacldkmjpjgiaa.Mac.same_gen A11 A7 t.n t.n c11 c7 (crashS t 0).e t.e _ _ w11 Y11.out.slice Z11.out.slice (by have := HT.out.2; have := HN.out; omega) (by have := HT.out.2; have := HN.out; omega)).mono ?_
      rintro _ w12 ⟨rfl, q12, rfl⟩
      rw [Go.Proofs.Ythacldkmjpjgiaa.Mac.same_refl (crashS t 0).e t.e t.n (fun j _ => rfl)]
      have B12 := Lib.hid (B11.out q12)
      clear B11 Y11 Z11
      go_wp2
      go_ret
      exact ⟨rfl, B12.out⟩
end Go.Proofs.Ythacldkmjpjgiaa.Law13
