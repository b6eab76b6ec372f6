/-
  The walk of bartizanlaw09.FieldBack: for any parts, bytes and number it returns true, and writes nothing that was there.
-/
import Derived.Test.YtmnddjoncciimaaLaw09Awake
import Derived.Test.YtmnddjoncciimaaRefSame9
import Derived.Test.YtmnddjoncciimaaAllParts
import Derived.Test.YtmnddjoncciimaaSame
namespace Go.Proofs.Ytmnddjoncciimaa.Field
open Go Go.RowKit Go.Proofs.Ytmnddjoncciimaa.Aid Go.Proofs.Ytmnddjoncciimaa.Law01

theorem drewN_below (w : World) : ∀ q, Below w.heap.size w (w.drewN q)
  | 0 => Below.refl _ _
  | q + 1 => (drewN_below w q).drew
/-- 'bartizanref01.Same' of the same bytes. -/
theorem same_true (A B : Option Addr) (n c d : Nat) (e f : Nat → BitVec 8) (g g' : Nat) (w : World) (h1 : SliceOf w g n e (.slice A n c)) (h2 : SliceOf w g' n f (.slice B n d)) (hn : n ≤ 1000000) (hef : ∀ j, j < n → e j = f j) :
    Calls Try.prog 16 #[.slice A n c, .slice B n d] w fun x w' => x = .returned (.bool true) ∧ Below w.heap.size w w' :=
  (Mac.same_gen A B n n c d e f g g' w h1 h2 hn hn).mono (fun x w' ⟨hx, q, hw⟩ => ⟨by rw [hx, Mac.same_refl e f n hef], by rw [hw]; exact drewN_below w q⟩)
set_option maxRecDepth 100000 in
set_option maxHeartbeats 4000000 in
theorem back_any (C : FieldHas) (len : Nat) (m : Nat → Nat) (e : Nat → Nat → BitVec 8) (A : Option Addr) (c : Nat) (nb : Nat) (E : Nat → BitVec 8) (B : Option Addr) (d : Nat) (n : Int) (w : World)
    (hp : PartsOf w len m e (.slice A len c)) (hm : ∀ i, i < len → m i ≤ 140737488351232) (hs : SliceOf w w.heap.size nb E (.slice B nb d)) (h1 : -9223372036854775808 ≤ n) (h2 : n ≤ 9223372036854775807) :
    Calls Try.prog 4 #[.slice A len c, .slice B nb d, .int .i64 n] w fun x w' => x = .returned (.bool true) ∧ Below w.heap.size w w' := by
  have HP := Lib.hid hp
  have HM := Lib.hid hm
  have HS := Lib.hid hs
  clear hp hm hs
  go_enter Try.func4, Try.ntmps4
  go_wp2_with fail
  refine (awake_any C _).mono ?_
  rintro _ w1 ⟨rfl, hb1⟩
  have HB1 := Lib.hid hb1
  clear hb1
  go_wp2_with fail
  refine (all_any len m e _ w1 (PartsOf.below HP.out HB1.out) HM.out).mono ?_
  rintro _ w2 ⟨k, va, hkl, rfl, -, hend, hb2⟩
  have HB2 := Lib.hid (HB1.out.trans (hb2.mono HB1.out.size))
  clear hb2 HB1
  obtain ⟨S, hS⟩ : ∃ S, S = off m k + k := ⟨_, rfl⟩
  rw [← hS]
  by_cases hn : 2000 < S
  · have q : (2000 : Int) < (S : Int) := by omega
    clear hS hend HP HM HS
    go_wp2
    go_ret
    exact ⟨rfl, HB2.out⟩
  have q : ¬ (2000 : Int) < (S : Int) := by omega
  obtain rfl : k = len := by omega
  by_cases hn2 : 2000 < nb
  · have q2 : (2000 : Int) < (nb : Int) := by omega
    clear hS hend HP HM HS
    go_wp2
    go_ret
    exact ⟨rfl, HB2.out⟩
  have q2 : ¬ (2000 : Int) < (nb : Int) := by omega
  have hoff : off m k + k ≤ 2000 := by omega
  have f1 := C.put k m e (.slice A k c) w2 (PartsOf.below HP.out HB2.out) (by omega)
  have F1 := Lib.hid f1
  have HOF := Lib.hid hoff
  clear f1 hS hend hoff
  go_wp2_with fail
  refine F1.out.mono ?_
  rintro _ w3 ⟨r, rfl, hr, hb3⟩
  have HB3 := Lib.hid (HB2.out.trans (hb3.mono HB2.out.size))
  obtain ⟨Ar, cr, rfl, -, -⟩ := own_shape hr
  have HR := Lib.hid (hr.slice (g' := w3.heap.size) (.inr (Nat.le_refl _)))
  clear hb3 hr F1 HB2
  go_upto_if 42 with fail
  go_cut [12, 13, 14] (fun _ _ _ wx => Hid (Below w.heap.size w wx))
  case first =>
    by_cases hpb : putB k m = true
    · have e1 : putC k m = 0 := by unfold putC; rw [if_pos hpb]
      have e2 : putN k m = encN m k := by unfold putN; rw [if_pos hpb]
      have q5 : (putC k m == 0) = true := by rw [e1]; rfl
      have hsp := split_put e hpb
      have hL : putN k m ≤ 100000 := by rw [e2]; have := off_m2 m k; have := HOF.out; unfold encN; omega
      have f2 := C.split Ar cr (putN k m) (encB m e k) w3 hL HR.out
      have E2 := Lib.hid e2
      have F2 := Lib.hid f2
      have HSP := Lib.hid hsp
      clear f2 hsp e1 e2 HR hpb
      go_wp2_with fail
      refine F2.out.mono ?_
      rintro _ w4 ⟨k2, c2, v2, R2, hspec, rfl, hown, hb4⟩
      rw [E2.out] at hspec
      obtain ⟨hk2, hc2⟩ := split_unique hspec HSP.out.1
      subst hk2 hc2
      rw [if_pos rfl] at hown
      have hb4' := HB3.out.trans (hb4.mono HB3.out.size)
      have hpv := PartsOf.congr hown.parts (m' := m) (e' := e) (fun i hi => ⟨(HSP.out.2 i hi).1, fun j hj => (HSP.out.2 i hi).2 j (by rw [← (HSP.out.2 i hi).1]; exact hj)⟩)
      have f3 := refSame_any k2 m e _ _ w4 (PartsOf.below HP.out hb4') hpv (by have := HOF.out; omega) (fun i hi => by have := off_ge m hi; have := HOF.out; omega)
      have F3 := Lib.hid f3
      have HB4 := Lib.hid hb4'
      clear f3 hpv hb4' hown hspec hb4 F2 HSP HB3
      go_wp2_with fail
      refine F3.out.mono ?_
      rintro _ w5 ⟨rfl, hb5⟩
      have HB5 := Lib.hid (HB4.out.trans (hb5.mono HB4.out.size))
      clear hb5 F3 HB4
      go_wp2_with fail
      go_meet
      exact HB5
    · have e1 : putC k m = 7 := by unfold putC; rw [if_neg hpb]
      have q5 : (putC k m == 0) = false := by rw [e1]; rfl
      clear e1 HR hpb
      go_wp2_with fail
      go_meet
      exact HB3
  case rest =>
    clear HR HB3 HOF
    have hs' := slice_any (slice_below HS.out hcut.out) (Nat.le_refl _)
    have f4 := C.split B d nb E wc (by omega) hs'
    have F4 := Lib.hid f4
    clear f4 hs'
    go_wp2_with fail
    refine F4.out.mono ?_
    rintro _ w6 ⟨k3, c3, v3, R3, hspec, rfl, hown, hb6⟩
    have HB6 := Lib.hid (hcut.out.trans (hb6.mono hcut.out.size))
    have HSPEC := Lib.hid hspec
    have HOWN := Lib.hid hown
    clear hb6 F4 hspec hown hcut
    go_upto_if 63 with fail
    go_cut [17, 18, 19] (fun _ _ _ wx => Hid (Below w.heap.size w wx))
    case first =>
      by_cases h0 : c3 = 0
      · subst h0
        obtain ⟨p1, p2, p3⟩ := put_split HSPEC.out
        have hown := HOWN.out
        rw [if_pos rfl] at hown
        have hoff := off_m2 (fieldM E) k3
        have f5 := C.put k3 (fieldM E) (fieldE E) v3 w6 hown.parts (by unfold encN at p2; omega)
        rw [show putC k3 (fieldM E) = 0 by unfold putC; rw [if_pos p1], show putN k3 (fieldM E) = nb by unfold putN; rw [if_pos p1, p2]] at f5
        have F5 := Lib.hid f5
        have HEQ := Lib.hid p3
        clear f5 p1 p2 p3 hown hoff HOWN HSPEC
        go_wp2_with fail
        refine F5.out.mono ?_
        rintro _ w7 ⟨r2, rfl, hr2, hb7⟩
        have hb7' := HB6.out.trans (hb7.mono HB6.out.size)
        obtain ⟨Ay, cy, rfl, -, -⟩ := own_shape hr2
        have f6 := same_true B Ay nb d cy E (encB (fieldM E) (fieldE E) k3) w7.heap.size w7.heap.size w7 (slice_any (slice_below HS.out hb7') (Nat.le_refl _)) (hr2.slice (.inr (Nat.le_refl _))) (by omega) (fun j hj => (HEQ.out j hj).symm)
        have F6 := Lib.hid f6
        have HB7 := Lib.hid hb7'
        clear f6 hb7' hr2 hb7 F5 HB6 HEQ
        go_wp2_with fail
        refine F6.out.mono ?_
        rintro _ w8 ⟨rfl, hb8⟩
        have HB8 := Lib.hid (HB7.out.trans (hb8.mono HB7.out.size))
        clear hb8 F6 HB7
        go_wp2_with fail
        go_meet
        exact HB8
      · have h0' : ((c3 : Int) == 0) = false := by simp; omega
        clear HOWN HSPEC
        go_wp2_with fail
        go_meet
        exact HB6
    case rest =>
      clear HOWN HSPEC HB6 HS HP HM
      have f7 := C.number n wc
      have F7 := Lib.hid f7
      clear f7
      go_wp2_with fail
      refine F7.out.mono ?_
      rintro _ w9 ⟨vn, rfl, hn9, hb9⟩
      have HB9 := Lib.hid (hcut.out.trans (hb9.mono hcut.out.size))
      obtain ⟨An, cn, rfl, -, -⟩ := own_shape hn9
      have f8 := C.take An cn 8 (numB n) w9 (by omega) (hn9.slice (.inr (Nat.le_refl _)))
      rw [(take_num n h1 h2).1, (take_num n h1 h2).2] at f8
      have F8 := Lib.hid f8
      clear f8 hn9 hb9 F7 hcut
      go_wp2_with fail
      refine F8.out.mono ?_
      rintro _ w10 ⟨rfl, hb10⟩
      have HB10 := Lib.hid (HB9.out.trans (hb10.mono HB9.out.size))
      clear hb10 F8 HB9
      go_wp2
      go_ret
      exact ⟨by simp, HB10.out⟩
end Go.Proofs.Ytmnddjoncciimaa.Field
