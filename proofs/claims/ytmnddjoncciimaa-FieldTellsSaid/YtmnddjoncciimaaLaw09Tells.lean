/-
  The walk of bartizanlaw09.FieldTells: for any parts, bytes and number it returns true, and writes nothing that was there.
-/
import Derived.Test.YtmnddjoncciimaaLaw09Back
import Derived.Test.YtmnddjoncciimaaRefPut
import Derived.Test.YtmnddjoncciimaaRefName
import Derived.Test.YtmnddjoncciimaaAfter
namespace Go.Proofs.Ytmnddjoncciimaa.Field
open Go Go.RowKit Go.Proofs.Ytmnddjoncciimaa.Aid Go.Proofs.Ytmnddjoncciimaa.Law01

theorem word_cells (F : Nat → BitVec 8) : ∀ i, i < 16 → ∃ n, (#[Value.int .u8 ((F 0).toNat : Int), Value.int .u8 ((F 1).toNat : Int), Value.int .u8 ((F 2).toNat : Int), Value.int .u8 ((F 3).toNat : Int), Value.int .u8 ((F 4).toNat : Int), Value.int .u8 ((F 5).toNat : Int), Value.int .u8 ((F 6).toNat : Int), Value.int .u8 ((F 7).toNat : Int), Value.int .u8 ((F 8).toNat : Int), Value.int .u8 ((F 9).toNat : Int), Value.int .u8 ((F 10).toNat : Int), Value.int .u8 ((F 11).toNat : Int), Value.int .u8 ((F 12).toNat : Int), Value.int .u8 ((F 13).toNat : Int), Value.int .u8 ((F 14).toNat : Int), Value.int .u8 ((F 15).toNat : Int)] : Array Value)[i]? = some (.int .u8 n) := fun i hi => by
    match i, hi with
    | 0, _ => exact ⟨_, rfl⟩
    | 1, _ => exact ⟨_, rfl⟩
    | 2, _ => exact ⟨_, rfl⟩
    | 3, _ => exact ⟨_, rfl⟩
    | 4, _ => exact ⟨_, rfl⟩
    | 5, _ => exact ⟨_, rfl⟩
    | 6, _ => exact ⟨_, rfl⟩
    | 7, _ => exact ⟨_, rfl⟩
    | 8, _ => exact ⟨_, rfl⟩
    | 9, _ => exact ⟨_, rfl⟩
    | 10, _ => exact ⟨_, rfl⟩
    | 11, _ => exact ⟨_, rfl⟩
    | 12, _ => exact ⟨_, rfl⟩
    | 13, _ => exact ⟨_, rfl⟩
    | 14, _ => exact ⟨_, rfl⟩
    | 15, _ => exact ⟨_, rfl⟩
    | i + 16, h => exact absurd h (by omega)
theorem word_eql (F : Nat → BitVec 8) (W : World) : (binOp .eql 36 (.agg #[Value.int .u8 ((F 0).toNat : Int), Value.int .u8 ((F 1).toNat : Int), Value.int .u8 ((F 2).toNat : Int), Value.int .u8 ((F 3).toNat : Int), Value.int .u8 ((F 4).toNat : Int), Value.int .u8 ((F 5).toNat : Int), Value.int .u8 ((F 6).toNat : Int), Value.int .u8 ((F 7).toNat : Int), Value.int .u8 ((F 8).toNat : Int), Value.int .u8 ((F 9).toNat : Int), Value.int .u8 ((F 10).toNat : Int), Value.int .u8 ((F 11).toNat : Int), Value.int .u8 ((F 12).toNat : Int), Value.int .u8 ((F 13).toNat : Int), Value.int .u8 ((F 14).toNat : Int), Value.int .u8 ((F 15).toNat : Int)]) (.agg #[Value.int .u8 ((F 0).toNat : Int), Value.int .u8 ((F 1).toNat : Int), Value.int .u8 ((F 2).toNat : Int), Value.int .u8 ((F 3).toNat : Int), Value.int .u8 ((F 4).toNat : Int), Value.int .u8 ((F 5).toNat : Int), Value.int .u8 ((F 6).toNat : Int), Value.int .u8 ((F 7).toNat : Int), Value.int .u8 ((F 8).toNat : Int), Value.int .u8 ((F 9).toNat : Int), Value.int .u8 ((F 10).toNat : Int), Value.int .u8 ((F 11).toNat : Int), Value.int .u8 ((F 12).toNat : Int), Value.int .u8 ((F 13).toNat : Int), Value.int .u8 ((F 14).toNat : Int), Value.int .u8 ((F 15).toNat : Int)])).run Try.prog W = .ok (.bool true) W :=
  run_eql_same Try.underlying36 Try.underlying5 (by kernel_rfl) _ (word_cells F) W
/-- What the walk of FieldTells keeps. -/
structure TM (w : World) (pn : Nat) (eB : Nat → BitVec 8) (X Y : Value) (kp : Nat) (fm : Nat → Nat) (fe : Nat → Nat → BitVec 8) (P Q : Value) (W : World) : Prop where
  bel : Below w.heap.size w W
  x : SliceOf W W.heap.size pn eB X
  y : SliceOf W W.heap.size pn eB Y
  p : PartsOf W kp fm fe P
  q : PartsOf W kp fm fe Q
theorem TM.step {w : World} {pn : Nat} {eB : Nat → BitVec 8} {X Y : Value} {kp : Nat} {fm : Nat → Nat} {fe : Nat → Nat → BitVec 8} {P Q : Value} {W W' : World} (h : TM w pn eB X Y kp fm fe P Q W) (hb : Below W.heap.size W W') : TM w pn eB X Y kp fm fe P Q W' :=
  ⟨h.bel.trans (hb.mono h.bel.size), slice_any (slice_below h.x hb) (Nat.le_refl _), slice_any (slice_below h.y hb) (Nat.le_refl _), PartsOf.below h.p hb, PartsOf.below h.q hb⟩
set_option maxRecDepth 100000 in
set_option maxHeartbeats 8000000 in
theorem tells_any (C : FieldHas) (len : Nat) (m : Nat → Nat) (e : Nat → Nat → BitVec 8) (A : Option Addr) (c : Nat) (nb : Nat) (E : Nat → BitVec 8) (B : Option Addr) (d : Nat) (n : Int) (w : World)
    (hp : PartsOf w len m e (.slice A len c)) (hm : ∀ i, i < len → m i ≤ 140737488351232) (hs : SliceOf w w.heap.size nb E (.slice B nb d)) :
    Calls Try.prog 3 #[.slice A len c, .slice B nb d, .int .i64 n] w fun x w' => x = .returned (.bool true) ∧ Below w.heap.size w w' := by
  have HP := Lib.hid hp
  have HM := Lib.hid hm
  have HS := Lib.hid hs
  clear hp hm hs
  go_enter Try.func3, Try.ntmps3
  go_wp2_with fail
  refine (awake_any C _).mono ?_
  rintro _ w1 ⟨rfl, hb1⟩
  have HB1 := Lib.hid hb1
  clear hb1
  go_wp2_with fail
  refine (all_any len m e _ w1 (PartsOf.below HP.out HB1.out) HM.out).mono ?_
  rintro _ w2 ⟨k, va, hkl, rfl, -, hend, hb2⟩
  have HB2 := Lib.hid (HB1.out.trans (hb2.mono HB1.out.size))
  clear hb2 HB1
  obtain ⟨S, hS⟩ : ∃ S, S = off m k + k := ⟨_, rfl⟩
  rw [← hS]
  by_cases hn : 2000 < S
  · have q : (2000 : Int) < (S : Int) := by omega
    clear hS hend HP HM HS
    go_wp2
    go_ret
    exact ⟨rfl, HB2.out⟩
  have q : ¬ (2000 : Int) < (S : Int) := by omega
  obtain rfl : k = len := by omega
  by_cases hn2 : 2000 < nb
  · have q2 : (2000 : Int) < (nb : Int) := by omega
    clear hS hend HP HM HS
    go_wp2
    go_ret
    exact ⟨rfl, HB2.out⟩
  have q2 : ¬ (2000 : Int) < (nb : Int) := by omega
  have hoff : off m k + k ≤ 2000 := by omega
  have f1 := C.put k m e (.slice A k c) w2 (PartsOf.below HP.out HB2.out) (by omega)
  have hpn : putN k m ≤ 100000 := by
    have := off_m2 m k
    unfold putN encN
    split <;> omega
  have F1 := Lib.hid f1
  have HOF := Lib.hid hoff
  have HPN := Lib.hid hpn
  clear f1 hS hend hoff hpn
  go_wp2_with fail
  refine F1.out.mono ?_
  rintro _ w3 ⟨rx, rfl, hr, hb3⟩
  have hb3' := HB2.out.trans (hb3.mono HB2.out.size)
  obtain ⟨Ax, cx, rfl, -, -⟩ := own_shape hr
  have f2 := refPut_any k m e (.slice A k c) w3 (PartsOf.below HP.out hb3') (by have := HOF.out; omega)
  have HX := Lib.hid (hr.slice (g' := w3.heap.size) (.inr (Nat.le_refl _)))
  have HB3 := Lib.hid hb3'
  have F2 := Lib.hid f2
  clear f2 hb3' hb3 hr F1 HB2
  generalize putC k m = pc at *
  generalize putN k m = pn at *
  go_wp2_with fail
  refine F2.out.mono ?_
  rintro _ w4 ⟨ry, rfl, hr, hb4⟩
  have hb4' := HB3.out.trans (hb4.mono HB3.out.size)
  obtain ⟨Ay, cy, rfl, -, -⟩ := own_shape hr
  have HY := Lib.hid (hr.slice (g' := w4.heap.size) (.inr (Nat.le_refl _)))
  have HX4 := Lib.hid (slice_any (slice_below HX.out hb4) (Nat.le_refl _))
  have f3 := C.split B d nb E w4 (by omega) (slice_any (slice_below HS.out hb4') (Nat.le_refl _))
  have HB4 := Lib.hid hb4'
  have F3 := Lib.hid f3
  clear f3 hb4' hb4 hr F2 HB3 HX
  go_wp2_with fail
  refine F3.out.mono ?_
  rintro _ w5 ⟨kp, c5, P, R5, hspec, rfl, hown, hb5⟩
  have hb5' := HB4.out.trans (hb5.mono HB4.out.size)
  obtain ⟨kk, hkk⟩ : ∃ kk, kk = (if c5 = 0 then kp else 0) := ⟨_, rfl⟩
  rw [← hkk] at hown
  have HKK := Lib.hid hkk
  have HX5 := Lib.hid (slice_any (slice_below HX4.out hb5) (Nat.le_refl _))
  have HY5 := Lib.hid (slice_any (slice_below HY.out hb5) (Nat.le_refl _))
  have HPP := Lib.hid hown.parts
  obtain ⟨Ap, cp, rfl⟩ := hown.shape
  have f4 := refSplit_any B d nb E w5 (by omega) (slice_any (slice_below HS.out hb5') (Nat.le_refl _))
  have HB5 := Lib.hid hb5'
  have F4 := Lib.hid f4
  have HSPEC := Lib.hid hspec
  clear f4 hb5' hb5 hown hspec hkk F3 HB4 HX4 HY
  go_wp2_with fail
  refine F4.out.mono ?_
  rintro _ w6 ⟨kq, c6, Q, R6, hspec, rfl, hown, hb6⟩
  obtain ⟨hk6, hc6⟩ := split_unique hspec HSPEC.out
  subst hk6 hc6
  rw [← HKK.out] at hown
  obtain ⟨Aq, cq, rfl⟩ := hown.shape
  have T : TM w pn (encB m e k) (.slice Ax pn cx) (.slice Ay pn cy) kk (fieldM E) (fieldE E) (.slice Ap kk cp) (.slice Aq kk cq) w6 :=
    ⟨HB5.out.trans (hb6.mono HB5.out.size), slice_any (slice_below HX5.out hb6) (Nat.le_refl _), slice_any (slice_below HY5.out hb6) (Nat.le_refl _), PartsOf.below HPP.out hb6, hown.parts⟩
  have hk20 : kk ≤ 20 := by have := split_few HSPEC.out; rw [HKK.out]; split <;> omega
  have hml : ∀ i, i < kk → fieldM E i ≤ 1000000 := fun i hi => by
    have := (step_ok (HSPEC.out.1 i (by rw [HKK.out] at hi; split at hi <;> omega)).2).2.1
    unfold fieldM
    omega
  have HML := Lib.hid hml
  have HTM := Lib.hid T
  clear T hown hspec hb6 F4 HB5 HX5 HY5 HPP HSPEC hml HKK
  have f5 := fun W hW => C.take B d nb E W (by omega) hW
  have f6 := fun W hW => refTake_any B d nb E w.heap.size W (by omega) hW
  have f7 := fun W hW => C.word B d nb E W (by omega) hW
  have f8 := fun W hW => refWord_any B d nb E w.heap.size W (by omega) hW
  have f9 := C.number n
  have f10 := refNumber_any n
  generalize takeV E nb = tv at *
  generalize takeC nb = tc at *
  generalize wordE nb E = F at *
  generalize wordC nb = wc at *
  have F5 := Lib.hid f5
  have F6 := Lib.hid f6
  have F7 := Lib.hid f7
  have F8 := Lib.hid f8
  have F9 := Lib.hid f9
  have F10 := Lib.hid f10
  clear f5 f6 f7 f8 f9 f10
  go_wp2_with fail
  refine (F5.out _ (slice_any (slice_below HS.out HTM.out.bel) (Nat.le_refl _))).mono ?_
  rintro _ w7 ⟨rfl, hb⟩
  replace HTM := Lib.hid (HTM.out.step hb)
  clear hb F5
  go_wp2_with fail
  refine (F6.out _ (slice_below HS.out HTM.out.bel)).mono ?_
  rintro _ w8 ⟨rfl, rfl⟩
  clear F6
  go_wp2_with fail
  refine (F7.out _ (slice_any (slice_below HS.out HTM.out.bel) (Nat.le_refl _))).mono ?_
  rintro _ w9 ⟨rfl, hb⟩
  replace HTM := Lib.hid (HTM.out.step hb)
  clear hb F7
  unfold wordV at *
  go_upto_region 12 with (refine store_whole (by rfl) 36 (.tmp 22) (.tmp 76) (by rfl) w9.heap.size _ 16 (fun _ => .int .u8 0) (fun j => .int .u8 ((F j).toNat : Int)) (by exact row_new w9 _ _ 16 _ (by rfl) (zero16 _ (by rfl))) (by rfl) _ (by rfl) (by kernel_rfl) (size_cellsOf _ _) (cellsOf_at _ _) (fun _ _ => rfl) ?_
                          intro w10 hr1 ho1)
  have hb10 : Below w9.heap.size w9 w10 := ho1.below ((Below.refl _ w9).alloc (Nat.le_refl _) (.cells (Array.replicate 16 (.int .u8 0)) 36)) (Nat.le_refl _)
  replace HTM := Lib.hid (HTM.out.step hb10)
  clear ho1 hb10
  have HR1 := Lib.hid hr1
  clear hr1
  generalize w9.heap.size = gV at *
  go_wp2_with fail
  refine (F8.out _ (slice_below HS.out HTM.out.bel)).mono ?_
  rintro _ w11 ⟨rfl, hb⟩
  have hr1 := World.rowIs.of_block HR1.out (hb.block _ (World.rowIs.lt HR1.out))
  replace HTM := Lib.hid (HTM.out.step hb)
  clear hb F8 HR1
  go_upto_region 13 with (refine store_whole (by rfl) 36 (.tmp 24) (.tmp 81) (by rfl) w11.heap.size _ 16 (fun _ => .int .u8 0) (fun j => .int .u8 ((F j).toNat : Int)) (by exact row_new w11 _ _ 16 _ (by rfl) (zero16 _ (by rfl))) (by rfl) _ (by rfl) (by kernel_rfl) (size_cellsOf _ _) (cellsOf_at _ _) (fun _ _ => rfl) ?_
                          intro w12 hr2 ho2)
  have hb12 : Below w11.heap.size w11 w12 := ho2.below ((Below.refl _ w11).alloc (Nat.le_refl _) (.cells (Array.replicate 16 (.int .u8 0)) 36)) (Nat.le_refl _)
  replace hr1 := World.rowIs.of_block hr1 (hb12.block _ (World.rowIs.lt hr1))
  replace HTM := Lib.hid (HTM.out.step hb12)
  clear ho2 hb12
  have HR1 := Lib.hid hr1
  have HR2 := Lib.hid hr2
  clear hr1 hr2
  generalize w11.heap.size = gW at *
  go_wp2_with fail
  refine (same_true Ax Ay pn cx cy _ _ w12.heap.size w12.heap.size w12 HTM.out.x HTM.out.y (by have := HPN.out; omega) (fun _ _ => rfl)).mono ?_
  rintro _ w13 ⟨rfl, hb⟩
  replace HR1 := Lib.hid (World.rowIs.of_block HR1.out (hb.block _ (World.rowIs.lt HR1.out)))
  replace HR2 := Lib.hid (World.rowIs.of_block HR2.out (hb.block _ (World.rowIs.lt HR2.out)))
  replace HTM := Lib.hid (HTM.out.step hb)
  clear hb
  go_wp2_with fail
  refine (refSame_any kk (fieldM E) (fieldE E) _ _ w13 HTM.out.p HTM.out.q (by omega) HML.out).mono ?_
  rintro _ w14 ⟨rfl, hb⟩
  replace HR1 := Lib.hid (World.rowIs.of_block HR1.out (hb.block _ (World.rowIs.lt HR1.out)))
  replace HR2 := Lib.hid (World.rowIs.of_block HR2.out (hb.block _ (World.rowIs.lt HR2.out)))
  replace HTM := Lib.hid (HTM.out.step hb)
  clear hb HML
  go_wp2_with fail
  refine (F9.out _).mono ?_
  rintro _ w15 ⟨v1, rfl, hn1, hb⟩
  replace HR1 := Lib.hid (World.rowIs.of_block HR1.out (hb.block _ (World.rowIs.lt HR1.out)))
  replace HR2 := Lib.hid (World.rowIs.of_block HR2.out (hb.block _ (World.rowIs.lt HR2.out)))
  replace HTM := Lib.hid (HTM.out.step hb)
  obtain ⟨A1, c1, rfl, -, -⟩ := own_shape hn1
  have HN1 := Lib.hid (hn1.slice (g' := w15.heap.size) (.inr (Nat.le_refl _)))
  clear hb F9 hn1
  go_wp2_with fail
  refine (F10.out _).mono ?_
  rintro _ w16 ⟨v2, rfl, hn2', hb⟩
  replace HR1 := Lib.hid (World.rowIs.of_block HR1.out (hb.block _ (World.rowIs.lt HR1.out)))
  replace HR2 := Lib.hid (World.rowIs.of_block HR2.out (hb.block _ (World.rowIs.lt HR2.out)))
  replace HTM := Lib.hid (HTM.out.step hb)
  obtain ⟨A2, c2, rfl, -, -⟩ := own_shape hn2'
  have HN2 := Lib.hid (hn2'.slice (g' := w16.heap.size) (.inr (Nat.le_refl _)))
  have HN1' := Lib.hid (slice_below HN1.out hb)
  clear hb F10 hn2' HN1
  go_wp2_with fail
  refine (same_true A1 A2 8 c1 c2 (numB n) (numB n) w15.heap.size w16.heap.size w16 HN1'.out HN2.out (by omega) (fun _ _ => rfl)).mono ?_
  rintro _ w17 ⟨rfl, hb⟩
  replace HR1 := Lib.hid (World.rowIs.of_block HR1.out (hb.block _ (World.rowIs.lt HR1.out)))
  replace HR2 := Lib.hid (World.rowIs.of_block HR2.out (hb.block _ (World.rowIs.lt HR2.out)))
  have hbel := (HTM.out.step hb).bel
  clear hb HN1' HN2 HTM
  have kx := fun x => str_run B d nb E w.heap.size (after w17 x) (slice_below HS.out (hbel.trans ((after_below w17 x).mono hbel.size)))
  have hsz : (strOf E nb).size ≤ 9000000000000000000 := by rw [size_strOf]; omega
  have f11 := fun W => C.name (strOf E nb) W hsz
  have f12 := fun W => refName_any (strOf E nb) hsz W
  generalize nameB (strOf E nb) = nm at *
  generalize strOf E nb = sE at *
  have F11 := Lib.hid f11
  have F12 := Lib.hid f12
  have HBL := Lib.hid hbel
  have kq := word_eql F
  have FC := after_cell w17
  have l1 := World.rowIs.lt HR1.out
  have l2 := World.rowIs.lt HR2.out
  have r0 := HR1.out.cell (i := 0) (by omega)
  have r1 := HR1.out.cell (i := 1) (by omega)
  have r2 := HR1.out.cell (i := 2) (by omega)
  have r3 := HR1.out.cell (i := 3) (by omega)
  have r4 := HR1.out.cell (i := 4) (by omega)
  have r5 := HR1.out.cell (i := 5) (by omega)
  have r6 := HR1.out.cell (i := 6) (by omega)
  have r7 := HR1.out.cell (i := 7) (by omega)
  have r8 := HR1.out.cell (i := 8) (by omega)
  have r9 := HR1.out.cell (i := 9) (by omega)
  have r10 := HR1.out.cell (i := 10) (by omega)
  have r11 := HR1.out.cell (i := 11) (by omega)
  have r12 := HR1.out.cell (i := 12) (by omega)
  have r13 := HR1.out.cell (i := 13) (by omega)
  have r14 := HR1.out.cell (i := 14) (by omega)
  have r15 := HR1.out.cell (i := 15) (by omega)
  have s0 := HR2.out.cell (i := 0) (by omega)
  have s1 := HR2.out.cell (i := 1) (by omega)
  have s2 := HR2.out.cell (i := 2) (by omega)
  have s3 := HR2.out.cell (i := 3) (by omega)
  have s4 := HR2.out.cell (i := 4) (by omega)
  have s5 := HR2.out.cell (i := 5) (by omega)
  have s6 := HR2.out.cell (i := 6) (by omega)
  have s7 := HR2.out.cell (i := 7) (by omega)
  have s8 := HR2.out.cell (i := 8) (by omega)
  have s9 := HR2.out.cell (i := 9) (by omega)
  have s10 := HR2.out.cell (i := 10) (by omega)
  have s11 := HR2.out.cell (i := 11) (by omega)
  have s12 := HR2.out.cell (i := 12) (by omega)
  have s13 := HR2.out.cell (i := 13) (by omega)
  have s14 := HR2.out.cell (i := 14) (by omega)
  have s15 := HR2.out.cell (i := 15) (by omega)
  clear f11 f12 hbel hsz HR1 HR2
  clear HP HM HS HOF HPN hkl hk20 hn hn2
  go_wp2_with fail
  refine region_after (by kernel_rfl) (by kernel_rfl) ?_
  repeat (go_big_quiet_step (first
    | (go_at_call 20; exact after_call F11.out)
    | (go_at_call 21; exact after_call_same F12.out)))
  refine wpQuiet_nil ?_
  rintro _ ⟨x, rfl⟩
  have hbz := HBL.out.trans ((after_below w17 x).mono HBL.out.size)
  clear kx kq FC l1 l2 F11 F12 HBL r0 s0 r1 s1 r2 s2 r3 s3 r4 s4 r5 s5 r6 s6 r7 s7 r8 s8 r9 s9 r10 s10 r11 s11 r12 s12 r13 s13 r14 s14 r15 s15
  generalize after w17 x = wz at *
  go_wp2
  go_ret
  exact ⟨rfl, hbz⟩
end Go.Proofs.Ytmnddjoncciimaa.Field
