/-
  The walk of bartizanlaw10.NoteTells: for any two notes and any bytes it returns true, and writes nothing that was there.
-/
import Derived.Test.YtagehbeliifbkaaDoorLaw10Back
import Derived.Test.YtagehbeliifbkaaDoorLoadMet
import Derived.Test.YtagehbeliifbkaaDoorRefRead10
import Derived.Test.YtagehbeliifbkaaDoorAfter
import Derived.Deep.RegionWith
namespace Go.Proofs.YtagehbeliifbkaaDoor.Note
open Go Go.RowKit Go.Proofs.YtagehbeliifbkaaDoor.Aid Go.Proofs.YtagehbeliifbkaaDoor.Law01 Go.Proofs.YtagehbeliifbkaaDoor.Field

set_option maxRecDepth 100000 in
set_option maxHeartbeats 16000000 in
theorem tells10_any (N M : NoteP) (P Q R P' Q' R' : Value) (A : Option Addr) (c n : Nat) (E : Nat → BitVec 8) (w : World) (H : NoteHas w) (hn : NoteAt w N P Q R) (hm : NoteAt w M P' Q' R') (hs : SliceOf w w.heap.size n E (.slice A n c))
    (la : N.a.size ≤ 200000000000000) (lb : N.b.size ≤ 200000000000000) (lp : N.pn ≤ 200000000000000) (lq : N.qn ≤ 200000000000000) (lr : N.rn ≤ 200000000000000)
    (ma : M.a.size ≤ 200000000000000) (mb : M.b.size ≤ 200000000000000) (mp : M.pn ≤ 200000000000000) (mq : M.qn ≤ 200000000000000) (mr : M.rn ≤ 200000000000000) :
    Calls Tryd.prog 3 #[.agg (cellsOf 76 (pairF (noteF N P Q R) (noteF M P' Q' R'))), .slice A n c] w fun x w' => x = .returned (.bool true) ∧ Below w.heap.size w w' := by
  have HR0 := Lib.hid (row_new w (cellsOf 76 (pairF (noteF N P Q R) (noteF M P' Q' R'))) 27 76 _ (size_cellsOf _ _) (cellsOf_at _ _))
  have HB0 : Hid (Below w.heap.size w (w.alloc (.cells (cellsOf 76 (pairF (noteF N P Q R) (noteF M P' Q' R'))) 27))) := (Below.refl _ _).alloc (Nat.le_refl _) _
  have HN := Lib.hid hn
  have HM := Lib.hid hm
  have HS := Lib.hid hs
  have hsm := fun W hW => refSmall_any N P Q R W (HN.out.below hW) la lb lp lq lr
  have hsm' := fun W hW => refSmall_any M P' Q' R' W (HM.out.below hW) ma mb mp mq mr
  have hc1 := pair_fst (noteF N P Q R) (noteF M P' Q' R')
  have hc2 := pair_snd (noteF N P Q R) (noteF M P' Q' R')
  have ho1 := note_one hn
  have ho2 := note_one hm
  have hat1 := cellsOf_at 38 (noteF N P Q R)
  have hat2 := cellsOf_at 38 (noteF M P' Q' R')
  have hsz1 := size_cellsOf 38 (noteF N P Q R)
  have hsz2 := size_cellsOf 38 (noteF M P' Q' R')
  unfold noteV at hsm hsm'
  generalize hC : cellsOf 38 (noteF N P Q R) = C at *
  generalize hD : cellsOf 38 (noteF M P' Q' R') = D at *
  generalize cellsOf 76 (pairF (noteF N P Q R) (noteF M P' Q' R')) = B at *
  have HSM := Lib.hid hsm
  have HSN := Lib.hid hsm'
  have HAW := Lib.hid (awake10_any _ (H.below HB0.out))
  have HC1 := Lib.hid hc1
  have HC2 := Lib.hid hc2
  have HO1 := Lib.hid ho1
  have HO2 := Lib.hid ho2
  have HT1 := Lib.hid hat1
  have HT2 := Lib.hid hat2
  have HZ1 := Lib.hid hsz1
  have HZ2 := Lib.hid hsz2
  have HC := Lib.hid hC
  have HD := Lib.hid hD
  clear hsm hsm' hn hm hs la lb lp lq lr ma mb mp mq mr hc1 hc2 ho1 ho2 hat1 hat2 hsz1 hsz2 hC hD
  go_enter Tryd.func3, Tryd.ntmps3
  go_upto_region 1 with fail
  generalize w.alloc (.cells B 27) = w1 at *
  go_wp2_with fail
  refine HAW.out.mono ?_
  rintro _ w2 ⟨rfl, hb2⟩
  have HR2 := Lib.hid (World.rowIs.of_block HR0.out (hb2.block _ (World.rowIs.lt HR0.out)))
  have HB2 := Lib.hid (HB0.out.trans (hb2.mono HB0.out.size))
  have HZA := Lib.hid (row_new w2 #[.int .i64 0, .string ⟨#[]⟩, .string ⟨#[]⟩, .int .u8 0, .int .u8 0, .int .u8 0, .int .u8 0, .int .u8 0, .int .u8 0, .int .u8 0, .int .u8 0, .int .u8 0, .int .u8 0, .int .u8 0, .int .u8 0, .int .u8 0, .int .u8 0, .int .u8 0, .int .u8 0, .int .u8 0, .int .u8 0, .int .u8 0, .int .u8 0, .int .u8 0, .int .u8 0, .int .u8 0, .int .u8 0, .int .u8 0, .int .u8 0, .int .u8 0, .int .u8 0, .int .u8 0, .int .u8 0, .int .u8 0, .int .u8 0, .slice none 0 0, .slice none 0 0, .slice none 0 0] 29 38 _ rfl (zeroCells_at 0 _ rfl))
  clear HR0 HB0 hb2 HAW
  go_upto_region 3 with (first | (refine load_as (by rfl) 26 (.tmp 19) (by rfl) w.heap.size 0 _ 76 38 _ C HC1.out HR2.out (by rfl) _ Tryd.underlying26 (by rfl) (by kernel_rfl) (by omega) ?_) | (refine store_whole (by rfl) 29 (.tmp 6) (.tmp 20) (by rfl) w2.heap.size _ 38 _ (noteF N P Q R) HZA.out (by rfl) _ (by rfl) (by kernel_rfl) HZ1.out HT1.out (fun i _ => HO1.out i) ?_; intro w3 hr3 ho3))
  have hb3 : Below w2.heap.size w2 w3 := ho3.below ((Below.refl _ _).alloc (Nat.le_refl _) _) (Nat.le_refl _)
  have HX3 := Lib.hid hr3
  have HR3 := Lib.hid (World.rowIs.of_block HR2.out (hb3.block _ (World.rowIs.lt HR2.out)))
  have HB3 := Lib.hid (HB2.out.trans (hb3.mono HB2.out.size))
  have HZB := Lib.hid (row_new w3 #[.int .i64 0, .string ⟨#[]⟩, .string ⟨#[]⟩, .int .u8 0, .int .u8 0, .int .u8 0, .int .u8 0, .int .u8 0, .int .u8 0, .int .u8 0, .int .u8 0, .int .u8 0, .int .u8 0, .int .u8 0, .int .u8 0, .int .u8 0, .int .u8 0, .int .u8 0, .int .u8 0, .int .u8 0, .int .u8 0, .int .u8 0, .int .u8 0, .int .u8 0, .int .u8 0, .int .u8 0, .int .u8 0, .int .u8 0, .int .u8 0, .int .u8 0, .int .u8 0, .int .u8 0, .int .u8 0, .int .u8 0, .int .u8 0, .slice none 0 0, .slice none 0 0, .slice none 0 0] 29 38 _ rfl (zeroCells_at 0 _ rfl))
  clear hr3 ho3 hb3 HR2 HB2 HZA
  go_upto_region 4 with (first | (refine load_as (by rfl) 26 (.tmp 21) (by rfl) (w.heap.size) 38 _ 76 38 _ D HC2.out HR3.out (by rfl) _ Tryd.underlying26 (by rfl) (by kernel_rfl) (by omega) ?_) | (refine store_whole (by rfl) 29 (.tmp 7) (.tmp 22) (by rfl) (w3.heap.size) _ 38 _ (noteF M P' Q' R') HZB.out (by rfl) _ (by rfl) (by kernel_rfl) HZ2.out HT2.out (fun i _ => HO2.out i) ?_; intro w4 hrw4 how4))
  have hb4 : Below w3.heap.size w3 w4 := how4.below ((Below.refl _ _).alloc (Nat.le_refl _) _) (Nat.le_refl _)
  have HY4 := Lib.hid hrw4
  have HX4 := Lib.hid (World.rowIs.of_block HX3.out (hb4.block _ (World.rowIs.lt HX3.out)))
  have HR4 := Lib.hid (World.rowIs.of_block HR3.out (hb4.block _ (World.rowIs.lt HR3.out)))
  have HB4 := Lib.hid (HB3.out.trans (hb4.mono HB3.out.size))
  clear hrw4 how4 hb4 HX3 HR3 HB3 HZB HT1 HT2 HZ1 HZ2
  have hx4 := HX4.out
  generalize w2.heap.size = g6 at *
  generalize w3.heap.size = g7 at *
  clear hx4 w2 w3
  have hz0 : cellsOf 38 (fun j => noteF N P Q R (0 + j)) = C := (cells_zero 38 _).trans HC.out
  have hz1 : cellsOf 38 (fun j => noteF M P' Q' R' (0 + j)) = D := (cells_zero 38 _).trans HD.out
  have HZ0 := Lib.hid hz0
  have HZ1 := Lib.hid hz1
  clear hz0 hz1
  go_wp2_with (refine load_as (by rfl) 29 (.tmp 6) (by rfl) (g6) 0 _ 38 38 _ C HZ0.out HX4.out (by rfl) _ Tryd.underlying29 (by rfl) (by kernel_rfl) (by omega) ?_)
  refine (HSM.out w4 HB4.out).mono ?_
  rintro _ w5 ⟨rfl, hb5⟩
  have HX5 := Lib.hid (World.rowIs.of_block HX4.out (hb5.block _ (World.rowIs.lt HX4.out)))
  have HY5 := Lib.hid (World.rowIs.of_block HY4.out (hb5.block _ (World.rowIs.lt HY4.out)))
  have HR5 := Lib.hid (World.rowIs.of_block HR4.out (hb5.block _ (World.rowIs.lt HR4.out)))
  have HB5 := Lib.hid (HB4.out.trans (hb5.mono HB4.out.size))
  clear hb5 HX4 HY4 HR4 HB4 HSM
  cases hs1 : smallN N with
  | false =>
    clear HX5 HY5 HR5
    go_wp2
    go_ret
    exact ⟨rfl, HB5.out⟩
  | true =>
    go_wp2_with (refine load_as (by rfl) 29 (.tmp 7) (by rfl) (g7) 0 _ 38 38 _ D HZ1.out HY5.out (by rfl) _ Tryd.underlying29 (by rfl) (by kernel_rfl) (by omega) ?_)
    refine (HSN.out w5 HB5.out).mono ?_
    rintro _ w6 ⟨rfl, hb6⟩
    have HX6 := Lib.hid (World.rowIs.of_block HX5.out (hb6.block _ (World.rowIs.lt HX5.out)))
    have HY6 := Lib.hid (World.rowIs.of_block HY5.out (hb6.block _ (World.rowIs.lt HY5.out)))
    have HR6 := Lib.hid (World.rowIs.of_block HR5.out (hb6.block _ (World.rowIs.lt HR5.out)))
    have HB6 := Lib.hid (HB5.out.trans (hb6.mono HB5.out.size))
    clear hb6 HX5 HY5 HR5 HB5 HSN
    cases hs2 : smallN M with
    | false =>
      clear HX6 HY6 HR6
      go_wp2
      go_ret
      exact ⟨rfl, HB6.out⟩
    | true =>
      by_cases hn : 2000 < n
      · have hn' : (2000 : Int) < (n : Int) := by omega
        clear HX6 HY6 HR6
        go_wp2
        go_ret
        exact ⟨rfl, HB6.out⟩
      have hn' : ¬ (2000 : Int) < (n : Int) := by omega
      obtain ⟨za, zb, zp, zq, zr⟩ := small_all hs1
      obtain ⟨ya, yb, yp, yq, yr⟩ := small_all hs2
      have f1 := H.put N P Q R w6 HB6.out (by omega) (by omega) (HN.out.below HB6.out)
      have f2 := fun W hW => refPut10_any N P Q R W (by omega) (by omega) (HN.out.below hW)
      have f3 := fun W hW => H.right N P Q R W hW (by omega) (by omega) (HN.out.below hW)
      have f4 := fun W hW => refRight_any N P Q R W (by omega) (by omega) (HN.out.below hW)
      have f5 := fun W hW => H.same N M P Q R P' Q' R' W hW (HN.out.below hW) (HM.out.below hW) (by omega) (by omega) (by omega) (by omega) (by omega) (by omega)
      have f6 := fun W hW => refSame10_any N M P Q R P' Q' R' W (HN.out.below hW) (HM.out.below hW) (by omega) (by omega) (by omega) (by omega) (by omega) (by omega)
      unfold noteV at f1 f2 f3 f4 f5 f6
      rw [HC.out] at f1 f2 f3 f4 f5 f6
      rw [HD.out] at f5 f6
      have F1 := Lib.hid f1
      have F2 := Lib.hid f2
      have F3 := Lib.hid f3
      have F4 := Lib.hid f4
      have F5 := Lib.hid f5
      have F6 := Lib.hid f6
      have HLE := Lib.hid hn
      clear f1 f2 f3 f4 f5 f6 za zb zp zq zr ya yb yp yq yr hs1 hs2 hn
      go_wp2_with (refine load_as (by rfl) 26 (.tmp 38) (by rfl) (w.heap.size) 0 _ 76 38 _ C HC1.out HR6.out (by rfl) _ Tryd.underlying26 (by rfl) (by kernel_rfl) (by omega) ?_)
      refine F1.out.mono ?_
      rintro _ w7 ⟨r1, rfl, ho7, hb7⟩
      have hs7 := ho7.slice (g' := w7.heap.size) (.inr (Nat.le_refl _))
      obtain ⟨A1, c1, rfl, _, _⟩ := id hs7
      have HP7 := Lib.hid hs7
      have HK7 := Lib.hid hb7
      have HX7 := Lib.hid (World.rowIs.of_block HX6.out (hb7.block _ (World.rowIs.lt HX6.out)))
      clear F1 ho7 hb7 hs7
      go_wp2_with (refine load_as (by rfl) 29 (.tmp 6) (by rfl) (g6) 0 _ 38 38 _ C HZ0.out HX7.out (by rfl) _ Tryd.underlying29 (by rfl) (by kernel_rfl) (by omega) ?_)
      refine (F2.out w7 (HB6.out.trans (HK7.out.mono HB6.out.size))).mono ?_
      rintro _ w8 ⟨r2, rfl, ho8, hb8⟩
      have hs8 := ho8.slice (g' := w8.heap.size) (.inr (Nat.le_refl _))
      obtain ⟨A2, c2, rfl, _, _⟩ := id hs8
      have HP8 := Lib.hid (slice_below HP7.out hb8)
      have HQ8 := Lib.hid hs8
      have HK8 := Lib.hid (HK7.out.trans (hb8.mono HK7.out.size))
      clear F2 ho8 hb8 hs8 HP7 HK7 HX7
      have hrd := H.read A c n E w8 (HB6.out.trans (HK8.out.mono HB6.out.size)) (by have := HLE.out; omega) (slice_any (slice_below HS.out (HB6.out.trans (HK8.out.mono HB6.out.size))) (Nat.le_refl _))
      have HRD := Lib.hid hrd
      clear hrd
      go_wp2_with fail
      refine HRD.out.mono ?_
      rintro _ w9 ⟨N1, P1, Q1, R1, k1, hsp1, rfl, hA9, hb9⟩
      have HSP1 := Lib.hid hsp1
      have HZ9 := Lib.hid (row_new w9 #[.int .i64 0, .string ⟨#[]⟩, .string ⟨#[]⟩, .int .u8 0, .int .u8 0, .int .u8 0, .int .u8 0, .int .u8 0, .int .u8 0, .int .u8 0, .int .u8 0, .int .u8 0, .int .u8 0, .int .u8 0, .int .u8 0, .int .u8 0, .int .u8 0, .int .u8 0, .int .u8 0, .int .u8 0, .int .u8 0, .int .u8 0, .int .u8 0, .int .u8 0, .int .u8 0, .int .u8 0, .int .u8 0, .int .u8 0, .int .u8 0, .int .u8 0, .int .u8 0, .int .u8 0, .int .u8 0, .int .u8 0, .int .u8 0, .slice none 0 0, .slice none 0 0, .slice none 0 0] 26 38 _ rfl (zeroCells_at 0 _ rfl))
      have HON := Lib.hid (note_one hA9)
      have HA9 := Lib.hid hA9
      have HP9 := Lib.hid (slice_below HP8.out hb9)
      have HQ9 := Lib.hid (slice_below HQ8.out hb9)
      have HK9 := Lib.hid (HK8.out.trans (hb9.mono HK8.out.size))
      clear HRD hsp1 hA9 hb9 HP8 HQ8 HK8
      go_upto_region 9 with (refine store_whole (by rfl) 26 (.tmp 12) (.tmp 51) (by rfl) (w9.heap.size) _ 38 _ (noteF N1 P1 Q1 R1) HZ9.out (by rfl) _ (by rfl) (by kernel_rfl) (size_cellsOf _ _) (cellsOf_at _ _) (fun i _ => HON.out i) ?_; intro w10 hrw10 how10)
      have hb10 : Below w9.heap.size w9 w10 := how10.below ((Below.refl _ _).alloc (Nat.le_refl _) _) (Nat.le_refl _)
      have HV10 := Lib.hid hrw10
      have HA10 := Lib.hid (HA9.out.below hb10)
      have HP10 := Lib.hid (slice_below HP9.out hb10)
      have HQ10 := Lib.hid (slice_below HQ9.out hb10)
      have HK10 := Lib.hid (HK9.out.trans (hb10.mono HK9.out.size))
      clear hrw10 how10 hb10 HA9 HP9 HQ9 HK9 HZ9 HON
      generalize w9.heap.size = g12 at *
      have hrd := refRead10_any A c n E w10 (by have := HLE.out; omega) (slice_any (slice_below HS.out (HB6.out.trans (HK10.out.mono HB6.out.size))) (Nat.le_refl _))
      have HRD := Lib.hid hrd
      clear hrd
      go_wp2_with fail
      refine HRD.out.mono ?_
      rintro _ w11 ⟨N2, P2, Q2, R2, k2, hsp2, rfl, hA11, hb11⟩
      have HSP2 := Lib.hid hsp2
      have HZ11 := Lib.hid (row_new w11 #[.int .i64 0, .string ⟨#[]⟩, .string ⟨#[]⟩, .int .u8 0, .int .u8 0, .int .u8 0, .int .u8 0, .int .u8 0, .int .u8 0, .int .u8 0, .int .u8 0, .int .u8 0, .int .u8 0, .int .u8 0, .int .u8 0, .int .u8 0, .int .u8 0, .int .u8 0, .int .u8 0, .int .u8 0, .int .u8 0, .int .u8 0, .int .u8 0, .int .u8 0, .int .u8 0, .int .u8 0, .int .u8 0, .int .u8 0, .int .u8 0, .int .u8 0, .int .u8 0, .int .u8 0, .int .u8 0, .int .u8 0, .int .u8 0, .slice none 0 0, .slice none 0 0, .slice none 0 0] 29 38 _ rfl (zeroCells_at 0 _ rfl))
      have HON := Lib.hid (note_one hA11)
      have HA11 := Lib.hid (HA10.out.below hb11)
      have HD11 := Lib.hid hA11
      have HV11 := Lib.hid (World.rowIs.of_block HV10.out (hb11.block _ (World.rowIs.lt HV10.out)))
      have HP11 := Lib.hid (slice_below HP10.out hb11)
      have HQ11 := Lib.hid (slice_below HQ10.out hb11)
      have HK11 := Lib.hid (HK10.out.trans (hb11.mono HK10.out.size))
      clear HRD hsp2 hA11 hb11 HP10 HQ10 HK10 HA10 HV10
      go_upto_region 10 with (refine store_whole (by rfl) 29 (.tmp 14) (.tmp 56) (by rfl) (w11.heap.size) _ 38 _ (noteF N2 P2 Q2 R2) HZ11.out (by rfl) _ (by rfl) (by kernel_rfl) (size_cellsOf _ _) (cellsOf_at _ _) (fun i _ => HON.out i) ?_; intro w12 hrw12 how12)
      have hb12 : Below w11.heap.size w11 w12 := how12.below ((Below.refl _ _).alloc (Nat.le_refl _) _) (Nat.le_refl _)
      have HW12 := Lib.hid hrw12
      have HA12 := Lib.hid (HA11.out.below hb12)
      have HD12 := Lib.hid (HD11.out.below hb12)
      have HV12 := Lib.hid (World.rowIs.of_block HV11.out (hb12.block _ (World.rowIs.lt HV11.out)))
      have HK12 := Lib.hid (HK11.out.trans (hb12.mono HK11.out.size))
      have hN3 : put10N N ≤ 1000000 := by
        unfold put10N
        cases hd : rightN N with
        | false => exact Nat.zero_le _
        | true => have := enc_size hd; rw [if_pos rfl]; omega
      have hcs := Mac.same_gen A1 A2 (put10N N) (put10N N) c1 c2 (encByte N) (encByte N) _ _ w12 (slice_below HP11.out hb12) (slice_below HQ11.out hb12) hN3 hN3
      rw [Mac.same_refl _ _ _ (fun _ _ => rfl)] at hcs
      have HCS := Lib.hid hcs
      clear hcs hN3 hrw12 how12 hb12 HP11 HQ11 HK11 HA11 HD11 HV11 HZ11 HON
      generalize w11.heap.size = g14 at *
      go_wp2_with fail
      refine HCS.out.mono ?_
      rintro _ w13 ⟨rfl, hq⟩
      have hb13 : Below w12.heap.size w12 w13 := by obtain ⟨q, rfl⟩ := hq; exact drewN_from (Below.refl _ _) q
      have HW13 := Lib.hid (World.rowIs.of_block HW12.out (hb13.block _ (World.rowIs.lt HW12.out)))
      have HV13 := Lib.hid (World.rowIs.of_block HV12.out (hb13.block _ (World.rowIs.lt HV12.out)))
      have HK13 := Lib.hid (HK12.out.trans (hb13.mono HK12.out.size))
      obtain ⟨hkk, hlike⟩ := read_one HSP1.out HSP2.out
      obtain ⟨_, _, x1, x2, x3⟩ := spec_short HSP1.out
      obtain ⟨_, _, x4, x5, x6⟩ := spec_short HSP2.out
      have hss := refSame10_any N1 N2 P1 Q1 R1 P2 Q2 R2 w13 (HA12.out.below hb13) (HD12.out.below hb13) x1 x2 x3 x4 x5 x6
      rw [hlike.same] at hss
      unfold noteV at hss
      have HSS := Lib.hid hss
      subst hkk
      clear hss hq hb13 hlike x1 x2 x3 x4 x5 x6 HCS HW12 HV12 HK12 HA12 HD12 HSP1 HSP2
      go_wp2_with (first | (refine load_whole (by rfl) 26 (.tmp 12) (by rfl) _ _ _ _ HV13.out (by rfl) _ Tryd.underlying26 (by rfl) (by kernel_rfl) ?_) | (refine load_whole (by rfl) 29 (.tmp 14) (by rfl) _ _ _ _ HW13.out (by rfl) _ Tryd.underlying29 (by rfl) (by kernel_rfl) ?_))
      refine HSS.out.mono ?_
      rintro _ w14 ⟨rfl, hb14⟩
      have HK14 := Lib.hid (HK13.out.trans (hb14.mono HK13.out.size))
      clear HSS hb14 HK13 HW13 HV13 HS HLE
      have HX14 := Lib.hid (World.rowIs.of_block HX6.out (HK14.out.block _ (World.rowIs.lt HX6.out)))
      have HY14 := Lib.hid (World.rowIs.of_block HY6.out (HK14.out.block _ (World.rowIs.lt HY6.out)))
      have HR14 := Lib.hid (World.rowIs.of_block HR6.out (HK14.out.block _ (World.rowIs.lt HR6.out)))
      have HB14 := Lib.hid (HB6.out.trans (HK14.out.mono HB6.out.size))
      clear HX6 HY6 HR6 HB6 HK14 hn' HN HM
      go_wp2_with fail
      have HX : Hid (∀ W, (∃ x, W = after w14 x) → W.rowIs g6 29 38 (noteF N P Q R)) := Lib.hid (fun W hW => by obtain ⟨x, rfl⟩ := hW; exact World.rowIs.of_block HX14.out ((after_below w14 x).block _ (World.rowIs.lt HX14.out)))
      have HY : Hid (∀ W, (∃ x, W = after w14 x) → W.rowIs g7 29 38 (noteF M P' Q' R')) := Lib.hid (fun W hW => by obtain ⟨x, rfl⟩ := hW; exact World.rowIs.of_block HY14.out ((after_below w14 x).block _ (World.rowIs.lt HY14.out)))
      have HV : Hid (∀ W, (∃ x, W = after w14 x) → W.rowIs w.heap.size 27 76 (pairF (noteF N P Q R) (noteF M P' Q' R'))) := Lib.hid (fun W hW => by obtain ⟨x, rfl⟩ := hW; exact World.rowIs.of_block HR14.out ((after_below w14 x).block _ (World.rowIs.lt HR14.out)))
      have HW : Hid (∀ x, Below w.heap.size w (after w14 x)) := Lib.hid (fun x => HB14.out.trans ((after_below w14 x).mono HB14.out.size))
      clear HX14 HY14 HR14
      refine region_after (by kernel_rfl) (by kernel_rfl) ?_
      repeat (first
        | (refine q_load_as (by rfl) 26 (.tmp 66) (by rfl) (w.heap.size) 0 _ 76 38 _ C HC1.out HV.out (by rfl) _ Tryd.underlying26 (by rfl) (by kernel_rfl) (by omega) ?_ ; simp only [Act.put, List.setIfInBounds_toArray, List.set_cons_zero, List.set_cons_succ])
        | (refine q_load_as (by rfl) 29 (.tmp 6) (by rfl) (g6) 0 _ 38 38 _ C HZ0.out HX.out (by rfl) _ Tryd.underlying29 (by rfl) (by kernel_rfl) (by omega) ?_ ; simp only [Act.put, List.setIfInBounds_toArray, List.set_cons_zero, List.set_cons_succ])
        | (refine q_load_as (by rfl) 26 (.tmp 90) (by rfl) (w.heap.size) 0 _ 76 38 _ C HC1.out HV.out (by rfl) _ Tryd.underlying26 (by rfl) (by kernel_rfl) (by omega) ?_ ; simp only [Act.put, List.setIfInBounds_toArray, List.set_cons_zero, List.set_cons_succ])
        | (refine q_load_as (by rfl) 26 (.tmp 92) (by rfl) (w.heap.size) 38 _ 76 38 _ D HC2.out HV.out (by rfl) _ Tryd.underlying26 (by rfl) (by kernel_rfl) (by omega) ?_ ; simp only [Act.put, List.setIfInBounds_toArray, List.set_cons_zero, List.set_cons_succ])
        | (refine q_load_as (by rfl) 29 (.tmp 6) (by rfl) (g6) 0 _ 38 38 _ C HZ0.out HX.out (by rfl) _ Tryd.underlying29 (by rfl) (by kernel_rfl) (by omega) ?_ ; simp only [Act.put, List.setIfInBounds_toArray, List.set_cons_zero, List.set_cons_succ])
        | (refine q_load_as (by rfl) 29 (.tmp 7) (by rfl) (g7) 0 _ 38 38 _ D HZ1.out HY.out (by rfl) _ Tryd.underlying29 (by rfl) (by kernel_rfl) (by omega) ?_ ; simp only [Act.put, List.setIfInBounds_toArray, List.set_cons_zero, List.set_cons_succ])
        | (go_big_quiet_step (first
            | (go_at_call 13; exact after_call_at (F3.out _ (HW.out _)))
            | (go_at_call 14; exact after_call_at (F4.out _ (HW.out _)))
            | (go_at_call 15; exact after_call_at (F5.out _ (HW.out _)))
            | (go_at_call 12; exact after_call_at (F6.out _ (HW.out _))))))
      refine wpQuiet_nil ?_
      rintro _ ⟨x, rfl⟩
      have HE := Lib.hid (HW.out x)
      generalize after w14 x = w15 at *
      clear HX HY HV HW F3 F4 F5 F6
      go_wp2
      go_ret
      exact ⟨rfl, HE.out⟩
end Go.Proofs.YtagehbeliifbkaaDoor.Note
