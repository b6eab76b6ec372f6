/-
  The walk of bartizanlaw10.NoteBack: for any note and any bytes it returns true, and writes nothing that was there.
-/
import Derived.Test.YtagehbeliifbkaaDoorLaw10Awake
import Derived.Test.YtagehbeliifbkaaDoorRefSame10
namespace Go.Proofs.YtagehbeliifbkaaDoor.Note
open Go Go.RowKit Go.Proofs.YtagehbeliifbkaaDoor.Aid Go.Proofs.YtagehbeliifbkaaDoor.Law01 Go.Proofs.YtagehbeliifbkaaDoor.Field

theorem small_all {N : NoteP} (h : smallN N = true) : N.a.size ≤ 2000 ∧ N.b.size ≤ 2000 ∧ N.pn ≤ 2000 ∧ N.qn ≤ 2000 ∧ N.rn ≤ 2000 := by
  have := of_decide_eq_true h
  omega
theorem note_one {W : World} {N : NoteP} {P Q R : Value} (h : NoteAt W N P Q R) (i : Nat) : (noteF N P Q R i).oneCell' = true :=
  noteF_one N P Q R (by obtain ⟨_, _, rfl, _⟩ := h.p; rfl) (by obtain ⟨_, _, rfl, _⟩ := h.q; rfl) (by obtain ⟨_, _, rfl, _⟩ := h.r; rfl) i
theorem right_short {N : NoteP} (h : rightN N = true) : N.a.size ≤ 1000000 ∧ N.b.size ≤ 1000000 ∧ N.pn ≤ 1000000 ∧ N.qn ≤ 1000000 ∧ N.rn ≤ 1000000 := by
  have ha := right_parts h 65 (by unfold seven; omega)
  have hb := right_parts h 66 (by unfold seven; omega)
  have hp := right_parts h 80 (by unfold seven; omega)
  have hq := right_parts h 81 (by unfold seven; omega)
  have hr := right_parts h 82 (by unfold seven; omega)
  have ha' : N.a.size ≤ 500 := ha
  have hb' : N.b.size ≤ 500 := hb
  have hp' : N.pn ≤ 500 := hp
  have hq' : N.qn ≤ 500 := hq
  have hr' : N.rn ≤ 500 := hr
  omega
theorem spec_short {E : Nat → BitVec 8} {n : Nat} {N : NoteP} {c : Int} (h : ReadSpec E n N c) : N.a.size ≤ 1000000 ∧ N.b.size ≤ 1000000 ∧ N.pn ≤ 1000000 ∧ N.qn ≤ 1000000 ∧ N.rn ≤ 1000000 := by
  rcases h with ⟨_, h⟩ | ⟨_, rfl, _⟩
  · exact right_short h.1
  · exact ⟨Nat.zero_le _, Nat.zero_le _, Nat.zero_le _, Nat.zero_le _, Nat.zero_le _⟩
theorem enc_size {N : NoteP} (h : rightN N = true) : encSize N ≤ 100000 := by
  have hoff := right_off h
  have hlen := has_len N.kind
  unfold encSize encN
  rw [off_m2]
  unfold noteL at *
  omega
set_option maxRecDepth 100000 in
set_option maxHeartbeats 8000000 in
theorem back10_any (N : NoteP) (P Q R : Value) (A : Option Addr) (c n : Nat) (E : Nat → BitVec 8) (w : World) (H : NoteHas w) (hn : NoteAt w N P Q R) (hs : SliceOf w w.heap.size n E (.slice A n c))
    (la : N.a.size ≤ 200000000000000) (lb : N.b.size ≤ 200000000000000) (lp : N.pn ≤ 200000000000000) (lq : N.qn ≤ 200000000000000) (lr : N.rn ≤ 200000000000000) :
    Calls Tryd.prog 4 #[noteV N P Q R, .slice A n c] w fun x w' => x = .returned (.bool true) ∧ Below w.heap.size w w' := by
  have HR0 := Lib.hid (row_new w (cellsOf 38 (noteF N P Q R)) 26 38 (noteF N P Q R) (size_cellsOf _ _) (cellsOf_at _ _))
  have HB0 : Hid (Below w.heap.size w (w.alloc (.cells (cellsOf 38 (noteF N P Q R)) 26))) := (Below.refl _ _).alloc (Nat.le_refl _) _
  have HN := Lib.hid hn
  have HS := Lib.hid hs
  have hsm := fun W hW => refSmall_any N P Q R W (HN.out.below hW) la lb lp lq lr
  have HSM := Lib.hid hsm
  have HAW := Lib.hid (awake10_any _ (H.below HB0.out))
  clear hsm hn hs la lb lp lq lr
  unfold noteV at *
  go_enter Tryd.func4, Tryd.ntmps4
  generalize hC : cellsOf 38 (noteF N P Q R) = C at *
  go_upto_region 1 with fail
  generalize w.alloc (.cells C 26) = w1 at *
  go_wp2_with fail
  refine HAW.out.mono ?_
  rintro _ w2 ⟨rfl, hb2⟩
  have HR2 := Lib.hid (World.rowIs.of_block HR0.out (hb2.block _ (World.rowIs.lt HR0.out)))
  have HB2 := Lib.hid (HB0.out.trans (hb2.mono HB0.out.size))
  have hsm2 := HSM.out w2 HB2.out
  have HSM2 := Lib.hid hsm2
  clear HR0 HB0 hb2 HSM hsm2 HAW
  go_wp2_with (refine load_whole (by rfl) 26 (.tmp 2) (by rfl) _ _ _ _ HR2.out (by rfl) _ Tryd.underlying26 (by rfl) (by kernel_rfl) ?_)
  refine HSM2.out.mono ?_
  rintro _ w3 ⟨rfl, hb3⟩
  have HR3 := Lib.hid (World.rowIs.of_block HR2.out (hb3.block _ (World.rowIs.lt HR2.out)))
  have HB3 := Lib.hid (HB2.out.trans (hb3.mono HB2.out.size))
  clear HR2 HB2 hb3 HSM2
  by_cases hsn : smallN N = true
  rotate_left
  · have hsn' : smallN N = false := by simpa using hsn
    rw [hsn']
    go_wp2
    go_ret
    exact ⟨rfl, HB3.out⟩
  rw [hsn]
  obtain ⟨za, zb, zp, zq, zr⟩ := small_all hsn
  by_cases hn : 2000 < n
  · have hn' : (2000 : Int) < (n : Int) := by omega
    go_wp2
    go_ret
    exact ⟨rfl, HB3.out⟩
  have hn' : ¬ (2000 : Int) < (n : Int) := by omega
  have hput := H.put N P Q R w3 HB3.out (by omega) (by omega) (HN.out.below HB3.out)
  have hri := fun W hW => H.right N P Q R W hW (by omega) (by omega) (HN.out.below hW)
  have hZ : N.pn ≤ 1000000 ∧ N.qn ≤ 1000000 ∧ N.rn ≤ 1000000 := by omega
  have hsa := fun M P' Q' R' W hW => H.same N M P Q R P' Q' R' W hW (HN.out.below hW)
  unfold noteV at hput hri hsa
  rw [hC] at hput hri hsa
  have HPUT := Lib.hid hput
  have HRI := Lib.hid hri
  have HSA := Lib.hid hsa
  have HZN := Lib.hid hZ
  have HNN := Lib.hid hn
  clear hput hri hsa hZ hn za zb zp zq zr hsn
  go_wp2_with (refine load_whole (by rfl) 26 (.tmp 2) (by rfl) _ _ _ _ HR3.out (by rfl) _ Tryd.underlying26 (by rfl) (by kernel_rfl) ?_)
  refine HPUT.out.mono ?_
  rintro _ w4 ⟨r, rfl, ho4, hb4⟩
  have HR4 := Lib.hid (World.rowIs.of_block HR3.out (hb4.block _ (World.rowIs.lt HR3.out)))
  have HB4 := Lib.hid (HB3.out.trans (hb4.mono HB3.out.size))
  have HO4 := Lib.hid ho4
  have q1 : (put10C N == 0) = rightN N := by
    unfold put10C
    cases rightN N <;> rfl
  clear HPUT HR3 HB3 ho4 hb4
  go_wp2_with (refine load_whole (by rfl) 26 (.tmp 2) (by rfl) _ _ _ _ HR4.out (by rfl) _ Tryd.underlying26 (by rfl) (by kernel_rfl) ?_)
  refine (HRI.out w4 HB4.out).mono ?_
  rintro _ w5 ⟨rfl, hb5⟩
  have HR5 := Lib.hid (World.rowIs.of_block HR4.out (hb5.block _ (World.rowIs.lt HR4.out)))
  have HB5 := Lib.hid (HB4.out.trans (hb5.mono HB4.out.size))
  have HO5 := Lib.hid (HO4.out.below hb5)
  clear HRI HR4 HB4 HO4 hb5
  go_upto_if 36 with fail
  go_cut [8, 9] (fun _ _ wx => Hid (Below w.heap.size w wx))
  case first =>
    cases hd : rightN N with
    | false =>
      rw [hd] at q1
      go_wp2_with fail
      go_meet
      exact HB5
    | true =>
      have e2 : put10N N = encSize N := by unfold put10N; rw [hd]; rfl
      have hO := HO5.out
      rw [e2] at hO
      have hsr := hO.slice (g' := w5.heap.size) (.inr (Nat.le_refl _))
      obtain ⟨Ar, cr, rfl, _, _⟩ := id hsr
      have hread := H.read Ar cr (encSize N) (encByte N) w5 HB5.out (enc_size hd) hsr
      have HREAD := Lib.hid hread
      have HD := Lib.hid hd
      clear e2 hO hsr hread q1 HO5 hd
      go_wp2_with fail
      refine HREAD.out.mono ?_
      rintro _ w6 ⟨M, P', Q', R', ce, hspec, rfl, hA6, hb6⟩
      obtain ⟨rfl, hlike⟩ := read_one (.inl ⟨rfl, HD.out, rfl, fun _ _ => rfl⟩) hspec
      have HZ6 := Lib.hid (row_new w6 #[.int .i64 0, .string ⟨#[]⟩, .string ⟨#[]⟩, .int .u8 0, .int .u8 0, .int .u8 0, .int .u8 0, .int .u8 0, .int .u8 0, .int .u8 0, .int .u8 0, .int .u8 0, .int .u8 0, .int .u8 0, .int .u8 0, .int .u8 0, .int .u8 0, .int .u8 0, .int .u8 0, .int .u8 0, .int .u8 0, .int .u8 0, .int .u8 0, .int .u8 0, .int .u8 0, .int .u8 0, .int .u8 0, .int .u8 0, .int .u8 0, .int .u8 0, .int .u8 0, .int .u8 0, .int .u8 0, .int .u8 0, .int .u8 0, .slice none 0 0, .slice none 0 0, .slice none 0 0] 26 38 _ rfl (zeroCells_at 0 _ rfl))
      have HON := Lib.hid (note_one hA6)
      have HR6 := Lib.hid (World.rowIs.of_block HR5.out (hb6.block _ (World.rowIs.lt HR5.out)))
      have HB6 := Lib.hid (HB5.out.trans (hb6.mono HB5.out.size))
      have HA6 := Lib.hid hA6
      have hMZ : M.pn ≤ 1000000 ∧ M.qn ≤ 1000000 ∧ M.rn ≤ 1000000 := by
        have h := HZN.out
        rw [hlike.pn, hlike.qn, hlike.rn] at h
        exact h
      have HMZ := Lib.hid hMZ
      have HLS := Lib.hid hlike.same
      clear HREAD hspec hA6 hb6 hlike hMZ HR5 HB5 HD
      go_upto_region 9 with (refine store_whole (by rfl) 26 (.tmp 8) (.tmp 40) (by rfl) w6.heap.size _ 38 _ (noteF M P' Q' R') HZ6.out (by rfl) _ (by rfl) (by kernel_rfl) (size_cellsOf _ _) (cellsOf_at _ _) (fun i _ => HON.out i) ?_; intro w7 hrw7 how7)
      have hb7 : Below w6.heap.size w6 w7 := how7.below ((Below.refl _ _).alloc (Nat.le_refl _) _) (Nat.le_refl _)
      have HR7 := Lib.hid hrw7
      have HT7 := Lib.hid (World.rowIs.of_block HR6.out (hb7.block _ (World.rowIs.lt HR6.out)))
      have HB7 := Lib.hid (HB6.out.trans (hb7.mono HB6.out.size))
      have hca := HSA.out M P' Q' R' w7 HB7.out (HA6.out.below hb7) HZN.out.1 HZN.out.2.1 HZN.out.2.2 HMZ.out.1 HMZ.out.2.1 HMZ.out.2.2
      rw [HLS.out] at hca
      have HCA := Lib.hid hca
      clear hca hrw7 how7 hb7 HA6 HZ6 HR6 HB6 HSA
      go_wp2_with (first | (refine load_whole_met (by rfl) 26 (.tmp 2) (by rfl) _ _ _ _ HT7.out (by rfl) _ Tryd.underlying26 (by rfl) (by kernel_rfl) ?_) | (refine load_whole_met (by rfl) 26 (.tmp 8) (by rfl) _ _ _ _ HR7.out (by rfl) _ Tryd.underlying26 (by rfl) (by kernel_rfl) ?_))
      refine HCA.out.mono ?_
      rintro _ w8 ⟨rfl, hb8⟩
      have HB8 := Lib.hid (HB7.out.trans (hb8.mono HB7.out.size))
      clear HCA hb8 HR7 HT7
      go_wp2_with fail
      go_meet
      exact HB8
  case rest =>
    clear HR5 HB5 HO5 q1 HSA HZN HN
    have hread := H.read A c n E wc hcut.out (by have := HNN.out; omega) (slice_any (slice_below HS.out hcut.out) (Nat.le_refl _))
    have HREAD := Lib.hid hread
    clear hread
    go_wp2_with fail
    refine HREAD.out.mono ?_
    rintro _ w6 ⟨M, P', Q', R', ce, hspec, rfl, hA6, hb6⟩
    have HSP := Lib.hid hspec
    have HZ6 := Lib.hid (row_new w6 #[.int .i64 0, .string ⟨#[]⟩, .string ⟨#[]⟩, .int .u8 0, .int .u8 0, .int .u8 0, .int .u8 0, .int .u8 0, .int .u8 0, .int .u8 0, .int .u8 0, .int .u8 0, .int .u8 0, .int .u8 0, .int .u8 0, .int .u8 0, .int .u8 0, .int .u8 0, .int .u8 0, .int .u8 0, .int .u8 0, .int .u8 0, .int .u8 0, .int .u8 0, .int .u8 0, .int .u8 0, .int .u8 0, .int .u8 0, .int .u8 0, .int .u8 0, .int .u8 0, .int .u8 0, .int .u8 0, .int .u8 0, .int .u8 0, .slice none 0 0, .slice none 0 0, .slice none 0 0] 26 38 _ rfl (zeroCells_at 0 _ rfl))
    have HON := Lib.hid (note_one hA6)
    have HB6 := Lib.hid (hcut.out.trans (hb6.mono hcut.out.size))
    have HA6 := Lib.hid hA6
    clear HREAD hspec hA6 hb6 hcut
    go_upto_region 12 with (refine store_whole (by rfl) 26 (.tmp 10) (.tmp 53) (by rfl) w6.heap.size _ 38 _ (noteF M P' Q' R') HZ6.out (by rfl) _ (by rfl) (by kernel_rfl) (size_cellsOf _ _) (cellsOf_at _ _) (fun i _ => HON.out i) ?_; intro w7 hrw7 how7)
    have hb7 : Below w6.heap.size w6 w7 := how7.below ((Below.refl _ _).alloc (Nat.le_refl _) _) (Nat.le_refl _)
    have HR7 := Lib.hid hrw7
    have HB7 := Lib.hid (HB6.out.trans (hb7.mono HB6.out.size))
    have HA7 := Lib.hid (HA6.out.below hb7)
    have HS7 := Lib.hid (slice_any (g' := w7.heap.size) (slice_below HS.out HB7.out) (Nat.le_refl _))
    clear hrw7 how7 hb7 HA6 HZ6 HB6 HS
    rcases HSP.out with ⟨rfl, henc⟩ | ⟨rfl, rfl, -⟩
    · obtain ⟨s1, s2, s3, s4, s5⟩ := right_short henc.1
      have hput := H.put M P' Q' R' w7 HB7.out s1 s2 HA7.out
      have hri := fun W hW => H.right M P' Q' R' W (HB7.out.trans (hW.mono HB7.out.size)) s1 s2 (HA7.out.below (W' := W) hW)
      unfold noteV put10C put10N at hput
      unfold noteV at hri
      rw [henc.1] at hri
      rw [henc.1, if_pos rfl, if_pos rfl, henc.2.1] at hput
      have HPUT := Lib.hid hput
      have HRI := Lib.hid hri
      have HEN := Lib.hid henc
      clear hput hri henc s1 s2 s3 s4 s5 HSP
      go_wp2_with (refine load_whole (by rfl) 26 (.tmp 10) (by rfl) _ _ _ _ HR7.out (by rfl) _ Tryd.underlying26 (by rfl) (by kernel_rfl) ?_)
      refine HPUT.out.mono ?_
      rintro _ w8 ⟨r2, rfl, ho8, hb8⟩
      have hs8 := ho8.slice (g' := w8.heap.size) (.inr (Nat.le_refl _))
      obtain ⟨Ar, cr, rfl, _, _⟩ := id hs8
      have hcs := Mac.same_gen A Ar n n c cr E (encByte M) _ _ w8 (slice_below HS7.out hb8) hs8 (by have := HNN.out; omega) (by have := HNN.out; omega)
      rw [Mac.same_refl E (encByte M) n (fun j hj => (HEN.out.2.2 j hj).symm)] at hcs
      have HCS := Lib.hid hcs
      have HX8 := Lib.hid hb8
      have HR8 := Lib.hid (World.rowIs.of_block HR7.out (hb8.block _ (World.rowIs.lt HR7.out)))
      clear hcs hs8 ho8 hb8 HPUT HR7
      go_wp2_with fail
      refine HCS.out.mono ?_
      rintro _ w9 ⟨rfl, hq⟩
      have hb9 : Below w8.heap.size w8 w9 := by obtain ⟨q, rfl⟩ := hq; exact drewN_from (Below.refl _ _) q
      have HR9 := Lib.hid (World.rowIs.of_block HR8.out (hb9.block _ (World.rowIs.lt HR8.out)))
      have HX9 := Lib.hid (HX8.out.trans (hb9.mono HX8.out.size))
      clear hq hb9 HCS HR8
      go_wp2_with (refine load_whole_met (by rfl) 26 (.tmp 10) (by rfl) _ _ _ _ HR9.out (by rfl) _ Tryd.underlying26 (by rfl) (by kernel_rfl) ?_)
      refine (HRI.out w9 HX9.out).mono ?_
      rintro _ w10 ⟨rfl, hb10⟩
      have HB10 := Lib.hid (HB7.out.trans ((HX9.out.trans (hb10.mono HX9.out.size)).mono HB7.out.size))
      clear hb10 HRI HR9
      go_wp2
      go_ret
      exact ⟨rfl, HB10.out⟩
    · have hsa := H.same (blank 0) (blank 0) P' Q' R' (.slice none 0 0) (.slice none 0 0) (.slice none 0 0) w7 HB7.out HA7.out ⟨SliceOf.nil _ _ _, SliceOf.nil _ _ _, SliceOf.nil _ _ _⟩ (by decide) (by decide) (by decide) (by decide) (by decide) (by decide)
      rw [(Like.refl (blank 0)).same] at hsa
      unfold noteV at hsa
      rw [show cellsOf 38 (noteF (blank 0) (.slice none 0 0) (.slice none 0 0) (.slice none 0 0)) = #[.int .i64 0, .string ⟨#[]⟩, .string ⟨#[]⟩, .int .u8 0, .int .u8 0, .int .u8 0, .int .u8 0, .int .u8 0, .int .u8 0, .int .u8 0, .int .u8 0, .int .u8 0, .int .u8 0, .int .u8 0, .int .u8 0, .int .u8 0, .int .u8 0, .int .u8 0, .int .u8 0, .int .u8 0, .int .u8 0, .int .u8 0, .int .u8 0, .int .u8 0, .int .u8 0, .int .u8 0, .int .u8 0, .int .u8 0, .int .u8 0, .int .u8 0, .int .u8 0, .int .u8 0, .int .u8 0, .int .u8 0, .int .u8 0, .slice none 0 0, .slice none 0 0, .slice none 0 0] from rfl] at hsa
      have HSA := Lib.hid hsa
      clear hsa HSP
      go_wp2_with (refine load_whole_met (by rfl) 26 (.tmp 10) (by rfl) _ _ _ _ HR7.out (by rfl) _ Tryd.underlying26 (by rfl) (by kernel_rfl) ?_)
      refine HSA.out.mono ?_
      rintro _ w8 ⟨rfl, hb8⟩
      have HB8 := Lib.hid (HB7.out.trans (hb8.mono HB7.out.size))
      clear hb8 HSA
      go_wp2
      go_ret
      exact ⟨rfl, HB8.out⟩
end Go.Proofs.YtagehbeliifbkaaDoor.Note
