/-
  The walk of StoreDoes.
-/
import Derived.Test.YthacldkmjpjgiaaLaw13Awake
import Derived.Test.YthacldkmjpjgiaaLaw13Size
import Derived.Test.YthacldkmjpjgiaaStoreTwo
import Derived.Test.YthacldkmjpjgiaaSame
import Derived.Test.YthacldkmjpjgiaaMix
import Derived.Deep.CutBlock
import Derived.Deep.DeepCutAuto
namespace Go.Proofs.Ythacldkmjpjgiaa.Law13
open Go Go.RowKit Go.Proofs.Ythacldkmjpjgiaa.Aid Go.Proofs.Ythacldkmjpjgiaa.Cache Go.Proofs.Ythacldkmjpjgiaa.Store

theorem drewN_below13 {B : Nat} {w W : World} (h : Below B w W) : ∀ q, Below B w (W.drewN q)
  | 0 => h
  | q + 1 => (drewN_below13 h q).drew
theorem drewN_heap (w : World) : ∀ (q : Nat) (b : Nat), (w.drewN q).heap[b]? = w.heap[b]?
  | 0, _ => rfl
  | q + 1, b => drewN_heap w q b
theorem two_okB {Rep : RepSt} {w0 W : World} {X : Nat → Prop} {a b : Value} {m : Nat} {s sb : St} (h : Two Rep RefSt w0 W X a b m s sb) : sb.ok m := by obtain ⟨FA, FB, h⟩ := h; exact refForm13.ok h.rb
set_option maxRecDepth 100000 in
set_option maxHeartbeats 4000000 in
theorem does_any {Rep : RepSt} (H : StoreHas Rep) (room : Int) (n : Nat) (X : Nat → OpT) (v : Value) (w : World) (hv : OpsTIn w n X v) :
    Calls Try.prog 3 #[.int .i64 room, v] w fun x w' => x = .returned (.bool true) ∧ Below w.heap.size w w' := by
  have SZ := Lib.hid (fun w1 hb => size_any n X v w1 w hv hb)
  obtain ⟨A, c, rfl, hr⟩ := hv.rows
  have HV := Lib.hid hr
  have HLT := Lib.hid hv.lt
  have HH := Lib.hid H
  have AW := Lib.hid (awake_in H w)
  clear hv hr H
  go_enter Try.func3, Try.ntmps3
  go_wp2_with fail
  refine AW.out.mono ?_
  rintro _ w1 ⟨rfl, hb1⟩
  have B1 := Lib.hid hb1
  clear AW hb1
  go_wp2_with fail
  refine (SZ.out w1 B1.out).mono ?_
  rintro _ w2 ⟨s, rfl, hb2, hsz, hsm⟩
  have B2 : Hid (Below w.heap.size w w2) := Lib.hid (B1.out.trans (hb2.mono B1.out.size))
  have HSZ := Lib.hid hsz
  have HSM := Lib.hid hsm
  clear B1 hb2 hsz SZ hsm
  by_cases hs : 2000 < s
  · have q : (2000 : Int) < (s : Int) := by omega
    clear HV HH HLT HSZ HSM
    go_wp2
    go_ret
    exact ⟨rfl, B2.out⟩
  have q : ¬ (2000 : Int) < (s : Int) := by omega
  have HS2 := Lib.hid (HSZ.out (by omega))
  have HS3 := Lib.hid (HSM.out (by omega))
  clear HSZ HSM
  by_cases hm : 0 ≤ room ∧ room ≤ 1048576
  · obtain ⟨m, rfl⟩ : ∃ m : Nat, room = (m : Int) := ⟨room.toNat, by omega⟩
    have HM : Hid (m ≤ 1048576) := Lib.hid (by omega)
    clear hm
    go_wp2_with fail
    refine (HH.out.form.newH m HM.out w w2 B2.out).mono ?_
    rintro _ w3 ⟨p, rfl, g3, hb3⟩
    have G3 := Lib.hid g3
    clear g3 hb3 B2
    go_wp2_with fail
    refine (refNew13_ok m w3 HM.out).mono ?_
    rintro _ w4 ⟨rv, F4, rfl, h4, hF4, hb4⟩
    have h5 := h4
    obtain ⟨g, Bv5, rfl, -⟩ := h5
    have G4 : Hid (Two Rep RefSt w w4 (fun _ => False) (.pointer (some p)) (.pointer (some ⟨g, 0, none⟩)) m st0 st0) := Lib.hid (Two.start G3.out HH.out.form.keep h4 (refForm13.lt h4) hF4 hb4)
    clear h4 hF4 hb4 G3
    go_wp2
    go_loopw [10] (fun i wr => ∃ (k : Nat) (s : St), k ≤ n ∧ i = .int .i64 (k : Int) ∧ Hid (s.n ≤ sumN X k) ∧ Hid (Two Rep RefSt w wr (fun _ => False) (.pointer (some p)) (.pointer (some ⟨g, 0, none⟩)) m s s)) (fun i _ => n - (intOf i).toNat)
    case atStart => exact ⟨0, st0, by omega, rfl, Lib.hid (Nat.le_refl _), G4⟩
    case round =>
      clear G4
      obtain ⟨k, s, hk, rfl, hsum, hh⟩ := hrel
      by_cases hlt : k < n
      · obtain ⟨b, o, rfl, hbB, hc⟩ := HV.out (by omega)
        have hbel := hh.out.bel
        obtain ⟨bA, bc, hbv⟩ := (HLT.out k hlt).shape
        have hread := (HLT.out k hlt).read
        have c0 := (hbel.cell (p := ⟨b, o + k * 3, none⟩) hbB).trans (hc k hlt 0 _ rfl)
        have c1 := (hbel.cell (p := ⟨b, o + k * 3 + 1, none⟩) hbB).trans (hc k hlt 1 _ rfl)
        have c2 := (hbel.cell (p := ⟨b, o + k * 3 + 2, none⟩) hbB).trans (hc k hlt 2 _ rfl)
        rw [hbv] at c2 hread
        have q0 : (0 : Int) ≤ (k : Int) := by omega
        have q1 : (k : Int) < (n : Int) := by omega
        have HX : Hid ((X k).n ≤ 2000) := Lib.hid (HS2.out.2 k hlt)
        have HK : Hid (-9223372036854775808 ≤ (X k).k ∧ (X k).k ≤ 9223372036854775807) := Lib.hid (HLT.out k hlt).k
        have HRD := Lib.hid hread
        have HC1 : Hid (∀ W, Below w.heap.size w W → W.cell? ⟨b, o + k * 3, none⟩ = some (.int .i64 (X k).d) ∧ W.cell? ⟨b, o + k * 3 + 1, none⟩ = some (.int .i64 (X k).k) ∧ W.cell? ⟨b, o + k * 3 + 2, none⟩ = some (.slice bA (X k).n bc)) := Lib.hid (fun W hW => ⟨(hW.cell (p := ⟨b, o + k * 3, none⟩) hbB).trans (hc k hlt 0 _ rfl), (hW.cell (p := ⟨b, o + k * 3 + 1, none⟩) hbB).trans (hc k hlt 1 _ rfl), by rw [← hbv]; exact (hW.cell (p := ⟨b, o + k * 3 + 2, none⟩) hbB).trans (hc k hlt 2 _ rfl)⟩)
        have HSU : Hid (s.n + (X k).n ≤ sumN X (k + 1)) := Lib.hid (by have := hsum.out; show s.n + (X k).n ≤ sumN X k + (X k).n; omega)
        have HS4 : Hid (sumN X (k + 1) ≤ 2000) := Lib.hid (by
          have mono : ∀ j, sumN X (k + 1) ≤ sumN X (k + 1 + j) := fun j => by
            induction j with
            | zero => exact Nat.le_refl _
            | succ j ih => exact Nat.le_trans ih (Nat.le_add_right _ _)
          have := mono (n - (k + 1))
          rw [show k + 1 + (n - (k + 1)) = n by omega] at this
          exact Nat.le_trans this HS3.out)
        generalize (X k).d = d at *
        generalize (X k).k = kk at *
        generalize (X k).e = e at *
        generalize hxn : (X k).n = bn at *
        clear hc HV hbel hbv hread HLT hxn hsum
        have G0 := hh
        clear hh
        go_wp2_with fail
        refine (two_do HH.out G0.out d kk bn e bA bc ((bytes_old HRD.out G0.out.bel).less (fun b _ h => .inl h)) HX.out HK.out).mono ?_
        rintro _ w5 ⟨rfl, g5, -⟩
        have G5 := Lib.hid g5
        obtain ⟨c0, c1, c2⟩ := HC1.out w5 g5.bel
        clear g5 G0
        generalize hcode : doC m s d kk bn = cd at *
        have HCODE := Lib.hid hcode
        clear hcode
        go_wp2_with fail
        refine (two_told HH.out G5.out d kk bn e bA bc ((bytes_old HRD.out G5.out.bel).less (fun b _ h => .inl h)) HX.out HK.out).mono ?_
        rintro _ w6 ⟨rfl, g6, -⟩
        rw [HCODE.out]
        have HSN : Hid ((doS m s d kk bn e).n ≤ sumN X (k + 1)) := Lib.hid (Nat.le_trans (doS_n (two_okB G5.out) d kk bn e) HSU.out)
        have G6 := Lib.hid g6
        clear g6 G5 c0 c1 c2 HC1 HRD HSU HCODE
        generalize doS m s d kk bn e = s2 at *
        obtain ⟨A7, c7, r7, -, sl7⟩ := two_row G6.out
        have r8 : w6.drew.cell? ⟨g, 0, none⟩ = some (.slice A7 s2.n c7) := r7
        have G8 : Hid (Two Rep RefSt w w6.drew (fun _ => False) (.pointer (some p)) (.pointer (some ⟨g, 0, none⟩)) m s2 s2) := Lib.hid (G6.out.more HH.out.form.keep refForm13.keep (Below.refl _ _).drew (fun _ h => h.elim))
        clear r7 sl7 G6
        go_wp2_with fail
        refine region_mix (fun W => W.cell? ⟨g, 0, none⟩ = some (.slice A7 s2.n c7)) [(0, true), (2, true), (3, true), (4, true), (5, true), (1, false), (6, false), (7, false)] (by kernel_rfl) (by kernel_rfl) r8 ?_
        iterate 5
          refine m_val rfl (by rfl) _ (fun W hW => by go_simp; rfl) ?_
          simp only [Act.put, List.setIfInBounds_toArray, List.set_cons_zero, List.set_cons_succ]
        refine m_go rfl ?_
        go_wp2_with fail
        refine (two_read13 HH.out G8.out).mono ?_
        rintro _ w9 ⟨A9, c9, r, rfl, g9, -, hby, -, kp⟩
        have r9 : w9.cell? ⟨g, 0, none⟩ = some (.slice A7 s2.n c7) := by
          rw [← r8]
          unfold World.cell?
          rw [kp g rfl]
        obtain ⟨A10, c10, r10, -, sl10⟩ := two_row g9
        rw [r9] at r10
        cases r10
        have SL := Lib.hid sl10
        have BY := Lib.hid hby.slice
        have G9 : Hid (∀ q, Two Rep RefSt w (w9.drewN q) (fun _ => False) (.pointer (some p)) (.pointer (some ⟨g, 0, none⟩)) m s2 s2) := Lib.hid (fun q => (g9.less (X' := fun _ => False) (fun _ h => h.elim)).more (X' := fun _ => False) HH.out.form.keep refForm13.keep (drewN_below13 (Below.refl _ _) q) (fun _ h => h.elim))
        clear g9 kp r8 G8 hby sl10
        go_wp2_with fail
        refine m_on r9 ?_
        refine m_go rfl ?_
        go_wp2_with fail
        refine (Go.Proofs.Ythacldkmjpjgiaa.Mac.same_gen A9 A7 s2.n s2.n c9 c7 s2.e s2.e _ _ w9 BY.out SL.out (by have := HSN.out; have := HS4.out; omega) (by have := HSN.out; have := HS4.out; omega)).mono ?_
        rintro _ w10 ⟨rfl, q10, rfl⟩
        rw [Go.Proofs.Ythacldkmjpjgiaa.Mac.same_refl s2.e s2.e s2.n (fun _ _ => rfl)]
        have r10 : (w9.drewN q10).cell? ⟨g, 0, none⟩ = some (.slice A7 s2.n c7) := by
          rw [← r9]
          unfold World.cell?
          rw [drewN_heap]
        have G10 := Lib.hid (G9.out q10)
        clear G9 r9 SL BY
        generalize w9.drewN q10 = w11 at *
        go_wp2_with fail
        refine m_on r10 ?_
        refine m_go rfl ?_
        go_wp2_with fail
        refine m_on r10 ?_
        refine m_end ?_
        clear r10
        have HW5 : Hid (wrap64 ((k : Int) + 1) = ((k + 1 : Nat) : Int)) := Lib.hid ((wrap64_id (by omega) (by have := HS2.out.1; omega)).trans (by omega))
        go_wp2
        rw [HW5.out]
        exact ⟨⟨k + 1, s2, by omega, rfl, HSN, G10⟩, by simp [intOf]; omega⟩
      · obtain rfl : k = n := by omega
        have hb := Lib.hid hh.out.bel
        clear HV HH hh HLT HS2
        go_wp2
        go_ret
        exact ⟨rfl, hb.out⟩
  · have HM : Hid (¬ (0 ≤ room ∧ room ≤ 1048576)) := Lib.hid hm
    clear hm
    go_wp2_with fail
    refine (HH.out.form.new_no room w2 HM.out).mono ?_
    rintro _ w3 ⟨rfl, hb3⟩
    have B3 : Hid (Below w.heap.size w w3) := Lib.hid (B2.out.trans (hb3.mono B2.out.size))
    clear HV HH B2 hb3 HLT
    go_wp2_with fail
    refine (refNew13_no room w3 HM.out).mono ?_
    rintro _ w4 ⟨rfl, hb4⟩
    have B4 : Hid (Below w.heap.size w w4) := Lib.hid (B3.out.trans (hb4.mono B3.out.size))
    clear B3 hb4
    go_wp2
    go_ret
    exact ⟨rfl, B4.out⟩
end Go.Proofs.Ythacldkmjpjgiaa.Law13
