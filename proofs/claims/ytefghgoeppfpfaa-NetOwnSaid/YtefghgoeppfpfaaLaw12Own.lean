/-
  NetOwn: a letter that was sent is the net's own, one that was taken the caller's.
-/
import Derived.Test.YtefghgoeppfpfaaLaw12Awake
import Derived.Test.YtefghgoeppfpfaaMixLast
import Derived.Deep.DeepCutAuto
import Derived.Test.YtefghgoeppfpfaaSame
namespace Go.Proofs.Ytefghgoeppfpfaa.Law12
open Go Go.RowKit Go.Proofs.Ytefghgoeppfpfaa.Aid Go.Proofs.Ytefghgoeppfpfaa.Cache Go.Proofs.Ytefghgoeppfpfaa.Net

theorem own_pos {w : World} {base m : Nat} {e : Nat → BitVec 8} {v : Value} (h : Own w base (0 + m) (cat e 0 e) v) (hm : 0 < m) : ∃ g c, v = .slice (some ⟨g, 0, none⟩) m c ∧ base ≤ g ∧ g < w.heap.size ∧ SliceOf w w.heap.size m e v ∧ w.cell? ⟨g, 0, none⟩ = some (.int .u8 ((e 0).toNat : Int)) ∧ ∀ j, w.frozen? ⟨g, j, none⟩ = false := by
  have h1 : Own w base m e v := by
    have := Own.congr' h (e' := e) (fun j _ => by unfold cat; rw [if_neg (by omega), Nat.sub_zero])
    rwa [Nat.zero_add] at this
  rcases h1.form with ⟨_, h0⟩ | ⟨g, cap, cur, rfl, hb, hlt, hn, hh, _, hj⟩
  · omega
  · refine ⟨g, cap, rfl, hb, hlt, h1.slice (.inr (Nat.le_refl _)), by simp [World.cell?, hh, hj 0 hm], fun j => by simp [World.frozen?, hh]⟩
set_option maxRecDepth 100000 in
set_option maxHeartbeats 2000000 in
theorem own_any {Rep : RepN} (H : NetHas Rep) (n : Nat) (e : Nat → BitVec 8) (bv : Value) (w : World) (hv : SliceOf w w.heap.size n e bv) :
    Calls Try.prog 5 #[bv] w fun x w' => x = .returned (.bool true) ∧ Below w.heap.size w w' := by
  obtain ⟨A, c, rfl, hc, hr⟩ := hv
  have HV : Hid (SliceOf w w.heap.size n e (.slice A n c)) := ⟨A, c, rfl, hc, hr⟩
  have HH := Lib.hid H
  have AW := awake_in H w
  clear H hr
  by_cases hn : (500 : Int) < (n : Int) ∨ n = 0
  · by_cases h5 : (500 : Int) < (n : Int)
    · clear hn
      go_enter Try.func5, Try.ntmps5
      go_wp2_with fail
      refine AW.mono ?_
      rintro _ w1 ⟨rfl, b1⟩
      have B1 := Lib.hid b1
      clear b1 AW
      go_wp2
      go_ret
      exact ⟨rfl, B1.out⟩
    · obtain rfl : n = 0 := by omega
      clear hn
      go_enter Try.func5, Try.ntmps5
      go_wp2_with fail
      refine AW.mono ?_
      rintro _ w1 ⟨rfl, b1⟩
      have B1 := Lib.hid b1
      clear b1 AW
      go_wp2
      go_ret
      exact ⟨rfl, B1.out⟩
  · have h5 : ¬ (500 : Int) < (n : Int) := fun h => hn (.inl h)
    have hn0 : 0 < n := by omega
    have h0 : ((n : Int) == 0) = false := by simp; omega
    have hi0 : (0 : Int) < (n : Int) := by omega
    clear hn
    go_enter Try.func5, Try.ntmps5
    go_wp2_with fail
    refine AW.mono ?_
    rintro _ w1 ⟨rfl, b1⟩
    have B1 := Lib.hid b1
    clear b1 AW
    go_wp2_with fail
    refine (HH.out.form.newH 3 (by omega) w w1 B1.out).mono ?_
    rintro _ w2 ⟨p, rfl, h2, b2⟩
    have H2 := Lib.hid h2
    clear h2 b2
    have hs2 : SliceOf (w2.alloc (.cells #[] 5)) w.heap.size n e (.slice A n c) := slice_below (slice_below HV.out H2.out.bel) (((Below.refl _ _).alloc (Nat.le_refl _) _).mono (Nat.le_refl _))
    have HS2 := Lib.hid hs2
    have HE2 := Lib.hid (own_empty8 w2 e)
    have HB2 : Hid (Below w2.heap.size w2 (w2.alloc (.cells #[] 5))) := (Below.refl _ _).alloc (Nat.le_refl _) _
    clear hs2
    go_wp2_with (at_builtin; refine append_bytes (by rfl) (.tmp 31) (.tmp 32) (by rfl) w2.heap.size 0 e _ (by rfl) HE2.out w.heap.size n e _ (by rfl) HS2.out (by omega) HB2.out.size ?_; intro v3 w3 hown3 hg3 hat3; obtain ⟨g3, c3, rfl, hge3, hlt3, hs3, hc3, hf3⟩ := own_pos hown3 hn0; clear hown3 hat3)
    have hb3 := HB2.out.grown hg3 HB2.out.size (fun b hb => by cases hb; exact Nat.le_refl _)
    have g3h := HH.out.form.more (K' := fun b => b = g3) H2.out hb3 (fun b hb => .inr (by rw [hb]; exact ⟨hge3, hlt3⟩))
    have hw3 : w.heap.size ≤ g3 := Nat.le_trans H2.out.bel.size hge3
    clear hg3 HE2 HS2 HB2 H2
    refine (HH.out.form.sendH g3h ⟨⟨#[]⟩, ⟨#[]⟩, n, e, none_small, none_small⟩ _ hs3 (by show n ≤ 2000; omega)).mono ?_
    rintro _ w4 ⟨rfl, g4, kp⟩
    rw [show sendC 3 [] = 0 from rfl]
    have H4 := Lib.hid g4
    have hc4 := kp.cell hc3 rfl
    have hf4 : w4.frozen? ⟨g3, 0, none⟩ = false := (kp.frozen rfl).trans (hf3 0)
    clear g4 kp hc3 hf3 hs3 g3h hb3 hge3 hlt3
    go_wp2_with fail
    have g5 := (Held.write H4.out HH.out.form.keep (g := g3) (j := 0) (u := .int .u8 (bits BinOp.xor .u8 ((e 0).toNat : Int) 255)) rfl hw3).less (K' := fun _ => False) (fun _ h => h.elim)
    generalize w4.setCell ⟨g3, 0, none⟩ (.int .u8 (bits BinOp.xor .u8 ((e 0).toNat : Int) 255)) = w5 at *
    clear hc4 hf4 hw3 H4
    refine (HH.out.form.twiceH g5).mono ?_
    rintro _ w6 ⟨rfl, g6, -⟩
    have e6 : twiceL 3 (sendL 3 [] ⟨⟨#[]⟩, ⟨#[]⟩, n, e, none_small, none_small⟩) = [⟨⟨#[]⟩, ⟨#[]⟩, n, e, none_small, none_small⟩, ⟨⟨#[]⟩, ⟨#[]⟩, n, e, none_small, none_small⟩] := rfl
    have e7 : twiceC 3 (sendL 3 [] ⟨⟨#[]⟩, ⟨#[]⟩, n, e, none_small, none_small⟩) = 0 := rfl
    rw [e6] at g6
    rw [e7]
    have H6 := Lib.hid g6
    clear g5 g6 e6 e7
    go_wp2_with fail
    refine (HH.out.takeH H6.out).mono ?_
    rintro _ w7 ⟨A7, c7, r7, rfl, -, g7, got7⟩
    simp only [List.headD_cons, List.tail_cons, List.length_cons, ltV] at *
    obtain ⟨g, o, rfl, hr7, hf7⟩ := got7.at_ hn0
    have b8 : Below w7.heap.size w7 (w7.alloc (.cells #[.string ⟨#[]⟩, .string ⟨#[]⟩, .slice (some ⟨g, o, none⟩) n c7] 34)) := (Below.refl _ _).alloc (Nat.le_refl _) _
    have hlt7 : g < w7.heap.size := g7.old g (.inl hr7)
    have hge7 := got7.new g hr7
    have g8 := HH.out.form.more (K' := fun b => b = g) g7 b8 (fun b hb => .inl (.inl (by rw [hb]; exact hr7)))
    have y2 : (w7.alloc (.cells #[.string ⟨#[]⟩, .string ⟨#[]⟩, .slice (some ⟨g, o, none⟩) n c7] 34)).cell? ⟨w7.heap.size, 2, none⟩ = some (.slice (some ⟨g, o, none⟩) n c7) := by go_simp
    have s8 := got7.read _ (fun b hb => b8.block b (g7.old b (.inl hb)))
    have cg : (w7.alloc (.cells #[.string ⟨#[]⟩, .string ⟨#[]⟩, .slice (some ⟨g, o, none⟩) n c7] 34)).cell? ⟨g, o, none⟩ = some (.int .u8 ((e 0).toNat : Int)) := by
      obtain ⟨A, c, hv, -, hcc⟩ := s8
      obtain ⟨sb', so', hA, -, hj⟩ := hcc hn0
      cases hv
      cases hA
      exact hj 0 hn0
    have fg : (w7.alloc (.cells #[.string ⟨#[]⟩, .string ⟨#[]⟩, .slice (some ⟨g, o, none⟩) n c7] 34)).frozen? ⟨g, o, none⟩ = false := (World.frozen?_of_block (b8.block g hlt7)).trans (hf7 o)
    have v8 := slice_below HV.out g8.bel
    have Y2 := Lib.hid y2
    have S8 := Lib.hid s8
    have CG := Lib.hid cg
    have FG := Lib.hid fg
    have G8 := Lib.hid g8
    have V8 := Lib.hid v8
    clear cg fg g8 s8 v8 b8 g7 got7 hf7 hr7 H6 hlt7
    go_upto_region 12 with fail
    clear y2
    generalize (w7.alloc (.cells #[.string ⟨#[]⟩, .string ⟨#[]⟩, .slice (some ⟨g, o, none⟩) n c7] 34)) = w8 at *
    generalize w7.heap.size = k7 at *
    have y2 := Y2.out
    go_wp2_with fail
    refine (Mac.same_gen _ _ n n _ _ e e _ _ _ S8.out V8.out (by omega) (by omega)).mono ?_
    rintro _ w9 ⟨rfl, q, rfl⟩
    rw [Mac.same_refl e e n (fun _ _ => rfl)]
    have B9 : Hid (Below w8.heap.size w8 (w8.drewN q)) := Lib.hid (drewN_below0 (Below.refl _ _) q)
    have c2 : (w8.drewN q).drew.cell? ⟨k7, 2, none⟩ = some (.slice (some ⟨g, o, none⟩) n c7) := by rw [← y2]; exact (B9.out.drew).cell (block_lt_of_cell y2)
    have cg : (w8.drewN q).drew.cell? ⟨g, o, none⟩ = some (.int .u8 ((e 0).toNat : Int)) := by rw [← CG.out]; exact (B9.out.drew).cell (block_lt_of_cell CG.out)
    have fg : (w8.drewN q).drew.frozen? ⟨g, o, none⟩ = false := by rw [← FG.out]; exact World.frozen?_of_block ((B9.out.drew).block g (block_lt_of_cell CG.out))
    have G9 := Lib.hid (HH.out.form.more (K' := fun b => b = g) G8.out B9.out.drew (fun b hb => .inl hb))
    clear y2 B9
    generalize w8.drewN q = w9 at *
    go_upto_region 15 with fail
    refine region_mix_last (fun W => W.cell? ⟨k7, 2, none⟩ = some (.slice (some ⟨g, o, none⟩) n c7) ∧ W.cell? ⟨g, o, none⟩ = some (.int .u8 ((e 0).toNat : Int))) 8 [(0, true), (1, true), (2, true), (3, true), (4, true), (5, true), (6, true), (7, true)] (by kernel_rfl) rfl (by kernel_rfl) ⟨c2, cg⟩ ?_
    iterate 8
      refine m_val rfl (by rfl) _ (fun W hW => by have u2 := hW.1; have ug := hW.2; go_simp; rfl) ?_
      simp only [Act.put, List.setIfInBounds_toArray, List.set_cons_zero, List.set_cons_succ]
    refine m_end ?_
    have g10 : Held Rep w (w9.setCell ⟨g, o, none⟩ (.int .u8 (bits BinOp.xor .u8 ((e 0).toNat : Int) 255))).drew (fun _ => False) (.pointer (some p)) 3 [⟨⟨#[]⟩, ⟨#[]⟩, n, e, none_small, none_small⟩] := (Held.write G9.out HH.out.form.keep (g := g) (j := o) (u := .int .u8 (bits BinOp.xor .u8 ((e 0).toNat : Int) 255)) rfl hge7).less (K' := fun _ => False) (fun _ h => h.elim)
    dsimp only
    have fg0 := FG.out
    have fg1 : w9.frozen? ⟨g, o, none⟩ = false := fg
    go_wp2_with fail
    refine NoPanic.normal ?_
    clear c2 cg fg fg0 fg1 G9 G8 S8 CG FG V8 Y2
    generalize (w9.setCell ⟨g, o, none⟩ (.int .u8 (bits BinOp.xor .u8 ((e 0).toNat : Int) 255))).drew = w10 at *
    have G10 := Lib.hid g10
    clear g10
    go_wp2_with fail
    refine (HH.out.takeH G10.out).mono ?_
    rintro _ w11 ⟨A11, c11, r11, rfl, -, g11, got11⟩
    simp only [List.headD_cons, List.tail_cons, List.length_cons, ltV] at *
    have b12 : Below w11.heap.size w11 (w11.alloc (.cells #[.string ⟨#[]⟩, .string ⟨#[]⟩, .slice A11 n c11] 34)) := (Below.refl _ _).alloc (Nat.le_refl _) _
    have g12 := HH.out.form.more (K' := fun _ => False) g11 b12 (fun _ h => h.elim)
    have y2 : (w11.alloc (.cells #[.string ⟨#[]⟩, .string ⟨#[]⟩, .slice A11 n c11] 34)).cell? ⟨w11.heap.size, 2, none⟩ = some (.slice A11 n c11) := by go_simp
    have s12 := got11.read _ (fun b hb => b12.block b (g11.old b (.inl hb)))
    have V12 := Lib.hid (slice_below HV.out g12.bel)
    have S12 := Lib.hid s12
    have B12 := Lib.hid g12.bel
    clear s12 g12 g11 got11 b12 G10 hge7
    go_wp2_with fail
    refine (Mac.same_gen _ _ n n _ _ e e _ _ _ S12.out V12.out (by omega) (by omega)).mono ?_
    rintro _ w13 ⟨rfl, q2, rfl⟩
    rw [Mac.same_refl e e n (fun _ _ => rfl)]
    have B13 := Lib.hid (drewN_below0 B12.out q2)
    clear y2 S12 V12 B12
    go_wp2
    go_ret
    exact ⟨rfl, B13.out⟩
end Go.Proofs.Ytefghgoeppfpfaa.Law12
