/-
  'awake' of layer 15.
-/
import Derived.Test.YtebchoeeohmlaaaDoorBd10
import Derived.Test.YtebchoeeohmlaaaDoorBd08
import Derived.Test.YtebchoeeohmlaaaDoorBd23
import Derived.Deep.CutBlock
import Derived.Deep.DeepCutAuto
import Derived.WalkSmall
import Derived.WalkMore
namespace Go.Proofs.YtebchoeeohmlaaaDoor.Law15
open Go Go.RowKit Go.Proofs.YtebchoeeohmlaaaDoor.Aid Go.Proofs.YtebchoeeohmlaaaDoor.Cache Go.Proofs.YtebchoeeohmlaaaDoor.Store Go.Proofs.YtebchoeeohmlaaaDoor.Jour Go.Proofs.YtebchoeeohmlaaaDoor.Book

def ann : ByteArray := ⟨#[97, 110, 110]⟩
def wd (x : BitVec 8) : Wd := x :: List.replicate 15 0
def x1 : OpB := ⟨1, ann, wd 1, 0⟩
def x2 : OpB := ⟨1, ann, zw, 0⟩
def x3 : OpB := ⟨5, nos, wd 3, 4⟩
def x4 : OpB := ⟨4, nos, wd 5, 0⟩
def b1 : Bk := ⟨[(ann, wd 1)], [], 0, zw⟩
def b2 : Bk := ⟨[(ann, wd 1)], [], 4, wd 3⟩
def b3 : Bk := ⟨[(ann, wd 1)], [wd 5], 4, wd 3⟩
theorem c1 : applyC bk0 x1 = 0 ∧ applyB bk0 x1 = b1 := ⟨by decide +kernel, rfl⟩
theorem c2 : applyC b1 x2 = 5 := by decide +kernel
theorem c3 : applyC b1 x3 = 0 ∧ applyB b1 x3 = b2 := ⟨by decide +kernel, rfl⟩
theorem c4 : applyC b2 x4 = 0 ∧ applyB b2 x4 = b3 := ⟨by decide +kernel, rfl⟩
theorem o3 : opsB b3 = [x1, x4, x3] := rfl
theorem r3 : runB bk0 [x1, x4, x3] = some b3 := rfl
theorem k3 : keyB ann b3.L = wd 1 ∧ hasN b3.L ann = true ∧ decide (wd 5 ∈ b3.rev) = true := ⟨rfl, rfl, rfl⟩
theorem field_gen (La Ra : Value) (W : World) : (Instr.field 38 (bookV b3 La Ra) 2).run Tryd.prog W = .ok (.int .i64 4) W := by kernel_rfl
theorem pack_len {D : By → By} {E : OpB → By} (hD : ∀ x, (D x).length = 8) (h1 : (E x1).length ≤ 100) (h3 : (E x3).length ≤ 100) (h4 : (E x4).length ≤ 100) :
    (∀ y ∈ packL E b3, y.length ≤ 1000) ∧ (encAll D (packL E b3)).length ≤ 330 := by
  have hp : packL E b3 = [E x1, E x4, E x3] := rfl
  rw [hp]
  refine ⟨fun y hy => ?_, ?_⟩
  · simp only [List.mem_cons, List.not_mem_nil, or_false] at hy
    rcases hy with rfl | rfl | rfl <;> omega
  · rw [encAll, encAll, encAll, encAll, List.length_append, List.length_append, List.length_append, enc_len hD, enc_len hD, enc_len hD]
    simp only [List.length_nil]
    omega
set_option maxRecDepth 100000 in
set_option maxHeartbeats 4000000 in
theorem awake_in {RS : Book.RepSt} {RK : RepK} {D : By → By} {E : OpB → By} (w : World) (H : KeepHas w RS RK D E) (HB : BookHas) : Calls Tryd.prog 6 #[] w fun e w' => e = .returned (.bool true) ∧ Below w.heap.size w w' := by
  have HH := Lib.hid H
  have BB := Lib.hid HB
  obtain ⟨pl1, pl2⟩ := pack_len H.dlen (H.elen x1 (apply_right c1.1) rfl) (H.elen x3 (apply_right c3.1) rfl) (H.elen x4 (apply_right c4.1) rfl)
  have PL1 := Lib.hid pl1
  have PL2 := Lib.hid pl2
  clear H HB pl1 pl2
  go_enter Tryd.func6, Tryd.ntmps6
  go_wp2_with fail
  refine (HH.out.newH 1000 (by omega) w (Below.refl _ _)).mono ?_
  rintro _ w1 ⟨p, rfl, h1⟩
  have H1 := Lib.hid h1
  clear h1
  go_wp2_with fail
  refine (HH.out.openH H1.out (R := []) (b := bk0) (t := []) rfl rfl (fun _ h => by cases h) ⟨rfl, rfl⟩ (by show (0 : Nat) ≤ _; omega)).mono ?_
  rintro _ w2 ⟨k, rfl, h2, -⟩
  have H2 : Hid (KT RS RK w w2 (fun _ => False) (.pointer (some p)) (.pointer (some k)) 1000 st0 [] bk0) := Lib.hid h2
  clear h2 H1
  go_wp2_with fail
  refine (HH.out.doT H2.out x1 rfl (by decide) (by show (0 : Nat) ≤ _; omega) (by show (0 : Nat) ≤ _; omega)).mono ?_
  rintro _ w3 ⟨rfl, h3, -, -⟩
  obtain ⟨e1, e2, e3, e4, e5⟩ := do_up (R := []) (m := 1000) HH.out (st := st0) (b := bk0) (x := x1) ⟨rfl, rfl⟩ c1.1 rfl (by show (0 : Nat) + 110 ≤ _; omega)
  rw [e1] at h3 ⊢
  replace h3 := h3 (by decide)
  rw [e4, e5, c1.2] at h3
  have e3' : (doS D E 1000 st0 bk0 x1).n ≤ 110 := by have : st0.n = 0 := rfl; omega
  clear e1 e3 e4 e5
  generalize doS D E 1000 st0 bk0 x1 = s1 at *
  have H3 := Lib.hid h3
  have U1 := Lib.hid e2
  have N1 := Lib.hid e3'
  clear h3 e2 e3' H2
  go_wp2_with fail
  refine (HH.out.doT H3.out x2 rfl (by decide) (by have := N1.out; omega) (by show (1 : Nat) ≤ _; omega)).mono ?_
  rintro _ w4 ⟨rfl, h4, -, -⟩
  obtain ⟨e1, e2, e3, e4⟩ := do_err D E 1000 s1 ([] ++ [x1]) (b := b1) (x := x2) (by rw [c2]; decide)
  rw [e1, c2] at h4 ⊢
  replace h4 := h4 (by decide)
  rw [e2, e3, e4] at h4
  have H4 := Lib.hid h4
  clear h4 e1 e2 e3 e4 H3
  go_wp2_with fail
  refine (HH.out.doT H4.out x3 rfl (by decide) (by have := N1.out; omega) (by show (1 : Nat) ≤ _; omega)).mono ?_
  rintro _ w5 ⟨rfl, h5, -, -⟩
  obtain ⟨e1, e2, e3, e4, e5⟩ := do_up (R := [] ++ [x1]) (m := 1000) HH.out (st := s1) (b := b1) (x := x3) U1.out c3.1 rfl (by have := N1.out; omega)
  rw [e1] at h5 ⊢
  replace h5 := h5 (by decide)
  rw [e4, e5, c3.2] at h5
  have e3' : (doS D E 1000 s1 b1 x3).n ≤ 220 := by have := N1.out; omega
  clear e1 e3 e4 e5
  generalize doS D E 1000 s1 b1 x3 = s2 at *
  have H5 := Lib.hid h5
  have U2 := Lib.hid e2
  have N2 := Lib.hid e3'
  clear h5 e2 e3' H4 U1 N1
  go_wp2_with fail
  refine (HH.out.doT H5.out x4 rfl (by decide) (by have := N2.out; omega) (by show (2 : Nat) ≤ _; omega)).mono ?_
  rintro _ w6 ⟨rfl, h6, -, -⟩
  obtain ⟨e1, e2, e3, e4, e5⟩ := do_up (R := [] ++ [x1] ++ [x3]) (m := 1000) HH.out (st := s2) (b := b2) (x := x4) U2.out c4.1 rfl (by have := N2.out; omega)
  rw [e1] at h6 ⊢
  replace h6 := h6 (by decide)
  rw [e4, e5, c4.2] at h6
  have e3' : (doS D E 1000 s2 b2 x4).n ≤ 330 := by have := N2.out; omega
  clear e1 e3 e4 e5
  generalize doS D E 1000 s2 b2 x4 = s3 at *
  have H6 := Lib.hid h6
  have U3 := Lib.hid e2
  have N3 := Lib.hid e3'
  clear h6 e2 e3' H5 U2 N2
  go_wp2_with fail
  refine (HH.out.packT H6.out (by have := N3.out; omega) (by show (3 : Nat) ≤ _; omega)).mono ?_
  rintro _ w7 ⟨rfl, -, h7, -⟩
  obtain ⟨e1, e2, e3, e4⟩ := only_up (D := D) (m := 1000) (M := packL E b3) U3.out PL1.out (by have := PL2.out; omega)
  rw [e1]
  have hsc : scan D (bytesL (onlyS D 1000 s3 (packL E b3))) = some ((opsB b3).map E, []) := by
    rw [e4]
    have := scan_all HH.out.dlen PL1.out (p := []) (.inl rfl)
    rw [List.append_nil] at this
    exact this
  have e3' : (onlyS D 1000 s3 (packL E b3)).n ≤ 330 := by rw [e3]; exact PL2.out
  clear e1 e3 e4
  generalize onlyS D 1000 s3 (packL E b3) = s4 at *
  have H7 := Lib.hid h7
  have U4 := Lib.hid e2
  have N4 := Lib.hid e3'
  have SC := Lib.hid hsc
  clear h7 e2 e3' hsc H6 U3 N3 PL1 PL2
  go_wp2_with fail
  refine (HH.out.openH H7.out (R := opsB b3) (b := b3) (t := []) SC.out r3 (fun y hy => by rw [o3] at hy; simp only [List.mem_cons, List.not_mem_nil, or_false] at hy; rcases hy with rfl | rfl | rfl <;> rfl) U4.out (by have := N4.out; omega)).mono ?_
  rintro _ w8 ⟨j, rfl, h8, -⟩
  have H8 := Lib.hid h8
  clear h8 H7 SC N4 U4
  go_wp2_with fail
  refine (HH.out.bookT H8.out).mono ?_
  rintro _ w9 ⟨Lv, Rv, rfl, ha, h9, -⟩
  have H9 := Lib.hid h9
  have A9 := Lib.hid ha
  clear h9 ha H8
  go_wp2_with fail
  refine (BB.out.key ann A9.out (by decide)).mono ?_
  rintro _ w10 ⟨rfl, hb10⟩
  rw [k3.1, k3.2.1]
  have H10 := Lib.hid (HH.out.more (X' := fun _ => False) H9.out hb10 (fun _ h => h.elim))
  clear hb10 H9 A9
  have HZ := Lib.hid (row_new w10 (Array.replicate 16 (.int .u8 0)) 26 16 (fun _ => .int .u8 0) (by simp) (Field.zero16 _ rfl))
  have BZ : Hid (Below w10.heap.size w10 (w10.alloc (.cells (Array.replicate 16 (.int .u8 0)) 26))) := Lib.hid ((Below.refl _ _).alloc (Nat.le_refl _) _)
  go_upto_region 14 with (refine store_whole (by rfl) 26 (.tmp 12) (.tmp 61) (by rfl) w10.heap.size _ 16 _ (wordF (wd 1)) HZ.out (by rfl) _ (by rfl) (by kernel_rfl) (size_cellsOf _ _) (cellsOf_at _ _) (fun _ _ => rfl) ?_; intro w11 hr11 ho11)
  have HR := Lib.hid hr11
  have H11 := Lib.hid (HH.out.more (X' := fun x => x = w10.heap.size) H10.out (ho11.below BZ.out (Nat.le_refl _)) (fun x hx => .inr (by rw [hx]; exact ⟨Nat.le_refl _, World.rowIs.lt hr11⟩)))
  clear hr11 ho11 BZ HZ H10
  generalize w10.heap.size = g12 at *
  clear w10
  have en2 : ∀ W, (Op.equalIn 10000 26 (.agg (cellsOf 16 (wordF (wd 1#8)))) (.agg #[.int .u8 1, .int .u8 0, .int .u8 0, .int .u8 0, .int .u8 0, .int .u8 0, .int .u8 0, .int .u8 0, .int .u8 0, .int .u8 0, .int .u8 0, .int .u8 0, .int .u8 0, .int .u8 0, .int .u8 0, .int .u8 0])).run Tryd.prog W = .ok true W := fun W => run_equalIn_same 9998 Tryd.underlying26 Tryd.underlying5 (by kernel_rfl) (cellsOf 16 (wordF (wd 1#8))) (fun i hi => ⟨_, cellsOf_at 16 _ i hi⟩) W
  go_wp2_with (refine load_whole_met (by rfl) 26 (.tmp 12) (by rfl) _ _ _ _ HR.out (by rfl) _ Tryd.underlying26 (by rfl) (by kernel_rfl) ?_)
  refine (HH.out.bookT H11.out).mono ?_
  rintro _ w12 ⟨La, Ra, rfl, -, h12, -⟩
  have H12 := Lib.hid h12
  have fg := field_gen La Ra w12
  clear h12 H11 HR en2
  go_wp2_with fail
  refine (HH.out.bookT H12.out).mono ?_
  rintro _ w13 ⟨Lb, Rb, rfl, a13, h13, -⟩
  have H13 := Lib.hid h13
  have A13 := Lib.hid a13
  clear h13 a13 H12
  go_wp2_with fail
  have DD := BB.out.dead (wd 5) A13.out rfl
  rw [k3.2.2] at DD
  refine DD.mono ?_
  clear DD
  rintro _ w14 ⟨rfl, hb14⟩
  have H14 := Lib.hid (HH.out.more (X' := fun _ => False) H13.out hb14 (fun _ h => h.elim))
  clear hb14 H13 A13
  go_wp2_with fail
  refine (HH.out.bookT H14.out).mono ?_
  rintro _ w15 ⟨Lc, Rc, rfl, a15, h15, -⟩
  have H15 := Lib.hid h15
  have A15 := Lib.hid a15
  clear h15 a15 H14
  go_wp2_with fail
  refine (BB.out.ops A15.out).mono ?_
  rintro _ w16 ⟨v, rfl, ⟨oA, oc, rfl, -⟩, hb16⟩
  have HE := Lib.hid (H15.out.bel.trans (hb16.mono H15.out.bel.size))
  have n3 : (opsB b3).length = 3 := rfl
  rw [n3]
  clear hb16 H15 A15
  go_wp2
  go_ret
  exact ⟨rfl, HE.out⟩
end Go.Proofs.YtebchoeeohmlaaaDoor.Law15
