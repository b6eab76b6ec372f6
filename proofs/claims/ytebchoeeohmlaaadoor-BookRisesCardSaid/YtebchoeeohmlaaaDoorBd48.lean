/-
  'awake' of layer 15. The walk of BookSure.
-/
import Derived.Test.YtebchoeeohmlaaaDoorBd10
import Derived.Test.YtebchoeeohmlaaaDoorBd08
import Derived.Test.YtebchoeeohmlaaaDoorBd23
import Derived.Test.YtebchoeeohmlaaaDoorBd11
import Derived.Deep.CutBlock
import Derived.Deep.DeepCutAuto
import Derived.WalkSmall
import Derived.WalkMore
namespace Go.Proofs.YtebchoeeohmlaaaDoor.Law15
open Go Go.RowKit Go.Proofs.YtebchoeeohmlaaaDoor.Aid Go.Proofs.YtebchoeeohmlaaaDoor.Cache Go.Proofs.YtebchoeeohmlaaaDoor.Store Go.Proofs.YtebchoeeohmlaaaDoor.Jour Go.Proofs.YtebchoeeohmlaaaDoor.Book

def ann : ByteArray := ⟨#[97, 110, 110]⟩
def wd (x : BitVec 8) : Wd := x :: List.replicate 15 0
def x1 : OpB := ⟨1, ann, wd 1, 0⟩
def x2 : OpB := ⟨1, ann, zw, 0⟩
def x3 : OpB := ⟨5, nos, wd 3, 4⟩
def x4 : OpB := ⟨4, nos, wd 5, 0⟩
def b1 : Bk := ⟨[(ann, wd 1)], [], 0, zw⟩
def b2 : Bk := ⟨[(ann, wd 1)], [], 4, wd 3⟩
def b3 : Bk := ⟨[(ann, wd 1)], [wd 5], 4, wd 3⟩
theorem c1 : applyC bk0 x1 = 0 ∧ applyB bk0 x1 = b1 := ⟨by decide +kernel, rfl⟩
theorem c2 : applyC b1 x2 = 5 := by decide +kernel
theorem c3 : applyC b1 x3 = 0 ∧ applyB b1 x3 = b2 := ⟨by decide +kernel, rfl⟩
theorem c4 : applyC b2 x4 = 0 ∧ applyB b2 x4 = b3 := ⟨by decide +kernel, rfl⟩
theorem o3 : opsB b3 = [x1, x4, x3] := rfl
theorem r3 : runB bk0 [x1, x4, x3] = some b3 := rfl
theorem k3 : keyB ann b3.L = wd 1 ∧ hasN b3.L ann = true ∧ decide (wd 5 ∈ b3.rev) = true := ⟨rfl, rfl, rfl⟩
theorem field_gen (La Ra : Value) (W : World) : (Instr.field 38 (bookV b3 La Ra) 2).run Tryd.prog W = .ok (.int .i64 4) W := by kernel_rfl
theorem pack_len {D : By → By} {E : OpB → By} (hD : ∀ x, (D x).length = 8) (h1 : (E x1).length ≤ 100) (h3 : (E x3).length ≤ 100) (h4 : (E x4).length ≤ 100) :
    (∀ y ∈ packL E b3, y.length ≤ 1000) ∧ (encAll D (packL E b3)).length ≤ 330 := by
  have hp : packL E b3 = [E x1, E x4, E x3] := rfl
  rw [hp]
  refine ⟨fun y hy => ?_, ?_⟩
  · simp only [List.mem_cons, List.not_mem_nil, or_false] at hy
    rcases hy with rfl | rfl | rfl <;> omega
  · rw [encAll, encAll, encAll, encAll, List.length_append, List.length_append, List.length_append, enc_len hD, enc_len hD, enc_len hD]
    simp only [List.length_nil]
    omega
set_option maxRecDepth 100000 in
set_option maxHeartbeats 4000000 in
theorem awake_in {RS : Book.RepSt} {RK : RepK} {D : By → By} {E : OpB → By} (w : World) (H : KeepHas w RS RK D E) (HB : BookHas) : Calls Tryd.prog 6 #[] w fun e w' => e = .returned (.bool true) ∧ Below w.heap.size w w' := by
  have HH := Lib.hid H
  have BB := Lib.hid HB
  obtain ⟨pl1, pl2⟩ := pack_len H.dlen (H.elen x1 (apply_right c1.1) rfl) (H.elen x3 (apply_right c3.1) rfl) (H.elen x4 (apply_right c4.1) rfl)
  have PL1 := Lib.hid pl1
  have PL2 := Lib.hid pl2
  clear H HB pl1 pl2
  go_enter Tryd.func6, Tryd.ntmps6
  go_wp2_with fail
  refine (HH.out.newH 1000 (by omega) w (Below.refl _ _)).mono ?_
  rintro _ w1 ⟨p, rfl, h1⟩
  have H1 := Lib.hid h1
  clear h1
  go_wp2_with fail
  refine (HH.out.openH H1.out (R := []) (b := bk0) (t := []) rfl rfl (fun _ h => by cases h) ⟨rfl, rfl⟩ (by show (0 : Nat) ≤ _; omega)).mono ?_
  rintro _ w2 ⟨k, rfl, h2, -⟩
  have H2 : Hid (KT RS RK w w2 (fun _ => False) (.pointer (some p)) (.pointer (some k)) 1000 st0 [] bk0) := Lib.hid h2
  clear h2 H1
  go_wp2_with fail
  refine (HH.out.doT H2.out x1 rfl (by decide) (by show (0 : Nat) ≤ _; omega) (by show (0 : Nat) ≤ _; omega)).mono ?_
  rintro _ w3 ⟨rfl, h3, -, -⟩
  obtain ⟨e1, e2, e3, e4, e5⟩ := do_up (R := []) (m := 1000) HH.out (st := st0) (b := bk0) (x := x1) ⟨rfl, rfl⟩ c1.1 rfl (by show (0 : Nat) + 110 ≤ _; omega)
  rw [e1] at h3 ⊢
  replace h3 := h3 (by decide)
  rw [e4, e5, c1.2] at h3
  have e3' : (doS D E 1000 st0 bk0 x1).n ≤ 110 := by have : st0.n = 0 := rfl; omega
  clear e1 e3 e4 e5
  generalize doS D E 1000 st0 bk0 x1 = s1 at *
  have H3 := Lib.hid h3
  have U1 := Lib.hid e2
  have N1 := Lib.hid e3'
  clear h3 e2 e3' H2
  go_wp2_with fail
  refine (HH.out.doT H3.out x2 rfl (by decide) (by have := N1.out; omega) (by show (1 : Nat) ≤ _; omega)).mono ?_
  rintro _ w4 ⟨rfl, h4, -, -⟩
  obtain ⟨e1, e2, e3, e4⟩ := do_err D E 1000 s1 ([] ++ [x1]) (b := b1) (x := x2) (by rw [c2]; decide)
  rw [e1, c2] at h4 ⊢
  replace h4 := h4 (by decide)
  rw [e2, e3, e4] at h4
  have H4 := Lib.hid h4
  clear h4 e1 e2 e3 e4 H3
  go_wp2_with fail
  refine (HH.out.doT H4.out x3 rfl (by decide) (by have := N1.out; omega) (by show (1 : Nat) ≤ _; omega)).mono ?_
  rintro _ w5 ⟨rfl, h5, -, -⟩
  obtain ⟨e1, e2, e3, e4, e5⟩ := do_up (R := [] ++ [x1]) (m := 1000) HH.out (st := s1) (b := b1) (x := x3) U1.out c3.1 rfl (by have := N1.out; omega)
  rw [e1] at h5 ⊢
  replace h5 := h5 (by decide)
  rw [e4, e5, c3.2] at h5
  have e3' : (doS D E 1000 s1 b1 x3).n ≤ 220 := by have := N1.out; omega
  clear e1 e3 e4 e5
  generalize doS D E 1000 s1 b1 x3 = s2 at *
  have H5 := Lib.hid h5
  have U2 := Lib.hid e2
  have N2 := Lib.hid e3'
  clear h5 e2 e3' H4 U1 N1
  go_wp2_with fail
  refine (HH.out.doT H5.out x4 rfl (by decide) (by have := N2.out; omega) (by show (2 : Nat) ≤ _; omega)).mono ?_
  rintro _ w6 ⟨rfl, h6, -, -⟩
  obtain ⟨e1, e2, e3, e4, e5⟩ := do_up (R := [] ++ [x1] ++ [x3]) (m := 1000) HH.out (st := s2) (b := b2) (x := x4) U2.out c4.1 rfl (by have := N2.out; omega)
  rw [e1] at h6 ⊢
  replace h6 := h6 (by decide)
  rw [e4, e5, c4.2] at h6
  have e3' : (doS D E 1000 s2 b2 x4).n ≤ 330 := by have := N2.out; omega
  clear e1 e3 e4 e5
  generalize doS D E 1000 s2 b2 x4 = s3 at *
  have H6 := Lib.hid h6
  have U3 := Lib.hid e2
  have N3 := Lib.hid e3'
  clear h6 e2 e3' H5 U2 N2
  go_wp2_with fail
  refine (HH.out.packT H6.out (by have := N3.out; omega) (by show (3 : Nat) ≤ _; omega)).mono ?_
  rintro _ w7 ⟨rfl, -, h7, -⟩
  obtain ⟨e1, e2, e3, e4⟩ := only_up (D := D) (m := 1000) (M := packL E b3) U3.out PL1.out (by have := PL2.out; omega)
  rw [e1]
  have hsc : scan D (bytesL (onlyS D 1000 s3 (packL E b3))) = some ((opsB b3).map E, []) := by
    rw [e4]
    have := scan_all HH.out.dlen PL1.out (p := []) (.inl rfl)
    rw [List.append_nil] at this
    exact this
  have e3' : (onlyS D 1000 s3 (packL E b3)).n ≤ 330 := by rw [e3]; exact PL2.out
  clear e1 e3 e4
  generalize onlyS D 1000 s3 (packL E b3) = s4 at *
  have H7 := Lib.hid h7
  have U4 := Lib.hid e2
  have N4 := Lib.hid e3'
  have SC := Lib.hid hsc
  clear h7 e2 e3' hsc H6 U3 N3 PL1 PL2
  go_wp2_with fail
  refine (HH.out.openH H7.out (R := opsB b3) (b := b3) (t := []) SC.out r3 (fun y hy => by rw [o3] at hy; simp only [List.mem_cons, List.not_mem_nil, or_false] at hy; rcases hy with rfl | rfl | rfl <;> rfl) U4.out (by have := N4.out; omega)).mono ?_
  rintro _ w8 ⟨j, rfl, h8, -⟩
  have H8 := Lib.hid h8
  clear h8 H7 SC N4 U4
  go_wp2_with fail
  refine (HH.out.bookT H8.out).mono ?_
  rintro _ w9 ⟨Lv, Rv, rfl, ha, h9, -⟩
  have H9 := Lib.hid h9
  have A9 := Lib.hid ha
  clear h9 ha H8
  go_wp2_with fail
  refine (BB.out.key ann A9.out (by decide)).mono ?_
  rintro _ w10 ⟨rfl, hb10⟩
  rw [k3.1, k3.2.1]
  have H10 := Lib.hid (HH.out.more (X' := fun _ => False) H9.out hb10 (fun _ h => h.elim))
  clear hb10 H9 A9
  have HZ := Lib.hid (row_new w10 (Array.replicate 16 (.int .u8 0)) 26 16 (fun _ => .int .u8 0) (by simp) (Field.zero16 _ rfl))
  have BZ : Hid (Below w10.heap.size w10 (w10.alloc (.cells (Array.replicate 16 (.int .u8 0)) 26))) := Lib.hid ((Below.refl _ _).alloc (Nat.le_refl _) _)
  go_upto_region 14 with (refine store_whole (by rfl) 26 (.tmp 12) (.tmp 61) (by rfl) w10.heap.size _ 16 _ (wordF (wd 1)) HZ.out (by rfl) _ (by rfl) (by kernel_rfl) (size_cellsOf _ _) (cellsOf_at _ _) (fun _ _ => rfl) ?_; intro w11 hr11 ho11)
  have HR := Lib.hid hr11
  have H11 := Lib.hid (HH.out.more (X' := fun x => x = w10.heap.size) H10.out (ho11.below BZ.out (Nat.le_refl _)) (fun x hx => .inr (by rw [hx]; exact ⟨Nat.le_refl _, World.rowIs.lt hr11⟩)))
  clear hr11 ho11 BZ HZ H10
  generalize w10.heap.size = g12 at *
  clear w10
  have en2 : ∀ W, (Op.equalIn 10000 26 (.agg (cellsOf 16 (wordF (wd 1#8)))) (.agg #[.int .u8 1, .int .u8 0, .int .u8 0, .int .u8 0, .int .u8 0, .int .u8 0, .int .u8 0, .int .u8 0, .int .u8 0, .int .u8 0, .int .u8 0, .int .u8 0, .int .u8 0, .int .u8 0, .int .u8 0, .int .u8 0])).run Tryd.prog W = .ok true W := fun W => run_equalIn_same 9998 Tryd.underlying26 Tryd.underlying5 (by kernel_rfl) (cellsOf 16 (wordF (wd 1#8))) (fun i hi => ⟨_, cellsOf_at 16 _ i hi⟩) W
  go_wp2_with (refine load_whole_met (by rfl) 26 (.tmp 12) (by rfl) _ _ _ _ HR.out (by rfl) _ Tryd.underlying26 (by rfl) (by kernel_rfl) ?_)
  refine (HH.out.bookT H11.out).mono ?_
  rintro _ w12 ⟨La, Ra, rfl, -, h12, -⟩
  have H12 := Lib.hid h12
  have fg := field_gen La Ra w12
  clear h12 H11 HR en2
  go_wp2_with fail
  refine (HH.out.bookT H12.out).mono ?_
  rintro _ w13 ⟨Lb, Rb, rfl, a13, h13, -⟩
  have H13 := Lib.hid h13
  have A13 := Lib.hid a13
  clear h13 a13 H12
  go_wp2_with fail
  have DD := BB.out.dead (wd 5) A13.out rfl
  rw [k3.2.2] at DD
  refine DD.mono ?_
  clear DD
  rintro _ w14 ⟨rfl, hb14⟩
  have H14 := Lib.hid (HH.out.more (X' := fun _ => False) H13.out hb14 (fun _ h => h.elim))
  clear hb14 H13 A13
  go_wp2_with fail
  refine (HH.out.bookT H14.out).mono ?_
  rintro _ w15 ⟨Lc, Rc, rfl, a15, h15, -⟩
  have H15 := Lib.hid h15
  have A15 := Lib.hid a15
  clear h15 a15 H14
  go_wp2_with fail
  refine (BB.out.ops A15.out).mono ?_
  rintro _ w16 ⟨v, rfl, ⟨oA, oc, rfl, -⟩, hb16⟩
  have HE := Lib.hid (H15.out.bel.trans (hb16.mono H15.out.bel.size))
  have n3 : (opsB b3).length = 3 := rfl
  rw [n3]
  clear hb16 H15 A15
  go_wp2
  go_ret
  exact ⟨rfl, HE.out⟩
end Go.Proofs.YtebchoeeohmlaaaDoor.Law15
namespace Go.Proofs.YtebchoeeohmlaaaDoor.Law15
open Go Go.RowKit Go.Proofs.YtebchoeeohmlaaaDoor.Aid Go.Proofs.YtebchoeeohmlaaaDoor.Cache Go.Proofs.YtebchoeeohmlaaaDoor.Store Go.Proofs.YtebchoeeohmlaaaDoor.Jour Go.Proofs.YtebchoeeohmlaaaDoor.Book

/-- The loop: the books' blocks, and what stands for the keep. -/
def LoopS (RS : Book.RepSt) (RK : RepK) (D : By → By) (E : OpB → By) (w wr : World) (s k : Value) (gs gw : Nat) (b bw : Bk) (Ls Rs Lw Rw : Value) (down : Bool) (i : Nat) : Prop :=
  ∃ X st, ((down = false ∧ ∃ R, KT RS RK w wr X s k 1048576 st R b ∧ GoodK D E 1048576 st R b i) ∨ (down = true ∧ ∃ R R', Held RS w wr X s 1048576 st ∧ GoneK D E 1048576 st R R' b bw i)) ∧ Vr wr X w gs gw b Ls Rs ∧ Vr wr X w gw gs bw Lw Rw
theorem LoopS.bel {RS : Book.RepSt} {RK : RepK} {D : By → By} {E : OpB → By} {w wr : World} {s k : Value} {gs gw : Nat} {b bw : Bk} {Ls Rs Lw Rw : Value} {down : Bool} {i : Nat} (h : LoopS RS RK D E w wr s k gs gw b bw Ls Rs Lw Rw down i) : Below w.heap.size w wr := by
  obtain ⟨X, st, h1, _, _⟩ := h
  rcases h1 with ⟨_, R, h1, _⟩ | ⟨_, R, R', h1, _⟩
  · exact h1.bel
  · exact h1.bel
theorem LoopS.left {RS : Book.RepSt} {RK : RepK} {D : By → By} {E : OpB → By} {w wr : World} {s k : Value} {gs gw : Nat} {b bw : Bk} {Ls Rs Lw Rw : Value} {down : Bool} {i : Nat} (h : LoopS RS RK D E w wr s k gs gw b bw Ls Rs Lw Rw down i) :
    ∃ X st R R', Held RS w wr X s 1048576 st ∧ GoneK D E 1048576 st R R' b bw i ∧ Vr wr X w gs gw b Ls Rs ∧ Vr wr X w gw gs bw Lw Rw := by
  obtain ⟨X, st, h1, h2, h3⟩ := h
  rcases h1 with ⟨_, R, h1, h4⟩ | ⟨_, R, R', h1, h4⟩
  · exact ⟨X, st, R, R, h1.held, h4.gone bw, h2, h3⟩
  · exact ⟨X, st, R, R', h1, h4, h2, h3⟩
set_option maxRecDepth 100000 in
set_option maxHeartbeats 8000000 in
theorem booksure_any {RS : Book.RepSt} {RK : RepK} {D : By → By} {E : OpB → By} (n0 n1 : Int) (h0 : -9223372036854775808 ≤ n0 ∧ n0 ≤ 9223372036854775807) (h1 : -9223372036854775808 ≤ n1 ∧ n1 ≤ 9223372036854775807) (n : Nat) (X : Nat → ActB) (v : Value) (w00 : World) (H0 : KeepHas w00 RS RK D E) (HB0 : BookHas) (hv : ActsIn w00 n X v) :
    Calls Tryd.prog 4 #[v, .agg #[.int .i64 n0, .int .i64 n1]] w00 fun x w' => x = .returned (.bool true) ∧ Below w00.heap.size w00 w' := by
  obtain ⟨A, c, rfl, hr⟩ := hv.rows
  have HV := Lib.hid hr
  have HOK := Lib.hid hv.ok
  have HN0 := Lib.hid h0
  have HN1 := Lib.hid h1
  obtain ⟨gn, hgn⟩ : ∃ gn, gn = w00.heap.size := ⟨_, rfl⟩
  obtain ⟨w, hw⟩ : ∃ w, w = w00.alloc (.cells #[.int .i64 n0, .int .i64 n1] 65) := ⟨_, rfl⟩
  have hrow : w.rowIs w00.heap.size 65 2 (fun j => if j = 0 then .int .i64 n0 else .int .i64 n1) := by
    rw [hw]
    refine World.rowIs_alloc _ _ _ _ (fun i hi => ?_)
    simp at hi
    rcases (show i = 0 ∨ i = 1 by omega) with rfl | rfl <;> rfl
  have HB00 : Hid (Below w00.heap.size w00 w) := Lib.hid (by rw [hw]; exact (Below.refl _ _).alloc (Nat.le_refl _) _)
  have HH := Lib.hid (H0.up HB00.out)
  have BB := Lib.hid HB0
  have AW := Lib.hid (awake_in w HH.out HB0)
  have HGN : Hid (gn < w.heap.size ∧ w.cell? ⟨gn, 0, none⟩ = some (.int .i64 n0) ∧ w.cell? ⟨gn, 1, none⟩ = some (.int .i64 n1)) := Lib.hid (by rw [hgn]; exact ⟨hrow.lt, hrow.cell (i := 0) (by omega), hrow.cell (i := 1) (by omega)⟩)
  clear hv hr H0 HB0 h0 h1 hrow
  go_enter Tryd.func4, Tryd.ntmps4
  go_wp2_with fail
  rw [← hw, ← hgn]
  clear hw hgn
  refine AW.out.mono ?_
  rintro _ w1 ⟨rfl, hb1⟩
  have B1 := Lib.hid hb1
  clear AW hb1
  by_cases hs : 30 < n
  · have q : (30 : Int) < (n : Int) := by omega
    have HB2 : Hid (Below w00.heap.size w00 w1) := Lib.hid (HB00.out.trans (B1.out.mono HB00.out.size))
    clear HV HOK HH BB
    go_wp2
    go_ret
    exact ⟨rfl, HB2.out⟩
  have q : ¬ (30 : Int) < (n : Int) := by omega
  have HNN : Hid (n ≤ 30) := Lib.hid (by omega)
  go_wp2_with fail
  refine (HH.out.newH 1048576 (Nat.le_refl _) w1 B1.out).mono ?_
  rintro _ w3 ⟨p, rfl, g3⟩
  have G3 := Lib.hid g3
  clear g3 B1
  go_wp2_with fail
  refine (HH.out.openH G3.out (R := []) (b := bk0) (t := []) rfl rfl (fun _ h => by cases h) ⟨rfl, rfl⟩ (by show (0 : Nat) ≤ _; omega)).mono ?_
  rintro _ w4 ⟨k, rfl, g4, -⟩
  have G4 : Hid (KT RS RK w w4 (fun _ => False) (.pointer (some p)) (.pointer (some k)) 1048576 st0 [] bk0) := Lib.hid g4
  have d0 := (g4.bel.cell (p := ⟨gn, 0, none⟩) HGN.out.1).trans HGN.out.2.1
  clear g4 G3
  go_wp2_with fail
  refine (HH.out.fuseT G4.out n0 HN0.out.1 HN0.out.2).mono ?_
  rintro _ w5 ⟨rfl, g5, -⟩
  have G5 := Lib.hid g5
  have K5 : Hid (GoodK D E 1048576 (fuseS st0 n0) [] bk0 0) := Lib.hid ⟨⟨rfl, rfl, (fun _ h => by cases h), fuse_ok ⟨Nat.le_refl _, Nat.zero_le _, Nat.le_refl _, by show (-1 : Int) ≤ -1; omega, by show (-1 : Int) ≤ _; omega⟩ n0 HN0.out.2⟩, ⟨rfl, fun _ h => by cases h⟩, reach0, Nat.le_refl _, Nat.le_refl _⟩
  clear g5 G4 d0
  have HZ := Lib.hid (row_new w5 #[.slice none 0 0, .slice none 0 0, .int .i64 0, .int .u8 0, .int .u8 0, .int .u8 0, .int .u8 0, .int .u8 0, .int .u8 0, .int .u8 0, .int .u8 0, .int .u8 0, .int .u8 0, .int .u8 0, .int .u8 0, .int .u8 0, .int .u8 0, .int .u8 0, .int .u8 0] 38 19 _ rfl (zero19 _ rfl))
  have BZ : Hid (Below w5.heap.size w5 (w5.alloc (.cells #[.slice none 0 0, .slice none 0 0, .int .i64 0, .int .u8 0, .int .u8 0, .int .u8 0, .int .u8 0, .int .u8 0, .int .u8 0, .int .u8 0, .int .u8 0, .int .u8 0, .int .u8 0, .int .u8 0, .int .u8 0, .int .u8 0, .int .u8 0, .int .u8 0, .int .u8 0] 38))) := Lib.hid ((Below.refl _ _).alloc (Nat.le_refl _) _)
  go_upto_region 10 with (refine store_whole (by rfl) 38 (.tmp 10) (.tmp 48) (by rfl) w5.heap.size _ 19 _ (bookF bk0 (.slice none 0 0) (.slice none 0 0)) HZ.out (by rfl) _ (by rfl) (by kernel_rfl) (by rfl) (zero19 _ rfl) (fun i _ => book_one (book_empty w5) i) ?_; intro w6 hr6 ho6)
  have HR6 := Lib.hid hr6
  have B6 : Hid (Below w5.heap.size w5 w6) := Lib.hid (ho6.below BZ.out (Nat.le_refl _))
  have HG6 : Hid (w5.heap.size < w6.heap.size) := Lib.hid (World.rowIs.lt hr6)
  clear hr6 ho6 HZ BZ
  have HZ := Lib.hid (row_new w6 #[.slice none 0 0, .slice none 0 0, .int .i64 0, .int .u8 0, .int .u8 0, .int .u8 0, .int .u8 0, .int .u8 0, .int .u8 0, .int .u8 0, .int .u8 0, .int .u8 0, .int .u8 0, .int .u8 0, .int .u8 0, .int .u8 0, .int .u8 0, .int .u8 0, .int .u8 0] 38 19 _ rfl (zero19 _ rfl))
  have BZ : Hid (Below w6.heap.size w6 (w6.alloc (.cells #[.slice none 0 0, .slice none 0 0, .int .i64 0, .int .u8 0, .int .u8 0, .int .u8 0, .int .u8 0, .int .u8 0, .int .u8 0, .int .u8 0, .int .u8 0, .int .u8 0, .int .u8 0, .int .u8 0, .int .u8 0, .int .u8 0, .int .u8 0, .int .u8 0, .int .u8 0] 38))) := Lib.hid ((Below.refl _ _).alloc (Nat.le_refl _) _)
  go_upto_region 11 with (refine store_whole (by rfl) 38 (.tmp 11) (.tmp 49) (by rfl) w6.heap.size _ 19 _ (bookF bk0 (.slice none 0 0) (.slice none 0 0)) HZ.out (by rfl) _ (by rfl) (by kernel_rfl) (by rfl) (zero19 _ rfl) (fun i _ => book_one (book_empty w6) i) ?_; intro w7 hr7 ho7)
  have B7 : Hid (Below w6.heap.size w6 w7) := Lib.hid (ho7.below BZ.out (Nat.le_refl _))
  have hap0 : ∀ g, Apart (.slice none 0 0) (.slice none 0 0) g := fun g => ⟨fun h => (by cases h), fun h => (by cases h)⟩
  have hg7 : w6.heap.size < w7.heap.size := World.rowIs.lt hr7
  have hw5 : w.heap.size ≤ w5.heap.size := G5.out.bel.size
  have HNE : Hid (w5.heap.size ≠ w6.heap.size) := Lib.hid (by have := HG6.out; omega)
  have L7 : Hid (LoopS RS RK D E w w7 (.pointer (some p)) (.pointer (some k)) w5.heap.size w6.heap.size bk0 bk0 (.slice none 0 0) (.slice none 0 0) (.slice none 0 0) (.slice none 0 0) false 0) := Lib.hid
    ⟨fun x => x = w5.heap.size ∨ x = w6.heap.size, _, .inl ⟨rfl, [], HH.out.more G5.out (B6.out.trans (B7.out.mono B6.out.size)) (fun x hx => .inr (by have := HG6.out; rcases hx with rfl | rfl <;> omega)), K5.out⟩,
      ⟨HR6.out.of_block (B7.out.block _ (World.rowIs.lt HR6.out)), book_empty w7, fun x hx => absurd (hap0 x) hx, .inl rfl, hw5, hap0 _, hap0 _⟩,
      ⟨hr7, book_empty w7, fun x hx => absurd (hap0 x) hx, .inr rfl, Nat.le_trans hw5 B6.out.size, hap0 _, hap0 _⟩⟩
  clear hr7 ho7 HZ BZ B6 B7 hap0 hg7 hw5 HR6 HG6 G5 K5
  generalize w5.heap.size = gs at *
  generalize w6.heap.size = gw at *
  clear w5 w6
  go_wp2_with fail
  go_loopw [12, 13] (fun dv iv wr => ∃ (kk : Nat) (b bw : Bk) (Ls Rs Lw Rw : Value) (down : Bool), kk ≤ n ∧ iv = .int .i64 (kk : Int) ∧ dv = .bool down ∧ Hid (LoopS RS RK D E w wr (.pointer (some p)) (.pointer (some k)) gs gw b bw Ls Rs Lw Rw down kk)) (fun _ i _ => n - (intOf i).toNat)
  case atStart => exact ⟨0, bk0, bk0, _, _, _, _, false, by omega, rfl, rfl, L7⟩
  case round =>
    clear L7
    obtain ⟨kk, b, bw, Ls, Rs, Lw, Rw, down, hk, rfl, rfl, hh⟩ := hrel
    by_cases hlt : kk < n
    · have q1 : (kk : Int) < (n : Int) := by omega
      cases down with
      | true =>
        obtain ⟨X4, st, R, R', hh4, hg4, hs4, hw4⟩ := hh.out.left
        have HH4 := Lib.hid hh4
        have HG4 := Lib.hid hg4
        have HS4 := Lib.hid hs4
        have HW4 := Lib.hid hw4
        have HKN : Hid (kk ≤ 30) := Lib.hid (by have := HNN.out; omega)
        have d1 := (hh4.bel.cell (p := ⟨gn, 1, none⟩) HGN.out.1).trans HGN.out.2.2
        clear hh hh4 hg4 hs4 hw4 HV HOK
        go_wp2_with fail
        refine (HH.out.crashH HH4.out n1 HN1.out.1 HN1.out.2).mono ?_
        rintro _ w6 ⟨rfl, h6, kp6⟩
        obtain ⟨R2, b2, t, hsc, hops, hb2, hn6⟩ := gone_crash HH.out HG4.out n1 (by have := HKN.out; omega)
        have HS6 := Lib.hid (HS4.out.keep kp6 (fun _ h => h) h6.old)
        have HW6 := Lib.hid (HW4.out.keep kp6 (fun _ h => h) h6.old)
        have H6 := Lib.hid h6
        have HSC := Lib.hid hsc
        have HOPS := Lib.hid hops
        have HB2 := Lib.hid hb2
        have HN6 := Lib.hid hn6
        have HU6 : Hid (Up (crashS st n1)) := Lib.hid ⟨rfl, rfl⟩
        clear h6 kp6 hsc hops hb2 hn6 HS4 HW4 HH4 HG4 d1
        generalize crashS st n1 = st6 at *
        go_wp2_with fail
        refine (HH.out.openH H6.out HSC.out HOPS.out.run HOPS.out.keys HU6.out HN6.out).mono ?_
        rintro _ w7 ⟨kp, rfl, h7, kk7⟩
        have HS7 := Lib.hid (HS6.out.keep kk7 (fun _ h => h) h7.held.old)
        have HW7 := Lib.hid (HW6.out.keep kk7 (fun _ h => h) h7.held.old)
        have H7 := Lib.hid h7
        clear h7 kk7 HS6 HW6 H6 HSC HOPS HN6 HU6
        generalize openS 1048576 st6 t = st7 at *
        go_upto_region 34 with fail
        have HY := Lib.hid (fun (W : World) (hW : Below w7.heap.size w7 W) => range_row (HS7.out.row.of_block (hW.block gs (World.rowIs.lt HS7.out.row))))
        have HYW := Lib.hid (fun (W : World) (hW : Below w7.heap.size w7 W) => range_row (HW7.out.row.of_block (hW.block gw (World.rowIs.lt HW7.out.row))))
        have hS : Below w7.heap.size w7 w7.drew := (Below.refl _ _).drew
        refine region_h (fun W => Below w7.heap.size w7 W) 14 (by kernel_rfl) rfl ?_
        refine f_take 0 rfl (by kernel_rfl) (by rfl) _ (fun W hW => by go_simp; rfl) hS ?_
        simp only [Act.put, List.setIfInBounds_toArray, List.set_cons_zero, List.set_cons_succ]
        refine f_take 1 rfl (by kernel_rfl) (by rfl) _ (fun W hW => by go_simp; rfl) hS ?_
        simp only [Act.put, List.setIfInBounds_toArray, List.set_cons_zero, List.set_cons_succ]
        refine f_take 2 rfl (by kernel_rfl) (by rfl) _ (fun W hW => by go_simp; rfl) hS ?_
        simp only [Act.put, List.setIfInBounds_toArray, List.set_cons_zero, List.set_cons_succ]
        refine f_range 4 rfl (by kernel_rfl) (by rfl) 38 (.tmp 10) (by rfl) gs 0 19 (bookF b Ls Rs) HY.out (by rfl) _ Tryd.underlying38 (by rfl) (by kernel_rfl) hS ?_
        simp only [Act.put, List.setIfInBounds_toArray, List.set_cons_zero, List.set_cons_succ]
        have H7d := Lib.hid (HH.out.more (X' := X4) H7.out hS (fun _ h => .inl h))
        have BV0 := Lib.hid hS
        clear hS H7
        generalize w7.drew = V0 at *
        refine f_go 3 rfl (by kernel_rfl) ?_
        go_wp2_with fail
        refine (HH.out.bookT H7d.out).mono ?_
        rintro _ V1 ⟨La, Ra, rfl, ha, h8, hb8⟩
        have BV1 : Hid (Below w7.heap.size w7 V1) := Lib.hid (BV0.out.trans (hb8.mono BV0.out.size))
        have HA1 := Lib.hid ha
        have H8 := Lib.hid h8
        clear ha h8 hb8 H7d BV0
        go_wp2_with fail
        refine m_on BV1.out ?_
        refine f_go 5 rfl (by kernel_rfl) ?_
        go_wp2_with fail
        refine (BB.out.same HA1.out (HS7.out.at_.below BV1.out)).mono ?_
        rintro _ V2 ⟨⟨t9, rfl, ht⟩, hb9⟩
        have BV2 : Hid (Below w7.heap.size w7 V2) := Lib.hid (BV1.out.trans (hb9.mono BV1.out.size))
        have H9 := Lib.hid (HH.out.more (X' := X4) H8.out hb9 (fun _ h => .inl h))
        clear hb9 H8 HA1 BV1
        by_cases hbb : b2 = b
        · obtain rfl : t9 = true := ht.2 hbb
          clear ht
          go_wp2_with fail
          refine m_on BV2.out ?_
          refine f_take 6 rfl (by kernel_rfl) (by rfl) _ (fun W hW => by go_simp; rfl) BV2.out ?_
          simp only [Act.put, List.setIfInBounds_toArray, List.set_cons_zero, List.set_cons_succ]
          refine f_skip 7 rfl (by kernel_rfl) (by rfl) BV2.out ?_
          simp only [Act.put, List.setIfInBounds_toArray, List.set_cons_zero, List.set_cons_succ]
          refine f_skip 8 rfl (by kernel_rfl) (by rfl) BV2.out ?_
          simp only [Act.put, List.setIfInBounds_toArray, List.set_cons_zero, List.set_cons_succ]
          refine f_skip 9 rfl (by kernel_rfl) (by rfl) BV2.out ?_
          simp only [Act.put, List.setIfInBounds_toArray, List.set_cons_zero, List.set_cons_succ]
          refine f_skip 10 rfl (by kernel_rfl) (by rfl) BV2.out ?_
          simp only [Act.put, List.setIfInBounds_toArray, List.set_cons_zero, List.set_cons_succ]
          refine f_take 11 rfl (by kernel_rfl) (by rfl) _ (fun W hW => by go_simp; rfl) BV2.out ?_
          simp only [Act.put, List.setIfInBounds_toArray, List.set_cons_zero, List.set_cons_succ]
          refine f_take 12 rfl (by kernel_rfl) (by rfl) _ (fun W hW => by go_simp; rfl) BV2.out ?_
          simp only [Act.put, List.setIfInBounds_toArray, List.set_cons_zero, List.set_cons_succ]
          refine f_take 13 rfl (by kernel_rfl) (by rfl) _ (fun W hW => by go_simp; rfl) BV2.out ?_
          simp only [Act.put, List.setIfInBounds_toArray, List.set_cons_zero, List.set_cons_succ]
          refine f_end (by kernel_rfl) ?_
          have HE : Hid (Below w00.heap.size w00 V2) := Lib.hid (HB00.out.trans (H9.out.bel.mono HB00.out.size))
          clear H9 BV2
          go_wp2
          go_ret
          exact ⟨rfl, HE.out⟩
        · obtain rfl : t9 = false := by
            cases t9 with
            | false => rfl
            | true => exact absurd (ht.1 rfl) hbb
          have HBW := Lib.hid (HB2.out.resolve_left hbb)
          clear ht hbb
          go_wp2_with fail
          refine m_on BV2.out ?_
          refine f_take 6 rfl (by kernel_rfl) (by rfl) _ (fun W hW => by go_simp; rfl) BV2.out ?_
          simp only [Act.put, List.setIfInBounds_toArray, List.set_cons_zero, List.set_cons_succ]
          refine f_take 7 rfl (by kernel_rfl) (by rfl) _ (fun W hW => by go_simp; rfl) BV2.out ?_
          simp only [Act.put, List.setIfInBounds_toArray, List.set_cons_zero, List.set_cons_succ]
          refine f_range 9 rfl (by kernel_rfl) (by rfl) 38 (.tmp 11) (by rfl) gw 0 19 (bookF bw Lw Rw) HYW.out (by rfl) _ Tryd.underlying38 (by rfl) (by kernel_rfl) BV2.out ?_
          simp only [Act.put, List.setIfInBounds_toArray, List.set_cons_zero, List.set_cons_succ]
          refine f_go 8 rfl (by kernel_rfl) ?_
          go_wp2_with fail
          refine (HH.out.bookT H9.out).mono ?_
          rintro _ V3 ⟨Lb, Rb, rfl, ha, h8, hb8⟩
          have BV3 : Hid (Below w7.heap.size w7 V3) := Lib.hid (BV2.out.trans (hb8.mono BV2.out.size))
          have HA3 := Lib.hid ha
          have H10 := Lib.hid h8
          clear ha h8 hb8 H9 BV2
          go_wp2_with fail
          refine m_on BV3.out ?_
          refine f_go 10 rfl (by kernel_rfl) ?_
          go_wp2_with fail
          refine (BB.out.same HA3.out (HW7.out.at_.below BV3.out)).mono ?_
          rintro _ V4 ⟨⟨t10, rfl, ht10⟩, hb9⟩
          have BV4 : Hid (Below w7.heap.size w7 V4) := Lib.hid (BV3.out.trans (hb9.mono BV3.out.size))
          have HE : Hid (Below w00.heap.size w00 V4) := Lib.hid (HB00.out.trans ((H10.out.bel.trans (hb9.mono H10.out.bel.size)).mono HB00.out.size))
          obtain rfl : t10 = true := ht10.2 HBW.out
          clear ht10 hb9 H10 BV3 HA3
          go_wp2_with fail
          refine m_on BV4.out ?_
          refine f_take 11 rfl (by kernel_rfl) (by rfl) _ (fun W hW => by go_simp; rfl) BV4.out ?_
          simp only [Act.put, List.setIfInBounds_toArray, List.set_cons_zero, List.set_cons_succ]
          refine f_take 12 rfl (by kernel_rfl) (by rfl) _ (fun W hW => by go_simp; rfl) BV4.out ?_
          simp only [Act.put, List.setIfInBounds_toArray, List.set_cons_zero, List.set_cons_succ]
          refine f_take 13 rfl (by kernel_rfl) (by rfl) _ (fun W hW => by go_simp; rfl) BV4.out ?_
          simp only [Act.put, List.setIfInBounds_toArray, List.set_cons_zero, List.set_cons_succ]
          refine f_end (by kernel_rfl) ?_
          clear BV4
          go_wp2
          go_ret
          exact ⟨rfl, HE.out⟩
      | false =>
        have q0 : (0 : Int) ≤ (kk : Int) := by omega
        obtain ⟨bA, o, rfl, hbA, hc⟩ := HV.out (by omega)
        obtain ⟨X0, st, hcase, hvs, hvw⟩ := hh.out
        obtain ⟨R, hkt, hgk⟩ : ∃ R, KT RS RK w wr X0 (.pointer (some p)) (.pointer (some k)) 1048576 st R b ∧ GoodK D E 1048576 st R b kk := by
          rcases hcase with ⟨_, h⟩ | ⟨h, _⟩
          · exact h
          · cases h
        have HX : Hid (wr.rangeAt bA (o + kk * 21) ((List.range 21).map (actF (X kk)))) := Lib.hid (fun j u hu => ((HB00.out.trans (hkt.bel.mono HB00.out.size)).cell (p := ⟨bA, o + kk * 21 + j, none⟩) hbA).trans (hc kk hlt j u hu))
        have HXK := Lib.hid (HOK.out kk hlt)
        have HVS := Lib.hid hvs
        have HVW := Lib.hid hvw
        have HKT := Lib.hid hkt
        have HGK := Lib.hid hgk
        have HKN : Hid (kk + 1 ≤ n ∧ kk < n ∧ kk ≤ 30) := Lib.hid (by have := HNN.out; omega)
        have HKV : Hid (wrap64 ((kk : Int) + 1) = ((kk + 1 : Nat) : Int)) := Lib.hid ((wrap64_id (by omega) (by have := HNN.out; omega)).trans (by omega))
        clear hc hh hcase hvs hvw hkt hgk hk hlt HV HOK
        generalize X kk = ac at *
        go_upto_region 15 with fail
        have HZ := Lib.hid (row_new wr #[.int .i64 0, .int .i64 0, .int .i64 0, .string ⟨#[]⟩, .int .u8 0, .int .u8 0, .int .u8 0, .int .u8 0, .int .u8 0, .int .u8 0, .int .u8 0, .int .u8 0, .int .u8 0, .int .u8 0, .int .u8 0, .int .u8 0, .int .u8 0, .int .u8 0, .int .u8 0, .int .u8 0, .int .i64 0] 74 21 _ rfl (zero21 _ rfl))
        have BZ : Hid (Below wr.heap.size wr (wr.alloc (.cells #[.int .i64 0, .int .i64 0, .int .i64 0, .string ⟨#[]⟩, .int .u8 0, .int .u8 0, .int .u8 0, .int .u8 0, .int .u8 0, .int .u8 0, .int .u8 0, .int .u8 0, .int .u8 0, .int .u8 0, .int .u8 0, .int .u8 0, .int .u8 0, .int .u8 0, .int .u8 0, .int .u8 0, .int .i64 0] 74))) := Lib.hid ((Below.refl _ _).alloc (Nat.le_refl _) _)
        go_upto_region 16 with (first
          | (refine load_range (by rfl) 74 (.tmp 62) (by rfl) bA (o + kk * 21) 21 (actF ac) HX.out (by rfl) _ Tryd.underlying74 (by rfl) (by kernel_rfl) ?_)
          | (refine store_whole (by rfl) 74 (.tmp 14) (.tmp 63) (by rfl) wr.heap.size _ 21 _ (actF ac) HZ.out (by rfl) _ (by rfl) (by kernel_rfl) (size_cellsOf _ _) (cellsOf_at _ _) (fun i _ => act_one ac i) ?_; intro w8 hr8 ho8))
        have B8 : Hid (Below wr.heap.size wr w8) := Lib.hid (ho8.below BZ.out (Nat.le_refl _))
        have HR8 := Lib.hid hr8
        have hlt8 : wr.heap.size < w8.heap.size := World.rowIs.lt hr8
        have HK8 := Lib.hid (HH.out.more (X' := fun x => X0 x ∨ x = wr.heap.size) HKT.out B8.out (fun x hx => hx.imp_right (fun h => by omega)))
        have HS8 := Lib.hid (HVS.out.below (X' := fun x => X0 x ∨ x = wr.heap.size) B8.out (fun _ h => .inl h))
        have HW8 := Lib.hid (HVW.out.below (X' := fun x => X0 x ∨ x = wr.heap.size) B8.out (fun _ h => .inl h))
        have hst : st.n ≤ 110 * kk := HGK.out.n HH.out
        have HST : Hid (st.n ≤ 100000 ∧ R.length ≤ 1000) := Lib.hid ⟨by have := HKN.out; omega, by have := HGK.out.len; have := HKN.out; omega⟩
        have HX8 : Hid (X0 gs ∧ X0 gw ∧ w.heap.size ≤ gs ∧ w.heap.size ≤ gw) := Lib.hid ⟨HVS.out.x, HVW.out.x, HVS.out.ge, HVW.out.ge⟩
        have c0 : w8.cell? ⟨wr.heap.size, 0, none⟩ = some (.int .i64 ac.d) := hr8.cell (i := 0) (by omega)
        clear hr8 ho8 hlt8 hst HZ BZ HX HKT HVS HVW B8
        generalize wr.heap.size = g14 at *
        by_cases hd : ac.d = 1
        · rw [hd] at c0
          go_wp2_with fail
          refine (HH.out.packT HK8.out HST.out.1 HST.out.2).mono ?_
          rintro _ w9 ⟨rfl, k9, h9, kp9⟩
          rcases good_pack HGK.out with ⟨hne, hg9⟩ | ⟨h8, hg9⟩
          · have HK9 := Lib.hid (k9 hne)
            have HG9 := Lib.hid (hg9.mono (Nat.le_succ kk))
            have HS9 := Lib.hid (HS8.out.keep kp9 (fun _ h => h) HK9.out.held.old)
            have HW9 := Lib.hid (HW8.out.keep kp9 (fun _ h => h) HK9.out.held.old)
            clear k9 h9 kp9 hg9 HK8 HS8 HW8 HGK HR8 c0
            generalize onlyC D 1048576 st (packL E b) = cd at *
            have qc : (cd == 8) = false := by simpa using hne
            go_wp2_with (first
              | (refine load_whole_met (by rfl) 38 (.tmp 10) (by rfl) _ _ _ _ HS9.out.row (by rfl) _ Tryd.underlying38 (by rfl) (by kernel_rfl) ?_)
              | (refine store_whole (by rfl) 38 (.tmp 11) (.tmp 70) (by rfl) gw _ 19 _ (bookF b Ls Rs) HW9.out.row (by rfl) _ (by rfl) (by kernel_rfl) (size_cellsOf _ _) (cellsOf_at _ _) (fun i _ => book_one HS9.out.at_ i) ?_; intro w10 hr10 ho10))
            have hkn := HKN.out.2.1
            exact ⟨⟨kk + 1, b, b, Ls, Rs, Ls, Rs, false, HKN.out.1, rfl, rfl, Lib.hid ⟨fun x => X0 x ∨ x = g14, _, .inl ⟨rfl, _, HH.out.onlyT HK9.out (.inl HX8.out.2.1) HX8.out.2.2.2 ho10, HG9.out⟩, HS9.out.other ho10 HNE.out, (HS9.out.other ho10 HNE.out).copy hr10 (.inl HX8.out.2.1) HX8.out.2.2.2⟩⟩, by simp [intOf]; omega⟩
          · have HG9 := Lib.hid ((hg9 b).mono (Nat.le_succ kk))
            have HK9 := Lib.hid h9
            have HS9 := Lib.hid (HS8.out.keep kp9 (fun _ h => h) HK9.out.old)
            have HW9 := Lib.hid (HW8.out.keep kp9 (fun _ h => h) HK9.out.old)
            rw [h8]
            clear k9 h9 kp9 hg9 HK8 HS8 HW8 HGK HR8 c0 h8
            go_wp2_with (first
              | (refine load_whole_met (by rfl) 38 (.tmp 10) (by rfl) _ _ _ _ HS9.out.row (by rfl) _ Tryd.underlying38 (by rfl) (by kernel_rfl) ?_)
              | (refine store_whole (by rfl) 38 (.tmp 11) (.tmp 70) (by rfl) gw _ 19 _ (bookF b Ls Rs) HW9.out.row (by rfl) _ (by rfl) (by kernel_rfl) (size_cellsOf _ _) (cellsOf_at _ _) (fun i _ => book_one HS9.out.at_ i) ?_; intro w10 hr10 ho10))
            have hkn := HKN.out.2.1
            exact ⟨⟨kk + 1, b, b, Ls, Rs, Ls, Rs, true, HKN.out.1, rfl, rfl, Lib.hid ⟨fun x => X0 x ∨ x = g14, _, .inr ⟨rfl, _, _, HH.out.onlyH HK9.out (.inl HX8.out.2.1) HX8.out.2.2.2 ho10, HG9.out⟩, HS9.out.other ho10 HNE.out, (HS9.out.other ho10 HNE.out).copy hr10 (.inl HX8.out.2.1) HX8.out.2.2.2⟩⟩, by simp [intOf]; omega⟩
        · go_wp2_with (first
            | (refine load_whole_met (by rfl) 38 (.tmp 10) (by rfl) _ _ _ _ HS8.out.row (by rfl) _ Tryd.underlying38 (by rfl) (by kernel_rfl) ?_)
            | (refine load_as (by rfl) 28 (.tmp 73) (by rfl) g14 2 _ 21 19 _ (cellsOf 19 (opF ac.x)) (act_op ac) HR8.out (by rfl) _ Tryd.underlying28 (by rfl) (by kernel_rfl) (by omega) ?_))
          refine (BB.out.apply ac.x HS8.out.at_ HXK.out.1 HXK.out.2).mono ?_
          rintro _ w9 ⟨L', R', rfl, hb9, hbel9, hap9⟩
          have HAP := Lib.hid hap9
          have HN9 := Lib.hid hb9
          have B9 := Lib.hid hbel9
          clear hap9 hb9 hbel9 c0
          have HZ := Lib.hid (row_new w9 #[.slice none 0 0, .slice none 0 0, .int .i64 0, .int .u8 0, .int .u8 0, .int .u8 0, .int .u8 0, .int .u8 0, .int .u8 0, .int .u8 0, .int .u8 0, .int .u8 0, .int .u8 0, .int .u8 0, .int .u8 0, .int .u8 0, .int .u8 0, .int .u8 0, .int .u8 0] 38 19 _ rfl (zero19 _ rfl))
          have BZ : Hid (Below w9.heap.size w9 (w9.alloc (.cells #[.slice none 0 0, .slice none 0 0, .int .i64 0, .int .u8 0, .int .u8 0, .int .u8 0, .int .u8 0, .int .u8 0, .int .u8 0, .int .u8 0, .int .u8 0, .int .u8 0, .int .u8 0, .int .u8 0, .int .u8 0, .int .u8 0, .int .u8 0, .int .u8 0, .int .u8 0] 38))) := Lib.hid ((Below.refl _ _).alloc (Nat.le_refl _) _)
          go_upto_region 20 with (refine store_whole (by rfl) 38 (.tmp 15) (.tmp 76) (by rfl) w9.heap.size _ 19 _ (bookF (applyB b ac.x) L' R') HZ.out (by rfl) _ (by rfl) (by kernel_rfl) (size_cellsOf _ _) (cellsOf_at _ _) (fun i _ => book_one HN9.out i) ?_; intro w10 hr10 ho10)
          have B10 : Hid (Below w9.heap.size w9 w10) := Lib.hid (ho10.below BZ.out (Nat.le_refl _))
          have hlt10 : w9.heap.size < w10.heap.size := World.rowIs.lt hr10
          have hsz9 := B9.out.size
          have B8 : Hid (Below w8.heap.size w8 w10) := Lib.hid (B9.out.trans (B10.out.mono B9.out.size))
          have HR10 := Lib.hid (HR8.out.of_block (B8.out.block _ (World.rowIs.lt HR8.out)))
          have hinx : ∀ x, ¬ Apart L' R' x → (X0 x ∨ x = g14) ∨ (w8.heap.size ≤ x ∧ x < w10.heap.size) := fun x hx => by
            by_cases hxs : x < w8.heap.size
            · exact .inl (HS8.out.inx x (fun h => hx (HAP.out x hxs h)))
            · refine .inr ⟨by omega, ?_⟩
              have : x < w9.heap.size := Classical.byContradiction fun hn => hx (HN9.out.apart x (by omega))
              omega
          have HK10 := Lib.hid (HH.out.more (X' := fun x => (X0 x ∨ x = g14) ∨ (w8.heap.size ≤ x ∧ x < w10.heap.size)) HK8.out B8.out (fun x hx => hx))
          have HS10 := Lib.hid (HS8.out.below (X' := fun x => (X0 x ∨ x = g14) ∨ (w8.heap.size ≤ x ∧ x < w10.heap.size)) B8.out (fun _ h => .inl h))
          have HW10 := Lib.hid (HW8.out.below (X' := fun x => (X0 x ∨ x = g14) ∨ (w8.heap.size ≤ x ∧ x < w10.heap.size)) B8.out (fun _ h => .inl h))
          have HNX : Hid (Vr w10 (fun x => (X0 x ∨ x = g14) ∨ (w8.heap.size ≤ x ∧ x < w10.heap.size)) w w9.heap.size gw (applyB b ac.x) L' R' ∧ Apart L' R' gs ∧ w9.heap.size ≠ gw ∧ w9.heap.size ≠ gs) := Lib.hid
            ⟨⟨hr10, HN9.out.below B10.out, hinx, .inr ⟨hsz9, hlt10⟩, Nat.le_trans (HK8.out.bel.size) hsz9, HN9.out.apart _ (Nat.le_refl _), HAP.out gw (World.rowIs.lt HW8.out.row) HS8.out.ah⟩, HAP.out gs (World.rowIs.lt HS8.out.row) HS8.out.ag, by have := World.rowIs.lt HW8.out.row; omega, by have := World.rowIs.lt HS8.out.row; omega⟩
          have HXX : Hid (∀ x, X0 x → (X0 x ∨ x = g14) ∨ (w8.heap.size ≤ x ∧ x < w10.heap.size)) := Lib.hid (fun x hx => .inl (.inl hx))
          clear hinx hr10 ho10 hlt10 hsz9 HZ BZ HN9 HAP B9 B10 B8 HK8 HS8 HW8 HR8
          generalize (fun x => (X0 x ∨ x = g14) ∨ (w8.heap.size ≤ x ∧ x < w10.heap.size)) = X2 at *
          generalize w9.heap.size = g15 at *
          clear HXX
          go_wp2_with (refine load_as (by rfl) 28 (.tmp 79) (by rfl) g14 2 _ 21 19 _ (cellsOf 19 (opF ac.x)) (act_op ac) HR10.out (by rfl) _ Tryd.underlying28 (by rfl) (by kernel_rfl) (by omega) ?_)
          refine (HH.out.doT HK10.out ac.x HXK.out.1 HXK.out.2 HST.out.1 HST.out.2).mono ?_
          rintro _ w11 ⟨rfl, k11, h11, kp11⟩
          have HH11 := Lib.hid h11
          have HS11 := Lib.hid (HS10.out.keep kp11 (fun _ h => h) h11.old)
          have HW11 := Lib.hid (HW10.out.keep kp11 (fun _ h => h) h11.old)
          have HN11 := Lib.hid (HNX.out.1.keep kp11 (fun _ h => h) h11.old)
          have HNA := Lib.hid HNX.out.2
          have hkn := HKN.out.2.1
          clear h11 kp11 HS10 HW10 HNX HK10 HR10 HX8
          by_cases hc0 : applyC b ac.x = 0
          · rcases good_do HH.out HGK.out hc0 HXK.out.1 (by have := HKN.out; omega) with ⟨e1, hg, e2⟩ | ⟨e1, hg⟩
            · have k12 := k11 (by rw [e1]; decide)
              rw [e2] at k12 hg
              have HK11 := Lib.hid k12
              have HG11 := Lib.hid hg
              rw [e1, hc0]
              clear k11 k12 hg e1 e2 HH11
              go_upto_region 25 with (first
                | (refine load_whole_met (by rfl) 38 (.tmp 15) (by rfl) _ _ _ _ HN11.out.row (by rfl) _ Tryd.underlying38 (by rfl) (by kernel_rfl) ?_)
                | (refine store_whole (by rfl) 38 (.tmp 11) (.tmp 87) (by rfl) gw _ 19 _ (bookF (applyB b ac.x) L' R') HW11.out.row (by rfl) _ (by rfl) (by kernel_rfl) (size_cellsOf _ _) (cellsOf_at _ _) (fun i _ => book_one HN11.out.at_ i) ?_; intro w12 hr12 ho12))
              have HN12 := Lib.hid (HN11.out.other ho12 HNA.out.2.1)
              have HS12 := Lib.hid (HS11.out.other ho12 HNE.out)
              have HK12 := Lib.hid (HH.out.onlyT HK11.out HW11.out.x HW11.out.ge ho12)
              have HW12 : Hid (Vr w12 X2 w gw gs (applyB b ac.x) L' R') := Lib.hid ⟨hr12, HN12.out.at_, HN12.out.inx, HW11.out.x, HW11.out.ge, HN12.out.ah, HNA.out.1⟩
              clear hr12 ho12 HN11 HS11 HW11 HK11
              go_wp2_with (first
                | (refine load_whole_met (by rfl) 38 (.tmp 15) (by rfl) _ _ _ _ HN12.out.row (by rfl) _ Tryd.underlying38 (by rfl) (by kernel_rfl) ?_)
                | (refine store_whole (by rfl) 38 (.tmp 10) (.tmp 92) (by rfl) gs _ 19 _ (bookF (applyB b ac.x) L' R') HS12.out.row (by rfl) _ (by rfl) (by kernel_rfl) (size_cellsOf _ _) (cellsOf_at _ _) (fun i _ => book_one HN12.out.at_ i) ?_; intro w13 hr13 ho13))
              exact ⟨⟨kk + 1, _, _, L', R', L', R', false, HKN.out.1, rfl, rfl, Lib.hid ⟨X2, _, .inl ⟨rfl, _, HH.out.onlyT HK12.out HS12.out.x HS12.out.ge ho13, HG11.out⟩, (HW12.out.other ho13 (Ne.symm HNE.out)).copy hr13 HS12.out.x HS12.out.ge, HW12.out.other ho13 (Ne.symm HNE.out)⟩⟩, by simp [intOf]; omega⟩
            · have HG11 := Lib.hid hg
              rw [e1, hc0]
              clear k11 hg e1
              go_upto_region 25 with (first
                | (refine load_whole_met (by rfl) 38 (.tmp 15) (by rfl) _ _ _ _ HN11.out.row (by rfl) _ Tryd.underlying38 (by rfl) (by kernel_rfl) ?_)
                | (refine store_whole (by rfl) 38 (.tmp 11) (.tmp 87) (by rfl) gw _ 19 _ (bookF (applyB b ac.x) L' R') HW11.out.row (by rfl) _ (by rfl) (by kernel_rfl) (size_cellsOf _ _) (cellsOf_at _ _) (fun i _ => book_one HN11.out.at_ i) ?_; intro w12 hr12 ho12))
              have HS12 := Lib.hid (HS11.out.other ho12 HNE.out)
              have HN12 := Lib.hid (HN11.out.other ho12 HNA.out.2.1)
              have HK12 := Lib.hid (HH.out.onlyH HH11.out HW11.out.x HW11.out.ge ho12)
              have HW12 : Hid (Vr w12 X2 w gw gs (applyB b ac.x) L' R') := Lib.hid ⟨hr12, HN12.out.at_, HN12.out.inx, HW11.out.x, HW11.out.ge, HN12.out.ah, HNA.out.1⟩
              clear hr12 ho12 HN11 HS11 HW11 HH11 HN12
              go_wp2_with fail
              exact ⟨⟨kk + 1, _, _, Ls, Rs, L', R', true, HKN.out.1, rfl, rfl, Lib.hid ⟨X2, _, .inr ⟨rfl, _, _, HK12.out, HG11.out⟩, HS12.out, HW12.out⟩⟩, by simp [intOf]; omega⟩
          · obtain ⟨e1, e2, e3, e4⟩ := do_err D E 1048576 st R (b := b) (x := ac.x) hc0
            have k12 := k11 (by rw [e1]; exact apply_not8 b ac.x)
            rw [e2, e3, e4] at k12
            have HK11 := Lib.hid k12
            have HG11 := Lib.hid (HGK.out.mono (Nat.le_succ kk))
            rw [e1]
            clear k11 k12 e1 e2 e3 e4 HH11 HN11 HNA HGK
            have qe : (applyC b ac.x != 0) = true := by simpa using hc0
            generalize applyC b ac.x = ce at *
            go_wp2_with fail
            exact ⟨⟨kk + 1, b, bw, Ls, Rs, Lw, Rw, false, HKN.out.1, rfl, rfl, Lib.hid ⟨X2, _, .inl ⟨rfl, _, HK11.out, HG11.out⟩, HS11.out, HW11.out⟩⟩, by simp [intOf]; omega⟩
    · have q1 : ¬ (kk : Int) < (n : Int) := by omega
      obtain ⟨X4, st, R, R', hh4, hg4, hs4, hw4⟩ := hh.out.left
      have HH4 := Lib.hid hh4
      have HG4 := Lib.hid hg4
      have HS4 := Lib.hid hs4
      have HW4 := Lib.hid hw4
      have HKN : Hid (kk ≤ 30) := Lib.hid (by have := HNN.out; omega)
      have d1 := (hh4.bel.cell (p := ⟨gn, 1, none⟩) HGN.out.1).trans HGN.out.2.2
      clear hh hh4 hg4 hs4 hw4 HV HOK
      go_wp2_with fail
      refine (HH.out.crashH HH4.out n1 HN1.out.1 HN1.out.2).mono ?_
      rintro _ w6 ⟨rfl, h6, kp6⟩
      obtain ⟨R2, b2, t, hsc, hops, hb2, hn6⟩ := gone_crash HH.out HG4.out n1 (by have := HKN.out; omega)
      have HS6 := Lib.hid (HS4.out.keep kp6 (fun _ h => h) h6.old)
      have HW6 := Lib.hid (HW4.out.keep kp6 (fun _ h => h) h6.old)
      have H6 := Lib.hid h6
      have HSC := Lib.hid hsc
      have HOPS := Lib.hid hops
      have HB2 := Lib.hid hb2
      have HN6 := Lib.hid hn6
      have HU6 : Hid (Up (crashS st n1)) := Lib.hid ⟨rfl, rfl⟩
      clear h6 kp6 hsc hops hb2 hn6 HS4 HW4 HH4 HG4 d1
      generalize crashS st n1 = st6 at *
      go_wp2_with fail
      refine (HH.out.openH H6.out HSC.out HOPS.out.run HOPS.out.keys HU6.out HN6.out).mono ?_
      rintro _ w7 ⟨kp, rfl, h7, kk7⟩
      have HS7 := Lib.hid (HS6.out.keep kk7 (fun _ h => h) h7.held.old)
      have HW7 := Lib.hid (HW6.out.keep kk7 (fun _ h => h) h7.held.old)
      have H7 := Lib.hid h7
      clear h7 kk7 HS6 HW6 H6 HSC HOPS HN6 HU6
      generalize openS 1048576 st6 t = st7 at *
      go_upto_region 34 with fail
      have HY := Lib.hid (fun (W : World) (hW : Below w7.heap.size w7 W) => range_row (HS7.out.row.of_block (hW.block gs (World.rowIs.lt HS7.out.row))))
      have HYW := Lib.hid (fun (W : World) (hW : Below w7.heap.size w7 W) => range_row (HW7.out.row.of_block (hW.block gw (World.rowIs.lt HW7.out.row))))
      have hS : Below w7.heap.size w7 w7.drew := (Below.refl _ _).drew
      refine region_h (fun W => Below w7.heap.size w7 W) 14 (by kernel_rfl) rfl ?_
      refine f_take 0 rfl (by kernel_rfl) (by rfl) _ (fun W hW => by go_simp; rfl) hS ?_
      simp only [Act.put, List.setIfInBounds_toArray, List.set_cons_zero, List.set_cons_succ]
      refine f_take 1 rfl (by kernel_rfl) (by rfl) _ (fun W hW => by go_simp; rfl) hS ?_
      simp only [Act.put, List.setIfInBounds_toArray, List.set_cons_zero, List.set_cons_succ]
      refine f_take 2 rfl (by kernel_rfl) (by rfl) _ (fun W hW => by go_simp; rfl) hS ?_
      simp only [Act.put, List.setIfInBounds_toArray, List.set_cons_zero, List.set_cons_succ]
      refine f_range 4 rfl (by kernel_rfl) (by rfl) 38 (.tmp 10) (by rfl) gs 0 19 (bookF b Ls Rs) HY.out (by rfl) _ Tryd.underlying38 (by rfl) (by kernel_rfl) hS ?_
      simp only [Act.put, List.setIfInBounds_toArray, List.set_cons_zero, List.set_cons_succ]
      have H7d := Lib.hid (HH.out.more (X' := X4) H7.out hS (fun _ h => .inl h))
      have BV0 := Lib.hid hS
      clear hS H7
      generalize w7.drew = V0 at *
      refine f_go 3 rfl (by kernel_rfl) ?_
      go_wp2_with fail
      refine (HH.out.bookT H7d.out).mono ?_
      rintro _ V1 ⟨La, Ra, rfl, ha, h8, hb8⟩
      have BV1 : Hid (Below w7.heap.size w7 V1) := Lib.hid (BV0.out.trans (hb8.mono BV0.out.size))
      have HA1 := Lib.hid ha
      have H8 := Lib.hid h8
      clear ha h8 hb8 H7d BV0
      go_wp2_with fail
      refine m_on BV1.out ?_
      refine f_go 5 rfl (by kernel_rfl) ?_
      go_wp2_with fail
      refine (BB.out.same HA1.out (HS7.out.at_.below BV1.out)).mono ?_
      rintro _ V2 ⟨⟨t9, rfl, ht⟩, hb9⟩
      have BV2 : Hid (Below w7.heap.size w7 V2) := Lib.hid (BV1.out.trans (hb9.mono BV1.out.size))
      have H9 := Lib.hid (HH.out.more (X' := X4) H8.out hb9 (fun _ h => .inl h))
      clear hb9 H8 HA1 BV1
      by_cases hbb : b2 = b
      · obtain rfl : t9 = true := ht.2 hbb
        clear ht
        go_wp2_with fail
        refine m_on BV2.out ?_
        refine f_take 6 rfl (by kernel_rfl) (by rfl) _ (fun W hW => by go_simp; rfl) BV2.out ?_
        simp only [Act.put, List.setIfInBounds_toArray, List.set_cons_zero, List.set_cons_succ]
        refine f_skip 7 rfl (by kernel_rfl) (by rfl) BV2.out ?_
        simp only [Act.put, List.setIfInBounds_toArray, List.set_cons_zero, List.set_cons_succ]
        refine f_skip 8 rfl (by kernel_rfl) (by rfl) BV2.out ?_
        simp only [Act.put, List.setIfInBounds_toArray, List.set_cons_zero, List.set_cons_succ]
        refine f_skip 9 rfl (by kernel_rfl) (by rfl) BV2.out ?_
        simp only [Act.put, List.setIfInBounds_toArray, List.set_cons_zero, List.set_cons_succ]
        refine f_skip 10 rfl (by kernel_rfl) (by rfl) BV2.out ?_
        simp only [Act.put, List.setIfInBounds_toArray, List.set_cons_zero, List.set_cons_succ]
        refine f_take 11 rfl (by kernel_rfl) (by rfl) _ (fun W hW => by go_simp; rfl) BV2.out ?_
        simp only [Act.put, List.setIfInBounds_toArray, List.set_cons_zero, List.set_cons_succ]
        refine f_take 12 rfl (by kernel_rfl) (by rfl) _ (fun W hW => by go_simp; rfl) BV2.out ?_
        simp only [Act.put, List.setIfInBounds_toArray, List.set_cons_zero, List.set_cons_succ]
        refine f_take 13 rfl (by kernel_rfl) (by rfl) _ (fun W hW => by go_simp; rfl) BV2.out ?_
        simp only [Act.put, List.setIfInBounds_toArray, List.set_cons_zero, List.set_cons_succ]
        refine f_end (by kernel_rfl) ?_
        have HE : Hid (Below w00.heap.size w00 V2) := Lib.hid (HB00.out.trans (H9.out.bel.mono HB00.out.size))
        clear H9 BV2
        go_wp2
        go_ret
        exact ⟨rfl, HE.out⟩
      · obtain rfl : t9 = false := by
          cases t9 with
          | false => rfl
          | true => exact absurd (ht.1 rfl) hbb
        have HBW := Lib.hid (HB2.out.resolve_left hbb)
        clear ht hbb
        go_wp2_with fail
        refine m_on BV2.out ?_
        refine f_take 6 rfl (by kernel_rfl) (by rfl) _ (fun W hW => by go_simp; rfl) BV2.out ?_
        simp only [Act.put, List.setIfInBounds_toArray, List.set_cons_zero, List.set_cons_succ]
        refine f_take 7 rfl (by kernel_rfl) (by rfl) _ (fun W hW => by go_simp; rfl) BV2.out ?_
        simp only [Act.put, List.setIfInBounds_toArray, List.set_cons_zero, List.set_cons_succ]
        refine f_range 9 rfl (by kernel_rfl) (by rfl) 38 (.tmp 11) (by rfl) gw 0 19 (bookF bw Lw Rw) HYW.out (by rfl) _ Tryd.underlying38 (by rfl) (by kernel_rfl) BV2.out ?_
        simp only [Act.put, List.setIfInBounds_toArray, List.set_cons_zero, List.set_cons_succ]
        refine f_go 8 rfl (by kernel_rfl) ?_
        go_wp2_with fail
        refine (HH.out.bookT H9.out).mono ?_
        rintro _ V3 ⟨Lb, Rb, rfl, ha, h8, hb8⟩
        have BV3 : Hid (Below w7.heap.size w7 V3) := Lib.hid (BV2.out.trans (hb8.mono BV2.out.size))
        have HA3 := Lib.hid ha
        have H10 := Lib.hid h8
        clear ha h8 hb8 H9 BV2
        go_wp2_with fail
        refine m_on BV3.out ?_
        refine f_go 10 rfl (by kernel_rfl) ?_
        go_wp2_with fail
        refine (BB.out.same HA3.out (HW7.out.at_.below BV3.out)).mono ?_
        rintro _ V4 ⟨⟨t10, rfl, ht10⟩, hb9⟩
        have BV4 : Hid (Below w7.heap.size w7 V4) := Lib.hid (BV3.out.trans (hb9.mono BV3.out.size))
        have HE : Hid (Below w00.heap.size w00 V4) := Lib.hid (HB00.out.trans ((H10.out.bel.trans (hb9.mono H10.out.bel.size)).mono HB00.out.size))
        obtain rfl : t10 = true := ht10.2 HBW.out
        clear ht10 hb9 H10 BV3 HA3
        go_wp2_with fail
        refine m_on BV4.out ?_
        refine f_take 11 rfl (by kernel_rfl) (by rfl) _ (fun W hW => by go_simp; rfl) BV4.out ?_
        simp only [Act.put, List.setIfInBounds_toArray, List.set_cons_zero, List.set_cons_succ]
        refine f_take 12 rfl (by kernel_rfl) (by rfl) _ (fun W hW => by go_simp; rfl) BV4.out ?_
        simp only [Act.put, List.setIfInBounds_toArray, List.set_cons_zero, List.set_cons_succ]
        refine f_take 13 rfl (by kernel_rfl) (by rfl) _ (fun W hW => by go_simp; rfl) BV4.out ?_
        simp only [Act.put, List.setIfInBounds_toArray, List.set_cons_zero, List.set_cons_succ]
        refine f_end (by kernel_rfl) ?_
        clear BV4
        go_wp2
        go_ret
        exact ⟨rfl, HE.out⟩
end Go.Proofs.YtebchoeeohmlaaaDoor.Law15
