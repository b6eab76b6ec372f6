/-
  The walk of BookTells.
-/
import Derived.Test.YtebchoeeohmlaaaDoorBd27
import Derived.Test.YtebchoeeohmlaaaDoorBd26
import Derived.Test.YtebchoeeohmlaaaDoorBd36
import Derived.Test.YtebchoeeohmlaaaDoorBd13
import Derived.Test.YtebchoeeohmlaaaDoorBd51
import Derived.Test.YtebchoeeohmlaaaDoorBd50
import Derived.Test.YtebchoeeohmlaaaDoorBd52
import Derived.Test.YtebchoeeohmlaaaDoorBd06
import Derived.Deep.CutBlock
import Derived.Deep.DeepCutAuto
namespace Go.Proofs.YtebchoeeohmlaaaDoor.Law15
open Go Go.RowKit Go.Proofs.YtebchoeeohmlaaaDoor.Aid Go.Proofs.YtebchoeeohmlaaaDoor.Book

theorem rop_neq (x : OpB) (hk : x.key.length = 16) (W : World) : (binOp .neq 32 (.agg (cellsOf 19 (opF x))) (.agg (cellsOf 19 (opF x)))).run Tryd.prog W = .ok (.bool false) W := by
  have hS : Tryd.prog.underlying 32 = some (.struct (Tryd.prog.fieldsOf 32)) := by kernel_rfl
  have hP : Tryd.prog.stoodInHeld 32 = false := by kernel_rfl
  have hw := word_same 9997 x.key x.key hk hk W
  have e2 : (cellsOf 19 (opF x)).extract 2 18 = cellsOf 16 (wordF x.key) := rfl
  have e0 : (cellsOf 19 (opF x))[0]? = some (.int .i64 x.kind) := rfl
  have e1 : (cellsOf 19 (opF x))[1]? = some (.string x.name) := rfl
  have e3 : (cellsOf 19 (opF x))[18]? = some (.int .i64 x.gen) := rfl
  rw [run_neq_struct, show (10000 : Nat) = 9999 + 1 from rfl, run_equalIn_struct W 9999 32 _ _ hS hP]
  simp only [Program.fieldsOf, Tryd.underlying32]
  go_simp
theorem key_len (n : ByteArray) : ∀ L : List (ByteArray × Wd), (∀ p ∈ L, p.2.length = 16) → (keyB n L).length = 16
  | [], _ => rfl
  | p :: l, h => by
    unfold keyB
    split
    · exact h p List.mem_cons_self
    · exact key_len n l fun q hq => h q (List.mem_cons_of_mem _ hq)
/-- The two books side by side. -/
structure TellsSt (w W : World) (g h : Nat) (b : Bk) (Lv Rv Lr Rr : Value) : Prop where
  r1 : W.rowIs g 38 19 (bookF b Lv Rv)
  r2 : W.rowIs h 41 19 (bookF b Lr Rr)
  a1 : BookAt W b Lv Rv
  a2 : BookAt W b Lr Rr
  bel : Below w.heap.size w W
  p1 : Book.Apart Lv Rv g ∧ Book.Apart Lv Rv h
  p2 : Book.Apart Lr Rr g ∧ Book.Apart Lr Rr h
  ge : w.heap.size ≤ g ∧ w.heap.size ≤ h ∧ g ≠ h
theorem TellsSt.below {w W W' : World} {g h : Nat} {b : Bk} {Lv Rv Lr Rr : Value} (k : TellsSt w W g h b Lv Rv Lr Rr) (hb : Below W.heap.size W W') : TellsSt w W' g h b Lv Rv Lr Rr :=
  ⟨k.r1.of_block (hb.block _ (World.rowIs.lt k.r1)), k.r2.of_block (hb.block _ (World.rowIs.lt k.r2)), k.a1.below hb, k.a2.below hb, k.bel.trans (hb.mono k.bel.size), k.p1, k.p2, k.ge⟩
/-- And the book that Apply handed back, in block k. -/
structure TellsB (w W : World) (g h k : Nat) (b : Bk) (Lv Rv Lr Rr : Value) (d : Bk) (Lw Rw : Value) : Prop where
  st : TellsSt w W g h b Lv Rv Lr Rr
  r3 : W.rowIs k 38 19 (bookF d Lw Rw)
  a3 : BookAt W d Lw Rw
  p3 : Book.Apart Lw Rw g ∧ Book.Apart Lw Rw h
theorem TellsB.below {w W W' : World} {g h k : Nat} {b d : Bk} {Lv Rv Lr Rr Lw Rw : Value} (s : TellsB w W g h k b Lv Rv Lr Rr d Lw Rw) (hb : Below W.heap.size W W') : TellsB w W' g h k b Lv Rv Lr Rr d Lw Rw :=
  ⟨s.st.below hb, s.r3.of_block (hb.block _ (World.rowIs.lt s.r3)), s.a3.below hb, s.p3⟩
/-- And the book that the document's Apply handed back, in block l. -/
structure TellsC (w W : World) (g h k l : Nat) (b : Bk) (Lv Rv Lr Rr : Value) (d : Bk) (Lw Rw Lx Rx : Value) : Prop where
  s : TellsB w W g h k b Lv Rv Lr Rr d Lw Rw
  r4 : W.rowIs l 41 19 (bookF d Lx Rx)
  a4 : BookAt W d Lx Rx
  p4 : Book.Apart Lx Rx g ∧ Book.Apart Lx Rx h
  ne : l ≠ g
theorem TellsC.below {w W W' : World} {g h k l : Nat} {b d : Bk} {Lv Rv Lr Rr Lw Rw Lx Rx : Value} (s : TellsC w W g h k l b Lv Rv Lr Rr d Lw Rw Lx Rx) (hb : Below W.heap.size W W') : TellsC w W' g h k l b Lv Rv Lr Rr d Lw Rw Lx Rx :=
  ⟨s.s.below hb, s.r4.of_block (hb.block _ (World.rowIs.lt s.r4)), s.a4.below hb, s.p4, s.ne⟩
/-- Half of the way: the program's book is the next one already. -/
structure TellsD (w W : World) (g h l : Nat) (d : Bk) (Lw Rw Lr Rr : Value) (b : Bk) (Lx Rx : Value) : Prop where
  r1 : W.rowIs g 38 19 (bookF d Lw Rw)
  r2 : W.rowIs h 41 19 (bookF b Lr Rr)
  r4 : W.rowIs l 41 19 (bookF d Lx Rx)
  a3 : BookAt W d Lw Rw
  a4 : BookAt W d Lx Rx
  bel : Below w.heap.size w W
  p3 : Book.Apart Lw Rw g ∧ Book.Apart Lw Rw h
  p4 : Book.Apart Lx Rx g ∧ Book.Apart Lx Rx h
  ge : w.heap.size ≤ g ∧ w.heap.size ≤ h ∧ g ≠ h
theorem TellsC.next {w W W' : World} {g h k l : Nat} {b d : Bk} {Lv Rv Lr Rr Lw Rw Lx Rx : Value} (s : TellsC w W g h k l b Lv Rv Lr Rr d Lw Rw Lx Rx) (hr : W'.rowIs g 38 19 (bookF d Lw Rw)) (ho : Only g W W') : TellsD w W' g h l d Lw Rw Lr Rr b Lx Rx :=
  ⟨hr, s.s.st.r2.of_block (ho.block _ (Ne.symm s.s.st.ge.2.2)), s.r4.of_block (ho.block _ s.ne), s.s.a3.only s.s.p3.1 ho, s.a4.only s.p4.1 ho, ho.below s.s.st.bel s.s.st.ge.1, s.s.p3, s.p4, s.s.st.ge⟩
theorem TellsD.next {w W W' : World} {g h l : Nat} {b d : Bk} {Lr Rr Lw Rw Lx Rx : Value} (s : TellsD w W g h l d Lw Rw Lr Rr b Lx Rx) (hr : W'.rowIs h 41 19 (bookF d Lx Rx)) (ho : Only h W W') : TellsSt w W' g h d Lw Rw Lx Rx :=
  ⟨s.r1.of_block (ho.block _ s.ge.2.2), hr, s.a3.only s.p3.2 ho, s.a4.only s.p4.2 ho, ho.below s.bel s.ge.2.1, s.p3, s.p4, s.ge⟩
set_option maxRecDepth 100000 in
set_option maxHeartbeats 16000000 in
theorem booktells_any (n : Nat) (X : Nat → OpB) (v : Value) (m : Nat) (E : Nat → BitVec 8) (bv : Value) (nm : ByteArray) (hnm : nm.size ≤ 9000000000000000000) (w : World) (hv : OpsBIn w n X v) (hb0 : SliceOf w w.heap.size m E bv) (AW0 : Calls Tryd.prog 6 #[] w fun y w' => y = .returned (.bool true) ∧ Below w.heap.size w w') :
    Calls Tryd.prog 3 #[v, bv, .string nm] w fun x w' => x = .returned (.bool true) ∧ Below w.heap.size w w' := by
  obtain ⟨A, c, rfl, hr⟩ := hv.rows
  have HV := Lib.hid hr
  have HOK := Lib.hid hv.ok
  have HBV := Lib.hid hb0
  have HNM := Lib.hid hnm
  have AW := Lib.hid AW0
  obtain ⟨A2, c2, rfl, -⟩ := hb0
  clear AW0 hv hr hnm
  go_enter Tryd.func3, Tryd.ntmps3
  go_wp2_with fail
  (with_reducible refine AW.out.mono ?_)
  rintro _ w1 ⟨rfl, hb1⟩
  have B1 := Lib.hid hb1
  have HBV1 := Lib.hid (slice_up HBV.out hb1)
  clear AW hb1 HBV
  by_cases hn : 60 < n
  · have q : (60 : Int) < (n : Int) := by omega
    clear HV HOK HBV1
    go_wp2
    go_ret
    exact ⟨rfl, B1.out⟩
  have q : ¬ (60 : Int) < (n : Int) := by omega
  by_cases hm : 500 < m
  · have q2 : (500 : Int) < (m : Int) := by omega
    clear HV HOK HBV1
    go_wp2
    go_ret
    exact ⟨rfl, B1.out⟩
  have q2 : ¬ (500 : Int) < (m : Int) := by omega
  go_wp2_with fail
  (with_reducible refine (read_any15 A2 c2 m E w1 (by omega) HBV1.out).mono ?_)
  rintro _ w2 ⟨x, cc, rfl, hsp, hb2⟩
  have HSP := Lib.hid hsp
  have HBV2 := Lib.hid (slice_up HBV1.out hb2)
  have B2 := Lib.hid (B1.out.trans (hb2.mono B1.out.size))
  have hal : Below w2.heap.size w2 (w2.alloc (.cells #[.int .i64 0, .string ⟨#[]⟩, .int .u8 0, .int .u8 0, .int .u8 0, .int .u8 0, .int .u8 0, .int .u8 0, .int .u8 0, .int .u8 0, .int .u8 0, .int .u8 0, .int .u8 0, .int .u8 0, .int .u8 0, .int .u8 0, .int .u8 0, .int .u8 0, .int .i64 0] 28)) := (Below.refl _ _).alloc (Nat.le_refl _) _
  have HZ2 := Lib.hid (row_new w2 #[.int .i64 0, .string ⟨#[]⟩, .int .u8 0, .int .u8 0, .int .u8 0, .int .u8 0, .int .u8 0, .int .u8 0, .int .u8 0, .int .u8 0, .int .u8 0, .int .u8 0, .int .u8 0, .int .u8 0, .int .u8 0, .int .u8 0, .int .u8 0, .int .u8 0, .int .i64 0] 28 19 _ rfl (zero_op _ rfl))
  have HAL := Lib.hid hal
  unfold opV
  clear hsp hb2 hal HBV1 B1
  go_upto_region 5 with (refine store_whole (by rfl) 28 (.tmp 8) (.tmp 46) (by rfl) w2.heap.size _ 19 _ (opF x) HZ2.out (by kernel_rfl) (cellsOf 19 (opF x)) (by kernel_rfl) (by kernel_rfl) (size_cellsOf _ _) (cellsOf_at _ _) (fun i _ => op_one x i) ?_; intro w3 hr3 ho3)
  have hb3 : Below w2.heap.size w2 w3 := ho3.below HAL.out (Nat.le_refl _)
  have HX3 := Lib.hid hr3
  have HBV3 := Lib.hid (slice_up HBV2.out hb3)
  have B3 := Lib.hid (B2.out.trans (hb3.mono B2.out.size))
  clear hr3 ho3 hb3 HZ2 HAL HBV2 B2
  generalize w2.heap.size = g8 at *
  go_wp2_with fail
  (with_reducible refine (refRead15_any A2 c2 m E w3 (by omega) HBV3.out).mono ?_)
  rintro _ w4 ⟨y, cd, rfl, hsp, hb4⟩
  obtain ⟨hxy, hcd⟩ := read_unique hsp HSP.out
  subst hxy hcd
  have HKY := Lib.hid (read_key HSP.out)
  have HX4 := Lib.hid (HX3.out.of_block (hb4.block _ (World.rowIs.lt HX3.out)))
  have B4 := Lib.hid (B3.out.trans (hb4.mono B3.out.size))
  have hal : Below w4.heap.size w4 (w4.alloc (.cells #[.int .i64 0, .string ⟨#[]⟩, .int .u8 0, .int .u8 0, .int .u8 0, .int .u8 0, .int .u8 0, .int .u8 0, .int .u8 0, .int .u8 0, .int .u8 0, .int .u8 0, .int .u8 0, .int .u8 0, .int .u8 0, .int .u8 0, .int .u8 0, .int .u8 0, .int .i64 0] 32)) := (Below.refl _ _).alloc (Nat.le_refl _) _
  have HZ4 := Lib.hid (row_new w4 #[.int .i64 0, .string ⟨#[]⟩, .int .u8 0, .int .u8 0, .int .u8 0, .int .u8 0, .int .u8 0, .int .u8 0, .int .u8 0, .int .u8 0, .int .u8 0, .int .u8 0, .int .u8 0, .int .u8 0, .int .u8 0, .int .u8 0, .int .u8 0, .int .u8 0, .int .i64 0] 32 19 _ rfl (zero_op _ rfl))
  have HAL := Lib.hid hal
  unfold opV
  clear hsp hb4 hal HBV3 B3 HX3
  go_upto_region 6 with (refine store_whole (by rfl) 32 (.tmp 10) (.tmp 51) (by rfl) w4.heap.size _ 19 _ (opF y) HZ4.out (by kernel_rfl) (cellsOf 19 (opF y)) (by kernel_rfl) (by kernel_rfl) (size_cellsOf _ _) (cellsOf_at _ _) (fun i _ => op_one y i) ?_; intro w5 hr5 ho5)
  have hb5 : Below w4.heap.size w4 w5 := ho5.below HAL.out (Nat.le_refl _)
  have HY5 := Lib.hid hr5
  have HX5 := Lib.hid (HX4.out.of_block (hb5.block _ (World.rowIs.lt HX4.out)))
  have B5 := Lib.hid (B4.out.trans (hb5.mono B4.out.size))
  clear hr5 ho5 hb5 HZ4 HAL B4 HX4
  generalize w4.heap.size = g10 at *
  have hne := rop_neq y HKY.out
  have hcc : (cd == cd) = true := by simp
  generalize hcy : cellsOf 19 (opF y) = cy at *
  have HCY := Lib.hid hcy
  clear hcy
  have HZB := Lib.hid (row_new w5 #[.slice none 0 0, .slice none 0 0, .int .i64 0, .int .u8 0, .int .u8 0, .int .u8 0, .int .u8 0, .int .u8 0, .int .u8 0, .int .u8 0, .int .u8 0, .int .u8 0, .int .u8 0, .int .u8 0, .int .u8 0, .int .u8 0, .int .u8 0, .int .u8 0, .int .u8 0] 38 19 _ rfl (zero19 _ rfl))
  have hal : Below w5.heap.size w5 (w5.alloc (.cells #[.slice none 0 0, .slice none 0 0, .int .i64 0, .int .u8 0, .int .u8 0, .int .u8 0, .int .u8 0, .int .u8 0, .int .u8 0, .int .u8 0, .int .u8 0, .int .u8 0, .int .u8 0, .int .u8 0, .int .u8 0, .int .u8 0, .int .u8 0, .int .u8 0, .int .u8 0] 38)) := (Below.refl _ _).alloc (Nat.le_refl _) _
  have HAL := Lib.hid hal
  clear hal
  go_upto_region 9 with first
    | ((with_reducible refine (?_ : wpList _ _ _ _ _ _)); refine load_as (by rfl) 28 (.tmp 8) (by rfl) g8 0 _ 19 19 _ cy (by rw [cells_zero]; exact HCY.out) HX5.out (by kernel_rfl) _ Tryd.underlying28 (by rfl) (by kernel_rfl) (by omega) ?_)
    | ((with_reducible refine (?_ : wpList _ _ _ _ _ _)); refine load_as (by rfl) 32 (.tmp 10) (by rfl) g10 0 _ 19 19 _ cy (by rw [cells_zero]; exact HCY.out) HY5.out (by kernel_rfl) _ Tryd.underlying32 (by rfl) (by kernel_rfl) (by omega) ?_)
    | ((with_reducible refine (?_ : wpList _ _ _ _ _ _)); refine store_whole (by rfl) 38 (.tmp 12) (.tmp 61) (by rfl) w5.heap.size _ 19 _ (bookF bk0 (.slice none 0 0) (.slice none 0 0)) HZB.out (by kernel_rfl) #[.slice none 0 0, .slice none 0 0, .int .i64 0, .int .u8 0, .int .u8 0, .int .u8 0, .int .u8 0, .int .u8 0, .int .u8 0, .int .u8 0, .int .u8 0, .int .u8 0, .int .u8 0, .int .u8 0, .int .u8 0, .int .u8 0, .int .u8 0, .int .u8 0, .int .u8 0] (by kernel_rfl) (by kernel_rfl) (by rfl) (zero19 _ rfl) (fun i _ => book_one (book_empty w1) i) ?_; intro w6 hr6 ho6)
  have hb6 : Below w5.heap.size w5 w6 := ho6.below HAL.out (Nat.le_refl _)
  have HR6 := Lib.hid hr6
  have B6 := Lib.hid (B5.out.trans (hb6.mono B5.out.size))
  have HG6 : Hid (w.heap.size ≤ w5.heap.size ∧ w5.heap.size < w6.heap.size) := Lib.hid ⟨B5.out.size, World.rowIs.lt hr6⟩
  clear hr6 ho6 hb6 HZB HAL B5 HX5 HY5 hne hcc HCY HSP HKY
  generalize w5.heap.size = g12 at *
  have HZR := Lib.hid (row_new w6 #[.slice none 0 0, .slice none 0 0, .int .i64 0, .int .u8 0, .int .u8 0, .int .u8 0, .int .u8 0, .int .u8 0, .int .u8 0, .int .u8 0, .int .u8 0, .int .u8 0, .int .u8 0, .int .u8 0, .int .u8 0, .int .u8 0, .int .u8 0, .int .u8 0, .int .u8 0] 41 19 _ rfl (zero19 _ rfl))
  have HAL : Hid (Below w6.heap.size w6 (w6.alloc (.cells #[.slice none 0 0, .slice none 0 0, .int .i64 0, .int .u8 0, .int .u8 0, .int .u8 0, .int .u8 0, .int .u8 0, .int .u8 0, .int .u8 0, .int .u8 0, .int .u8 0, .int .u8 0, .int .u8 0, .int .u8 0, .int .u8 0, .int .u8 0, .int .u8 0, .int .u8 0] 41))) := Lib.hid ((Below.refl _ _).alloc (Nat.le_refl _) _)
  go_upto_region 10 with ((with_reducible refine (?_ : wpList _ _ _ _ _ _)); refine store_whole (by rfl) 41 (.tmp 13) (.tmp 62) (by rfl) w6.heap.size _ 19 _ (bookF bk0 (.slice none 0 0) (.slice none 0 0)) HZR.out (by kernel_rfl) #[.slice none 0 0, .slice none 0 0, .int .i64 0, .int .u8 0, .int .u8 0, .int .u8 0, .int .u8 0, .int .u8 0, .int .u8 0, .int .u8 0, .int .u8 0, .int .u8 0, .int .u8 0, .int .u8 0, .int .u8 0, .int .u8 0, .int .u8 0, .int .u8 0, .int .u8 0] (by kernel_rfl) (by kernel_rfl) (by rfl) (zero19 _ rfl) (fun i _ => book_one (book_empty w1) i) ?_; intro w7 hr7 ho7)
  have hb7 : Below w6.heap.size w6 w7 := ho7.below HAL.out (Nat.le_refl _)
  have HST : Hid (TellsSt w w7 g12 w6.heap.size bk0 (.slice none 0 0) (.slice none 0 0) (.slice none 0 0) (.slice none 0 0)) := Lib.hid ⟨HR6.out.of_block (hb7.block _ HG6.out.2), hr7, book_empty _, book_empty _, B6.out.trans (hb7.mono B6.out.size), ⟨⟨(fun e => by cases e), (fun e => by cases e)⟩, ⟨(fun e => by cases e), (fun e => by cases e)⟩⟩, ⟨⟨(fun e => by cases e), (fun e => by cases e)⟩, ⟨(fun e => by cases e), (fun e => by cases e)⟩⟩, HG6.out.1, B6.out.size, Nat.ne_of_lt HG6.out.2⟩
  clear hr7 ho7 hb7 HZR HAL HR6 B6 HG6
  generalize w6.heap.size = g13 at *
  go_wp2_with fail
  go_loopw [14] (fun iv wr => ∃ (k : Nat) (b : Bk) (Lv Rv Lr Rr : Value), k ≤ n ∧ iv = .int .i64 (k : Int) ∧ Hid (TellsSt w wr g12 g13 b Lv Rv Lr Rr)) (fun i _ => n - (intOf i).toNat)
  case atStart => exact ⟨0, bk0, _, _, _, _, by omega, rfl, HST⟩
  case round =>
    clear HST
    obtain ⟨k, b, Lv, Rv, Lr, Rr, hk, rfl, hst⟩ := hrel
    by_cases hlt : k < n
    · have q3 : (k : Int) < (n : Int) := by omega
      have q0 : (0 : Int) ≤ (k : Int) := by omega
      obtain ⟨bA, o, rfl, hbA, hc⟩ := HV.out (by omega)
      have HX : Hid (∀ W, Below w.heap.size w W → W.rangeAt bA (o + k * 19) ((List.range 19).map (opF (X k)))) := Lib.hid (fun W hW j u hu => (hW.cell (p := ⟨bA, o + k * 19 + j, none⟩) hbA).trans (hc k hlt j u hu))
      have HXK := Lib.hid (HOK.out k hlt)
      have HKK : Hid (k ≤ n ∧ k < n ∧ n ≤ 60) := Lib.hid ⟨hk, hlt, by omega⟩
      clear hc HV HOK
      generalize X k = x at *
      have HR0 := Lib.hid (HX.out wr hst.out.bel)
      have HZ := Lib.hid (row_new wr #[.int .i64 0, .string ⟨#[]⟩, .int .u8 0, .int .u8 0, .int .u8 0, .int .u8 0, .int .u8 0, .int .u8 0, .int .u8 0, .int .u8 0, .int .u8 0, .int .u8 0, .int .u8 0, .int .u8 0, .int .u8 0, .int .u8 0, .int .u8 0, .int .u8 0, .int .i64 0] 32 19 _ rfl (zero_op _ rfl))
      have HAL : Hid (Below wr.heap.size wr (wr.alloc (.cells #[.int .i64 0, .string ⟨#[]⟩, .int .u8 0, .int .u8 0, .int .u8 0, .int .u8 0, .int .u8 0, .int .u8 0, .int .u8 0, .int .u8 0, .int .u8 0, .int .u8 0, .int .u8 0, .int .u8 0, .int .u8 0, .int .u8 0, .int .u8 0, .int .u8 0, .int .i64 0] 32))) := Lib.hid ((Below.refl _ _).alloc (Nat.le_refl _) _)
      go_upto_region 14 with first
        | ((with_reducible refine (?_ : wpList _ _ _ _ _ _)); refine wpList_load_mid (by rfl) 28 (.tmp 71) (by rfl) bA (o + k * 19) (by kernel_rfl) _ _ HR0.out Tryd.underlying28 (by rfl) (by kernel_rfl) ?_)
        | ((with_reducible refine (?_ : wpList _ _ _ _ _ _)); refine store_whole (by rfl) 32 (.tmp 15) (.tmp 72) (by rfl) wr.heap.size _ 19 _ (opF x) HZ.out (by kernel_rfl) (cellsOf 19 (opF x)) (by kernel_rfl) (by kernel_rfl) (size_cellsOf _ _) (cellsOf_at _ _) (fun i _ => op_one x i) ?_; intro v2 hr2 ho2)
      have hb2 : Below wr.heap.size wr v2 := ho2.below HAL.out (Nat.le_refl _)
      have HO15 := Lib.hid hr2
      have S2 := Lib.hid (hst.out.below hb2)
      have HR2 := Lib.hid (HX.out v2 S2.out.bel)
      clear hr2 ho2 hb2 HZ HAL hst HR0
      generalize wr.heap.size = g15 at *
      have HPU := Lib.hid (put_any x HXK.out.1 HXK.out.2 v2)
      have HPR := Lib.hid (fun W => refPut15_any x HXK.out.1 HXK.out.2 W)
      have HNS : Hid ((if rightB x = true then encNO x else 0) ≤ 1000) := Lib.hid (by
        split
        · rename_i hrx
          rw [encNO_eq]
          have := right_size hrx
          omega
        · omega)
      unfold opV at HPU HPR
      generalize (if rightB x = true then (0 : Int) else 3) = cd at *
      generalize (if rightB x = true then encNO x else 0) = nn at *
      go_wp2_with first
        | ((with_reducible refine (?_ : wpList _ _ _ _ _ _)); refine wpList_load_mid (by rfl) 28 (.tmp 76) (by rfl) bA (o + k * 19) (by kernel_rfl) _ _ HR2.out Tryd.underlying28 (by rfl) (by kernel_rfl) ?_)
        | fail
      refine HPU.out.mono ?_
      rintro _ v3 ⟨e1, rfl, ho1, hb3⟩
      have HE1 := Lib.hid (ho1.slice (g' := v3.heap.size) (.inr (Nat.le_refl _)))
      have S3 := Lib.hid (S2.out.below hb3)
      have HO3 := Lib.hid (HO15.out.of_block (hb3.block _ (World.rowIs.lt HO15.out)))
      obtain ⟨A3, c3, hs1, -, -⟩ := own_shape ho1
      subst hs1
      clear ho1 hb3 HPU HR2 S2 HO15
      go_wp2_with first
        | ((with_reducible refine (?_ : wpList _ _ _ _ _ _)); refine load_whole (by rfl) 32 (.tmp 15) (by rfl) g15 _ 19 _ HO3.out (by kernel_rfl) _ Tryd.underlying32 (by rfl) (by kernel_rfl) ?_)
        | fail
      refine (HPR.out _).mono ?_
      rintro _ v4 ⟨e2, rfl, ho2, hb4⟩
      have HE2 := Lib.hid (ho2.slice (g' := v4.heap.size) (.inr (Nat.le_refl _)))
      have HE1' := Lib.hid (slice_up HE1.out hb4)
      have S4 := Lib.hid (S3.out.below hb4)
      have HO4 := Lib.hid (HO3.out.of_block (hb4.block _ (World.rowIs.lt HO3.out)))
      obtain ⟨A4, c4, hs2, -, -⟩ := own_shape ho2
      subst hs2
      clear ho2 hb4 HPR S3 HO3 HE1
      have HSB := Lib.hid (Mac.same_gen A3 A4 nn nn c3 c4 (encEO x) (encEO x) _ _ v4 HE1'.out HE2.out (by have := HNS.out; omega) (by have := HNS.out; omega))
      rw [Mac.same_refl _ _ _ (fun _ _ => rfl)] at HSB
      go_wp2_with fail
      refine HSB.out.mono ?_
      rintro _ v5 ⟨rfl, qn, hv5⟩
      have hb5 : Below v4.heap.size v4 v5 := by rw [hv5]; exact ⟨rfl, rfl, rfl, Nat.le_refl _, fun _ _ => rfl⟩
      have S5 := Lib.hid (S4.out.below hb5)
      have HO5 := Lib.hid (HO4.out.of_block (hb5.block _ (World.rowIs.lt HO4.out)))
      clear hb5 hv5 HSB HE1' HE2 S4 HO4
      have hcc : (cd == cd) = true := by simp
      go_upto_region 17 with fail
      have HY := Lib.hid (fun (W : World) (hW : Below v5.heap.size v5 W) => HX.out W (S5.out.bel.trans (hW.mono S5.out.bel.size)))
      have HY2 := Lib.hid (fun (W : World) (hW : Below v5.heap.size v5 W) => range_row (HO5.out.of_block (hW.block _ (World.rowIs.lt HO5.out))))
      have hS : Below v5.heap.size v5 v5.drew := (Below.refl _ _).drew
      refine region_mix (fun W => Below v5.heap.size v5 W) [(0, true), (1, true), (2, true), (3, true), (4, true), (5, true), (6, true), (7, true), (8, true), (9, true), (10, true), (11, true), (13, true), (12, false), (14, false), (15, true), (16, true)] (by kernel_rfl) (by kernel_rfl) hS ?_
      refine m_val rfl (by kernel_rfl) (.bool true) (fun W hW => by clear hW; go_simp) ?_
      simp only [Act.put, List.setIfInBounds_toArray, List.set_cons_zero, List.set_cons_succ]
      refine m_val rfl (by kernel_rfl) (.bool false) (fun W hW => by clear hW; go_simp) ?_
      simp only [Act.put, List.setIfInBounds_toArray, List.set_cons_zero, List.set_cons_succ]
      refine m_val rfl (by kernel_rfl) (.bool false) (fun W hW => by clear hW; go_simp) ?_
      simp only [Act.put, List.setIfInBounds_toArray, List.set_cons_zero, List.set_cons_succ]
      refine m_val rfl (by kernel_rfl) (.int .i64 cd) (fun W hW => by clear hW; go_simp) ?_
      simp only [Act.put, List.setIfInBounds_toArray, List.set_cons_zero, List.set_cons_succ]
      refine m_val rfl (by kernel_rfl) (.int .i64 cd) (fun W hW => by clear hW; go_simp) ?_
      simp only [Act.put, List.setIfInBounds_toArray, List.set_cons_zero, List.set_cons_succ]
      refine m_val rfl (by kernel_rfl) (.bool false) (fun W hW => by clear hW; go_simp) ?_
      simp only [Act.put, List.setIfInBounds_toArray, List.set_cons_zero, List.set_cons_succ]
      refine m_val rfl (by kernel_rfl) (.bool false) (fun W hW => by clear hW; go_simp) ?_
      simp only [Act.put, List.setIfInBounds_toArray, List.set_cons_zero, List.set_cons_succ]
      refine m_val rfl (by kernel_rfl) (.bool false) (fun W hW => by clear hW; go_simp) ?_
      simp only [Act.put, List.setIfInBounds_toArray, List.set_cons_zero, List.set_cons_succ]
      refine m_val rfl (by kernel_rfl) (.slice (some ⟨bA, o, none⟩) n c) (fun W hW => by clear hW; go_simp) ?_
      simp only [Act.put, List.setIfInBounds_toArray, List.set_cons_zero, List.set_cons_succ]
      refine m_val rfl (by kernel_rfl) (.int .i64 (k : Int)) (fun W hW => by clear hW; go_simp) ?_
      simp only [Act.put, List.setIfInBounds_toArray, List.set_cons_zero, List.set_cons_succ]
      refine m_val rfl (by kernel_rfl) (.pointer (some ⟨bA, o + k * 19, none⟩)) (fun W hW => by clear hW; go_simp) ?_
      simp only [Act.put, List.setIfInBounds_toArray, List.set_cons_zero, List.set_cons_succ]
      refine m_range rfl (by kernel_rfl) 28 (.tmp 99) (by rfl) bA (o + k * 19) 19 (opF x) (fun W hW => HY.out W hW) (by kernel_rfl) _ Tryd.underlying28 (by rfl) (by kernel_rfl) ?_
      simp only [Act.put, List.setIfInBounds_toArray, List.set_cons_zero, List.set_cons_succ]
      refine m_range rfl (by kernel_rfl) 32 (.tmp 15) (by rfl) g15 (0) 19 (opF x) (fun W hW => HY2.out W hW) (by kernel_rfl) _ Tryd.underlying32 (by rfl) (by kernel_rfl) ?_
      simp only [Act.put, List.setIfInBounds_toArray, List.set_cons_zero, List.set_cons_succ]
      have BV0 := Lib.hid hS
      clear hS
      generalize v5.drew = V0 at *
      have HRG := Lib.hid (right_any x HXK.out.1 HXK.out.2 V0)
      unfold opV at HRG
      refine m_go rfl ?_
      go_wp2_with fail
      refine HRG.out.mono ?_
      rintro _ V1 ⟨rfl, hb6⟩
      have BV1 := Lib.hid (BV0.out.trans (hb6.mono BV0.out.size))
      clear hb6 HRG BV0
      go_wp2_with fail
      refine m_on BV1.out ?_
      have HRG := Lib.hid (refRight15_any x HXK.out.1 HXK.out.2 V1)
      unfold opV at HRG
      refine m_go rfl ?_
      go_wp2_with fail
      refine HRG.out.mono ?_
      rintro _ wy ⟨rfl, hb6⟩
      have BVy := Lib.hid (BV1.out.trans (hb6.mono BV1.out.size))
      clear hb6 HRG BV1
      go_wp2_with fail
      refine m_on BVy.out ?_
      generalize rightB x = rb at *
      refine m_val rfl (by kernel_rfl) (.bool false) (fun W hW => by clear hW; go_simp) ?_
      simp only [Act.put, List.setIfInBounds_toArray, List.set_cons_zero, List.set_cons_succ]
      refine m_val rfl (by kernel_rfl) (.bool false) (fun W hW => by clear hW; go_simp) ?_
      simp only [Act.put, List.setIfInBounds_toArray, List.set_cons_zero, List.set_cons_succ]
      refine m_end ?_
      have S6 := Lib.hid (S5.out.below BVy.out)
      have HO6 := Lib.hid (HO5.out.of_block (BVy.out.block _ (World.rowIs.lt HO5.out)))
      clear S5 HO5 HY HY2 BVy hcc
      go_upto_region 19 with fail
      have HB := Lib.hid (fun (W : World) (hW : Below wy.heap.size wy W) => range_row (S6.out.r1.of_block (hW.block g12 (World.rowIs.lt S6.out.r1))))
      have HXY := Lib.hid (fun (W : World) (hW : Below wy.heap.size wy W) => HX.out W (S6.out.bel.trans (hW.mono S6.out.bel.size)))
      go_cut [21, 22] from 106 to 114 (fun p e wx => ∃ (g6 : Nat) (Lv' Rv' : Value), p = .pointer (some ⟨g6, 0, none⟩) ∧ e = .int .i64 (applyC b x) ∧ Hid (TellsB w wx g12 g13 g6 b Lv Rv Lr Rr (applyB b x) Lv' Rv' ∧ Below wy.heap.size wy wx))
      case first =>
        have hS : Below wy.heap.size wy wy.drew := (Below.refl _ _).drew
        refine region_h (fun W => Below wy.heap.size wy W) 12 (by kernel_rfl) rfl ?_
        refine f_range 0 rfl (by kernel_rfl) (by rfl) 38 (.tmp 12) (by rfl) g12 (0) 19 (bookF b Lv Rv) HB.out (by rfl) _ Tryd.underlying38 (by rfl) (by kernel_rfl) hS ?_
        simp only [Act.put, List.setIfInBounds_toArray, List.set_cons_zero, List.set_cons_succ]
        refine f_take 1 rfl (by kernel_rfl) (by rfl) _ (fun W hW => by go_simp; rfl) hS ?_
        simp only [Act.put, List.setIfInBounds_toArray, List.set_cons_zero, List.set_cons_succ]
        refine f_take 2 rfl (by kernel_rfl) (by rfl) _ (fun W hW => by go_simp; rfl) hS ?_
        simp only [Act.put, List.setIfInBounds_toArray, List.set_cons_zero, List.set_cons_succ]
        refine f_take 3 rfl (by kernel_rfl) (by rfl) _ (fun W hW => by go_simp; rfl) hS ?_
        simp only [Act.put, List.setIfInBounds_toArray, List.set_cons_zero, List.set_cons_succ]
        refine f_range 4 rfl (by kernel_rfl) (by rfl) 28 (.tmp 110) (by rfl) bA (o + k * 19) 19 (opF x) HXY.out (by rfl) _ Tryd.underlying28 (by rfl) (by kernel_rfl) hS ?_
        simp only [Act.put, List.setIfInBounds_toArray, List.set_cons_zero, List.set_cons_succ]
        have BV0 := Lib.hid hS
        have HB0 := Lib.hid (S6.out.a1.below hS)
        have HGV : Hid (g12 < wy.drew.heap.size ∧ g13 < wy.drew.heap.size) := Lib.hid ⟨Nat.lt_of_lt_of_le (World.rowIs.lt S6.out.r1) hS.size, Nat.lt_of_lt_of_le (World.rowIs.lt S6.out.r2) hS.size⟩
        clear hS
        generalize wy.drew = V0 at *
        refine f_two 5 9 rfl rfl (by kernel_rfl) ?_ ?_
        · go_wp2_with fail
          refine (bookOwn.apply x HB0.out HXK.out.1 HXK.out.2).mono ?_
          rintro _ V1 ⟨Lv', Rv', rfl, hb1, hbel1, hap1⟩
          have BV1 : Hid (Below wy.heap.size wy V1) := Lib.hid (BV0.out.trans (hbel1.mono BV0.out.size))
          have HN1 := Lib.hid hb1
          have HAP := Lib.hid hap1
          clear hb1 hbel1 hap1
          go_wp2_with fail
          refine m_on BV1.out ?_
          refine f_take 6 rfl (by kernel_rfl) (by rfl) _ (fun W hW => by go_simp; rfl) BV1.out ?_
          simp only [Act.put, List.setIfInBounds_toArray, List.set_cons_zero, List.set_cons_succ]
          refine f_take 7 rfl (by kernel_rfl) (by rfl) _ (fun W hW => by go_simp; rfl) BV1.out ?_
          simp only [Act.put, List.setIfInBounds_toArray, List.set_cons_zero, List.set_cons_succ]
          refine f_take 8 rfl (by kernel_rfl) (by rfl) _ (fun W hW => by go_simp; rfl) BV1.out ?_
          simp only [Act.put, List.setIfInBounds_toArray, List.set_cons_zero, List.set_cons_succ]
          refine f_go 9 rfl (by kernel_rfl) ?_
          go_wp2_with fail
          have HZ := Lib.hid (row_new V1 #[.slice none 0 0, .slice none 0 0, .int .i64 0, .int .u8 0, .int .u8 0, .int .u8 0, .int .u8 0, .int .u8 0, .int .u8 0, .int .u8 0, .int .u8 0, .int .u8 0, .int .u8 0, .int .u8 0, .int .u8 0, .int .u8 0, .int .u8 0, .int .u8 0, .int .u8 0] 38 19 _ rfl (zero19 _ rfl))
          have bb : Below V1.heap.size V1 (V1.alloc (.cells #[.slice none 0 0, .slice none 0 0, .int .i64 0, .int .u8 0, .int .u8 0, .int .u8 0, .int .u8 0, .int .u8 0, .int .u8 0, .int .u8 0, .int .u8 0, .int .u8 0, .int .u8 0, .int .u8 0, .int .u8 0, .int .u8 0, .int .u8 0, .int .u8 0, .int .u8 0] 38)) := (Below.refl _ _).alloc (Nat.le_refl _) _
          have BV2 : Hid (Below wy.heap.size wy (V1.alloc (.cells #[.slice none 0 0, .slice none 0 0, .int .i64 0, .int .u8 0, .int .u8 0, .int .u8 0, .int .u8 0, .int .u8 0, .int .u8 0, .int .u8 0, .int .u8 0, .int .u8 0, .int .u8 0, .int .u8 0, .int .u8 0, .int .u8 0, .int .u8 0, .int .u8 0, .int .u8 0] 38))) := Lib.hid (BV1.out.trans (bb.mono BV1.out.size))
          have HN := Lib.hid (HN1.out.below bb)
          have HA6 := Lib.hid (HN1.out.apart V1.heap.size (Nat.le_refl _))
          have HG6 : Hid (wy.heap.size ≤ V1.heap.size) := Lib.hid BV1.out.size
          refine m_on BV2.out ?_
          clear bb BV1 HN1
          generalize (V1.alloc (.cells #[.slice none 0 0, .slice none 0 0, .int .i64 0, .int .u8 0, .int .u8 0, .int .u8 0, .int .u8 0, .int .u8 0, .int .u8 0, .int .u8 0, .int .u8 0, .int .u8 0, .int .u8 0, .int .u8 0, .int .u8 0, .int .u8 0, .int .u8 0, .int .u8 0, .int .u8 0] 38)) = V2 at *
          generalize V1.heap.size = g6 at *
          refine f_go 10 rfl (by kernel_rfl) ?_
          go_wp2_with ((with_reducible refine (?_ : wpList _ _ _ _ _ _)); refine store_whole (by rfl) 38 (.tmp 21) (.tmp 113) (by rfl) g6 _ 19 _ (bookF (applyB b x) Lv' Rv') HZ.out (by kernel_rfl) (cellsOf 19 (bookF (applyB b x) Lv' Rv')) (by kernel_rfl) (by kernel_rfl) (size_cellsOf _ _) (cellsOf_at _ _) (fun i _ => book_one HN.out i) ?_; intro V3 hr3 ho3)
          have HR3 := Lib.hid hr3
          have BV3 : Hid (Below wy.heap.size wy V3) := Lib.hid (ho3.below BV2.out HG6.out)
          have HN3 := Lib.hid (HN.out.only HA6.out ho3)
          clear hr3 ho3 HZ HN BV2 HA6
          refine m_on BV3.out ?_
          refine f_take 11 rfl (by kernel_rfl) (by rfl) _ (fun W hW => by go_simp; rfl) BV3.out ?_
          simp only [Act.put, List.setIfInBounds_toArray, List.set_cons_zero, List.set_cons_succ]
          refine f_end (by kernel_rfl) ?_
          go_wp2_with fail
          go_meet
          exact ⟨g6, Lv', Rv', rfl, rfl, Lib.hid ⟨⟨S6.out.below BV3.out, HR3.out, HN3.out, HAP.out g12 HGV.out.1 S6.out.p1.1, HAP.out g13 HGV.out.2 S6.out.p1.2⟩, BV3.out⟩⟩
        · go_wp2_with fail
          have HZ0 := row_new V0 #[.slice none 0 0, .slice none 0 0, .int .i64 0, .int .u8 0, .int .u8 0, .int .u8 0, .int .u8 0, .int .u8 0, .int .u8 0, .int .u8 0, .int .u8 0, .int .u8 0, .int .u8 0, .int .u8 0, .int .u8 0, .int .u8 0, .int .u8 0, .int .u8 0, .int .u8 0] 38 19 _ rfl (zero19 _ rfl)
          have bb : Below V0.heap.size V0 (V0.alloc (.cells #[.slice none 0 0, .slice none 0 0, .int .i64 0, .int .u8 0, .int .u8 0, .int .u8 0, .int .u8 0, .int .u8 0, .int .u8 0, .int .u8 0, .int .u8 0, .int .u8 0, .int .u8 0, .int .u8 0, .int .u8 0, .int .u8 0, .int .u8 0, .int .u8 0, .int .u8 0] 38)) := (Below.refl _ _).alloc (Nat.le_refl _) _
          have BV1 : Hid (Below wy.heap.size wy (V0.alloc (.cells #[.slice none 0 0, .slice none 0 0, .int .i64 0, .int .u8 0, .int .u8 0, .int .u8 0, .int .u8 0, .int .u8 0, .int .u8 0, .int .u8 0, .int .u8 0, .int .u8 0, .int .u8 0, .int .u8 0, .int .u8 0, .int .u8 0, .int .u8 0, .int .u8 0, .int .u8 0] 38))) := Lib.hid (BV0.out.trans (bb.mono BV0.out.size))
          have HB1 := Lib.hid (HB0.out.below bb)
          have HA0 := Lib.hid (HB0.out.apart V0.heap.size (Nat.le_refl _))
          have HG6 : Hid (wy.heap.size ≤ V0.heap.size) := Lib.hid BV0.out.size
          have HGW : Hid (g12 < (V0.alloc (.cells #[.slice none 0 0, .slice none 0 0, .int .i64 0, .int .u8 0, .int .u8 0, .int .u8 0, .int .u8 0, .int .u8 0, .int .u8 0, .int .u8 0, .int .u8 0, .int .u8 0, .int .u8 0, .int .u8 0, .int .u8 0, .int .u8 0, .int .u8 0, .int .u8 0, .int .u8 0] 38)).heap.size ∧ g13 < (V0.alloc (.cells #[.slice none 0 0, .slice none 0 0, .int .i64 0, .int .u8 0, .int .u8 0, .int .u8 0, .int .u8 0, .int .u8 0, .int .u8 0, .int .u8 0, .int .u8 0, .int .u8 0, .int .u8 0, .int .u8 0, .int .u8 0, .int .u8 0, .int .u8 0, .int .u8 0, .int .u8 0] 38)).heap.size) := Lib.hid ⟨Nat.lt_of_lt_of_le HGV.out.1 bb.size, Nat.lt_of_lt_of_le HGV.out.2 bb.size⟩
          have HZ1 := Lib.hid HZ0
          refine m_on BV1.out ?_
          clear bb BV0 HZ0 HGV HB0
          generalize (V0.alloc (.cells #[.slice none 0 0, .slice none 0 0, .int .i64 0, .int .u8 0, .int .u8 0, .int .u8 0, .int .u8 0, .int .u8 0, .int .u8 0, .int .u8 0, .int .u8 0, .int .u8 0, .int .u8 0, .int .u8 0, .int .u8 0, .int .u8 0, .int .u8 0, .int .u8 0, .int .u8 0] 38)) = V1 at *
          generalize V0.heap.size = g6 at *
          refine f_go 5 rfl (by kernel_rfl) ?_
          go_wp2_with fail
          refine (bookOwn.apply x HB1.out HXK.out.1 HXK.out.2).mono ?_
          rintro _ V2 ⟨Lv', Rv', rfl, hb1, hbel1, hap1⟩
          have BV2 : Hid (Below wy.heap.size wy V2) := Lib.hid (BV1.out.trans (hbel1.mono BV1.out.size))
          have HN := Lib.hid hb1
          have HAP := Lib.hid hap1
          have HZ := Lib.hid (HZ1.out.of_block (hbel1.block _ (World.rowIs.lt HZ1.out)))
          have HA6 := Lib.hid (hap1 g6 (World.rowIs.lt HZ1.out) HA0.out)
          have HGV := HGW
          clear hb1 hbel1 hap1 HZ1 HA0 HGW
          go_wp2_with fail
          refine m_on BV2.out ?_
          refine f_take 6 rfl (by kernel_rfl) (by rfl) _ (fun W hW => by go_simp; rfl) BV2.out ?_
          simp only [Act.put, List.setIfInBounds_toArray, List.set_cons_zero, List.set_cons_succ]
          refine f_take 7 rfl (by kernel_rfl) (by rfl) _ (fun W hW => by go_simp; rfl) BV2.out ?_
          simp only [Act.put, List.setIfInBounds_toArray, List.set_cons_zero, List.set_cons_succ]
          refine f_take 8 rfl (by kernel_rfl) (by rfl) _ (fun W hW => by go_simp; rfl) BV2.out ?_
          simp only [Act.put, List.setIfInBounds_toArray, List.set_cons_zero, List.set_cons_succ]
          refine f_go 10 rfl (by kernel_rfl) ?_
          go_wp2_with ((with_reducible refine (?_ : wpList _ _ _ _ _ _)); refine store_whole (by rfl) 38 (.tmp 21) (.tmp 113) (by rfl) g6 _ 19 _ (bookF (applyB b x) Lv' Rv') HZ.out (by kernel_rfl) (cellsOf 19 (bookF (applyB b x) Lv' Rv')) (by kernel_rfl) (by kernel_rfl) (size_cellsOf _ _) (cellsOf_at _ _) (fun i _ => book_one HN.out i) ?_; intro V3 hr3 ho3)
          have HR3 := Lib.hid hr3
          have BV3 : Hid (Below wy.heap.size wy V3) := Lib.hid (ho3.below BV2.out HG6.out)
          have HN3 := Lib.hid (HN.out.only HA6.out ho3)
          clear hr3 ho3 HZ HN BV2 HA6
          refine m_on BV3.out ?_
          refine f_take 11 rfl (by kernel_rfl) (by rfl) _ (fun W hW => by go_simp; rfl) BV3.out ?_
          simp only [Act.put, List.setIfInBounds_toArray, List.set_cons_zero, List.set_cons_succ]
          refine f_end (by kernel_rfl) ?_
          go_wp2_with fail
          go_meet
          exact ⟨g6, Lv', Rv', rfl, rfl, Lib.hid ⟨⟨S6.out.below BV3.out, HR3.out, HN3.out, HAP.out g12 HGV.out.1 S6.out.p1.1, HAP.out g13 HGV.out.2 S6.out.p1.2⟩, BV3.out⟩⟩
      case rest =>
        obtain ⟨g21, Lw, Rw, rfl, rfl, hx⟩ := hcut
        have T1 := Lib.hid hx.out.1
        have HO7 := Lib.hid (HO6.out.of_block (hx.out.2.block _ (World.rowIs.lt HO6.out)))
        clear hx HB HXY S6 HO6
        go_upto_region 20 with fail
        go_wp2_with first
          | ((with_reducible refine (?_ : wpList _ _ _ _ _ _)); refine load_whole (by rfl) 41 (.tmp 13) (by rfl) g13 _ 19 _ T1.out.st.r2 (by kernel_rfl) _ Tryd.underlying41 (by rfl) (by kernel_rfl) ?_)
          | ((with_reducible refine (?_ : wpList _ _ _ _ _ _)); refine load_whole (by rfl) 32 (.tmp 15) (by rfl) g15 _ 19 _ HO7.out (by kernel_rfl) _ Tryd.underlying32 (by rfl) (by kernel_rfl) ?_)
          | fail
        refine (refApply15_any x T1.out.st.a2 HXK.out.1 HXK.out.2).mono ?_
        rintro _ v6 ⟨Lx, Rx, rfl, ha6, hb6, hp6⟩
        generalize applyB b x = d at *
        generalize applyC b x = er at *
        have HZ := Lib.hid (row_new v6 #[.slice none 0 0, .slice none 0 0, .int .i64 0, .int .u8 0, .int .u8 0, .int .u8 0, .int .u8 0, .int .u8 0, .int .u8 0, .int .u8 0, .int .u8 0, .int .u8 0, .int .u8 0, .int .u8 0, .int .u8 0, .int .u8 0, .int .u8 0, .int .u8 0, .int .u8 0] 41 19 _ rfl (zero19 _ rfl))
        have bb : Below v6.heap.size v6 (v6.alloc (.cells #[.slice none 0 0, .slice none 0 0, .int .i64 0, .int .u8 0, .int .u8 0, .int .u8 0, .int .u8 0, .int .u8 0, .int .u8 0, .int .u8 0, .int .u8 0, .int .u8 0, .int .u8 0, .int .u8 0, .int .u8 0, .int .u8 0, .int .u8 0, .int .u8 0, .int .u8 0] 41)) := (Below.refl _ _).alloc (Nat.le_refl _) _
        have HN := Lib.hid (ha6.below bb)
        have HA := Lib.hid (ha6.apart v6.heap.size (Nat.le_refl _))
        have HP6 : Hid (Book.Apart Lx Rx g12 ∧ Book.Apart Lx Rx g13) := Lib.hid ⟨hp6 g12 (World.rowIs.lt T1.out.st.r1) T1.out.st.p2.1, hp6 g13 (World.rowIs.lt T1.out.st.r2) T1.out.st.p2.2⟩
        have T2 := Lib.hid (T1.out.below (hb6.trans (bb.mono hb6.size)))
        have BL : Hid (Below v6.heap.size v6 (v6.alloc (.cells #[.slice none 0 0, .slice none 0 0, .int .i64 0, .int .u8 0, .int .u8 0, .int .u8 0, .int .u8 0, .int .u8 0, .int .u8 0, .int .u8 0, .int .u8 0, .int .u8 0, .int .u8 0, .int .u8 0, .int .u8 0, .int .u8 0, .int .u8 0, .int .u8 0, .int .u8 0] 41))) := Lib.hid bb
        have T2b := Lib.hid (T1.out.below hb6)
        clear ha6 hb6 hp6 T1 HO7 bb T2
        go_upto_region 21 with ((with_reducible refine (?_ : wpList _ _ _ _ _ _)); refine store_whole (by rfl) 41 (.tmp 23) (.tmp 119) (by rfl) v6.heap.size _ 19 _ (bookF d Lx Rx) HZ.out (by kernel_rfl) (cellsOf 19 (bookF d Lx Rx)) (by kernel_rfl) (by kernel_rfl) (size_cellsOf _ _) (cellsOf_at _ _) (fun i _ => book_one HN.out i) ?_; intro v7 hr7 ho7)
        have T3 : Hid (TellsC w v7 g12 g13 g21 v6.heap.size b Lv Rv Lr Rr d Lw Rw Lx Rx) := Lib.hid ⟨T2b.out.below (ho7.below BL.out (Nat.le_refl _)), hr7, HN.out.only HA.out ho7, HP6.out, fun e => Nat.lt_irrefl _ (e ▸ World.rowIs.lt T2b.out.st.r1)⟩
        clear hr7 ho7 HZ HN HA HP6 T2b BL
        generalize v6.heap.size = g23 at *
        have hS : Below v7.heap.size v7 v7.drew := (Below.refl _ _).drew
        have HY3 := Lib.hid (fun (W : World) (hW : Below v7.heap.size v7 W) => range_row (T3.out.s.r3.of_block (hW.block _ (World.rowIs.lt T3.out.s.r3))))
        have HY4 := Lib.hid (fun (W : World) (hW : Below v7.heap.size v7 W) => range_row (T3.out.r4.of_block (hW.block _ (World.rowIs.lt T3.out.r4))))
        refine region_mix (fun W => Below v7.heap.size v7 W) [(0, true), (2, true), (1, false), (3, false), (4, true)] (by kernel_rfl) (by kernel_rfl) hS ?_
        refine m_range rfl (by kernel_rfl) 38 (.tmp 21) (by rfl) g21 (0) 19 (bookF d Lw Rw) (fun W hW => HY3.out W hW) (by kernel_rfl) _ Tryd.underlying38 (by rfl) (by kernel_rfl) ?_
        simp only [Act.put, List.setIfInBounds_toArray, List.set_cons_zero, List.set_cons_succ]
        refine m_range rfl (by kernel_rfl) 41 (.tmp 23) (by rfl) g23 (0) 19 (bookF d Lx Rx) (fun W hW => HY4.out W hW) (by kernel_rfl) _ Tryd.underlying41 (by rfl) (by kernel_rfl) ?_
        simp only [Act.put, List.setIfInBounds_toArray, List.set_cons_zero, List.set_cons_succ]
        have BV0 := Lib.hid hS
        clear hS
        generalize v7.drew = Y0 at *
        refine m_go rfl ?_
        go_wp2_with fail
        refine (lawOwn_any (T3.out.s.a3.below BV0.out)).mono ?_
        rintro _ Y1 ⟨Lo, rfl, ho1, hb1⟩
        have BV1 := Lib.hid (BV0.out.trans (hb1.mono BV0.out.size))
        have HO1 := Lib.hid ho1
        clear hb1 ho1 BV0
        go_wp2_with fail
        refine m_on BV1.out ?_
        refine m_go rfl ?_
        go_wp2_with fail
        refine (refSame15_any HO1.out (T3.out.a4.below BV1.out)).mono ?_
        rintro _ Y2 ⟨⟨t, rfl, ht⟩, hb2⟩
        obtain rfl : t = true := ht.2 rfl
        have BV2 := Lib.hid (BV1.out.trans (hb2.mono BV1.out.size))
        clear hb2 ht HO1 BV1
        go_wp2_with fail
        refine m_on BV2.out ?_
        refine m_val rfl (by kernel_rfl) (.bool true) (fun W hW => by clear hW; go_simp) ?_
        simp only [Act.put, List.setIfInBounds_toArray, List.set_cons_zero, List.set_cons_succ]
        refine m_end ?_
        have T4 := Lib.hid (T3.out.below BV2.out)
        clear T3 HY3 HY4 BV2
        have hee : (er == er) = true := by simp
        go_upto_region 22 with fail
        have hS : Below Y2.heap.size Y2 Y2.drew := (Below.refl _ _).drew
        have HY1 := Lib.hid (fun (W : World) (hW : Below Y2.heap.size Y2 W) => range_row (T4.out.s.st.r1.of_block (hW.block _ (World.rowIs.lt T4.out.s.st.r1))))
        have HY2 := Lib.hid (fun (W : World) (hW : Below Y2.heap.size Y2 W) => range_row (T4.out.s.st.r2.of_block (hW.block _ (World.rowIs.lt T4.out.s.st.r2))))
        have HY3 := Lib.hid (fun (W : World) (hW : Below Y2.heap.size Y2 W) => range_row (T4.out.s.r3.of_block (hW.block _ (World.rowIs.lt T4.out.s.r3))))
        have HY4 := Lib.hid (fun (W : World) (hW : Below Y2.heap.size Y2 W) => range_row (T4.out.r4.of_block (hW.block _ (World.rowIs.lt T4.out.r4))))
        refine region_mix (fun W => Below Y2.heap.size Y2 W) [(0, true), (1, true), (2, true), (3, true), (4, true), (5, true), (6, true), (7, true), (8, true), (9, true), (11, true), (12, true), (10, false), (13, false), (14, true), (15, true)] (by kernel_rfl) (by kernel_rfl) hS ?_
        refine m_val rfl (by kernel_rfl) (.bool true) (fun W hW => by clear hW; go_simp) ?_
        simp only [Act.put, List.setIfInBounds_toArray, List.set_cons_zero, List.set_cons_succ]
        refine m_val rfl (by kernel_rfl) (.bool false) (fun W hW => by clear hW; go_simp) ?_
        simp only [Act.put, List.setIfInBounds_toArray, List.set_cons_zero, List.set_cons_succ]
        refine m_val rfl (by kernel_rfl) (.bool false) (fun W hW => by clear hW; go_simp) ?_
        simp only [Act.put, List.setIfInBounds_toArray, List.set_cons_zero, List.set_cons_succ]
        refine m_val rfl (by kernel_rfl) (.int .i64 er) (fun W hW => by clear hW; go_simp) ?_
        simp only [Act.put, List.setIfInBounds_toArray, List.set_cons_zero, List.set_cons_succ]
        refine m_val rfl (by kernel_rfl) (.int .i64 er) (fun W hW => by clear hW; go_simp) ?_
        simp only [Act.put, List.setIfInBounds_toArray, List.set_cons_zero, List.set_cons_succ]
        refine m_val rfl (by kernel_rfl) (.bool false) (fun W hW => by clear hW; go_simp) ?_
        simp only [Act.put, List.setIfInBounds_toArray, List.set_cons_zero, List.set_cons_succ]
        refine m_val rfl (by kernel_rfl) (.bool false) (fun W hW => by clear hW; go_simp) ?_
        simp only [Act.put, List.setIfInBounds_toArray, List.set_cons_zero, List.set_cons_succ]
        refine m_val rfl (by kernel_rfl) (.bool false) (fun W hW => by clear hW; go_simp) ?_
        simp only [Act.put, List.setIfInBounds_toArray, List.set_cons_zero, List.set_cons_succ]
        refine m_range rfl (by kernel_rfl) 38 (.tmp 12) (by rfl) g12 (0) 19 (bookF b Lv Rv) (fun W hW => HY1.out W hW) (by kernel_rfl) _ Tryd.underlying38 (by rfl) (by kernel_rfl) ?_
        simp only [Act.put, List.setIfInBounds_toArray, List.set_cons_zero, List.set_cons_succ]
        refine m_range rfl (by kernel_rfl) 38 (.tmp 21) (by rfl) g21 (0) 19 (bookF d Lw Rw) (fun W hW => HY3.out W hW) (by kernel_rfl) _ Tryd.underlying38 (by rfl) (by kernel_rfl) ?_
        simp only [Act.put, List.setIfInBounds_toArray, List.set_cons_zero, List.set_cons_succ]
        refine m_range rfl (by kernel_rfl) 41 (.tmp 13) (by rfl) g13 (0) 19 (bookF b Lr Rr) (fun W hW => HY2.out W hW) (by kernel_rfl) _ Tryd.underlying41 (by rfl) (by kernel_rfl) ?_
        simp only [Act.put, List.setIfInBounds_toArray, List.set_cons_zero, List.set_cons_succ]
        refine m_range rfl (by kernel_rfl) 41 (.tmp 23) (by rfl) g23 (0) 19 (bookF d Lx Rx) (fun W hW => HY4.out W hW) (by kernel_rfl) _ Tryd.underlying41 (by rfl) (by kernel_rfl) ?_
        simp only [Act.put, List.setIfInBounds_toArray, List.set_cons_zero, List.set_cons_succ]
        have BV0 := Lib.hid hS
        clear hS
        generalize Y2.drew = Y3 at *
        refine m_go rfl ?_
        go_wp2_with fail
        refine (bookOwn.same (T4.out.s.st.a1.below BV0.out) (T4.out.s.a3.below BV0.out)).mono ?_
        rintro _ Y4 ⟨⟨t1, rfl, ht1⟩, hb1⟩
        have BV1 := Lib.hid (BV0.out.trans (hb1.mono BV0.out.size))
        have HT1 := Lib.hid ht1
        clear hb1 ht1 BV0
        go_wp2_with fail
        refine m_on BV1.out ?_
        refine m_go rfl ?_
        go_wp2_with fail
        refine (refSame15_any (T4.out.s.st.a2.below BV1.out) (T4.out.a4.below BV1.out)).mono ?_
        rintro _ Y5 ⟨⟨t2, rfl, ht2⟩, hb2⟩
        obtain rfl : t2 = t1 := Bool.eq_iff_iff.mpr (ht2.trans HT1.out.symm)
        have BV2 := Lib.hid (BV1.out.trans (hb2.mono BV1.out.size))
        clear hb2 ht2 HT1 BV1
        go_wp2_with fail
        refine m_on BV2.out ?_
        refine m_val rfl (by kernel_rfl) (.bool false) (fun W hW => by clear hW; go_simp) ?_
        simp only [Act.put, List.setIfInBounds_toArray, List.set_cons_zero, List.set_cons_succ]
        refine m_val rfl (by kernel_rfl) (.bool false) (fun W hW => by clear hW; go_simp) ?_
        simp only [Act.put, List.setIfInBounds_toArray, List.set_cons_zero, List.set_cons_succ]
        refine m_end ?_
        have T5 := Lib.hid (T4.out.below BV2.out)
        clear T4 HY1 HY2 HY3 HY4 BV2 hee
        go_upto_region 24 with fail
        go_upto_region 25 with first
          | ((with_reducible refine (?_ : wpList _ _ _ _ _ _)); refine load_whole (by rfl) 38 (.tmp 21) (by rfl) g21 _ 19 _ T5.out.s.r3 (by kernel_rfl) _ Tryd.underlying38 (by rfl) (by kernel_rfl) ?_)
          | ((with_reducible refine (?_ : wpList _ _ _ _ _ _)); refine store_whole (by rfl) 38 (.tmp 12) (.tmp 141) (by rfl) g12 _ 19 _ (bookF d Lw Rw) T5.out.s.st.r1 (by kernel_rfl) (cellsOf 19 (bookF d Lw Rw)) (by kernel_rfl) (by kernel_rfl) (size_cellsOf _ _) (cellsOf_at _ _) (fun i _ => book_one T5.out.s.a3 i) ?_; intro Y6 hr6 ho6)
        have T6 : Hid (TellsD w Y6 g12 g13 g23 d Lw Rw Lr Rr b Lx Rx) := Lib.hid (T5.out.next hr6 ho6)
        clear hr6 ho6 T5
        have hkv : wrap64 ((k : Int) + 1) = ((k + 1 : Nat) : Int) := (wrap64_id (by omega) (by have := HKK.out; omega)).trans (by omega)


        go_wp2_with first
          | ((with_reducible refine (?_ : wpList _ _ _ _ _ _)); refine load_whole (by rfl) 41 (.tmp 23) (by rfl) g23 _ 19 _ T6.out.r4 (by kernel_rfl) _ Tryd.underlying41 (by rfl) (by kernel_rfl) ?_)
          | ((with_reducible refine (?_ : wpList _ _ _ _ _ _)); refine store_whole (by rfl) 41 (.tmp 13) (.tmp 142) (by rfl) g13 _ 19 _ (bookF d Lx Rx) T6.out.r2 (by kernel_rfl) (cellsOf 19 (bookF d Lx Rx)) (by kernel_rfl) (by kernel_rfl) (size_cellsOf _ _) (cellsOf_at _ _) (fun i _ => book_one T6.out.a4 i) ?_; intro Y7 hr7 ho7)

        have hkn := HKK.out
        exact ⟨⟨k + 1, d, Lw, Rw, Lx, Rx, hkn.2.1, by rw [Int.natCast_add]; rfl, Lib.hid (T6.out.next hr7 ho7)⟩, by simp [intOf]; omega⟩
    · have q3 : ¬ (k : Int) < (n : Int) := by omega
      clear HV HOK
      go_wp2_with first
        | ((with_reducible refine (?_ : wpList _ _ _ _ _ _)); refine load_whole (by rfl) 38 (.tmp 12) (by rfl) g12 _ 19 _ hst.out.r1 (by kernel_rfl) _ Tryd.underlying38 (by rfl) (by kernel_rfl) ?_)
        | fail
      refine (bookOwn.ops hst.out.a1).mono ?_
      rintro _ z1 ⟨pv, rfl, hp, hb1⟩
      have S1 := Lib.hid (hst.out.below hb1)
      have hp' := hp
      obtain ⟨A5, c5, rfl, -⟩ := hp'
      have HP := Lib.hid hp
      clear hp hb1 hst
      go_wp2_with first
        | ((with_reducible refine (?_ : wpList _ _ _ _ _ _)); refine load_whole (by rfl) 41 (.tmp 13) (by rfl) g13 _ 19 _ S1.out.r2 (by kernel_rfl) _ Tryd.underlying41 (by rfl) (by kernel_rfl) ?_)
        | fail
      refine (refOps15_any S1.out.a2).mono ?_
      rintro _ z2 ⟨qv, rfl, hq, hb2⟩
      have S2 := Lib.hid (S1.out.below hb2)
      have HP2 := Lib.hid (rows_below HP.out hb2)
      have hq' := hq
      obtain ⟨A6, c6, rfl, -⟩ := hq'
      have HQ2 := Lib.hid hq
      have HOK2 := Lib.hid (ops_ok S2.out.a1.reach)
      have HLN := Lib.hid (ops_len S2.out.a1.reach)
      clear hq hb2 S1 HP
      generalize opsB b = ol at *
      go_wp2_with fail
      go_loopw [28] (fun jv wz => ∃ j : Nat, j ≤ ol.length ∧ jv = .int .i64 (j : Int) ∧ Hid (Below z2.heap.size z2 wz)) (fun jv _ => ol.length - (intOf jv).toNat)
      case atStart => exact ⟨0, by omega, rfl, Lib.hid (Below.refl _ _)⟩
      case round =>
        obtain ⟨j, hj, rfl, hbz⟩ := hrel
        have hln := HLN.out
        by_cases hjl : j < ol.length
        · have q5 : (j : Int) < (ol.length : Int) := by omega
          have q6 : (0 : Int) ≤ (j : Int) := by omega
          obtain ⟨AA, cA, hvA, hrA⟩ := HP2.out
          cases hvA
          obtain ⟨pA, po, rfl, hpA, hpc⟩ := hrA (by omega)
          obtain ⟨AB, cB, hvB, hrB⟩ := HQ2.out
          cases hvB
          obtain ⟨qA, qo, rfl, hqA, hqc⟩ := hrB (by omega)
          have HX1 := Lib.hid (fun (W : World) (hW : Below wr.heap.size wr W) => show W.rangeAt pA (po + j * 19) ((List.range 19).map (opF (ol.getD j ⟨0, nos, zw, 0⟩))) from fun i u hu => ((hbz.out.trans (hW.mono hbz.out.size)).cell (p := ⟨pA, po + j * 19 + i, none⟩) hpA).trans (hpc j hjl i u hu))
          have HX2 := Lib.hid (fun (W : World) (hW : Below wr.heap.size wr W) => show W.rangeAt qA (qo + j * 19) ((List.range 19).map (opF (ol.getD j ⟨0, nos, zw, 0⟩))) from fun i u hu => ((hbz.out.trans (hW.mono hbz.out.size)).cell (p := ⟨qA, qo + j * 19 + i, none⟩) hqA).trans (hqc j hjl i u hu))
          have hmem : ol.getD j ⟨0, nos, zw, 0⟩ ∈ ol := by
            rw [List.getD_eq_getElem?_getD, List.getElem?_eq_getElem hjl]
            exact List.getElem_mem hjl
          have HXK2 := Lib.hid (HOK2.out _ hmem).1
          clear hpc hqc hrA hrB hmem HP2 HQ2 HOK2 HLN
          generalize ol.getD j ⟨0, nos, zw, 0⟩ = x at *
          go_upto_region 33 with fail
          have hS : Below wr.heap.size wr wr.drew := (Below.refl _ _).drew
          refine region_mix (fun W => Below wr.heap.size wr W) [(0, true), (1, true), (2, true), (3, true), (4, true), (5, true), (6, true), (7, true), (8, true)] (by kernel_rfl) (by kernel_rfl) hS ?_
          refine m_val rfl (by kernel_rfl) (.slice (some ⟨pA, po, none⟩) ol.length c5) (fun W hW => by clear hW; go_simp) ?_
          simp only [Act.put, List.setIfInBounds_toArray, List.set_cons_zero, List.set_cons_succ]
          refine m_val rfl (by kernel_rfl) (.int .i64 (j : Int)) (fun W hW => by clear hW; go_simp) ?_
          simp only [Act.put, List.setIfInBounds_toArray, List.set_cons_zero, List.set_cons_succ]
          refine m_val rfl (by kernel_rfl) (.pointer (some ⟨pA, po + j * 19, none⟩)) (fun W hW => by clear hW; go_simp) ?_
          simp only [Act.put, List.setIfInBounds_toArray, List.set_cons_zero, List.set_cons_succ]
          refine m_range rfl (by kernel_rfl) 28 (.tmp 160) (by rfl) pA (po + j * 19) 19 (opF x) (fun W hW => HX1.out W hW) (by kernel_rfl) _ Tryd.underlying28 (by rfl) (by kernel_rfl) ?_
          simp only [Act.put, List.setIfInBounds_toArray, List.set_cons_zero, List.set_cons_succ]
          refine m_val rfl (by kernel_rfl) (.slice (some ⟨qA, qo, none⟩) ol.length c6) (fun W hW => by clear hW; go_simp) ?_
          simp only [Act.put, List.setIfInBounds_toArray, List.set_cons_zero, List.set_cons_succ]
          refine m_val rfl (by kernel_rfl) (.int .i64 (j : Int)) (fun W hW => by clear hW; go_simp) ?_
          simp only [Act.put, List.setIfInBounds_toArray, List.set_cons_zero, List.set_cons_succ]
          refine m_val rfl (by kernel_rfl) (.pointer (some ⟨qA, qo + j * 19, none⟩)) (fun W hW => by clear hW; go_simp) ?_
          simp only [Act.put, List.setIfInBounds_toArray, List.set_cons_zero, List.set_cons_succ]
          refine m_range rfl (by kernel_rfl) 32 (.tmp 164) (by rfl) qA (qo + j * 19) 19 (opF x) (fun W hW => HX2.out W hW) (by kernel_rfl) _ Tryd.underlying32 (by rfl) (by kernel_rfl) ?_
          simp only [Act.put, List.setIfInBounds_toArray, List.set_cons_zero, List.set_cons_succ]
          refine m_val rfl (by kernel_rfl) (.bool false) (fun W hW => by clear hW; have hw := word_same 9997 x.key x.key HXK2.out HXK2.out W; have e2 : (cellsOf 19 (opF x)).extract 2 18 = cellsOf 16 (wordF x.key) := rfl; have e0 : (cellsOf 19 (opF x))[0]? = some (.int .i64 x.kind) := rfl; have e1 : (cellsOf 19 (opF x))[1]? = some (.string x.name) := rfl; have e3 : (cellsOf 19 (opF x))[18]? = some (.int .i64 x.gen) := rfl; go_simp) ?_
          simp only [Act.put, List.setIfInBounds_toArray, List.set_cons_zero, List.set_cons_succ]
          refine m_end ?_
          have BZ := Lib.hid (hbz.out.trans (hS.mono hbz.out.size))
          clear hS HX1 HX2 HXK2 hbz
          go_wp2_with fail
          exact ⟨⟨j + 1, by omega, by rw [Int.natCast_add]; rfl, BZ⟩, by simp [intOf]; omega⟩
        · have q5 : ¬ (j : Int) < (ol.length : Int) := by omega
          have S3 := Lib.hid (S2.out.below hbz.out)
          clear HP2 HQ2 HOK2 HLN hbz S2
          have HRK := Lib.hid (fun (W : World) (h : BookAt W b Lr Rr) => refKey15_any nm h)
          have HKY := Lib.hid (bookOwn.key nm S3.out.a1 HNM.out)
          have HKL := Lib.hid (key_len nm b.L (fun p hp => (S3.out.a1.reach.right p hp).2))
          unfold wordV at HRK HKY
          generalize keyB nm b.L = kw at *
          generalize hasN b.L nm = is at *
          go_wp2_with first
            | ((with_reducible refine (?_ : wpList _ _ _ _ _ _)); refine load_whole (by rfl) 38 (.tmp 12) (by rfl) g12 _ 19 _ S3.out.r1 (by kernel_rfl) _ Tryd.underlying38 (by rfl) (by kernel_rfl) ?_)
            | fail
          refine HKY.out.mono ?_
          rintro _ z3 ⟨rfl, hb3⟩
          have HZ := Lib.hid (row_new z3 #[.int .u8 0, .int .u8 0, .int .u8 0, .int .u8 0, .int .u8 0, .int .u8 0, .int .u8 0, .int .u8 0, .int .u8 0, .int .u8 0, .int .u8 0, .int .u8 0, .int .u8 0, .int .u8 0, .int .u8 0, .int .u8 0] 26 16 (wordF zw) rfl zero_wd)
          have HAL : Hid (Below z3.heap.size z3 (z3.alloc (.cells #[.int .u8 0, .int .u8 0, .int .u8 0, .int .u8 0, .int .u8 0, .int .u8 0, .int .u8 0, .int .u8 0, .int .u8 0, .int .u8 0, .int .u8 0, .int .u8 0, .int .u8 0, .int .u8 0, .int .u8 0, .int .u8 0] 26))) := Lib.hid ((Below.refl _ _).alloc (Nat.le_refl _) _)
          have S4 := Lib.hid (S3.out.below hb3)
          clear hb3 S3 HKY
          go_upto_region 36 with ((with_reducible refine (?_ : wpList _ _ _ _ _ _)); refine store_whole (by rfl) 26 (.tmp 29) (.tmp 171) (by rfl) z3.heap.size _ 16 _ (wordF kw) HZ.out (by kernel_rfl) (cellsOf 16 (wordF kw)) (by kernel_rfl) (by kernel_rfl) (size_cellsOf _ _) (cellsOf_at _ _) (fun _ _ => rfl) ?_; intro z4 hr4 ho4)
          have S5 := Lib.hid (S4.out.below (ho4.below HAL.out (Nat.le_refl _)))
          have W5 := Lib.hid hr4
          clear hr4 ho4 S4 HZ HAL
          generalize z3.heap.size = g29 at *
          go_wp2_with first
            | ((with_reducible refine (?_ : wpList _ _ _ _ _ _)); refine load_whole (by rfl) 41 (.tmp 13) (by rfl) g13 _ 19 _ S5.out.r2 (by kernel_rfl) _ Tryd.underlying41 (by rfl) (by kernel_rfl) ?_)
            | fail
          refine (HRK.out _ S5.out.a2).mono ?_
          rintro _ z5 ⟨rfl, hb5⟩
          have HZ := Lib.hid (row_new z5 #[.int .u8 0, .int .u8 0, .int .u8 0, .int .u8 0, .int .u8 0, .int .u8 0, .int .u8 0, .int .u8 0, .int .u8 0, .int .u8 0, .int .u8 0, .int .u8 0, .int .u8 0, .int .u8 0, .int .u8 0, .int .u8 0] 26 16 (wordF zw) rfl zero_wd)
          have HAL : Hid (Below z5.heap.size z5 (z5.alloc (.cells #[.int .u8 0, .int .u8 0, .int .u8 0, .int .u8 0, .int .u8 0, .int .u8 0, .int .u8 0, .int .u8 0, .int .u8 0, .int .u8 0, .int .u8 0, .int .u8 0, .int .u8 0, .int .u8 0, .int .u8 0, .int .u8 0] 26))) := Lib.hid ((Below.refl _ _).alloc (Nat.le_refl _) _)
          have S6 := Lib.hid (S5.out.below hb5)
          have W6 := Lib.hid (W5.out.of_block (hb5.block _ (World.rowIs.lt W5.out)))
          clear hb5 S5 W5 HRK
          go_upto_region 37 with ((with_reducible refine (?_ : wpList _ _ _ _ _ _)); refine store_whole (by rfl) 26 (.tmp 31) (.tmp 177) (by rfl) z5.heap.size _ 16 _ (wordF kw) HZ.out (by kernel_rfl) (cellsOf 16 (wordF kw)) (by kernel_rfl) (by kernel_rfl) (size_cellsOf _ _) (cellsOf_at _ _) (fun _ _ => rfl) ?_; intro z6 hr6 ho6)
          have hb6 := ho6.below HAL.out (Nat.le_refl _)
          have S7 := Lib.hid (S6.out.below hb6)
          have W7 := Lib.hid (W6.out.of_block (hb6.block _ (World.rowIs.lt W6.out)))
          have V7 := Lib.hid hr6
          clear hr6 ho6 hb6 S6 W6 HZ HAL
          generalize z5.heap.size = g31 at *
          have hS : Below z6.heap.size z6 z6.drew := (Below.refl _ _).drew
          have HY1 := Lib.hid (fun (W : World) (hW : Below z6.heap.size z6 W) => range_row (S7.out.r1.of_block (hW.block _ (World.rowIs.lt S7.out.r1))))
          have HY2 := Lib.hid (fun (W : World) (hW : Below z6.heap.size z6 W) => range_row (S7.out.r2.of_block (hW.block _ (World.rowIs.lt S7.out.r2))))
          have HY3 := Lib.hid (fun (W : World) (hW : Below z6.heap.size z6 W) => range_row (W7.out.of_block (hW.block _ (World.rowIs.lt W7.out))))
          have HY4 := Lib.hid (fun (W : World) (hW : Below z6.heap.size z6 W) => range_row (V7.out.of_block (hW.block _ (World.rowIs.lt V7.out))))
          refine region_mix (fun W => Below z6.heap.size z6 W) [(0, true), (1, true), (2, true), (3, true), (4, true), (5, true), (6, true), (7, true), (8, true), (9, true), (10, true), (11, true), (12, true), (13, true), (15, true), (16, true), (14, false), (17, false), (18, true), (19, true), (20, true)] (by kernel_rfl) (by kernel_rfl) hS ?_
          refine m_val rfl (by kernel_rfl) (.bool true) (fun W hW => by clear hW; go_simp) ?_
          simp only [Act.put, List.setIfInBounds_toArray, List.set_cons_zero, List.set_cons_succ]
          refine m_val rfl (by kernel_rfl) (.bool true) (fun W hW => by clear hW; go_simp) ?_
          simp only [Act.put, List.setIfInBounds_toArray, List.set_cons_zero, List.set_cons_succ]
          refine m_range rfl (by kernel_rfl) 26 (.tmp 29) (by rfl) g29 (0) 16 (wordF kw) (fun W hW => HY3.out W hW) (by kernel_rfl) _ Tryd.underlying26 (by rfl) (by kernel_rfl) ?_
          simp only [Act.put, List.setIfInBounds_toArray, List.set_cons_zero, List.set_cons_succ]
          refine m_range rfl (by kernel_rfl) 26 (.tmp 31) (by rfl) g31 (0) 16 (wordF kw) (fun W hW => HY4.out W hW) (by kernel_rfl) _ Tryd.underlying26 (by rfl) (by kernel_rfl) ?_
          simp only [Act.put, List.setIfInBounds_toArray, List.set_cons_zero, List.set_cons_succ]
          refine m_val rfl (by kernel_rfl) (.bool true) (fun W hW => by clear hW; have e : (Op.equalIn 10000 26 (.agg (cellsOf 16 (wordF kw))) (.agg (cellsOf 16 (wordF kw)))).run Tryd.prog W = .ok true W := (by have u := word_same 9998 kw kw HKL.out HKL.out W; rw [decide_eq_true rfl] at u; exact u); go_simp) ?_
          simp only [Act.put, List.setIfInBounds_toArray, List.set_cons_zero, List.set_cons_succ]
          refine m_val rfl (by kernel_rfl) (.bool true) (fun W hW => by clear hW; go_simp) ?_
          simp only [Act.put, List.setIfInBounds_toArray, List.set_cons_zero, List.set_cons_succ]
          refine m_val rfl (by kernel_rfl) (.bool true) (fun W hW => by clear hW; go_simp) ?_
          simp only [Act.put, List.setIfInBounds_toArray, List.set_cons_zero, List.set_cons_succ]
          refine m_val rfl (by kernel_rfl) (.bool is) (fun W hW => by clear hW; go_simp) ?_
          simp only [Act.put, List.setIfInBounds_toArray, List.set_cons_zero, List.set_cons_succ]
          refine m_val rfl (by kernel_rfl) (.bool is) (fun W hW => by clear hW; go_simp) ?_
          simp only [Act.put, List.setIfInBounds_toArray, List.set_cons_zero, List.set_cons_succ]
          refine m_val rfl (by kernel_rfl) (.bool true) (fun W hW => by clear hW; go_simp) ?_
          simp only [Act.put, List.setIfInBounds_toArray, List.set_cons_zero, List.set_cons_succ]
          refine m_val rfl (by kernel_rfl) (.bool true) (fun W hW => by clear hW; go_simp) ?_
          simp only [Act.put, List.setIfInBounds_toArray, List.set_cons_zero, List.set_cons_succ]
          refine m_val rfl (by kernel_rfl) (.bool true) (fun W hW => by clear hW; go_simp) ?_
          simp only [Act.put, List.setIfInBounds_toArray, List.set_cons_zero, List.set_cons_succ]
          refine m_range rfl (by kernel_rfl) 38 (.tmp 12) (by rfl) g12 (0) 19 (bookF b Lv Rv) (fun W hW => HY1.out W hW) (by kernel_rfl) _ Tryd.underlying38 (by rfl) (by kernel_rfl) ?_
          simp only [Act.put, List.setIfInBounds_toArray, List.set_cons_zero, List.set_cons_succ]
          refine m_range rfl (by kernel_rfl) 26 (.tmp 29) (by rfl) g29 (0) 16 (wordF kw) (fun W hW => HY3.out W hW) (by kernel_rfl) _ Tryd.underlying26 (by rfl) (by kernel_rfl) ?_
          simp only [Act.put, List.setIfInBounds_toArray, List.set_cons_zero, List.set_cons_succ]
          refine m_range rfl (by kernel_rfl) 41 (.tmp 13) (by rfl) g13 (0) 19 (bookF b Lr Rr) (fun W hW => HY2.out W hW) (by kernel_rfl) _ Tryd.underlying41 (by rfl) (by kernel_rfl) ?_
          simp only [Act.put, List.setIfInBounds_toArray, List.set_cons_zero, List.set_cons_succ]
          refine m_range rfl (by kernel_rfl) 26 (.tmp 29) (by rfl) g29 (0) 16 (wordF kw) (fun W hW => HY3.out W hW) (by kernel_rfl) _ Tryd.underlying26 (by rfl) (by kernel_rfl) ?_
          simp only [Act.put, List.setIfInBounds_toArray, List.set_cons_zero, List.set_cons_succ]
          have BV0 := Lib.hid hS
          clear hS
          generalize z6.drew = Y0 at *
          have HDD := Lib.hid (bookOwn.dead kw (S7.out.a1.below BV0.out) HKL.out)
          have HRD := Lib.hid (fun (W : World) (hW : Below z6.heap.size z6 W) => refDead_any kw (S7.out.a2.below hW) HKL.out)
          unfold wordV at HDD HRD
          generalize decide (kw ∈ b.rev) = dd at *
          refine m_go rfl ?_
          go_wp2_with fail
          refine HDD.out.mono ?_
          rintro _ Y1 ⟨rfl, hb1⟩
          have BV1 := Lib.hid (BV0.out.trans (hb1.mono BV0.out.size))
          clear hb1 BV0
          go_wp2_with fail
          refine m_on BV1.out ?_
          refine m_go rfl ?_
          go_wp2_with fail
          refine (HRD.out _ BV1.out).mono ?_
          rintro _ Y2 ⟨rfl, hb2⟩
          have BV2 := Lib.hid (BV1.out.trans (hb2.mono BV1.out.size))
          clear hb2 BV1
          go_wp2_with fail
          refine m_on BV2.out ?_
          refine m_val rfl (by kernel_rfl) (.bool true) (fun W hW => by clear hW; go_simp) ?_
          simp only [Act.put, List.setIfInBounds_toArray, List.set_cons_zero, List.set_cons_succ]
          refine m_val rfl (by kernel_rfl) (.bool true) (fun W hW => by clear hW; go_simp) ?_
          simp only [Act.put, List.setIfInBounds_toArray, List.set_cons_zero, List.set_cons_succ]
          refine m_val rfl (by kernel_rfl) (.bool true) (fun W hW => by clear hW; go_simp) ?_
          simp only [Act.put, List.setIfInBounds_toArray, List.set_cons_zero, List.set_cons_succ]
          refine m_end ?_
          have BE := Lib.hid (S7.out.bel.trans (BV2.out.mono S7.out.bel.size))
          clear S7 BV2 HY1 HY2 HY3 HY4 HDD HRD W7 V7
          go_wp2
          go_ret
          exact ⟨rfl, BE.out⟩
end Go.Proofs.YtebchoeeohmlaaaDoor.Law15
