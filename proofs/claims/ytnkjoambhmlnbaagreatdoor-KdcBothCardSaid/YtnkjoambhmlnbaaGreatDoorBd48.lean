/-
  What the document's Right does.
-/
import Derived.Test.YtnkjoambhmlnbaaGreatDoorBd08
import Derived.Test.YtnkjoambhmlnbaaGreatDoorBd11
import Derived.Test.YtnkjoambhmlnbaaGreatDoorBd19
import Derived.Test.YtnkjoambhmlnbaaGreatDoorBd05
import Derived.Test.YtnkjoambhmlnbaaGreatDoorBd47
import Derived.Test.YtnkjoambhmlnbaaGreatDoorBd12
import Derived.Deep.RegionWith
import Derived.Deep.DeepCutAuto
namespace Go.Proofs.YtnkjoambhmlnbaaGreatDoor.Note
open Go Go.RowKit Go.Proofs.YtnkjoambhmlnbaaGreatDoor.Aid Go.Proofs.YtnkjoambhmlnbaaGreatDoor.Law01 Go.Proofs.YtnkjoambhmlnbaaGreatDoor.Field

theorem empty_not (s : ByteArray) : s.toList.isEmpty = !decide (0 < s.size) := by
  have h : s.size = s.data.toList.length := by show s.data.size = _; rw [Array.length_toList]
  rw [ByteArray.toList_eq, h]
  cases s.data.toList with
  | nil => rfl
  | cons x l =>
    rw [decide_eq_true (by rw [List.length_cons]; omega)]
    rfl
theorem lit16 : ∀ i, i < 16 → (#[.int .u8 0, .int .u8 0, .int .u8 0, .int .u8 0, .int .u8 0, .int .u8 0, .int .u8 0, .int .u8 0, .int .u8 0, .int .u8 0, .int .u8 0, .int .u8 0, .int .u8 0, .int .u8 0, .int .u8 0, .int .u8 0] : Array Value)[i]? = some (.int .u8 (((fun _ => (0 : BitVec 8)) i).toNat : Int)) := fun i hi => by
  rw [zero16 _ (by rfl) i hi]; rfl
theorem HZX (N : NoteP) (P Q R : Value) (W : World) : (Op.equalIn 10000 25 (.agg (cellsOf 16 (fun j => noteF N P Q R (3 + j)))) (.agg #[.int .u8 0, .int .u8 0, .int .u8 0, .int .u8 0, .int .u8 0, .int .u8 0, .int .u8 0, .int .u8 0, .int .u8 0, .int .u8 0, .int .u8 0, .int .u8 0, .int .u8 0, .int .u8 0, .int .u8 0, .int .u8 0])).run Tryz.prog W = .ok (zeroB N.x) W :=
  run_equalIn_bytes (len := 16) 9998 Tryz.underlying25 Tryz.underlying5 (by kernel_rfl) _ _ N.x (fun _ => 0) (cell_x N P Q R) (fun i hi => lit16 i hi) W
theorem HZY (N : NoteP) (P Q R : Value) (W : World) : (Op.equalIn 10000 25 (.agg (cellsOf 16 (fun j => noteF N P Q R (19 + j)))) (.agg #[.int .u8 0, .int .u8 0, .int .u8 0, .int .u8 0, .int .u8 0, .int .u8 0, .int .u8 0, .int .u8 0, .int .u8 0, .int .u8 0, .int .u8 0, .int .u8 0, .int .u8 0, .int .u8 0, .int .u8 0, .int .u8 0])).run Tryz.prog W = .ok (zeroB N.y) W :=
  run_equalIn_bytes (len := 16) 9998 Tryz.underlying25 Tryz.underlying5 (by kernel_rfl) _ _ N.y (fun _ => 0) (cell_y N P Q R) (fun i hi => lit16 i hi) W
set_option maxRecDepth 100000 in
set_option maxHeartbeats 16000000 in
theorem refRight_any (N : NoteP) (P Q R : Value) (w : World) (ha : N.a.size ≤ 1000000) (hb : N.b.size ≤ 1000000) (hn : NoteAt w N P Q R) : Calls Tryz.prog 14 #[noteV N P Q R] w fun x w' => x = .returned (.bool (rightN N)) ∧ Below w.heap.size w w' := by
  obtain ⟨⟨AP, cP, rfl, _, _⟩, ⟨AQ, cQ, rfl, _, _⟩, ⟨AR, cR, rfl, _, _⟩⟩ := hn
  have h1 := has_any N.kind
  have H1 := Lib.hid h1
  have hsz : (strL (hasL N.kind)).size ≤ 9000000000000000000 := by rw [size_has]; have := has_len N.kind; omega
  have i65 : ∀ W, Calls Tryz.prog 27 #[.string (strL (hasL N.kind)), .int .u8 65] W fun x w' => x = .returned (.bool (inS (strL (hasL N.kind)) 65)) ∧ W = w' := fun W => in_any (strL (hasL N.kind)) hsz 65 W
  have i66 : ∀ W, Calls Tryz.prog 27 #[.string (strL (hasL N.kind)), .int .u8 66] W fun x w' => x = .returned (.bool (inS (strL (hasL N.kind)) 66)) ∧ W = w' := fun W => in_any (strL (hasL N.kind)) hsz 66 W
  have i88 : ∀ W, Calls Tryz.prog 27 #[.string (strL (hasL N.kind)), .int .u8 88] W fun x w' => x = .returned (.bool (inS (strL (hasL N.kind)) 88)) ∧ W = w' := fun W => in_any (strL (hasL N.kind)) hsz 88 W
  have i89 : ∀ W, Calls Tryz.prog 27 #[.string (strL (hasL N.kind)), .int .u8 89] W fun x w' => x = .returned (.bool (inS (strL (hasL N.kind)) 89)) ∧ W = w' := fun W => in_any (strL (hasL N.kind)) hsz 89 W
  have i80 : ∀ W, Calls Tryz.prog 27 #[.string (strL (hasL N.kind)), .int .u8 80] W fun x w' => x = .returned (.bool (inS (strL (hasL N.kind)) 80)) ∧ W = w' := fun W => in_any (strL (hasL N.kind)) hsz 80 W
  have i81 : ∀ W, Calls Tryz.prog 27 #[.string (strL (hasL N.kind)), .int .u8 81] W fun x w' => x = .returned (.bool (inS (strL (hasL N.kind)) 81)) ∧ W = w' := fun W => in_any (strL (hasL N.kind)) hsz 81 W
  have i82 : ∀ W, Calls Tryz.prog 27 #[.string (strL (hasL N.kind)), .int .u8 82] W fun x w' => x = .returned (.bool (inS (strL (hasL N.kind)) 82)) ∧ W = w' := fun W => in_any (strL (hasL N.kind)) hsz 82 W
  have ma := fun W => refName_any N.a (by omega) W
  have mb := fun W => refName_any N.b (by omega) W
  simp only [inS_has] at i65 i66 i88 i89 i80 i81 i82
  have ke : (strL (hasL N.kind)).toList.isEmpty = (hasL N.kind).isEmpty := by
    rw [ByteArray.toList_eq]
    simp [strL]
  have kA := empty_not N.a
  have kB := empty_not N.b
  have HR : Hid (rightN N = (!(hasL N.kind).isEmpty && !firstB N && !wordsB N && !blobsB N && smallB N)) := rfl
  have HF : Hid (firstB N = ((inL N.kind 65 != decide (0 < N.a.size)) || (inL N.kind 66 != decide (0 < N.b.size)) || (decide (0 < N.a.size) && !nameB N.a) || (decide (0 < N.b.size) && !nameB N.b))) := rfl
  have HW : Hid (wordsB N = ((!inL N.kind 88 && !zeroB N.x) || (!inL N.kind 89 && !zeroB N.y))) := rfl
  have HL : Hid (blobsB N = ((!inL N.kind 80 && decide (0 < N.pn)) || (!inL N.kind 81 && decide (0 < N.qn)) || (!inL N.kind 82 && decide (0 < N.rn)))) := rfl
  have HS : Hid (smallB N = (decide (N.pn ≤ 500) && decide (N.qn ≤ 500) && decide (N.rn ≤ 500))) := rfl
  have ZX := Lib.hid (HZX N (.slice AP N.pn cP) (.slice AQ N.qn cQ) (.slice AR N.rn cR))
  have ZY := Lib.hid (HZY N (.slice AP N.pn cP) (.slice AQ N.qn cQ) (.slice AR N.rn cR))
  have sP : Hid (decide ((N.pn : Int) ≤ 500) = decide (N.pn ≤ 500)) := Lib.hid (decide_eq_decide.2 (by omega))
  have sQ : Hid (decide ((N.qn : Int) ≤ 500) = decide (N.qn ≤ 500)) := Lib.hid (decide_eq_decide.2 (by omega))
  have sR : Hid (decide ((N.rn : Int) ≤ 500) = decide (N.rn ≤ 500)) := Lib.hid (decide_eq_decide.2 (by omega))
  clear h1 hsz
  generalize zeroB N.x = zX at *
  generalize zeroB N.y = zY at *
  generalize hdP : decide (0 < N.pn) = dP at *
  have lP := Lib.hid hdP
  clear hdP
  generalize hdQ : decide (0 < N.qn) = dQ at *
  have lQ := Lib.hid hdQ
  clear hdQ
  generalize hdR : decide (0 < N.rn) = dR at *
  have lR := Lib.hid hdR
  clear hdR
  generalize decide (N.pn ≤ 500) = fP at *
  generalize decide (N.qn ≤ 500) = fQ at *
  generalize decide (N.rn ≤ 500) = fR at *
  generalize (hasL N.kind).isEmpty = em at *
  generalize strL (hasL N.kind) = sL at *
  generalize hiA : inL N.kind 65 = iA at *
  generalize hiB : inL N.kind 66 = iB at *
  generalize inL N.kind 88 = iX at *
  generalize inL N.kind 89 = iY at *
  generalize inL N.kind 80 = iP at *
  generalize inL N.kind 81 = iQ at *
  generalize inL N.kind 82 = iR at *
  generalize nameB N.a = mA at *
  generalize nameB N.b = mB at *
  generalize decide (0 < N.a.size) = na at *
  generalize decide (0 < N.b.size) = nb at *
  have IA := Lib.hid i65
  have IB := Lib.hid i66
  have IX := Lib.hid i88
  have IY := Lib.hid i89
  have IP := Lib.hid i80
  have IQ := Lib.hid i81
  have IR := Lib.hid i82
  have MA := Lib.hid ma
  have MB := Lib.hid mb
  clear i65 i66 i88 i89 i80 i81 i82 ma mb hiA hiB
  have hr := row_new w (cellsOf 38 (noteF N (.slice AP N.pn cP) (.slice AQ N.qn cQ) (.slice AR N.rn cR))) 50 38 (noteF N (.slice AP N.pn cP) (.slice AQ N.qn cQ) (.slice AR N.rn cR)) (size_cellsOf _ _) (cellsOf_at _ _)
  have hb0 : Below w.heap.size w (w.alloc (.cells (cellsOf 38 (noteF N (.slice AP N.pn cP) (.slice AQ N.qn cQ) (.slice AR N.rn cR))) 50)) := (Below.refl _ _).alloc (Nat.le_refl _) _
  unfold noteV
  go_enter Tryz.func14, Tryz.ntmps14
  generalize cellsOf 38 (noteF N (.slice AP N.pn cP) (.slice AQ N.qn cQ) (.slice AR N.rn cR)) = C at *
  go_upto_region 1 with fail
  generalize w.alloc (.cells C 50) = w1 at *
  have c0 : w1.cell? ⟨w.heap.size, 0, none⟩ = some (.int .i64 N.kind) := hr.cell (i := 0) (by omega)
  go_wp2_with fail
  refine (H1.out _).mono ?_
  rintro _ w2 ⟨rfl, hb2⟩
  have hr2 := World.rowIs.of_block hr (hb2.block _ (World.rowIs.lt hr))
  have hb2' := hb0.trans (hb2.mono hb0.size)
  clear c0 hr hb0 hb2 H1
  rcases em with _ | _
  rotate_left
  · have HR' : Hid (rightN N = false) := Lib.hid (by rw [HR.out]; rfl)
    clear HR HF
    go_wp2
    go_ret
    exact ⟨by rw [HR'.out]; rfl, hb2'⟩
  have HROW := Lib.hid hr2
  have HB2 := Lib.hid hb2'
  have c1 : w2.cell? ⟨w.heap.size, 1, none⟩ = some (.string N.a) := hr2.cell (i := 1) (by omega)
  have c2 : w2.cell? ⟨w.heap.size, 2, none⟩ = some (.string N.b) := hr2.cell (i := 2) (by omega)
  have FC := after_cell w2
  have hlt := World.rowIs.lt hr2
  clear hr2 hb2'
  go_upto_region 4 with fail
  rw [HF.out] at HR
  clear HF
  clear ke
  go_cut [44] (fun v wx => v = .bool ((iA != na) || (iB != nb) || (na && !mA) || (nb && !mB)) ∧ ∃ x, wx = after w2 x)
  case first =>
    clear HR IX IY IP IQ IR HROW HB2
    have hlt' := hlt
    rcases iA with _ | _
    · rcases na with _ | _
      · rcases iB with _ | _
        · rcases nb with _ | _
          · go_wp2_with fail
            refine region_after (by kernel_rfl) (by kernel_rfl) ?_
            repeat (go_big_quiet_step (first
              | (go_at_call_of 27 (65 : Int); exact after_call_same IA.out)
              | (go_at_call_of 27 (66 : Int); exact after_call_same IB.out)
              | (go_at_call_of 28 N.a; exact after_call_same MA.out)
              | (go_at_call_of 28 N.b; exact after_call_same MB.out)))
            refine wpQuiet_nil ?_
            rintro _ ⟨x, rfl⟩
            go_wp2_with fail
            go_meet
            exact ⟨rfl, x, rfl⟩
          · go_wp2_with fail
            refine region_after (by kernel_rfl) (by kernel_rfl) ?_
            repeat (go_big_quiet_step (first
              | (go_at_call_of 27 (65 : Int); exact after_call_same IA.out)
              | (go_at_call_of 27 (66 : Int); exact after_call_same IB.out)
              | (go_at_call_of 28 N.a; exact after_call_same MA.out)
              | (go_at_call_of 28 N.b; exact after_call_same MB.out)))
            refine wpQuiet_nil ?_
            rintro _ ⟨x, rfl⟩
            go_wp2_with fail
            go_meet
            exact ⟨rfl, x, rfl⟩
        · rcases nb with _ | _
          · go_wp2_with fail
            refine region_after (by kernel_rfl) (by kernel_rfl) ?_
            repeat (go_big_quiet_step (first
              | (go_at_call_of 27 (65 : Int); exact after_call_same IA.out)
              | (go_at_call_of 27 (66 : Int); exact after_call_same IB.out)
              | (go_at_call_of 28 N.a; exact after_call_same MA.out)
              | (go_at_call_of 28 N.b; exact after_call_same MB.out)))
            refine wpQuiet_nil ?_
            rintro _ ⟨x, rfl⟩
            go_wp2_with fail
            go_meet
            exact ⟨rfl, x, rfl⟩
          · rcases mB with _ | _
            · go_wp2_with fail
              refine region_after (by kernel_rfl) (by kernel_rfl) ?_
              repeat (go_big_quiet_step (first
                | (go_at_call_of 27 (65 : Int); exact after_call_same IA.out)
                | (go_at_call_of 27 (66 : Int); exact after_call_same IB.out)
                | (go_at_call_of 28 N.a; exact after_call_same MA.out)
                | (go_at_call_of 28 N.b; exact after_call_same MB.out)))
              refine wpQuiet_nil ?_
              rintro _ ⟨x, rfl⟩
              go_wp2_with fail
              go_meet
              exact ⟨rfl, x, rfl⟩
            · go_wp2_with fail
              refine region_after (by kernel_rfl) (by kernel_rfl) ?_
              repeat (go_big_quiet_step (first
                | (go_at_call_of 27 (65 : Int); exact after_call_same IA.out)
                | (go_at_call_of 27 (66 : Int); exact after_call_same IB.out)
                | (go_at_call_of 28 N.a; exact after_call_same MA.out)
                | (go_at_call_of 28 N.b; exact after_call_same MB.out)))
              refine wpQuiet_nil ?_
              rintro _ ⟨x, rfl⟩
              go_wp2_with fail
              go_meet
              exact ⟨rfl, x, rfl⟩
      · go_wp2_with fail
        refine region_after (by kernel_rfl) (by kernel_rfl) ?_
        repeat (go_big_quiet_step (first
          | (go_at_call_of 27 (65 : Int); exact after_call_same IA.out)
          | (go_at_call_of 27 (66 : Int); exact after_call_same IB.out)
          | (go_at_call_of 28 N.a; exact after_call_same MA.out)
          | (go_at_call_of 28 N.b; exact after_call_same MB.out)))
        refine wpQuiet_nil ?_
        rintro _ ⟨x, rfl⟩
        go_wp2_with fail
        go_meet
        exact ⟨rfl, x, rfl⟩
    · rcases na with _ | _
      · go_wp2_with fail
        refine region_after (by kernel_rfl) (by kernel_rfl) ?_
        repeat (go_big_quiet_step (first
          | (go_at_call_of 27 (65 : Int); exact after_call_same IA.out)
          | (go_at_call_of 27 (66 : Int); exact after_call_same IB.out)
          | (go_at_call_of 28 N.a; exact after_call_same MA.out)
          | (go_at_call_of 28 N.b; exact after_call_same MB.out)))
        refine wpQuiet_nil ?_
        rintro _ ⟨x, rfl⟩
        go_wp2_with fail
        go_meet
        exact ⟨rfl, x, rfl⟩
      · rcases iB with _ | _
        · rcases nb with _ | _
          · rcases mA with _ | _
            · go_wp2_with fail
              refine region_after (by kernel_rfl) (by kernel_rfl) ?_
              repeat (go_big_quiet_step (first
                | (go_at_call_of 27 (65 : Int); exact after_call_same IA.out)
                | (go_at_call_of 27 (66 : Int); exact after_call_same IB.out)
                | (go_at_call_of 28 N.a; exact after_call_same MA.out)
                | (go_at_call_of 28 N.b; exact after_call_same MB.out)))
              refine wpQuiet_nil ?_
              rintro _ ⟨x, rfl⟩
              go_wp2_with fail
              go_meet
              exact ⟨rfl, x, rfl⟩
            · go_wp2_with fail
              refine region_after (by kernel_rfl) (by kernel_rfl) ?_
              repeat (go_big_quiet_step (first
                | (go_at_call_of 27 (65 : Int); exact after_call_same IA.out)
                | (go_at_call_of 27 (66 : Int); exact after_call_same IB.out)
                | (go_at_call_of 28 N.a; exact after_call_same MA.out)
                | (go_at_call_of 28 N.b; exact after_call_same MB.out)))
              refine wpQuiet_nil ?_
              rintro _ ⟨x, rfl⟩
              go_wp2_with fail
              go_meet
              exact ⟨rfl, x, rfl⟩
          · go_wp2_with fail
            refine region_after (by kernel_rfl) (by kernel_rfl) ?_
            repeat (go_big_quiet_step (first
              | (go_at_call_of 27 (65 : Int); exact after_call_same IA.out)
              | (go_at_call_of 27 (66 : Int); exact after_call_same IB.out)
              | (go_at_call_of 28 N.a; exact after_call_same MA.out)
              | (go_at_call_of 28 N.b; exact after_call_same MB.out)))
            refine wpQuiet_nil ?_
            rintro _ ⟨x, rfl⟩
            go_wp2_with fail
            go_meet
            exact ⟨rfl, x, rfl⟩
        · rcases nb with _ | _
          · go_wp2_with fail
            refine region_after (by kernel_rfl) (by kernel_rfl) ?_
            repeat (go_big_quiet_step (first
              | (go_at_call_of 27 (65 : Int); exact after_call_same IA.out)
              | (go_at_call_of 27 (66 : Int); exact after_call_same IB.out)
              | (go_at_call_of 28 N.a; exact after_call_same MA.out)
              | (go_at_call_of 28 N.b; exact after_call_same MB.out)))
            refine wpQuiet_nil ?_
            rintro _ ⟨x, rfl⟩
            go_wp2_with fail
            go_meet
            exact ⟨rfl, x, rfl⟩
          · rcases mA with _ | _
            · go_wp2_with fail
              refine region_after (by kernel_rfl) (by kernel_rfl) ?_
              repeat (go_big_quiet_step (first
                | (go_at_call_of 27 (65 : Int); exact after_call_same IA.out)
                | (go_at_call_of 27 (66 : Int); exact after_call_same IB.out)
                | (go_at_call_of 28 N.a; exact after_call_same MA.out)
                | (go_at_call_of 28 N.b; exact after_call_same MB.out)))
              refine wpQuiet_nil ?_
              rintro _ ⟨x, rfl⟩
              go_wp2_with fail
              go_meet
              exact ⟨rfl, x, rfl⟩
            · rcases mB with _ | _
              · go_wp2_with fail
                refine region_after (by kernel_rfl) (by kernel_rfl) ?_
                repeat (go_big_quiet_step (first
                  | (go_at_call_of 27 (65 : Int); exact after_call_same IA.out)
                  | (go_at_call_of 27 (66 : Int); exact after_call_same IB.out)
                  | (go_at_call_of 28 N.a; exact after_call_same MA.out)
                  | (go_at_call_of 28 N.b; exact after_call_same MB.out)))
                refine wpQuiet_nil ?_
                rintro _ ⟨x, rfl⟩
                go_wp2_with fail
                go_meet
                exact ⟨rfl, x, rfl⟩
              · go_wp2_with fail
                refine region_after (by kernel_rfl) (by kernel_rfl) ?_
                repeat (go_big_quiet_step (first
                  | (go_at_call_of 27 (65 : Int); exact after_call_same IA.out)
                  | (go_at_call_of 27 (66 : Int); exact after_call_same IB.out)
                  | (go_at_call_of 28 N.a; exact after_call_same MA.out)
                  | (go_at_call_of 28 N.b; exact after_call_same MB.out)))
                refine wpQuiet_nil ?_
                rintro _ ⟨x, rfl⟩
                go_wp2_with fail
                go_meet
                exact ⟨rfl, x, rfl⟩
  case rest =>
    clear c1 c2 FC hlt kA kB IA IB MA MB
    obtain ⟨rfl, x, rfl⟩ := hcut
    generalize ((iA != na) || (iB != nb) || (na && !mA) || (nb && !mB)) = fb at *
    have hb3 := after_below w2 x
    have hr3 := HROW.out.of_block (hb3.block _ (World.rowIs.lt HROW.out))
    have hb3' := HB2.out.trans (hb3.mono HB2.out.size)
    generalize after w2 x = w3 at *
    clear HROW HB2 hb3
    rcases fb with _ | _
    rotate_left
    · have HR' : Hid (rightN N = false) := Lib.hid (by rw [HR.out]; rfl)
      clear HR hr3
      have HB := Lib.hid hb3'
      clear hb3'
      go_wp2
      go_ret
      exact ⟨by rw [HR'.out]; rfl, HB.out⟩
    have HB := Lib.hid hb3'
    clear hb3'
    have zx := ZX.out
    have zy := ZY.out
    go_upto_region 6 with fail
    go_cut [64] (fun v wx => v = .bool ((!iX && !zX) || (!iY && !zY)) ∧ wx = w3)
    case first =>
      clear HR HB IP IQ IR
      go_wp2_with fail
      refine (IX.out _).mono ?_
      rintro _ _ ⟨rfl, rfl⟩
      rcases iX with _ | _
      · rcases zX with _ | _
        · go_wp2_with (refine load_row_met (by rfl) 25 (.tmp 49) (by rfl) w.heap.size 3 _ 38 16 _ hr3 (by rfl) _ Tryz.underlying25 (by rfl) (by kernel_rfl) (by omega) ?_)
          go_meet
          exact ⟨rfl, rfl⟩
        · go_wp2_with (refine load_row_met (by rfl) 25 (.tmp 49) (by rfl) w.heap.size 3 _ 38 16 _ hr3 (by rfl) _ Tryz.underlying25 (by rfl) (by kernel_rfl) (by omega) ?_)
          refine (IY.out _).mono ?_
          rintro _ _ ⟨rfl, rfl⟩
          rcases iY with _ | _
          · rcases zY with _ | _
            · go_wp2_with (refine load_row_met (by rfl) 25 (.tmp 59) (by rfl) w.heap.size 19 _ 38 16 _ hr3 (by rfl) _ Tryz.underlying25 (by rfl) (by kernel_rfl) (by omega) ?_)
              go_meet
              exact ⟨rfl, rfl⟩
            · go_wp2_with (refine load_row_met (by rfl) 25 (.tmp 59) (by rfl) w.heap.size 19 _ 38 16 _ hr3 (by rfl) _ Tryz.underlying25 (by rfl) (by kernel_rfl) (by omega) ?_)
              go_meet
              exact ⟨rfl, rfl⟩
          · go_wp2_with fail
            go_meet
            exact ⟨rfl, rfl⟩
      · go_wp2_with fail
        refine (IY.out _).mono ?_
        rintro _ _ ⟨rfl, rfl⟩
        rcases iY with _ | _
        · rcases zY with _ | _
          · go_wp2_with (refine load_row_met (by rfl) 25 (.tmp 59) (by rfl) w.heap.size 19 _ 38 16 _ hr3 (by rfl) _ Tryz.underlying25 (by rfl) (by kernel_rfl) (by omega) ?_)
            go_meet
            exact ⟨rfl, rfl⟩
          · go_wp2_with (refine load_row_met (by rfl) 25 (.tmp 59) (by rfl) w.heap.size 19 _ 38 16 _ hr3 (by rfl) _ Tryz.underlying25 (by rfl) (by kernel_rfl) (by omega) ?_)
            go_meet
            exact ⟨rfl, rfl⟩
        · go_wp2_with fail
          go_meet
          exact ⟨rfl, rfl⟩
    case rest =>
      clear zx zy
      obtain ⟨rfl, rfl⟩ := hcut
      rw [HW.out] at HR
      generalize ((!iX && !zX) || (!iY && !zY)) = wb at *
      clear HW
      rcases wb with _ | _
      rotate_left
      · have HR' : Hid (rightN N = false) := Lib.hid (by rw [HR.out]; rfl)
        clear HR hr3 IX IY IP IQ IR
        go_wp2
        go_ret
        exact ⟨by rw [HR'.out]; rfl, HB.out⟩
      have c35 : wc.cell? ⟨w.heap.size, 35, none⟩ = some (.slice AP N.pn cP) := hr3.cell (i := 35) (by omega)
      have c36 : wc.cell? ⟨w.heap.size, 36, none⟩ = some (.slice AQ N.qn cQ) := hr3.cell (i := 36) (by omega)
      have c37 : wc.cell? ⟨w.heap.size, 37, none⟩ = some (.slice AR N.rn cR) := hr3.cell (i := 37) (by omega)
      have lp := lP.out
      have lq := lQ.out
      have lr := lR.out
      clear hr3 lP lQ lR IX IY
      go_upto_region 8 with fail
      go_cut [95] (fun v wx => v = .bool ((!iP && dP) || (!iQ && dQ) || (!iR && dR)) ∧ wx = wc)
      case first =>
        clear HR HB
        go_wp2_with fail
        refine (IP.out _).mono ?_
        rintro _ _ ⟨rfl, rfl⟩
        rcases iP with _ | _
        · rcases dP with _ | _
          · go_wp2_with fail
            refine (IQ.out _).mono ?_
            rintro _ _ ⟨rfl, rfl⟩
            rcases iQ with _ | _
            · rcases dQ with _ | _
              · go_wp2_with fail
                refine (IR.out _).mono ?_
                rintro _ _ ⟨rfl, rfl⟩
                rcases iR with _ | _
                · rcases dR with _ | _
                  · go_wp2_with fail
                    go_meet
                    exact ⟨rfl, rfl⟩
                  · go_wp2_with fail
                    go_meet
                    exact ⟨rfl, rfl⟩
                · go_wp2_with fail
                  go_meet
                  exact ⟨rfl, rfl⟩
              · go_wp2_with fail
                go_meet
                exact ⟨rfl, rfl⟩
            · go_wp2_with fail
              refine (IR.out _).mono ?_
              rintro _ _ ⟨rfl, rfl⟩
              rcases iR with _ | _
              · rcases dR with _ | _
                · go_wp2_with fail
                  go_meet
                  exact ⟨rfl, rfl⟩
                · go_wp2_with fail
                  go_meet
                  exact ⟨rfl, rfl⟩
              · go_wp2_with fail
                go_meet
                exact ⟨rfl, rfl⟩
          · go_wp2_with fail
            go_meet
            exact ⟨rfl, rfl⟩
        · go_wp2_with fail
          refine (IQ.out _).mono ?_
          rintro _ _ ⟨rfl, rfl⟩
          rcases iQ with _ | _
          · rcases dQ with _ | _
            · go_wp2_with fail
              refine (IR.out _).mono ?_
              rintro _ _ ⟨rfl, rfl⟩
              rcases iR with _ | _
              · rcases dR with _ | _
                · go_wp2_with fail
                  go_meet
                  exact ⟨rfl, rfl⟩
                · go_wp2_with fail
                  go_meet
                  exact ⟨rfl, rfl⟩
              · go_wp2_with fail
                go_meet
                exact ⟨rfl, rfl⟩
            · go_wp2_with fail
              go_meet
              exact ⟨rfl, rfl⟩
          · go_wp2_with fail
            refine (IR.out _).mono ?_
            rintro _ _ ⟨rfl, rfl⟩
            rcases iR with _ | _
            · rcases dR with _ | _
              · go_wp2_with fail
                go_meet
                exact ⟨rfl, rfl⟩
              · go_wp2_with fail
                go_meet
                exact ⟨rfl, rfl⟩
            · go_wp2_with fail
              go_meet
              exact ⟨rfl, rfl⟩
      case rest =>
        clear lp lq lr IP IQ IR
        obtain ⟨rfl, rfl⟩ := hcut
        rw [HL.out] at HR
        generalize ((!iP && dP) || (!iQ && dQ) || (!iR && dR)) = lb at *
        clear HL
        rcases lb with _ | _
        rotate_left
        · have HR' : Hid (rightN N = false) := Lib.hid (by rw [HR.out]; rfl)
          clear HR
          go_wp2
          go_ret
          exact ⟨by rw [HR'.out]; rfl, HB.out⟩
        rw [HS.out] at HR
        have sp := sP.out
        have sq := sQ.out
        have sr := sR.out
        clear sP sQ sR HS
        rcases fP with _ | _
        · go_wp2
          go_ret
          exact ⟨by rw [HR.out]; rfl, HB.out⟩
        · rcases fQ with _ | _
          · go_wp2
            go_ret
            exact ⟨by rw [HR.out]; rfl, HB.out⟩
          · go_wp2
            go_ret
            exact ⟨by rw [HR.out]; rfl, HB.out⟩
end Go.Proofs.YtnkjoambhmlnbaaGreatDoor.Note
