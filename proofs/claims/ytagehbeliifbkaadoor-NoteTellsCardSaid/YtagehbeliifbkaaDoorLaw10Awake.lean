/-
  The walk of bartizanlaw10.awake: it answers true.
-/
import Derived.Test.YtagehbeliifbkaaDoorNoteHas
import Derived.Test.YtagehbeliifbkaaDoorLoadMet
import Derived.Test.YtagehbeliifbkaaDoorAfter
import Derived.Test.YtagehbeliifbkaaDoorRefPut
import Derived.Deep.DeepCutAuto
namespace Go.Proofs.YtagehbeliifbkaaDoor.Note
open Go Go.RowKit Go.Proofs.YtagehbeliifbkaaDoor.Aid Go.Proofs.YtagehbeliifbkaaDoor.Law01 Go.Proofs.YtagehbeliifbkaaDoor.Field

def bob : ByteArray := ⟨#[98, 111, 98]⟩
def nBob : NoteP := ⟨2, ⟨#[]⟩, bob, fun _ => 0, fun j => if j = 0 then 7 else 0, 2, two 120 121, 0, fun _ => 0, 0, fun _ => 0⟩
def nBa_ : NoteP := ⟨2, bob, ⟨#[]⟩, fun _ => 0, fun _ => 0, 0, fun _ => 0, 0, fun _ => 0, 0, fun _ => 0⟩
theorem right_bob : rightN nBob = true := by decide +kernel
theorem right_ba_ : rightN nBa_ = false := by decide +kernel
theorem size_bob : encSize nBob = 28 := by decide +kernel
theorem byte_bob0 : encByte nBob 0 = 2 := by decide +kernel
theorem byte_bob2 : encByte nBob 2 = 3 := by decide +kernel
theorem same_bob : sameN nBob (blank 0) = false := by decide +kernel
def bobCells (V : Value) : Array Value := #[.int .i64 2, .string ⟨#[]⟩, .string ⟨#[98, 111, 98]⟩, .int .u8 0, .int .u8 0, .int .u8 0, .int .u8 0, .int .u8 0, .int .u8 0, .int .u8 0, .int .u8 0, .int .u8 0, .int .u8 0, .int .u8 0, .int .u8 0, .int .u8 0, .int .u8 0, .int .u8 0, .int .u8 0, .int .u8 7, .int .u8 0, .int .u8 0, .int .u8 0, .int .u8 0, .int .u8 0, .int .u8 0, .int .u8 0, .int .u8 0, .int .u8 0, .int .u8 0, .int .u8 0, .int .u8 0, .int .u8 0, .int .u8 0, .int .u8 0, V, .slice none 0 0, .slice none 0 0]
theorem bobCells_at (V : Value) (C : Array Value) (hC : C = bobCells V) (i : Nat) (hi : i < 38) : C[i]? = some (noteF nBob V (.slice none 0 0) (.slice none 0 0) i) := by
  rw [hC, show bobCells V = cellsOf 38 (noteF nBob V (.slice none 0 0) (.slice none 0 0)) from rfl, cellsOf_at 38 _ i hi]
set_option maxRecDepth 100000 in
set_option maxHeartbeats 8000000 in
theorem awake10_any (w : World) (H : NoteHas w) : Calls Tryd.prog 5 #[] w fun x w' => x = .returned (.bool true) ∧ Below w.heap.size w w' := by
  have kc := fun (w : World) (C : Array Value) (n c : Nat) => Lib.run_convert_bytes_const (P := Tryd.prog) w 24 5 C n c Tryd.underlying24 Tryd.underlying5
  have hsl : SliceOf (w.alloc (.cells #[.int .u8 120, .int .u8 121] 5 (2, 3))) (w.heap.size + 1) 2 (two 120 121) (.slice (some ⟨w.heap.size, 0, none⟩) 2 2) := ⟨_, 2, rfl, Nat.le_refl _, fun _ => ⟨w.heap.size, 0, rfl, by omega, fun j hj => by
    rw [Nat.zero_add, cell_of_row _ w.heap.size j #[.int .u8 120, .int .u8 121] 5 (2, 3) (heap_alloc_new w _)]
    match j, hj with
    | 0, _ => rfl
    | 1, _ => rfl⟩⟩
  have hb1 : Below w.heap.size w (w.alloc (.cells #[.int .u8 120, .int .u8 121] 5 (2, 3))) := (Below.refl _ _).alloc (Nat.le_refl _) _
  have hs1 : (w.alloc (.cells #[.int .u8 120, .int .u8 121] 5 (2, 3))).heap.size = w.heap.size + 1 := by simp
  have HR0 := Lib.hid (row_new (w.alloc (.cells #[.int .u8 120, .int .u8 121] 5 (2, 3))) #[.int .i64 0, .string ⟨#[]⟩, .string ⟨#[]⟩, .int .u8 0, .int .u8 0, .int .u8 0, .int .u8 0, .int .u8 0, .int .u8 0, .int .u8 0, .int .u8 0, .int .u8 0, .int .u8 0, .int .u8 0, .int .u8 0, .int .u8 0, .int .u8 0, .int .u8 0, .int .u8 0, .int .u8 0, .int .u8 0, .int .u8 0, .int .u8 0, .int .u8 0, .int .u8 0, .int .u8 0, .int .u8 0, .int .u8 0, .int .u8 0, .int .u8 0, .int .u8 0, .int .u8 0, .int .u8 0, .int .u8 0, .int .u8 0, .slice none 0 0, .slice none 0 0, .slice none 0 0] 26 38 _ rfl (zeroCells_at 0 _ rfl))
  have HSL := Lib.hid hsl
  have HB1 := Lib.hid hb1
  clear hsl hb1
  go_enter Tryd.func5, Tryd.ntmps5
  rw [hs1] at HR0
  go_upto_region 2 with (refine store_whole (by rfl) 26 (.tmp 1) (.tmp 11) (by rfl) (w.heap.size + 1) _ 38 _ (noteF nBob (.slice (some ⟨w.heap.size, 0, none⟩) 2 2) (.slice none 0 0) (.slice none 0 0)) HR0.out (by rfl) _ (by rfl) (by kernel_rfl) (by rfl) (bobCells_at _ _ (by rfl)) (fun i _ => noteF_one _ _ _ _ rfl rfl rfl i) ?_
                         intro w2 hr2 ho2)
  have hA2 : NoteAt w2 nBob (.slice (some ⟨w.heap.size, 0, none⟩) 2 2) (.slice none 0 0) (.slice none 0 0) := ⟨slice_any (g' := w2.heap.size) ((slice_below (slice_any HSL.out (by rw [hs1]; exact Nat.le_refl _)) ((Below.refl _ _).alloc (Nat.le_refl _) _)).keep (fun b _ hne => ho2.block b hne)) (Nat.le_refl _), SliceOf.nil _ _ _, SliceOf.nil _ _ _⟩
  have HA2 := Lib.hid hA2
  have HR2 := Lib.hid hr2
  have HB2 : Hid (Below w.heap.size w w2) := Lib.hid (ho2.below (HB1.out.alloc (by rw [hs1]; omega) _) (by omega))
  have hput := H.put nBob (.slice (some ⟨w.heap.size, 0, none⟩) 2 2) (.slice none 0 0) (.slice none 0 0) w2 HB2.out (by decide) (by decide) HA2.out
  unfold noteV put10C put10N at hput
  rw [right_bob, size_bob, if_pos rfl, if_pos rfl] at hput
  have HPUT := Lib.hid hput
  have hbad := fun W (hW : Below w.heap.size w W) => H.put nBa_ (.slice none 0 0) (.slice none 0 0) (.slice none 0 0) W hW (by decide) (by decide) ⟨SliceOf.nil _ _ _, SliceOf.nil _ _ _, SliceOf.nil _ _ _⟩
  unfold noteV put10C put10N at hbad
  rw [right_ba_, if_neg (by decide), if_neg (by decide)] at hbad
  have HBA_ := Lib.hid hbad
  clear hput hbad hA2 hr2 ho2 HR0 HSL HB1 kc hs1
  go_wp2_with (refine load_whole (by rfl) 26 (.tmp 1) (by rfl) _ _ _ _ HR2.out (by rfl) _ Tryd.underlying26 (by rfl) (by kernel_rfl) ?_)
  refine HPUT.out.mono ?_
  rintro _ w3 ⟨r, rfl, ho3, hb3⟩
  have hs3 := ho3.slice (g' := w3.heap.size) (.inr (Nat.le_refl _))
  obtain ⟨Ar, cr, rfl, _, _⟩ := id hs3
  obtain ⟨sb, so, rfl, hcell⟩ := SliceOf.at_ hs3 (by omega)
  have hread := H.read _ cr 28 (encByte nBob) w3 (HB2.out.trans (hb3.mono HB2.out.size)) (by omega) hs3
  have HREAD := Lib.hid hread
  have HC0 := Lib.hid (hcell 0 (by omega))
  have HC2 := Lib.hid (hcell 2 (by omega))
  have HR3 := Lib.hid (World.rowIs.of_block HR2.out (hb3.block _ (World.rowIs.lt HR2.out)))
  have HB3 := Lib.hid (HB2.out.trans (hb3.mono HB2.out.size))
  have HA3 := Lib.hid (HA2.out.below hb3)
  clear HPUT HR2 HB2 HA2 hread hcell hs3 ho3 hb3
  go_wp2_with fail
  refine HREAD.out.mono ?_
  rintro _ w4 ⟨N, P, Q, R, ce, hspec, rfl, hA4, hb4⟩
  have henc : IsEnc (encByte nBob) 28 nBob := ⟨right_bob, size_bob, fun _ _ => rfl⟩
  obtain ⟨rfl, hlike⟩ := read_one (.inl ⟨rfl, henc⟩) hspec
  have HLIKE := Lib.hid hlike
  have HA4 := Lib.hid hA4
  have HC0' := Lib.hid ((hb4.cell (p := ⟨sb, so + 0, none⟩) (block_lt_of_cell HC0.out)).trans HC0.out)
  have HC2' := Lib.hid ((hb4.cell (p := ⟨sb, so + 2, none⟩) (block_lt_of_cell HC2.out)).trans HC2.out)
  have HR4 := Lib.hid (World.rowIs.of_block HR3.out (hb4.block _ (World.rowIs.lt HR3.out)))
  have HB4 := Lib.hid (HB3.out.trans (hb4.mono HB3.out.size))
  have HN4 := Lib.hid (HA3.out.below hb4)
  have HZ4 := Lib.hid (row_new w4 #[.int .i64 0, .string ⟨#[]⟩, .string ⟨#[]⟩, .int .u8 0, .int .u8 0, .int .u8 0, .int .u8 0, .int .u8 0, .int .u8 0, .int .u8 0, .int .u8 0, .int .u8 0, .int .u8 0, .int .u8 0, .int .u8 0, .int .u8 0, .int .u8 0, .int .u8 0, .int .u8 0, .int .u8 0, .int .u8 0, .int .u8 0, .int .u8 0, .int .u8 0, .int .u8 0, .int .u8 0, .int .u8 0, .int .u8 0, .int .u8 0, .int .u8 0, .int .u8 0, .int .u8 0, .int .u8 0, .int .u8 0, .int .u8 0, .slice none 0 0, .slice none 0 0, .slice none 0 0] 26 38 _ rfl (zeroCells_at 0 _ rfl))
  have oP : P.oneCell' = true := by obtain ⟨_, _, rfl, _⟩ := hA4.p; rfl
  have oQ : Q.oneCell' = true := by obtain ⟨_, _, rfl, _⟩ := hA4.q; rfl
  have oR : R.oneCell' = true := by obtain ⟨_, _, rfl, _⟩ := hA4.r; rfl
  have HO := Lib.hid (fun i => noteF_one N P Q R oP oQ oR i)
  clear HREAD hspec henc hlike hA4 HC0 HC2 HR3 HB3 HA3 hb4 oP oQ oR
  go_upto_region 4 with (refine store_whole (by rfl) 26 (.tmp 4) (.tmp 20) (by rfl) w4.heap.size _ 38 _ (noteF N P Q R) HZ4.out (by rfl) _ (by rfl) (by kernel_rfl) (size_cellsOf _ _) (cellsOf_at _ _) (fun i _ => HO.out i) ?_
                         intro w5 hr5 ho5)
  have hb5 : Below w4.heap.size w4 w5 := ho5.below ((Below.refl _ _).alloc (Nat.le_refl _) _) (Nat.le_refl _)
  have HR5 := Lib.hid hr5
  have HT5 := Lib.hid (World.rowIs.of_block HR4.out (hb5.block _ (World.rowIs.lt HR4.out)))
  have HN5 := Lib.hid (HN4.out.below hb5)
  have HA5 := Lib.hid (HA4.out.below hb5)
  have HB5 := Lib.hid (HB4.out.trans (hb5.mono HB4.out.size))
  have HC5 := Lib.hid ((hb5.cell (p := ⟨sb, so + 0, none⟩) (block_lt_of_cell HC0'.out)).trans HC0'.out)
  have HD5 := Lib.hid ((hb5.cell (p := ⟨sb, so + 2, none⟩) (block_lt_of_cell HC2'.out)).trans HC2'.out)
  clear hr5 ho5 hb5 HR4 HN4 HA4 HB4 HC0' HC2' HZ4 HO
  rw [show cellsOf 38 (noteF nBa_ (.slice none 0 0) (.slice none 0 0) (.slice none 0 0)) = #[.int .i64 2, .string ⟨#[98, 111, 98]⟩, .string ⟨#[]⟩, .int .u8 0, .int .u8 0, .int .u8 0, .int .u8 0, .int .u8 0, .int .u8 0, .int .u8 0, .int .u8 0, .int .u8 0, .int .u8 0, .int .u8 0, .int .u8 0, .int .u8 0, .int .u8 0, .int .u8 0, .int .u8 0, .int .u8 0, .int .u8 0, .int .u8 0, .int .u8 0, .int .u8 0, .int .u8 0, .int .u8 0, .int .u8 0, .int .u8 0, .int .u8 0, .int .u8 0, .int .u8 0, .int .u8 0, .int .u8 0, .int .u8 0, .int .u8 0, .slice none 0 0, .slice none 0 0, .slice none 0 0] from rfl] at HBA_
  go_wp2_with fail
  refine (HBA_.out w5 HB5.out).mono ?_
  rintro _ w6 ⟨r', rfl, _, hb6⟩
  have HR6 := Lib.hid (World.rowIs.of_block HR5.out (hb6.block _ (World.rowIs.lt HR5.out)))
  have HT6 := Lib.hid (World.rowIs.of_block HT5.out (hb6.block _ (World.rowIs.lt HT5.out)))
  have HN6 := Lib.hid (HN5.out.below hb6)
  have HA6 := Lib.hid (HA5.out.below hb6)
  have HB6 := Lib.hid (HB5.out.trans (hb6.mono HB5.out.size))
  have hc0 : w6.cell? ⟨sb, so, none⟩ = some (.int .u8 2) := by
    have := (hb6.cell (p := ⟨sb, so + 0, none⟩) (block_lt_of_cell HC5.out)).trans HC5.out
    rw [byte_bob0] at this
    exact this
  have hc2 : w6.cell? ⟨sb, so + 2, none⟩ = some (.int .u8 3) := by
    have := (hb6.cell (p := ⟨sb, so + 2, none⟩) (block_lt_of_cell HD5.out)).trans HD5.out
    rw [byte_bob2] at this
    exact this
  have hn : N.pn ≤ 1000000 ∧ N.qn ≤ 1000000 ∧ N.rn ≤ 1000000 := by
    have h := HLIKE.out
    rw [← h.pn, ← h.qn, ← h.rn]
    exact ⟨by decide, by decide, by decide⟩
  have s1 : ∀ W, Below w6.heap.size w6 W → _ := fun W hW => H.same nBob N _ _ _ _ _ _ W (HB6.out.trans (hW.mono HB6.out.size)) (HN6.out.below hW) (HA6.out.below hW) (by decide) (by decide) (by decide) hn.1 hn.2.1 hn.2.2
  have s2 : ∀ W, Below w6.heap.size w6 W → _ := fun W hW => H.right nBob _ _ _ W (HB6.out.trans (hW.mono HB6.out.size)) (by decide) (by decide) (HN6.out.below hW)
  have s3 : ∀ W, Below w6.heap.size w6 W → _ := fun W hW => H.same nBob (blank 0) _ _ _ (.slice none 0 0) (.slice none 0 0) (.slice none 0 0) W (HB6.out.trans (hW.mono HB6.out.size)) (HN6.out.below hW) ⟨SliceOf.nil _ _ _, SliceOf.nil _ _ _, SliceOf.nil _ _ _⟩ (by decide) (by decide) (by decide) (by decide) (by decide) (by decide)
  rw [HLIKE.out.same] at s1
  rw [right_bob] at s2
  rw [same_bob] at s3
  unfold noteV at s1 s2 s3
  rw [show cellsOf 38 (noteF (blank 0) (.slice none 0 0) (.slice none 0 0) (.slice none 0 0)) = #[.int .i64 0, .string ⟨#[]⟩, .string ⟨#[]⟩, .int .u8 0, .int .u8 0, .int .u8 0, .int .u8 0, .int .u8 0, .int .u8 0, .int .u8 0, .int .u8 0, .int .u8 0, .int .u8 0, .int .u8 0, .int .u8 0, .int .u8 0, .int .u8 0, .int .u8 0, .int .u8 0, .int .u8 0, .int .u8 0, .int .u8 0, .int .u8 0, .int .u8 0, .int .u8 0, .int .u8 0, .int .u8 0, .int .u8 0, .int .u8 0, .int .u8 0, .int .u8 0, .int .u8 0, .int .u8 0, .int .u8 0, .int .u8 0, .slice none 0 0, .slice none 0 0, .slice none 0 0] from rfl] at s3
  have S1 := Lib.hid s1
  have S2 := Lib.hid s2
  have S3 := Lib.hid s3
  clear s1 s2 s3 hn HR5 HT5 HN5 HA5 HB5 HC5 HD5 HBA_ HN6 HA6
  go_wp2_with (first
    | (refine load_whole_met (by rfl) 26 (.tmp 1) (by rfl) _ _ _ _ HT6.out (by rfl) _ Tryd.underlying26 (by rfl) (by kernel_rfl) ?_)
    | (refine load_whole_met (by rfl) 26 (.tmp 4) (by rfl) _ _ _ _ HR6.out (by rfl) _ Tryd.underlying26 (by rfl) (by kernel_rfl) ?_))
  refine (S1.out w6 (Below.refl _ _)).mono ?_
  rintro _ w7 ⟨rfl, hb7⟩
  have HT7 := Lib.hid (World.rowIs.of_block HT6.out (hb7.block _ (World.rowIs.lt HT6.out)))
  have HX7 := Lib.hid hb7
  clear hb6 hb7 S1 HT6
  go_wp2_with (refine load_whole_met (by rfl) 26 (.tmp 1) (by rfl) _ _ _ _ HT7.out (by rfl) _ Tryd.underlying26 (by rfl) (by kernel_rfl) ?_)
  refine (S2.out w7 HX7.out).mono ?_
  rintro _ w8 ⟨rfl, hb8⟩
  have HT8 := Lib.hid (World.rowIs.of_block HT7.out (hb8.block _ (World.rowIs.lt HT7.out)))
  have HX8 := Lib.hid (HX7.out.trans (hb8.mono HX7.out.size))
  clear hb8 S2 HT7
  go_wp2_with (refine load_whole_met (by rfl) 26 (.tmp 1) (by rfl) _ _ _ _ HT8.out (by rfl) _ Tryd.underlying26 (by rfl) (by kernel_rfl) ?_)
  refine (S3.out w8 HX8.out).mono ?_
  rintro _ w9 ⟨rfl, hb9⟩
  have HX9 := Lib.hid (HB6.out.trans ((HX8.out.trans (hb9.mono HX8.out.size)).mono HB6.out.size))
  clear hb9 S3 HT8
  go_wp2
  go_ret
  exact ⟨rfl, HX9.out⟩
end Go.Proofs.YtagehbeliifbkaaDoor.Note
