/-
  What the document's Small of a note does.
-/
import Derived.Test.YtnkjoambhmlnbaaGreatDoorBd11
import Derived.Test.YtnkjoambhmlnbaaGreatDoorBd05
import Derived.Test.YtnkjoambhmlnbaaGreatDoorBd12
import Derived.Deep.RegionWith
import Derived.Deep.DeepCutAuto
namespace Go.Proofs.YtnkjoambhmlnbaaGreatDoor.Note
open Go Go.RowKit Go.Proofs.YtnkjoambhmlnbaaGreatDoor.Aid Go.Proofs.YtnkjoambhmlnbaaGreatDoor.Law01 Go.Proofs.YtnkjoambhmlnbaaGreatDoor.Field

def smallN (N : NoteP) : Bool := decide (N.a.size + N.b.size + N.pn + N.qn + N.rn ≤ 2000)
set_option maxRecDepth 100000 in
set_option maxHeartbeats 1000000 in
theorem refSmall_any (N : NoteP) (P Q R : Value) (w : World) (hn : NoteAt w N P Q R) (ha : N.a.size ≤ 200000000000000) (hb : N.b.size ≤ 200000000000000) (hp : N.pn ≤ 200000000000000) (hq : N.qn ≤ 200000000000000) (hr : N.rn ≤ 200000000000000) :
    Calls Tryz.prog 13 #[noteV N P Q R] w fun x w' => x = .returned (.bool (smallN N)) ∧ Below w.heap.size w w' := by
  obtain ⟨⟨AP, cP, rfl, _, _⟩, ⟨AQ, cQ, rfl, _, _⟩, ⟨AR, cR, rfl, _, _⟩⟩ := hn
  have hr' := row_new w (cellsOf 38 (noteF N (.slice AP N.pn cP) (.slice AQ N.qn cQ) (.slice AR N.rn cR))) 50 38 _ (size_cellsOf _ _) (cellsOf_at _ _)
  have hb0 : Below w.heap.size w (w.alloc (.cells (cellsOf 38 (noteF N (.slice AP N.pn cP) (.slice AQ N.qn cQ) (.slice AR N.rn cR))) 50)) := (Below.refl _ _).alloc (Nat.le_refl _) _
  have hs : smallN N = decide ((N.a.size : Int) + (N.b.size : Int) + (N.pn : Int) + (N.qn : Int) + (N.rn : Int) ≤ 2000) := decide_eq_decide.2 (by omega)
  unfold noteV
  go_enter Tryz.func13, Tryz.ntmps13
  generalize cellsOf 38 (noteF N (.slice AP N.pn cP) (.slice AQ N.qn cQ) (.slice AR N.rn cR)) = C at *
  go_upto_region 1 with fail
  generalize w.alloc (.cells C 50) = w1 at *
  have c1 : w1.cell? ⟨w.heap.size, 1, none⟩ = some (.string N.a) := hr'.cell (i := 1) (by omega)
  have c2 : w1.cell? ⟨w.heap.size, 2, none⟩ = some (.string N.b) := hr'.cell (i := 2) (by omega)
  have c35 : w1.cell? ⟨w.heap.size, 35, none⟩ = some (.slice AP N.pn cP) := hr'.cell (i := 35) (by omega)
  have c36 : w1.cell? ⟨w.heap.size, 36, none⟩ = some (.slice AQ N.qn cQ) := hr'.cell (i := 36) (by omega)
  have c37 : w1.cell? ⟨w.heap.size, 37, none⟩ = some (.slice AR N.rn cR) := hr'.cell (i := 37) (by omega)
  have HS := Lib.hid hs
  have HB := Lib.hid hb0
  clear hr' hs hb0
  go_wp2
  go_ret
  exact ⟨by rw [HS.out] <;> first | rfl | (congr 2; apply propext; omega), HB.out⟩
end Go.Proofs.YtnkjoambhmlnbaaGreatDoor.Note
