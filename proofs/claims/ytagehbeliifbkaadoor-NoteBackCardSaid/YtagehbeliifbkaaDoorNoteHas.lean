/-
  What the laws of layer 10 need of the program's own functions, as one bundle.
-/
import Derived.Test.YtagehbeliifbkaaDoorNoteRead
namespace Go.Proofs.YtagehbeliifbkaaDoor.Note
open Go Go.RowKit Go.Proofs.YtagehbeliifbkaaDoor.Aid Go.Proofs.YtagehbeliifbkaaDoor.Law01 Go.Proofs.YtagehbeliifbkaaDoor.Field

/-- In every world in which what lies in `w0` stands as it stood. -/
structure NoteHas (w0 : World) : Prop where
  right : ∀ (N : NoteP) (P Q R : Value) (w : World), Below w0.heap.size w0 w → N.a.size ≤ 1000000 → N.b.size ≤ 1000000 → NoteAt w N P Q R → Calls Tryd.prog 13 #[noteV N P Q R] w fun x w' => x = .returned (.bool (rightN N)) ∧ Below w.heap.size w w'
  put : ∀ (N : NoteP) (P Q R : Value) (w : World), Below w0.heap.size w0 w → N.a.size ≤ 1000000 → N.b.size ≤ 1000000 → NoteAt w N P Q R → Calls Tryd.prog 7 #[noteV N P Q R] w fun x w' =>
    ∃ r, x = .returned (.tuple #[r, .int .i64 (put10C N)]) ∧ Own w' w.heap.size (put10N N) (encByte N) r ∧ Below w.heap.size w w'
  read : ∀ (A : Option Addr) (c n : Nat) (E : Nat → BitVec 8) (w : World), Below w0.heap.size w0 w → n ≤ 100000 → SliceOf w w.heap.size n E (.slice A n c) → Calls Tryd.prog 9 #[.slice A n c] w (ReadPost E n w)
  same : ∀ (N M : NoteP) (P Q R P' Q' R' : Value) (w : World), Below w0.heap.size w0 w → NoteAt w N P Q R → NoteAt w M P' Q' R' → N.pn ≤ 1000000 → N.qn ≤ 1000000 → N.rn ≤ 1000000 → M.pn ≤ 1000000 → M.qn ≤ 1000000 → M.rn ≤ 1000000 →
    Calls Tryd.prog 15 #[noteV N P Q R, noteV M P' Q' R'] w fun x w' => x = .returned (.bool (sameN N M)) ∧ Below w.heap.size w w'
theorem NoteHas.below {w0 w1 : World} (h : NoteHas w0) (hb : Below w0.heap.size w0 w1) : NoteHas w1 :=
  ⟨fun N P Q R w hw => h.right N P Q R w (hb.trans (hw.mono hb.size)), fun N P Q R w hw => h.put N P Q R w (hb.trans (hw.mono hb.size)), fun A c n E w hw => h.read A c n E w (hb.trans (hw.mono hb.size)),
   fun N M P Q R P' Q' R' w hw => h.same N M P Q R P' Q' R' w (hb.trans (hw.mono hb.size))⟩
end Go.Proofs.YtagehbeliifbkaaDoor.Note
