/-
  Notes as plain values: what the document's chapter on notes says.
-/
import Derived.Test.YtagehbeliifbkaaDoorFieldPlain
import Derived.Test.YtagehbeliifbkaaDoorNameB
import Derived.Test.YtagehbeliifbkaaDoorEqBytes
namespace Go.Proofs.YtagehbeliifbkaaDoor.Note
open Go Go.RowKit Go.Proofs.YtagehbeliifbkaaDoor.Aid Go.Proofs.YtagehbeliifbkaaDoor.Law01 Go.Proofs.YtagehbeliifbkaaDoor.Field

/-- A note. -/
structure NoteP where
  kind : Int
  a : ByteArray
  b : ByteArray
  x : Nat → BitVec 8
  y : Nat → BitVec 8
  pn : Nat
  p : Nat → BitVec 8
  qn : Nat
  q : Nat → BitVec 8
  rn : Nat
  r : Nat → BitVec 8
/-- The letters of each kind's fields. -/
def table : List (List Nat) := [[], [65, 88], [66, 80, 89], [80, 81, 89], [81, 80], [80], [65, 88], [65, 88, 66, 89], [80, 81], [80, 81, 82, 89], [80], [81, 88], [89, 80], [80], [65, 88], [80], [65]]
def hasL (k : Int) : List Nat := if k < 1 ∨ 17 ≤ k then [] else table.getD k.toNat []
def strL (l : List Nat) : ByteArray := ⟨(l.map UInt8.ofNat).toArray⟩
def inL (k : Int) (c : Nat) : Bool := (hasL k).contains c
def zeroB (x : Nat → BitVec 8) : Bool := sameUpto x (fun _ => 0) 16
/-- May a note be? -/
def firstB (N : NoteP) : Bool := (inL N.kind 65 != decide (0 < N.a.size)) || (inL N.kind 66 != decide (0 < N.b.size)) || (decide (0 < N.a.size) && !nameB N.a) || (decide (0 < N.b.size) && !nameB N.b)
def wordsB (N : NoteP) : Bool := (!inL N.kind 88 && !zeroB N.x) || (!inL N.kind 89 && !zeroB N.y)
def blobsB (N : NoteP) : Bool := (!inL N.kind 80 && decide (0 < N.pn)) || (!inL N.kind 81 && decide (0 < N.qn)) || (!inL N.kind 82 && decide (0 < N.rn))
def smallB (N : NoteP) : Bool := decide (N.pn ≤ 500) && decide (N.qn ≤ 500) && decide (N.rn ≤ 500)
def rightN (N : NoteP) : Bool := !(hasL N.kind).isEmpty && !firstB N && !wordsB N && !blobsB N && smallB N
/-- A note's value: 38 cells. -/
def noteF (N : NoteP) (P Q R : Value) (i : Nat) : Value :=
  if i = 0 then .int .i64 N.kind else if i = 1 then .string N.a else if i = 2 then .string N.b else if i < 19 then .int .u8 ((N.x (i - 3)).toNat : Int) else if i < 35 then .int .u8 ((N.y (i - 19)).toNat : Int) else if i = 35 then P else if i = 36 then Q else R
def noteV (N : NoteP) (P Q R : Value) : Value := .agg (cellsOf 38 (noteF N P Q R))
/-- Its three slices lie in a world. -/
structure NoteAt (W : World) (N : NoteP) (P Q R : Value) : Prop where
  p : SliceOf W W.heap.size N.pn N.p P
  q : SliceOf W W.heap.size N.qn N.q Q
  r : SliceOf W W.heap.size N.rn N.r R
theorem NoteAt.below {W W' : World} {N : NoteP} {P Q R : Value} (h : NoteAt W N P Q R) (hb : Below W.heap.size W W') : NoteAt W' N P Q R :=
  ⟨slice_any (slice_below h.p hb) (Nat.le_refl _), slice_any (slice_below h.q hb) (Nat.le_refl _), slice_any (slice_below h.r hb) (Nat.le_refl _)⟩
end Go.Proofs.YtagehbeliifbkaaDoor.Note
