/-
  NARROWER THAN 'FOR EVERY INPUT', by the rows' own cells (each row's printed sentence says how): NoteTells: laid · NoteBack: laid.
  DERIVED. THE GIVEN ROWS OF THIS SEAT. 2 by the template 'for every input the law returns true; each argument reads behind the call as it read before'; 0 by the template 'total and deterministic' (their statements: YtagehbeliifbkaaDoorTotals.lean).
  GIVEN WITH THE SEED: the statements are not yours to turn. If you find one false, say at which input.
  Laid BY PROGRAM, IN A SANDBOX (cutbox-rows.mjs): the forced cells as the released guide's own fill.sh prints them over the translation 984412d955b03c59… (all of the seat's roots in one cut). By AI agents, Wed Nov 11 2026. No macro, syntax, notation, axiom, sorry.
-/
import Derived.Test.YtagehbeliifbkaaDoorChecked
import GoSem.Claim
import GoSem.ClaimJoined
import GoSem.ClaimMapViews
import Derived.JoinedTies
import Derived.KernelRfl
namespace Go.Proofs.YtagehbeliifbkaaDoor
/- THE CELL 'sum', in the pinned program and in every row, IS THE sha256 OF THE DUMP (.gsa) THAT YtagehbeliifbkaaDoorProg.lean LOADS. Nothing in Lean hashes anything: it is a label: what it is worth is what the hold of that sum in a sandbox is worth. -/
noncomputable def Tryd.pinned : Pinned := { name := "ytagehbeliifbkaadoor", sum := "984412d955b03c595757e40742c508b40d220dfa538eb91c72f139c46fc128d2", checked := Tryd.checked }
namespace Rows
def none {H : Type} : Left H := { results := [], args := [] }

/- WHAT THE LISTED PACKAGE-LEVEL VARIABLES READ AS WHEN THE CALL BEGINS. Each datum BY PROGRAM (the guide's laid-datum.mjs) off the statement by which the dump's own 'gosem.cut.vars' lays the variable. In a bare row this is a premise. The card (YtagehbeliifbkaaDoorCards.lean) ties it to the program's text. -/
def laid_bartizan_note_fieldsOf {H : Type} : DataW H := .agg [.lit (.string []), .lit (.string [65, 88]), .lit (.string [66, 80, 89]), .lit (.string [80, 81, 89]), .lit (.string [81, 80]), .lit (.string [80]), .lit (.string [65, 88]), .lit (.string [65, 88, 66, 89]), .lit (.string [80, 81]), .lit (.string [80, 81, 82, 89]), .lit (.string [80]), .lit (.string [81, 88]), .lit (.string [89, 80]), .lit (.string [80]), .lit (.string [65, 88]), .lit (.string [80]), .lit (.string [65])]

/-- 'bartizanlaw10.NoteTells': WHATEVER THE INPUT: true; the input reads as it did. -/
def noteTellsSpec : ChangeSpec := { name := "noteTells", fn := fun _ => fun
  | [d1, d2] => { results := [.lit (.bool true)], args := [d1, d2] }
  | _ => none }
def noteTellsRow : OpenClaim := { program := "ytagehbeliifbkaadoor", sum := "984412d955b03c595757e40742c508b40d220dfa538eb91c72f139c46fc128d2", func := "bartizan/bartizanlaw10.NoteTells", spec := "noteTells", inPlace := ["internal/bytealg.IndexByteString", "internal/bytealg.IndexString"], unfollowed := true, recurses := true, named := ["bartizan/note.fieldsOf", "internal/bytealg.MaxLen"], apart := false, laid := [("bartizan/note.fieldsOf", laid_bartizan_note_fieldsOf)] }
def NoteTellsSaid : Prop := noteTellsRow.holds Tryd.pinned (OpenSpec.ofChange noteTellsSpec)

/-- ITS FALSE NEIGHBOUR: 'it returns false'. Refute it at one input. -/
def noteTellsWrong : ChangeSpec := { name := "noteTells", fn := fun _ => fun
  | [d1, d2] => { results := [.lit (.bool false)], args := [d1, d2] }
  | _ => none }
def NoteTellsWrongFalsely : Prop := noteTellsRow.holds Tryd.pinned (OpenSpec.ofChange noteTellsWrong)

/-- 'bartizanlaw10.NoteBack': WHATEVER THE INPUT: true; the input reads as it did. -/
def noteBackSpec : ChangeSpec := { name := "noteBack", fn := fun _ => fun
  | [d1, d2] => { results := [.lit (.bool true)], args := [d1, d2] }
  | _ => none }
def noteBackRow : OpenClaim := { program := "ytagehbeliifbkaadoor", sum := "984412d955b03c595757e40742c508b40d220dfa538eb91c72f139c46fc128d2", func := "bartizan/bartizanlaw10.NoteBack", spec := "noteBack", inPlace := ["internal/bytealg.IndexByteString", "internal/bytealg.IndexString"], unfollowed := true, recurses := true, named := ["bartizan/note.fieldsOf", "internal/bytealg.MaxLen"], apart := false, laid := [("bartizan/note.fieldsOf", laid_bartizan_note_fieldsOf)] }
def NoteBackSaid : Prop := noteBackRow.holds Tryd.pinned (OpenSpec.ofChange noteBackSpec)

/-- ITS FALSE NEIGHBOUR: 'it returns false'. Refute it at one input. -/
def noteBackWrong : ChangeSpec := { name := "noteBack", fn := fun _ => fun
  | [d1, d2] => { results := [.lit (.bool false)], args := [d1, d2] }
  | _ => none }
def NoteBackWrongFalsely : Prop := noteBackRow.holds Tryd.pinned (OpenSpec.ofChange noteBackWrong)

/- THE SECOND FORM. 'bulk': how many values and letters a reading holds, each counted each time it is reached (what is shared counts as often as it is met; a slice's spare places count too). A statement '..UptoSaid' is the law's where the arguments, and the package variables that the reading takes, are together of bulk at most 1048576: NARROWER than '..Said'. Prove '..Said' where nothing that the law and all that it calls make is longer than what came in: it says more and counts as full. Else prove '..UptoSaid'. A law counts once. -/
mutual
def uptoBulk {H : Type} : DataW H → Nat
  | .lit (.string bytes) => bytes.length + 1
  | .lit _ => 1
  | .nil => 1
  | .ptr d => uptoBulk d + 1
  | .slice elems spare => uptoBulkAll elems + uptoBulkAll spare + 1
  | .agg parts => uptoBulkAll parts + 1
  | .iface _ d => uptoBulk d + 1
  | .map entries => uptoBulkEntries entries + 1
  | .held _ => 1
def uptoBulkAll {H : Type} : List (DataW H) → Nat
  | [] => 0
  | d :: r => uptoBulk d + uptoBulkAll r
def uptoBulkEntries {H : Type} : List (Lit × DataW H) → Nat
  | [] => 0
  | x :: r => uptoBulkEntry x + uptoBulkEntries r
def uptoBulkEntry {H : Type} : Lit × DataW H → Nat
  | (.string bytes, d) => bytes.length + uptoBulk d + 1
  | (_, d) => uptoBulk d + 1
 end
def uptoSmall : (H : Type) → List (DataW H) → Bool := fun _ ds => decide (uptoBulkAll ds ≤ 1048576)
def OpenSpec.upto (s : _root_.Go.ChangeSpec) : _root_.Go.OpenSpec := { _root_.Go.OpenSpec.ofChange s with cond := some uptoSmall }

/-- 'bartizanlaw10.NoteTells', WHERE WHAT IT READS IS OF BULK AT MOST 1048576: true; the input reads as it did. -/
def noteTellsUptoRow : OpenClaim := { program := "ytagehbeliifbkaadoor", sum := "984412d955b03c595757e40742c508b40d220dfa538eb91c72f139c46fc128d2", func := "bartizan/bartizanlaw10.NoteTells", spec := "noteTells", inPlace := ["internal/bytealg.IndexByteString", "internal/bytealg.IndexString"], unfollowed := true, recurses := true, named := ["bartizan/note.fieldsOf", "internal/bytealg.MaxLen"], apart := false, laid := [("bartizan/note.fieldsOf", laid_bartizan_note_fieldsOf)], narrowed := true }
def NoteTellsUptoSaid : Prop := noteTellsUptoRow.holds Tryd.pinned (OpenSpec.upto noteTellsSpec)

/-- 'bartizanlaw10.NoteBack', WHERE WHAT IT READS IS OF BULK AT MOST 1048576: true; the input reads as it did. -/
def noteBackUptoRow : OpenClaim := { program := "ytagehbeliifbkaadoor", sum := "984412d955b03c595757e40742c508b40d220dfa538eb91c72f139c46fc128d2", func := "bartizan/bartizanlaw10.NoteBack", spec := "noteBack", inPlace := ["internal/bytealg.IndexByteString", "internal/bytealg.IndexString"], unfollowed := true, recurses := true, named := ["bartizan/note.fieldsOf", "internal/bytealg.MaxLen"], apart := false, laid := [("bartizan/note.fieldsOf", laid_bartizan_note_fieldsOf)], narrowed := true }
def NoteBackUptoSaid : Prop := noteBackUptoRow.holds Tryd.pinned (OpenSpec.upto noteBackSpec)

end Rows
end Go.Proofs.YtagehbeliifbkaaDoor
