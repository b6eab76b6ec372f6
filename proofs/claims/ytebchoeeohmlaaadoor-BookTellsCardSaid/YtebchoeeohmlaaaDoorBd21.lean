/-
  That this program's strings.Clone is the library's own: the same bytes, whatever text of a size that a machine can hold.
-/
import Derived.Test.YtebchoeeohmlaaaDoorProg
import Derived.Shelf.Strconv.Clone
import Derived.WalkSmall
import Derived.WalkMore
namespace Go.Proofs
open Go.Shelf
def YtebchoeeohmlaaaDoor.clone316_ren : Go.Shelf.Ren := ⟨fun | 316 => 86 | n => n, fun | 0 => 0 | 3 => 3 | 4 => 4 | 9 => 9 | 37 => 23 | 127 => 139 | 5 => 5 | n => n, fun | n => n⟩
theorem YtebchoeeohmlaaaDoor.clone316 : Go.Proofs.LaysM.n316 Tryd.prog YtebchoeeohmlaaaDoor.clone316_ren := {
  mixed := by kernel_rfl
  f316 := Tryd.func86.trans (congrArg some (by kernel_rfl))
  t0 := Tryd.underlying0
  a0 := Tryd.isAgg0
  z0 := Tryd.sizeOf0
  v0 := Tryd.zeroValue0
  t3 := Tryd.underlying3
  a3 := Tryd.isAgg3
  z3 := Tryd.sizeOf3
  v3 := Tryd.zeroValue3
  t4 := Tryd.underlying4
  a4 := Tryd.isAgg4
  z4 := Tryd.sizeOf4
  v4 := Tryd.zeroValue4
  t9 := Tryd.underlying9
  a9 := Tryd.isAgg9
  z9 := Tryd.sizeOf9
  v9 := Tryd.zeroValue9
  t37 := Tryd.underlying23
  a37 := Tryd.isAgg23
  z37 := Tryd.sizeOf23
  v37 := Tryd.zeroValue23
  t127 := Tryd.underlying139
  a127 := Tryd.isAgg139
  z127 := Tryd.sizeOf139
  v127 := Tryd.zeroValue139
  t5 := Tryd.underlying5
  a5 := Tryd.isAgg5
  z5 := Tryd.sizeOf5
  v5 := Tryd.zeroValue5
  i0 := by kernel_rfl
  i3 := by kernel_rfl
  i4 := by kernel_rfl
  i9 := by kernel_rfl
  i37 := by kernel_rfl
  i127 := by kernel_rfl
  i5 := by kernel_rfl }
open Go.RowKit in
theorem YtebchoeeohmlaaaDoor.clone_str (s : ByteArray) (w : World) (hs : s.size ≤ 200000000000000) : Calls Tryd.prog 81 #[.string s] w fun e w' => e = .returned (.string s) ∧ Below w.heap.size w w' := by
  have H := Lib.hid (Any.stringslite_Clone YtebchoeeohmlaaaDoor.clone316 s w (by omega))
  go_enter Tryd.func81, Tryd.ntmps81
  go_wp2_with fail
  refine Calls.mono (show Calls Tryd.prog 86 #[.string s] w _ from H.out) ?_
  rintro _ W ⟨rfl, hb⟩
  have HB := Lib.hid hb
  clear hb H
  go_wp2
  go_ret
  exact ⟨rfl, HB.out⟩
end Go.Proofs
