/-
  That this program's strings.Clone is the library's own: the same bytes, whatever text of a size that a machine can hold.
-/
import Derived.Shelf.Strconv.Clone
import Derived.Test.YtefghgoeppfpfaaProg
import Derived.WalkSmall
import Derived.WalkMore
namespace Go.Proofs
open Go.Shelf
def Ytefghgoeppfpfaa.clone316_ren : Go.Shelf.Ren := ⟨fun | 316 => 25 | n => n, fun | 0 => 0 | 3 => 3 | 4 => 4 | 9 => 9 | 37 => 32 | 127 => 61 | 5 => 5 | n => n, fun | n => n⟩
theorem Ytefghgoeppfpfaa.clone316 : Go.Proofs.LaysM.n316 Try.prog Ytefghgoeppfpfaa.clone316_ren := {
  mixed := by kernel_rfl
  f316 := Try.func25.trans (congrArg some (by kernel_rfl))
  t0 := Try.underlying0
  a0 := Try.isAgg0
  z0 := Try.sizeOf0
  v0 := Try.zeroValue0
  t3 := Try.underlying3
  a3 := Try.isAgg3
  z3 := Try.sizeOf3
  v3 := Try.zeroValue3
  t4 := Try.underlying4
  a4 := Try.isAgg4
  z4 := Try.sizeOf4
  v4 := Try.zeroValue4
  t9 := Try.underlying9
  a9 := Try.isAgg9
  z9 := Try.sizeOf9
  v9 := Try.zeroValue9
  t37 := Try.underlying32
  a37 := Try.isAgg32
  z37 := Try.sizeOf32
  v37 := Try.zeroValue32
  t127 := Try.underlying61
  a127 := Try.isAgg61
  z127 := Try.sizeOf61
  v127 := Try.zeroValue61
  t5 := Try.underlying5
  a5 := Try.isAgg5
  z5 := Try.sizeOf5
  v5 := Try.zeroValue5
  i0 := by kernel_rfl
  i3 := by kernel_rfl
  i4 := by kernel_rfl
  i9 := by kernel_rfl
  i37 := by kernel_rfl
  i127 := by kernel_rfl
  i5 := by kernel_rfl }
open Go.RowKit in
theorem Ytefghgoeppfpfaa.clone_str (s : ByteArray) (w : World) (hs : s.size ≤ 200000000000000) : Calls Try.prog 23 #[.string s] w fun e w' => e = .returned (.string s) ∧ Below w.heap.size w w' := by
  have H := Lib.hid (Any.stringslite_Clone Ytefghgoeppfpfaa.clone316 s w (by omega))
  go_enter Try.func23, Try.ntmps23
  go_wp2_with fail
  refine Calls.mono (show Calls Try.prog 25 #[.string s] w _ from H.out) ?_
  rintro _ W ⟨rfl, hb⟩
  have HB := Lib.hid hb
  clear hb H
  go_wp2
  go_ret
  exact ⟨rfl, HB.out⟩
end Go.Proofs
