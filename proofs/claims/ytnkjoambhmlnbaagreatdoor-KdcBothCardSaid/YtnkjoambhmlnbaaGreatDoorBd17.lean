/-
  bytes.Clone.
-/
import Derived.Test.YtnkjoambhmlnbaaGreatDoorBd07
import Derived.Test.YtnkjoambhmlnbaaGreatDoorProg
import Derived.Lib.SliceRun
import Derived.WalkSmall
import Derived.WalkMore
import Derived.OwnWalk
namespace Go.Proofs.YtnkjoambhmlnbaaGreatDoor.Field
open Go Go.RowKit Go.Proofs.YtnkjoambhmlnbaaGreatDoor.Aid

set_option maxRecDepth 100000 in
set_option maxHeartbeats 1000000 in
theorem clone_any (A : Addr) (c n : Nat) (E : Nat → BitVec 8) (w : World) (hn : n ≤ 1000000) (h : SliceOf w w.heap.size n E (.slice (some A) n c)) :
    Calls Tryz.prog 51 #[.slice (some A) n c] w fun x w' => ∃ v, x = .returned v ∧ Own w' w.heap.size n E v ∧ Below w.heap.size w w' := by
  have qT : ∀ (w : World) (a : Option Addr) (n c n' c' : Nat), (binOp .eql 28 (.slice a n c) (.slice none n' c')).run Tryz.prog w = .ok (.bool a.isNone) w := fun w a n c n' c' => Lib.run_eql_slice_nil w _ _ a n c n' c' Tryz.underlying28
  have HE1 := Lib.hid (own_empty8 w (fun _ => 0))
  have HS1 := Lib.hid (slice_below h ((Below.refl _ w).alloc (Nat.le_refl _) (.cells #[] 5)))
  have HSZ : Hid (w.heap.size ≤ (w.alloc (.cells #[] 5)).heap.size) := Lib.hid (by simp)
  clear h
  go_enter Tryz.func51, Tryz.ntmps51
  go_wp2_with (at_builtin
               refine append_bytes (by rfl) (.tmp 5) (.tmp 6) (by rfl) w.heap.size 0 (fun _ => 0) _ (by rfl) HE1.out w.heap.size n E _ (by rfl) HS1.out (by omega) HSZ.out ?_
               intro r w2 hown2 hg2 hat2
               have HB2 : Hid (Below w.heap.size w w2) := ((Below.refl _ w).alloc (Nat.le_refl _) (.cells #[] 5)).grown hg2 HSZ.out (fun b hb => (HE1.out.lt hb).1)
               have HO2 : Hid (Own w2 w.heap.size n E r) := by have := Own.congr' hown2 (e' := E) (fun j _ => by unfold cat; rw [if_neg (by omega)]; rfl); rw [Nat.zero_add] at this; exact this
               clear hown2 hg2 hat2 HE1 HS1 HSZ)
  go_ret
  exact ⟨_, rfl, HO2.out, HB2.out⟩

/-- Of nil as well. -/
theorem clone_all (n : Nat) (E : Nat → BitVec 8) (v : Value) (w : World) (hn : n ≤ 1000000) (h : SliceOf w w.heap.size n E v) :
    Calls Tryz.prog 51 #[v] w fun x w' => ∃ v, x = .returned v ∧ Own w' w.heap.size n E v ∧ Below w.heap.size w w' := by
  obtain ⟨A, c, rfl, hc, hr⟩ := h
  cases A with
  | some A => exact clone_any A c n E w hn ⟨_, c, rfl, hc, hr⟩
  | none =>
    obtain rfl : n = 0 := by
      by_cases h0 : 0 < n
      · obtain ⟨_, _, h, _⟩ := hr h0; cases h
      · omega
    have qT : ∀ (w : World) (a : Option Addr) (n c n' c' : Nat), (binOp .eql 28 (.slice a n c) (.slice none n' c')).run Tryz.prog w = .ok (.bool a.isNone) w := fun w a n c n' c' => Lib.run_eql_slice_nil w _ _ a n c n' c' Tryz.underlying28
    go_enter Tryz.func51, Tryz.ntmps51
    go_wp2
    go_ret
    exact ⟨_, rfl, World.ownsRow_nil _ _ _ _, Below.refl _ _⟩
end Go.Proofs.YtnkjoambhmlnbaaGreatDoor.Field
