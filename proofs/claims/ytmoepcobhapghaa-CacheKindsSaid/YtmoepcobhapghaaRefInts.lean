/-
  What the document's Ints does of two slices of the same numbers.
-/
import Derived.Test.YtmoepcobhapghaaRefTab
import Derived.Test.YtmoepcobhapghaaKeyList
namespace Go.Proofs.Ytmoepcobhapghaa.Cache
open Go Go.RowKit Go.Proofs.Ytmoepcobhapghaa.Aid

theorem OwnV.list {w : World} {base : Nat} {e : TypeId} {v : Value} {xs : List Value} (h : OwnV w base e v xs) (f : Nat → Value) (hf : ∀ i, i < xs.length → xs[i]? = some (f i)) : ListAt w v xs.length f := by
  obtain ⟨A, c, hv, hc, hr⟩ := h.shape
  refine ⟨A, c, hv, hc, fun h0 => ?_⟩
  obtain ⟨g, hA, _, _, _, hi⟩ := hr (by omega)
  exact ⟨g, 0, hA, fun i hin => by rw [Nat.zero_add]; exact hi i _ (hf i hin)⟩
set_option maxHeartbeats 1000000 in
theorem refInts_same (n : Nat) (f : Nat → Int) (v u : Value) (w : World) (hv : ListAt w v n (fun i => .int .i64 (f i))) (hu : ListAt w u n (fun i => .int .i64 (f i))) (hn : n ≤ 1000000) :
    Calls Try.prog 15 #[v, u] w fun x w' => x = .returned (.bool true) ∧ Below w.heap.size w w' := by
  obtain ⟨A, c, rfl, hc, hr⟩ := hv
  obtain ⟨A', c', rfl, hc', hr'⟩ := hu
  have HR := Lib.hid hr
  have HR' := Lib.hid hr'
  clear hr hr'
  go_enter Try.func15, Try.ntmps15
  go_wp2
  go_loopw [5] (fun i wr => ∃ j : Nat, j ≤ n ∧ i = .int .i64 (j : Int) ∧ Hid (Below w.heap.size w wr)) (fun i _ => n - (intOf i).toNat)
  case atStart => exact ⟨0, by omega, rfl, Below.refl _ _⟩
  case round =>
    obtain ⟨j, hj, rfl, hb⟩ := hrel
    by_cases hlt : j < n
    · obtain ⟨g, o, rfl, hi⟩ := HR.out (by omega)
      obtain ⟨g', o', rfl, hi'⟩ := HR'.out (by omega)
      have d0 := (hb.out.cell (p := ⟨g, o + j, none⟩) (block_lt_of_cell (hi j hlt))).trans (hi j hlt)
      have d1 := (hb.out.cell (p := ⟨g', o' + j, none⟩) (block_lt_of_cell (hi' j hlt))).trans (hi' j hlt)
      have q0 : (0 : Int) ≤ (j : Int) := by omega
      have q1 : (j : Int) < (n : Int) := by omega
      generalize f j = z at *
      clear hi hi' HR HR'
      have HB : Hid (Below w.heap.size w wr.drew) := hb.out.drew
      clear hb
      go_wp2_with fail
      refine region_still (by kernel_rfl) (by kernel_rfl) ?_
      repeat still_step
      refine wpStill_nil ?_
      clear d0 d1
      generalize wr.drew = W at *
      go_wp2
      exact ⟨⟨j + 1, by omega, congrArg (Value.int .i64) (by omega), HB⟩, by simp [intOf]; omega⟩
    · obtain rfl : j = n := by omega
      clear HR HR'
      go_wp2
      go_ret
      exact ⟨rfl, hb.out⟩
end Go.Proofs.Ytmoepcobhapghaa.Cache
