/-
  bartizanlaw07.awake, by what the functions of package sweep do: true.
-/
import Derived.Test.YtlkifbcgcmgpcaaSweepHas
import Derived.Test.YtlkifbcgcmgpcaaMem
import Derived.Test.YtlkifbcgcmgpcaaSpanEql
namespace Go.Proofs.Ytlkifbcgcmgpcaa.Sweep
open Go Go.RowKit Go.Proofs.Ytlkifbcgcmgpcaa.Aid Go.Proofs.Ytlkifbcgcmgpcaa.Span

/-- Spans and cells that a walk still wants, and whose memory was there first stays. -/
def Held7 (w : World) (N : Nat) (e : Nat → Int × Int) (v : Value) (l : List (Nat × Nat × Value)) (W : World) : Prop := SpansAt W W.heap.size N e v ∧ Mem w l W
theorem Held7.step {w W W' : World} {N : Nat} {e : Nat → Int × Int} {v : Value} {l : List (Nat × Nat × Value)} (h : Held7 w N e v l W) (hb : Below W.heap.size W W') : Held7 w N e v l W' :=
  ⟨(h.1.below hb).mono hb.size, h.2.step hb⟩
theorem Held7.two {w W : World} {N : Nat} {e : Nat → Int × Int} {vl : Value} {l : List (Nat × Nat × Value)} (h : Held7 w N e vl l W) (u v : Value) (t : TypeId) (g : Nat) (hg : W.heap.size = g) : Held7 w N e vl ((g, 0, u) :: (g, 1, v) :: l) (W.alloc (.cells #[u, v] t)) :=
  ⟨(h.step ((Below.refl _ _).alloc (Nat.le_refl _) _)).1, h.2.two u v t g hg⟩

set_option maxRecDepth 100000 in
set_option maxHeartbeats 2000000 in
theorem awake_any (C : SweepHas) (w : World) : Calls Try.prog 7 #[] w fun x w' => x = .returned (.bool true) ∧ Below w.heap.size w w' := by
  have h0 : ∀ (W : World), SpansAt (W.alloc (.cells #[.int .i64 4, .int .i64 9, .int .i64 1, .int .i64 5, .int .i64 20, .int .i64 30] 25)) (W.heap.size + 1) 3 e3 (.slice (some ⟨W.heap.size, 0, none⟩) 3 3) := fun W =>
    ⟨_, _, rfl, fun _ => ⟨W.heap.size, 0, rfl, by omega, fun i hi => by
      match i, hi with
      | 0, _ => exact ⟨by go_simp; rfl, by go_simp; rfl⟩
      | 1, _ => exact ⟨by go_simp; rfl, by go_simp; rfl⟩
      | 2, _ => exact ⟨by go_simp; rfl, by go_simp; rfl⟩⟩⟩
  have h1 := e3_fuse1
  have h2 := e3_fuse0
  have h3 := e3_fuse3
  have h4 := e3_most
  have f1 : ∀ (W : World), SpansAt W W.heap.size 3 e3 (.slice (some ⟨w.heap.size, 0, none⟩) 3 3) → Calls Try.prog 8 #[.slice (some ⟨w.heap.size, 0, none⟩) 3 3, .int .i64 1] W fun x w' => x = .returned (.tuple #[.agg #[.int .i64 4, .int .i64 5], .int .i64 0]) ∧ Below W.heap.size W w' := fun W hW => by
    have := C.fuse e3 3 (by omega) 1 _ W hW
    rw [h1.1, h1.2.1, h1.2.2] at this
    exact this
  have f2 : ∀ (W : World), SpansAt W W.heap.size 3 e3 (.slice (some ⟨w.heap.size, 0, none⟩) 3 3) → Calls Try.prog 8 #[.slice (some ⟨w.heap.size, 0, none⟩) 3 3, .int .i64 0] W fun x w' => x = .returned (.tuple #[.agg #[.int .i64 0, .int .i64 0], .int .i64 11]) ∧ Below W.heap.size W w' := fun W hW => by
    have := C.fuse e3 3 (by omega) 0 _ W hW
    rw [h2.1, h2.2.1, h2.2.2] at this
    exact this
  have f3 : ∀ (W : World), SpansAt W W.heap.size 3 e3 (.slice (some ⟨w.heap.size, 0, none⟩) 3 3) → Calls Try.prog 8 #[.slice (some ⟨w.heap.size, 0, none⟩) 3 3, .int .i64 3] W fun x w' => x = .returned (.tuple #[.agg #[.int .i64 0, .int .i64 0], .int .i64 1]) ∧ Below W.heap.size W w' := fun W hW => by
    have := C.fuse e3 3 (by omega) 3 _ W hW
    rw [h3.1, h3.2.1, h3.2.2] at this
    exact this
  have f4 : ∀ (W : World), SpansAt W W.heap.size 3 e3 (.slice (some ⟨w.heap.size, 0, none⟩) 3 3) → Calls Try.prog 10 #[.slice (some ⟨w.heap.size, 0, none⟩) 3 3] W fun x w' => x = .returned (.tuple #[.int .i64 4, .int .i64 2, .int .i64 0]) ∧ Below W.heap.size W w' := fun W hW => by
    have := C.most e3 3 (by omega) _ W hW
    rw [h4.1, h4.2.1, h4.2.2] at this
    exact this
  have f5 : ∀ (W : World), SpansAt W W.heap.size 3 e3 (.slice (some ⟨w.heap.size, 0, none⟩) 3 3) → Calls Try.prog 12 #[.slice (some ⟨w.heap.size, 0, none⟩) 3 3, .int .i64 25] W fun x w' => x = .returned (.int .i64 1) ∧ Below W.heap.size W w' := fun W hW => by
    have := C.votes e3 3 (by omega) 25 _ W hW
    rw [e3_votes] at this
    exact this
  have F1 := Lib.hid f1
  have F2 := Lib.hid f2
  have F3 := Lib.hid f3
  have F4 := Lib.hid f4
  have F5 := Lib.hid f5
  have S0 := h0 w
  have M : Held7 w 3 e3 (.slice (some ⟨w.heap.size, 0, none⟩) 3 3) [] (w.alloc (.cells #[.int .i64 4, .int .i64 9, .int .i64 1, .int .i64 5, .int .i64 20, .int .i64 30] 25)) := ⟨by rw [World.size_alloc]; exact S0, (Mem.nil w).step ((Below.refl _ _).alloc (Nat.le_refl _) _)⟩
  clear h0 h1 h2 h3 h4 f1 f2 f3 f4 f5 S0
  go_enter Try.func7, Try.ntmps7
  go_wp2_with fail
  refine (F1.out _ M.1).mono ?_
  rintro _ u1 ⟨rfl, hb⟩
  replace M := (M.step hb).two (.int .i64 4) (.int .i64 5) 25 u1.heap.size rfl
  clear hb
  go_wp2_with fail
  refine (F2.out _ M.1).mono ?_
  rintro _ u2 ⟨rfl, hb⟩
  replace M := (M.step hb).two (.int .i64 0) (.int .i64 0) 25 u2.heap.size rfl
  clear hb
  go_wp2_with fail
  refine (F3.out _ M.1).mono ?_
  rintro _ u3 ⟨rfl, hb⟩
  replace M := (M.step hb).two (.int .i64 0) (.int .i64 0) 25 u3.heap.size rfl
  clear hb
  go_wp2_with fail
  refine (F4.out _ M.1).mono ?_
  rintro _ u4 ⟨rfl, hb⟩
  replace M := M.step hb
  clear hb
  have x0 := M.2.at_ 4 rfl
  have x1 := M.2.at_ 5 rfl
  go_wp2_with fail
  refine (F5.out _ M.1).mono ?_
  rintro _ u5 ⟨rfl, hb⟩
  replace M := M.step hb
  clear hb
  go_wp2
  go_ret
  exact ⟨rfl, M.2.below⟩
end Go.Proofs.Ytlkifbcgcmgpcaa.Sweep
