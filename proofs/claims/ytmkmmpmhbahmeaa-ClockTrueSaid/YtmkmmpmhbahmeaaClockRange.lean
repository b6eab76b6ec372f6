/-
  What clock.inRange does.
-/
import Derived.Test.YtmkmmpmhbahmeaaClockLimited
import Derived.Test.YtmkmmpmhbahmeaaMem
namespace Go.Proofs.Ytmkmmpmhbahmeaa.Clock
open Go Go.RowKit Go.Proofs.Ytmkmmpmhbahmeaa.Aid Go.Proofs.Ytmkmmpmhbahmeaa.Span Go.Proofs.Ytmkmmpmhbahmeaa.Sweep

set_option maxRecDepth 100000 in
theorem run_eql_ck (p q : Int) (on : Bool) (t x lo hi : Int) (W : World) : (binOp .eql 25 (ck p on t lo hi) (ck q on x lo hi)).run Try.prog W = .ok (.bool (decide (p = q ∧ t = x))) W := by
  unfold ck
  by_cases h0 : p = q <;> by_cases h1 : t = x <;> rcases on with _ | _ <;> go_simp
theorem same_ck (p t : Int) : decide (p = pdZ p ∧ t = rdZ t) = (ppmB p && readB t) := by
  unfold pdZ rdZ ppmB readB
  rw [← Bool.decide_and]
  exact decide_eq_decide.2 ⟨fun h => by omega, fun h => by omega⟩
set_option maxRecDepth 100000 in
set_option maxHeartbeats 1000000 in
theorem inRange_any (p : Int) (on : Bool) (t lo hi : Int) (w : World) : Calls Try.prog 22 #[ck p on t lo hi] w fun x w' => x = .returned (.bool (ppmB p && readB t && rightB lo hi)) ∧ Below w.heap.size w w' := by
  have e1 := fun W => run_eql_ck p (pdZ p) on t (rdZ t) lo hi W
  have h0 := limitedC_any p on t lo hi
  have h1 := right_any lo hi
  simp only [same_ck] at e1
  generalize (ppmB p && readB t) = u at *
  generalize rightB lo hi = v at *
  generalize pdZ p = q at *
  generalize rdZ t = x at *
  unfold ck at *
  unfold sp at h1
  have H0 := Lib.hid h0
  have H1 := Lib.hid h1
  clear h0 h1
  rcases u with _ | _
  all_goals
    go_enter Try.func22, Try.ntmps22
    go_wp2
    have M := (Mem.nil w).five (.int .i64 p) (.bool on) (.int .i64 t) (.int .i64 lo) (.int .i64 hi) 25 w.heap.size rfl
    generalize w.alloc (.cells #[.int .i64 p, .bool on, .int .i64 t, .int .i64 lo, .int .i64 hi] 25) = w1 at *
    have hb0 := M.below
    have c0 := M.at_ 0 rfl
    have c1 := M.at_ 1 rfl
    have c2 := M.at_ 2 rfl
    have c3 := M.at_ 3 rfl
    have c4 := M.at_ 4 rfl
    have hz := M.lt 0 rfl
    clear M
    have F1 := after_cell w1
    refine region_after (by kernel_rfl) (by kernel_rfl) ?_
    repeat (go_big_quiet_step (first
      | (go_at_call 31; exact after_call H0.out)
      | (go_at_call 32; exact after_call H1.out)))
    refine wpQuiet_nil ?_
    rintro _ ⟨y, rfl⟩
    have hb1 := hb0.trans ((after_below w1 y).mono hb0.size)
    clear F1 H0 H1 e1
    generalize after w1 y = w2 at *
    go_wp2
    go_ret
    exact ⟨rfl, hb1⟩
end Go.Proofs.Ytmkmmpmhbahmeaa.Clock
