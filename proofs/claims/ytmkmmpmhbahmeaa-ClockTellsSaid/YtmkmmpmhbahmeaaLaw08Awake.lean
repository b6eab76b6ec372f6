/-
  bartizanlaw08.awake, by what the functions of package clock do: true.
-/
import Derived.Test.YtmkmmpmhbahmeaaClockHas
import Derived.Test.YtmkmmpmhbahmeaaMem
import Derived.Test.YtmkmmpmhbahmeaaAfter
namespace Go.Proofs.Ytmkmmpmhbahmeaa.Clock
open Go Go.RowKit Go.Proofs.Ytmkmmpmhbahmeaa.Aid Go.Proofs.Ytmkmmpmhbahmeaa.Span Go.Proofs.Ytmkmmpmhbahmeaa.Sweep

def e1 (_ : Nat) : Int × Int := (10, 24)
theorem e1_set : setC 9 e1 1 0 = 0 ∧ setV 1000 9 e1 1 0 = ck 1000 true 9 10 24 := by
  have h := (fuse_some (e := e1) (n := 1) (L := 0) (lo := 10) (hi := 24) (by decide) ⟨fun h => (by cases h), fun _ => ⟨by decide, by decide⟩⟩ ⟨by decide, by decide⟩).eq
  have h1 : setC 9 e1 1 0 = 0 := by unfold setC; rw [← h.2.2]; rfl
  refine ⟨h1, ?_⟩
  unfold setV
  rw [if_pos h1, ← h.1, ← h.2.1]
set_option maxRecDepth 100000 in
set_option maxHeartbeats 2000000 in
theorem awake_any (C : ClockHas) (w : World) : Calls Try.prog 5 #[] w fun x w' => x = .returned (.bool true) ∧ Below w.heap.size w w' := by
  have f1 := C.sample 10 20 5 9 0
  have f2 := C.new 1000
  have f3 := C.now 1000 false 0 0 0 9
  have f4 := fun W hW => C.set 1000 false 0 0 0 9 e1 1 (by omega) 0 (.slice (some ⟨W, 0, none⟩) 1 1) hW (by decide)
  have f5 := C.now 1000 true 9 10 24 1009
  have f6 := C.off 1000 true 9 10 24
  rw [show sampleLo 10 20 5 9 0 = 10 by decide, show sampleHi 10 20 5 9 0 = 24 by decide, show sampleC 10 20 5 9 0 = 0 by decide] at f1
  rw [show newP 1000 = 1000 by decide, show newC 1000 = 0 by decide] at f2
  rw [show nowLo 1000 false 0 0 0 9 = 0 by decide, show nowHi 1000 false 0 0 0 9 = 0 by decide, show nowC 1000 false 0 0 0 9 = 11 by decide] at f3
  rw [e1_set.1, e1_set.2] at f4
  rw [show nowLo 1000 true 9 10 24 1009 = 1009 by decide, show nowHi 1000 true 9 10 24 1009 = 1025 by decide, show nowC 1000 true 9 10 24 1009 = 0 by decide] at f5
  unfold ck sp at *
  have F1 := Lib.hid f1
  have F2 := Lib.hid f2
  have F3 := Lib.hid f3
  have F4 := Lib.hid f4
  have F5 := Lib.hid f5
  have F6 := Lib.hid f6
  have M := Mem.nil w
  clear f1 f2 f3 f4 f5 f6
  go_enter Try.func5, Try.ntmps5
  go_wp2_with fail
  refine (F1.out _).mono ?_
  rintro _ u1 ⟨rfl, hb⟩
  replace M := (M.step hb).two (.int .i64 10) (.int .i64 24) 23 u1.heap.size rfl
  clear hb
  go_wp2_with fail
  refine (F2.out _).mono ?_
  rintro _ u2 ⟨rfl, hb⟩
  replace M := (M.step hb).five (.int .i64 1000) (.bool false) (.int .i64 0) (.int .i64 0) (.int .i64 0) 25 u2.heap.size rfl
  clear hb
  go_wp2_with fail
  refine (F3.out _).mono ?_
  rintro _ u3 ⟨rfl, hb⟩
  replace M := (M.step hb).two (.int .i64 0) (.int .i64 0) 23 u3.heap.size rfl
  clear hb
  have x0 := M.at_ 2 rfl
  have x1 := M.at_ 3 rfl
  have x2 := M.at_ 4 rfl
  have x3 := M.at_ 5 rfl
  have x4 := M.at_ 6 rfl
  have x5 := M.at_ 7 rfl
  have x6 := M.at_ 8 rfl
  go_wp2_with fail
  replace M := M.two (.int .i64 10) (.int .i64 24) 23 (u3.heap.size + 1) (by simp)
  have S : SpansAt ((u3.alloc (.cells #[.int .i64 0, .int .i64 0] 23)).alloc (.cells #[.int .i64 10, .int .i64 24] 23)) ((u3.alloc (.cells #[.int .i64 0, .int .i64 0] 23)).alloc (.cells #[.int .i64 10, .int .i64 24] 23)).heap.size 1 e1 (.slice (some ⟨u3.heap.size + 1, 0, none⟩) 1 1) :=
    ⟨_, _, rfl, fun _ => ⟨u3.heap.size + 1, 0, rfl, M.lt 0 rfl, fun i hi => by
      obtain rfl : i = 0 := by omega
      exact ⟨M.at_ 0 rfl, M.at_ 1 rfl⟩⟩⟩
  clear x0 x1 x2 x3 x4 x5 x6
  refine (F4.out _ _ S).mono ?_
  rintro _ u4 ⟨rfl, hb⟩
  replace M := (M.step hb).five (.int .i64 1000) (.bool true) (.int .i64 9) (.int .i64 10) (.int .i64 24) 25 u4.heap.size rfl
  clear hb S
  go_wp2_with fail
  refine (F5.out _).mono ?_
  rintro _ u5 ⟨rfl, hb⟩
  replace M := (M.step hb).two (.int .i64 1009) (.int .i64 1025) 23 u5.heap.size rfl
  clear hb F1 F2 F3 F4 F5
  go_wp2
  generalize u5.alloc (.cells #[.int .i64 1009, .int .i64 1025] 23) = U at *
  have x0 := M.at_ 0 rfl
  have x1 := M.at_ 1 rfl
  have y0 := M.at_ 2 rfl
  have y1 := M.at_ 3 rfl
  have y2 := M.at_ 4 rfl
  have y3 := M.at_ 5 rfl
  have y4 := M.at_ 6 rfl
  have z0 := M.at_ 11 rfl
  have z1 := M.at_ 12 rfl
  have z2 := M.at_ 13 rfl
  have z3 := M.at_ 14 rfl
  have z4 := M.at_ 15 rfl
  have v0 := M.at_ 16 rfl
  have v1 := M.at_ 17 rfl
  have l0 := M.lt 0 rfl
  have l2 := M.lt 2 rfl
  have l11 := M.lt 11 rfl
  have l16 := M.lt 16 rfl
  have hB := M.below
  have FC := after_cell U
  clear M
  refine region_after (by kernel_rfl) (by kernel_rfl) ?_
  repeat (go_big_quiet_step ((go_at_call 15; exact after_call F6.out)))
  refine wpQuiet_nil ?_
  rintro _ ⟨x, rfl⟩
  have hb1 := hB.trans ((after_below U x).mono hB.size)
  clear FC F6 x0 x1 y0 y1 y2 y3 y4 z0 z1 z2 z3 z4 v0 v1 l0 l2 l11 l16 hB
  generalize after U x = uz at *
  go_wp2
  go_ret
  exact ⟨rfl, hb1⟩
end Go.Proofs.Ytmkmmpmhbahmeaa.Clock
