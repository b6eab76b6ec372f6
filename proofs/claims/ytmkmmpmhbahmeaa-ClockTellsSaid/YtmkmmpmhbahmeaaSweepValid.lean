/-
  What sweep.valid does: the library's search for a span, and the closure that it asks.
-/
import Derived.Test.YtmkmmpmhbahmeaaSpansAt
import Derived.Test.YtmkmmpmhbahmeaaSweepPlain
import Derived.Test.YtmkmmpmhbahmeaaSpanRight
import Derived.Test.YtmkmmpmhbahmeaaRefMay
namespace Go.Proofs.Ytmkmmpmhbahmeaa.Sweep
open Go Go.RowKit Go.Proofs.Ytmkmmpmhbahmeaa.Aid Go.Proofs.Ytmkmmpmhbahmeaa.Span

theorem validFn_any (a b : Int) (w : World) : Calls Try.prog 42 #[sp a b] w fun e w' => e = .returned (.bool (!rightB a b)) ∧ Below w.heap.size w w' := by
  have hr := right_any a b
  generalize rightB a b = u at *
  have HR := Lib.hid hr
  clear hr
  unfold sp at *
  have hb1 : Hid (Below w.heap.size w (w.alloc (.cells #[.int .i64 a, .int .i64 b] 23))) := (Below.refl _ _).alloc (Nat.le_refl _) _
  have hs1 : Hid (w.heap.size ≤ (w.alloc (.cells #[.int .i64 a, .int .i64 b] 23)).heap.size) := hb1.out.size
  go_enter Try.func42, Try.ntmps42
  go_wp2_with (go_at_call 32; refine (HR.out _).mono ?_; rintro _ w1 ⟨rfl, hb2⟩)
  go_ret
  exact ⟨rfl, hb1.out.trans (hb2.mono hs1.out)⟩

/-- The place of the first span that is not right, or -1. -/
def firstBad (e : Nat → Int × Int) (N : Nat) (x : Int) : Prop := (x = -1 ∧ ∀ j, j < N → rightB (e j).1 (e j).2 = true) ∨ (0 ≤ x ∧ ∃ j, j < N ∧ rightB (e j).1 (e j).2 = false)
set_option maxRecDepth 100000 in
theorem index_any (e : Nat → Int × Int) (N : Nat) (hN : N ≤ 100) (v : Value) (w : World) (hv : SpansAt w w.heap.size N e v) :
    Calls Try.prog 46 #[v, .func (.func 42) #[] #[]] w fun x w' => ∃ i, x = .returned (.int .i64 i) ∧ firstBad e N i ∧ Below w.heap.size w w' := by
  obtain ⟨A, c, rfl, hv⟩ := hv
  have HV := Lib.hid hv
  clear hv
  go_enter Try.func46, Try.ntmps46
  go_wp2
  go_loopw [5, 8] (fun _ i wr => ∃ k : Nat, k ≤ N ∧ i = .int .i64 (k : Int) ∧ Hid (∀ j, j < k → rightB (e j).1 (e j).2 = true) ∧ Hid (Below w.heap.size w wr)) (fun _ i _ => N - (intOf i).toNat)
  case atStart => exact ⟨0, by omega, rfl, fun j hj => by omega, Below.refl _ _⟩
  case round =>
    obtain ⟨k, hk, rfl, hall, hb⟩ := hrel
    by_cases hlt : k < N
    · obtain ⟨b, o, rfl, hB, hc⟩ := HV.out (by omega)
      have c0 := (hb.out.cell (p := ⟨b, o + k * 2, none⟩) hB).trans (hc k hlt).1
      have c1 := (hb.out.cell (p := ⟨b, o + k * 2 + 1, none⟩) hB).trans (hc k hlt).2
      have q0 : (0 : Int) ≤ (k : Int) := by omega
      have q1 : (k : Int) < (N : Int) := by omega
      have hr := validFn_any (e k).1 (e k).2
      obtain ⟨u, hu⟩ : ∃ u, u = rightB (e k).1 (e k).2 := ⟨_, rfl⟩
      rw [← hu] at hr
      have HR := Lib.hid hr
      clear hc HV hr
      unfold sp at HR
      have hs1 : Hid (w.heap.size ≤ wr.heap.size) := hb.out.size
      rcases u with _ | _
      · have hf : Hid (firstBad e N (k : Int)) := .inr ⟨by omega, k, hlt, hu.symm⟩
        clear hu hall
        go_wp2_with (go_at_call 42; refine (HR.out _).mono ?_; rintro _ w1 ⟨rfl, hb1⟩)
        have hb2 := hb.out.trans (hb1.mono hs1.out)
        go_ret
        exact ⟨_, rfl, hf.out, hb2⟩
      · have hall' : Hid (∀ j, j < k + 1 → rightB (e j).1 (e j).2 = true) := fun j hj => by
          by_cases e1 : j = k
          · subst e1; exact hu.symm
          · exact hall.out j (by omega)
        clear hu hall
        go_wp2_with (go_at_call 42; refine (HR.out _).mono ?_; rintro _ w1 ⟨rfl, hb1⟩)
        have hb2 : Hid (Below w.heap.size w w1) := hb.out.trans (hb1.mono hs1.out)
        exact ⟨⟨k + 1, by omega, vI (by omega), hall', hb2⟩, by simp [intOf]; omega⟩
    · obtain rfl : k = N := by omega
      have hbo := hb.out
      have hf : Hid (firstBad e k (-1)) := .inl ⟨rfl, hall.out⟩
      clear HV hb hall
      go_wp2
      go_ret
      exact ⟨_, rfl, hf.out, hbo⟩
theorem contains_any (e : Nat → Int × Int) (N : Nat) (hN : N ≤ 100) (v : Value) (w : World) (hv : SpansAt w w.heap.size N e v) :
    Calls Try.prog 41 #[v, .func (.func 42) #[] #[]] w fun x w' => ∃ u : Bool, x = .returned (.bool u) ∧ (u = true ↔ ∃ j, j < N ∧ rightB (e j).1 (e j).2 = false) ∧ Below w.heap.size w w' := by
  have H := Lib.hid (index_any e N hN v w hv)
  obtain ⟨A, c, rfl, hv⟩ := hv
  clear hv
  go_enter Try.func41, Try.ntmps41
  go_wp2_with (go_at_call 46; refine H.out.mono ?_; rintro _ w1 ⟨i, rfl, hf, hb1⟩)
  go_ret
  refine ⟨_, rfl, ?_, hb1⟩
  rw [decide_eq_true_iff]
  rcases hf with ⟨rfl, h⟩ | ⟨h0, h⟩
  · exact ⟨fun h1 => by omega, fun ⟨j, hj, h1⟩ => by rw [h j hj] at h1; cases h1⟩
  · exact ⟨fun _ => h, fun _ => h0⟩
set_option maxRecDepth 100000 in
theorem validB_any (e : Nat → Int × Int) (N : Nat) (hN : N ≤ 100) (v : Value) (w : World) (hv : SpansAt w w.heap.size N e v) :
    Calls Try.prog 34 #[v] w fun x w' => x = .returned (.bool (validB e N)) ∧ Below w.heap.size w w' := by
  have H := Lib.hid (contains_any e N hN v w hv)
  obtain ⟨A, c, rfl, hv⟩ := hv
  clear hv
  by_cases h : 1 ≤ N ∧ N ≤ 64
  · have q0 : ¬ (N : Int) = 0 := by omega
    have q1 : ¬ (64 : Int) < (N : Int) := by omega
    go_enter Try.func34, Try.ntmps34
    go_wp2_with (go_at_call 41; refine H.out.mono ?_; rintro _ w1 ⟨u, rfl, hf, hb1⟩)
    go_ret
    refine ⟨retB ?_, hb1⟩
    rcases u with _ | _
    · rw [valid_yes e N h.1 h.2 (fun j hj => ?_)]; rfl
      cases hh : rightB (e j).1 (e j).2
      · exact absurd (hf.2 ⟨j, hj, hh⟩) (by simp)
      · rfl
    · obtain ⟨j, hj, hh⟩ := hf.1 rfl
      rw [valid_no e N j hj hh]; rfl
  · have hf := valid_len e N h
    have q1 : ((N : Int) = 0) ∨ (64 : Int) < (N : Int) := by omega
    clear H
    rcases q1 with q1 | q1
    · go_enter Try.func34, Try.ntmps34
      go_wp2
      go_ret
      exact ⟨retB hf.symm, Below.refl _ _⟩
    · have q2 : ¬ (N : Int) = 0 := by omega
      go_enter Try.func34, Try.ntmps34
      go_wp2
      go_ret
      exact ⟨retB hf.symm, Below.refl _ _⟩
end Go.Proofs.Ytmkmmpmhbahmeaa.Sweep
