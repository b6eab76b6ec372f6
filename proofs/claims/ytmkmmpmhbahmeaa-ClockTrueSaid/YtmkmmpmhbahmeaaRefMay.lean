/-
  What the document's test of a list of spans does.
-/
import Derived.Test.YtmkmmpmhbahmeaaSpansAt
import Derived.Test.YtmkmmpmhbahmeaaSweepPlain
import Derived.Test.YtmkmmpmhbahmeaaSpanRefRight
namespace Go.Proofs.Ytmkmmpmhbahmeaa.Sweep
open Go Go.RowKit Go.Proofs.Ytmkmmpmhbahmeaa.Aid Go.Proofs.Ytmkmmpmhbahmeaa.Span

theorem valid_no (e : Nat → Int × Int) (n i : Nat) (hi : i < n) (h : rightB (e i).1 (e i).2 = false) : validB e n = false := by
  unfold validB
  rw [decide_eq_false_iff_not]
  intro hh
  rw [hh.2.2 i hi] at h
  cases h
theorem valid_len (e : Nat → Int × Int) (n : Nat) (h : ¬ (1 ≤ n ∧ n ≤ 64)) : validB e n = false := by
  unfold validB
  rw [decide_eq_false_iff_not]
  exact fun hh => h ⟨hh.1, hh.2.1⟩
theorem valid_yes (e : Nat → Int × Int) (n : Nat) (h1 : 1 ≤ n) (h2 : n ≤ 64) (h : ∀ i, i < n → rightB (e i).1 (e i).2 = true) : validB e n = true := by
  unfold validB
  rw [decide_eq_true_iff]
  exact ⟨h1, h2, h⟩

set_option maxRecDepth 100000 in
theorem refMay7_any (e : Nat → Int × Int) (N : Nat) (hN : N ≤ 100) (v : Value) (w : World) (hv : SpansAt w w.heap.size N e v) :
    Calls Try.prog 38 #[v] w fun x w' => x = .returned (.bool (validB e N)) ∧ Below w.heap.size w w' := by
  obtain ⟨A, c, rfl, hv⟩ := hv
  have HV := Lib.hid hv
  clear hv
  go_enter Try.func38, Try.ntmps38
  go_wp2
  go_loopw [3] (fun i wr => ∃ k : Nat, k ≤ N ∧ k ≤ 65 ∧ i = .int .i64 (k : Int) ∧ Hid (∀ j, j < k → rightB (e j).1 (e j).2 = true) ∧ Hid (Below w.heap.size w wr)) (fun i _ => N - (intOf i).toNat)
  case atStart => exact ⟨0, by omega, by omega, rfl, fun j hj => by omega, Below.refl _ _⟩
  case round =>
    obtain ⟨k, hk, hk65, rfl, hall, hb⟩ := hrel
    by_cases hlt : k < N
    · by_cases h65 : k < 65
      · obtain ⟨b, o, rfl, hB, hc⟩ := HV.out (by omega)
        have c0 := (hb.out.cell (p := ⟨b, o + k * 2, none⟩) hB).trans (hc k hlt).1
        have c1 := (hb.out.cell (p := ⟨b, o + k * 2 + 1, none⟩) hB).trans (hc k hlt).2
        have q0 : (0 : Int) ≤ (k : Int) := by omega
        have q1 : (k : Int) < (N : Int) := by omega
        have q2 : (k : Int) < 65 := by omega
        have hr := refRight_any (e k).1 (e k).2
        obtain ⟨u, hu⟩ : ∃ u, u = rightB (e k).1 (e k).2 := ⟨_, rfl⟩
        rw [← hu] at hr
        have HR := Lib.hid hr
        clear hc HV hr
        unfold sp at HR
        rcases u with _ | _
        · have hf : Hid (validB e N = false) := valid_no e N k hlt hu.symm
          clear hu hall
          go_wp2_with (go_at_call 17; refine (HR.out _).mono ?_; rintro _ w1 ⟨rfl, hb1⟩)
          have hb2 := hb.out.trans (hb1.mono hb.out.size)
          go_ret
          exact ⟨retB hf.out.symm, hb2⟩
        · have hall' : Hid (∀ j, j < k + 1 → rightB (e j).1 (e j).2 = true) := fun j hj => by
            by_cases e1 : j = k
            · subst e1; exact hu.symm
            · exact hall.out j (by omega)
          clear hu hall
          go_wp2_with (go_at_call 17; refine (HR.out _).mono ?_; rintro _ w1 ⟨rfl, hb1⟩)
          have hb2 : Hid (Below w.heap.size w w1) := hb.out.trans (hb1.mono hb.out.size)
          exact ⟨⟨k + 1, by omega, by omega, vI (by omega), hall', hb2⟩, by simp [intOf]; omega⟩
      · have hf : Hid (validB e N = false) := valid_len e N (by omega)
        have q0 : (1 : Int) ≤ (N : Int) := by omega
        have q2 : ¬ (N : Int) ≤ 64 := by omega
        have q3 : ¬ (k : Int) < 65 := by omega
        have q1 : (k : Int) < (N : Int) := by omega
        have hbo := hb.out
        clear HV hb hall
        go_wp2
        go_ret
        exact ⟨retB hf.out.symm, hbo⟩
    · obtain rfl : k = N := by omega
      have hbo := hb.out
      have hv : Hid (validB e k = decide (1 ≤ k ∧ k ≤ 64)) := by
        by_cases h : 1 ≤ k ∧ k ≤ 64
        · rw [decide_eq_true h]; exact valid_yes e k h.1 h.2 hall.out
        · rw [decide_eq_false h]; exact valid_len e k h
      clear HV hb hall
      by_cases h1 : 1 ≤ k <;> by_cases h2 : k ≤ 64
      all_goals
        have q1 : decide ((1 : Int) ≤ (k : Int)) = decide (1 ≤ k) := by rw [decide_eq_decide]; omega
        have q2 : decide ((k : Int) ≤ 64) = decide (k ≤ 64) := by rw [decide_eq_decide]; omega
        go_wp2
        go_ret
        exact ⟨retB (by rw [hv.out]; simp [*]), hbo⟩
end Go.Proofs.Ytmkmmpmhbahmeaa.Sweep
