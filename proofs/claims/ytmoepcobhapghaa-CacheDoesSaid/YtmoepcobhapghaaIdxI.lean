/-
  What slices.Index does at []int.
-/
import Derived.Test.YtmoepcobhapghaaCachePlain
import Derived.Test.YtmoepcobhapghaaKeyList
import Derived.Test.YtmoepcobhapghaaProg
import Derived.WalkSmall
import Derived.WalkMore
namespace Go.Proofs.Ytmoepcobhapghaa.Cache
open Go Go.RowKit Go.Proofs.Ytmoepcobhapghaa.Aid

set_option maxHeartbeats 1000000 in
theorem indexI (c : List Int) (k : Int) (v : Value) (w : World) (hv : ListAt w v c.length (fun i => Value.int .i64 (c.getD i 0))) (hn : c.length ≤ 1000000) :
    Calls Try.prog 26 #[v, Value.int .i64 k] w fun x w' => x = .returned (.int .i64 (idxK c k)) ∧ w = w' := by
  obtain ⟨A, cc, rfl, hcap, hr⟩ := hv
  have HC := Lib.hid hr
  obtain ⟨N, hN⟩ : ∃ N, N = c.length := ⟨_, rfl⟩
  rw [← hN] at hcap hn ⊢
  have HN := Lib.hid hN
  clear hr hN
  go_enter Try.func26, Try.ntmps26
  go_wp2
  go_loopw [8] (fun i wr => ∃ j : Nat, j ≤ N ∧ i = .int .i64 (j : Int) ∧ wr = w ∧ Hid (∀ t, t < j → (ht : t < c.length) → c[t] ≠ k)) (fun i _ => N - (intOf i).toNat)
  case atStart => exact ⟨0, by omega, rfl, rfl, fun t ht => by omega⟩
  case round =>
    obtain ⟨j, hj, rfl, rfl, hh⟩ := hrel
    by_cases hlt : j < N
    · obtain ⟨gk, o, rfl, hcell⟩ := HC.out (by have := HN.out; omega)
      have hjl : j < c.length := by have := HN.out; omega
      have d0 := hcell j hjl
      have hx : c.getD j 0 = c[j] := by rw [List.getD_eq_getElem?_getD, List.getElem?_eq_getElem hjl]; rfl
      simp only [hx] at d0
      obtain ⟨y, hy⟩ : ∃ y, y = c[j] := ⟨_, rfl⟩
      rw [← hy] at d0
      have HY := Lib.hid hy
      have q0 : (0 : Int) ≤ (j : Int) := by omega
      have q1 : (j : Int) < (N : Int) := by omega
      clear hcell HC hx hy
      by_cases he : k = y
      · have hr := Lib.hid (idx_found hjl (by rw [← HY.out]; exact he.symm) hh.out)
        have he' : (k == y) = true := by simp [he]
        clear hh he
        go_wp2
        go_ret
        exact ⟨by rw [hr.out] <;> rfl, rfl⟩
      · have hr : Hid (∀ t, t < j + 1 → (ht : t < c.length) → c[t] ≠ k) := Lib.hid (fun t ht htl => by
          by_cases e : t = j
          · subst e; rw [← HY.out]; exact fun h => he h.symm
          · exact hh.out t (by omega) htl)
        have he' : (k == y) = false := by simp [he]
        clear hh he
        go_wp2
        exact ⟨⟨j + 1, by omega, congrArg (Value.int .i64) (by omega), trivial, hr⟩, by simp [intOf]; omega⟩
    · obtain rfl : j = N := by omega
      have hr := Lib.hid (idx_none (c := c) (k := k) (fun t ht => hh.out t (by have := HN.out; omega) ht))
      clear hh HC
      go_wp2
      go_ret
      exact ⟨by rw [hr.out] <;> rfl, rfl⟩
end Go.Proofs.Ytmoepcobhapghaa.Cache
