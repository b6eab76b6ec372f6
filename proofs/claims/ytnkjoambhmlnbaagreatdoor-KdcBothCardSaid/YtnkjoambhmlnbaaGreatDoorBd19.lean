/-
  What the document's Name does.
-/
import Derived.Test.YtnkjoambhmlnbaaGreatDoorProg
import Derived.Test.YtnkjoambhmlnbaaGreatDoorBd01
import Derived.WalkSmall
import Derived.WalkMore
namespace Go.Proofs.YtnkjoambhmlnbaaGreatDoor.Field
open Go Go.RowKit Go.Proofs.YtnkjoambhmlnbaaGreatDoor.Aid

theorem name_no {s : ByteArray} (k : Nat) (h : k < s.size) (hc : charB s[k].toNat = false) : nameB s = false := decide_eq_false (fun hh => by have := hh.2.2 k h; rw [hc] at this; cases this)
theorem char_no {x : Nat} (h : x < 48 ∨ (57 < x ∧ x < 97) ∨ 122 < x) : charB x = false := by
  unfold charB
  rw [decide_eq_false (by omega), decide_eq_false (by omega)]
  rfl
theorem char_yes {x : Nat} (h : (48 ≤ x ∧ x ≤ 57) ∨ (97 ≤ x ∧ x ≤ 122)) : charB x = true := by
  unfold charB
  rcases h with h | h
  · rw [decide_eq_true h, Bool.or_true]
  · rw [decide_eq_true h, Bool.true_or]
set_option maxRecDepth 100000 in
set_option maxHeartbeats 1000000 in
theorem refName_any (s : ByteArray) (hs : s.size ≤ 9000000000000000000) (w : World) : Calls Tryz.prog 28 #[.string s] w fun x w' => x = .returned (.bool (nameB s)) ∧ w = w' := by
  go_enter Tryz.func28, Tryz.ntmps28
  go_wp2
  go_loopw [3] (fun i wr => ∃ k : Nat, k ≤ s.size ∧ i = .int .i64 (k : Int) ∧ wr = w ∧ Hid (∀ j, j < k → (h : j < s.size) → charB s[j].toNat = true)) (fun i _ => s.size - (intOf i).toNat)
  case atStart => exact ⟨0, by omega, rfl, rfl, fun j hj => by omega⟩
  case round =>
    obtain ⟨k, hk, rfl, rfl, hc⟩ := hrel
    by_cases hlt : k < s.size
    · have q0 : (0 : Int) ≤ (k : Int) := by omega
      have q1 : (k : Int) < (s.size : Int) := by omega
      have hno := fun h => Lib.hid (name_no k hlt (char_no h))
      have hyes : ((48 ≤ s[k].toNat ∧ s[k].toNat ≤ 57) ∨ (97 ≤ s[k].toNat ∧ s[k].toNat ≤ 122)) → Hid (∀ j, j < k + 1 → (h : j < s.size) → charB s[j].toNat = true) := fun h => Lib.hid (fun j hj hs => by
        by_cases e : j = k
        · subst e; exact char_yes h
        · exact hc.out j (by omega) hs)
      clear hc
      rcases (show s[k].toNat < 48 ∨ (48 ≤ s[k].toNat ∧ s[k].toNat ≤ 57) ∨ (57 < s[k].toNat ∧ s[k].toNat < 97) ∨ (97 ≤ s[k].toNat ∧ s[k].toNat ≤ 122) ∨ 122 < s[k].toNat by omega) with h | h | h | h | h
      · have r := hno (.inl h)
        have r1 : ((s[k].toNat : Nat) : Int) < 48 := by omega
        clear hno hyes h
        go_wp2
        all_goals first
          | (exfalso; simp at *; omega)
          | (go_ret; exact ⟨by rw [r.out] <;> rfl, rfl⟩)
      · have r := hyes (.inl h)
        obtain ⟨h1, h2⟩ := h
        have r1 : (48 : Int) ≤ ((s[k].toNat : Nat) : Int) := by omega
        have r2 : ((s[k].toNat : Nat) : Int) ≤ 57 := by omega
        clear hno hyes h1 h2
        go_wp2
        all_goals first
          | exact ⟨⟨k + 1, by omega, congrArg (Value.int .i64) (by omega), trivial, r⟩, by simp [intOf]; omega⟩
          | (exfalso; simp at *; omega)
      · have r := hno (.inr (.inl h))
        obtain ⟨h1, h2⟩ := h
        have r1 : (57 : Int) < ((s[k].toNat : Nat) : Int) := by omega
        have r2 : ((s[k].toNat : Nat) : Int) < 97 := by omega
        clear hno hyes h1 h2
        go_wp2
        all_goals first
          | (exfalso; simp at *; omega)
          | (go_ret; exact ⟨by rw [r.out] <;> rfl, rfl⟩)
      · have r := hyes (.inr h)
        obtain ⟨h1, h2⟩ := h
        have r1 : (97 : Int) ≤ ((s[k].toNat : Nat) : Int) := by omega
        have r2 : ((s[k].toNat : Nat) : Int) ≤ 122 := by omega
        clear hno hyes h1 h2
        go_wp2
        all_goals first
          | exact ⟨⟨k + 1, by omega, congrArg (Value.int .i64) (by omega), trivial, r⟩, by simp [intOf]; omega⟩
          | (exfalso; simp at *; omega)
      · have r := hno (.inr (.inr h))
        have r1 : (122 : Int) < ((s[k].toNat : Nat) : Int) := by omega
        clear hno hyes h
        go_wp2
        all_goals first
          | (exfalso; simp at *; omega)
          | (go_ret; exact ⟨by rw [r.out] <;> rfl, rfl⟩)
    · obtain rfl : k = s.size := by omega
      have hn : nameB s = decide (1 ≤ s.size ∧ s.size ≤ 20) := by
        unfold nameB
        exact decide_eq_decide.2 ⟨fun h => ⟨h.1, h.2.1⟩, fun h => ⟨h.1, h.2, fun j hj => hc.out j hj hj⟩⟩
      clear hc
      by_cases h1 : 1 ≤ s.size
      · by_cases h2 : s.size ≤ 20
        · rw [decide_eq_true ⟨h1, h2⟩] at hn
          have HN := Lib.hid hn
          clear hn
          go_wp2
          go_ret
          exact ⟨by rw [HN.out]; simp; omega, rfl⟩
        · rw [decide_eq_false (fun h => h2 h.2)] at hn
          have HN := Lib.hid hn
          clear hn
          go_wp2
          go_ret
          exact ⟨by rw [HN.out]; simp; omega, rfl⟩
      · rw [decide_eq_false (fun h => h1 h.1)] at hn
        have HN := Lib.hid hn
        clear hn
        go_wp2
        go_ret
        exact ⟨by rw [HN.out]; rfl, rfl⟩
end Go.Proofs.YtnkjoambhmlnbaaGreatDoor.Field
