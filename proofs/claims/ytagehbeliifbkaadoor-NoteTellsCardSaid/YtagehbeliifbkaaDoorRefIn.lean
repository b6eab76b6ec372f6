/-
  What the document's in does; which letters a kind has.
  What the document's has and in do.
-/
import Derived.Test.YtagehbeliifbkaaDoorNotePlain
import Derived.WalkMore
import Derived.WalkSmall
namespace Go.Proofs.YtagehbeliifbkaaDoor.Note
open Go Go.RowKit Go.Proofs.YtagehbeliifbkaaDoor.Aid Go.Proofs.YtagehbeliifbkaaDoor.Law01 Go.Proofs.YtagehbeliifbkaaDoor.Field

def inS (s : ByteArray) (c : Nat) : Bool := decide (∃ j, ∃ h : j < s.size, s[j].toNat = c)
set_option maxRecDepth 100000 in
theorem in_any (s : ByteArray) (hs : s.size ≤ 9000000000000000000) (c : Nat) (w : World) : Calls Tryd.prog 25 #[.string s, .int .u8 (c : Int)] w fun x w' => x = .returned (.bool (inS s c)) ∧ w = w' := by
  go_enter Tryd.func25, Tryd.ntmps25
  go_wp2
  go_loopw [5] (fun i wr => ∃ k : Nat, k ≤ s.size ∧ i = .int .i64 (k : Int) ∧ wr = w ∧ Hid (∀ j, j < k → (h : j < s.size) → s[j].toNat ≠ c)) (fun i _ => s.size - (intOf i).toNat)
  case atStart => exact ⟨0, by omega, rfl, rfl, fun j hj => by omega⟩
  case round =>
    obtain ⟨k, hk, rfl, rfl, hc⟩ := hrel
    by_cases hlt : k < s.size
    · have q0 : (0 : Int) ≤ (k : Int) := by omega
      have q1 : (k : Int) < (s.size : Int) := by omega
      by_cases hx : s[k].toNat = c
      · have hy : Hid (inS s c = true) := Lib.hid (decide_eq_true ⟨k, hlt, hx⟩)
        have e1 : (((s[k].toNat : Nat) : Int) == (c : Int)) = true := by simp; omega
        clear hc hx
        go_wp2
        all_goals first
          | (go_ret; exact ⟨by rw [hy.out] <;> rfl, rfl⟩)
          | (exfalso; simp at *; omega)
      · have e1 : (((s[k].toNat : Nat) : Int) == (c : Int)) = false := by simp; omega
        have hn : Hid (∀ j, j < k + 1 → (h : j < s.size) → s[j].toNat ≠ c) := Lib.hid (fun j hj hs => by
          by_cases e : j = k
          · subst e; exact hx
          · exact hc.out j (by omega) hs)
        clear hc hx
        go_wp2
        all_goals first
          | exact ⟨⟨k + 1, by omega, congrArg (Value.int .i64) (by omega), trivial, hn⟩, by simp [intOf]; omega⟩
          | (exfalso; simp at *; omega)
    · obtain rfl : k = s.size := by omega
      have hn : Hid (inS s c = false) := Lib.hid (decide_eq_false (fun ⟨j, hj, hx⟩ => hc.out j hj hj hx))
      clear hc
      go_wp2
      go_ret
      exact ⟨by rw [hn.out] <;> rfl, rfl⟩
theorem inS_strL (l : List Nat) (hl : ∀ x ∈ l, x < 256) (c : Nat) : inS (strL l) c = l.contains c := by
  have hsz : (strL l).size = l.length := by simp [strL, ByteArray.size]
  have hat : ∀ j (h : j < (strL l).size), (strL l)[j].toNat = l[j]'(by rw [hsz] at h; exact h) := fun j h => by
    have hj : j < l.length := by rw [hsz] at h; exact h
    show (((l.map UInt8.ofNat).toArray)[j]'(by simpa using hj)).toNat = _
    have := hl _ (List.getElem_mem hj)
    simp
    omega
  unfold inS
  by_cases h : c ∈ l
  · rw [List.contains_iff_mem.2 h]
    obtain ⟨j, hj, he⟩ := List.mem_iff_getElem.1 h
    exact decide_eq_true ⟨j, by rw [hsz]; exact hj, by rw [hat]; exact he⟩
  · have : l.contains c = false := by rw [Bool.eq_false_iff]; exact fun h' => h (List.contains_iff_mem.1 h')
    rw [this]
    exact decide_eq_false (fun ⟨j, hj, hx⟩ => h (by rw [hat] at hx; rw [← hx]; exact List.getElem_mem _))
theorem table_small : ∀ l ∈ table, ∀ x ∈ l, x < 256 := by decide
theorem hasL_small (k : Int) : ∀ x ∈ hasL k, x < 256 := by
  unfold hasL
  split
  · intro x hx; cases hx
  · intro x hx
    rw [List.getD_eq_getElem?_getD] at hx
    cases h : table[k.toNat]? with
    | none => rw [h] at hx; cases hx
    | some l => rw [h] at hx; exact table_small l (List.mem_of_getElem? h) x hx
theorem inS_has (k : Int) (c : Nat) : inS (strL (hasL k)) c = inL k c := inS_strL _ (hasL_small k) c
theorem has_len (k : Int) : (hasL k).length ≤ 4 := by
  unfold hasL
  split
  · exact Nat.zero_le _
  · rw [List.getD_eq_getElem?_getD]
    cases h : table[k.toNat]? with
    | none => exact Nat.zero_le _
    | some l => exact (show ∀ l ∈ table, l.length ≤ 4 by decide) l (List.mem_of_getElem? h)
theorem size_has (k : Int) : (strL (hasL k)).size = (hasL k).length := by simp [strL, ByteArray.size]
end Go.Proofs.YtagehbeliifbkaaDoor.Note

namespace Go.Proofs.YtagehbeliifbkaaDoor.Note
open Go Go.RowKit Go.Proofs.YtagehbeliifbkaaDoor.Aid Go.Proofs.YtagehbeliifbkaaDoor.Law01 Go.Proofs.YtagehbeliifbkaaDoor.Field

set_option maxRecDepth 100000 in
set_option maxHeartbeats 2000000 in
theorem has_any (k : Int) (w : World) : Calls Tryd.prog 18 #[.int .i64 k] w fun x w' => x = .returned (.string (strL (hasL k))) ∧ Below w.heap.size w w' := by
  by_cases h1 : k < 1
  · have e : hasL k = [] := by unfold hasL; rw [if_pos (.inl h1)]
    rw [e]
    go_enter Tryd.func18, Tryd.ntmps18
    go_wp2
    go_ret
    exact ⟨rfl, (Below.refl _ _).alloc (Nat.le_refl _) _⟩
  · by_cases h2 : 17 ≤ k
    · have e : hasL k = [] := by unfold hasL; rw [if_pos (.inr h2)]
      rw [e]
      go_enter Tryd.func18, Tryd.ntmps18
      go_wp2
      go_ret
      exact ⟨rfl, (Below.refl _ _).alloc (Nat.le_refl _) _⟩
    · obtain ⟨n, rfl⟩ : ∃ n : Nat, k = (n : Int) := ⟨k.toNat, by omega⟩
      have h3 : n < 17 := by omega
      have h4 : 1 ≤ n := by omega
      clear h1 h2
      rcases (show n = 1 ∨ n = 2 ∨ n = 3 ∨ n = 4 ∨ n = 5 ∨ n = 6 ∨ n = 7 ∨ n = 8 ∨ n = 9 ∨ n = 10 ∨ n = 11 ∨ n = 12 ∨ n = 13 ∨ n = 14 ∨ n = 15 ∨ n = 16 by omega) with rfl | rfl | rfl | rfl | rfl | rfl | rfl | rfl | rfl | rfl | rfl | rfl | rfl | rfl | rfl | rfl
      all_goals
        go_enter Tryd.func18, Tryd.ntmps18
        go_wp2
        go_ret
        exact ⟨rfl, (Below.refl _ _).alloc (Nat.le_refl _) _⟩
end Go.Proofs.YtagehbeliifbkaaDoor.Note
