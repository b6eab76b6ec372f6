/-
  What the document's Take and Number do.
-/
import Derived.Test.YtmnddjoncciimaaFieldPlain
import Derived.Test.YtmnddjoncciimaaMake
namespace Go.Proofs.Ytmnddjoncciimaa.Field
open Go Go.RowKit Go.Proofs.Ytmnddjoncciimaa.Aid Go.Proofs.Ytmnddjoncciimaa.Law01

theorem tU_lt (E : Nat → BitVec 8) : ∀ k, tU E k < 256 ^ k
  | 0 => by show 0 < 1; omega
  | k + 1 => by
    have h := tU_lt E k
    have hb := (E k).isLt
    show 256 * tU E k + (E k).toNat < 256 ^ (k + 1)
    rw [Nat.pow_succ]
    omega
theorem tU_small (E : Nat → BitVec 8) (k : Nat) (hk : k < 8) : (tU E k : Int) < 72057594037927936 := by
  have h := tU_lt E k
  have : 256 ^ k ≤ 256 ^ 7 := Nat.pow_le_pow_right (by omega) (by omega)
  have h7 : (256 : Nat) ^ 7 = 72057594037927936 := by decide
  omega
theorem u64_in (z : Int) (h : 0 ≤ z ∧ z < 18446744073709551616) : IntKind.u64.wrap z = z := by
  unfold IntKind.wrap
  simp [IntKind.bits, IntKind.signed]
  omega
set_option maxRecDepth 100000 in
set_option maxHeartbeats 1000000 in
theorem refTake_any (A : Option Addr) (c n : Nat) (E : Nat → BitVec 8) (g : Nat) (w : World) (hn : n ≤ 1000000) (h : SliceOf w g n E (.slice A n c)) :
    Calls Try.prog 13 #[.slice A n c] w fun x w' => x = .returned (.tuple #[.int .i64 (takeV E n), .int .i64 (takeC n)]) ∧ w = w' := by
  by_cases h8 : n = 8
  · subst h8
    obtain ⟨A', c', he, hc, hr⟩ := h
    simp only [Value.slice.injEq, true_and] at he
    obtain ⟨rfl, rfl⟩ := he
    obtain ⟨sb, so, rfl, _, hcell⟩ := hr (by omega)
    have HC := Lib.hid hcell
    clear hcell hr
    have e1 : takeV E 8 = wrap64 (tU E 8 : Int) := by unfold takeV; rw [if_pos rfl]
    have e2 : takeC 8 = 0 := by unfold takeC; rw [if_pos rfl]
    rw [e1, e2]
    have f0 : tU E 0 = 0 := rfl
    have fs : ∀ k, tU E (k + 1) = 256 * tU E k + (E k).toNat := fun _ => rfl
    have fl : ∀ k, k < 8 → (tU E k : Int) < 72057594037927936 := tU_small E
    generalize tU E = f at *
    have FS := Lib.hid fs
    have FL := Lib.hid fl
    clear e1 e2 fs fl
    go_enter Try.func13, Try.ntmps13
    go_wp2
    go_loopw [4, 5] (fun u i wr => ∃ k : Nat, k ≤ 8 ∧ i = .int .i64 (k : Int) ∧ u = .int .u64 (f k : Int) ∧ wr = w) (fun _ i _ => 8 - (intOf i).toNat)
    case atStart => exact ⟨0, by omega, rfl, by rw [f0]; rfl, rfl⟩
    case round =>
      obtain ⟨k, hk, rfl, rfl, rfl⟩ := hrel
      by_cases hlt : k < 8
      · have c0 := HC.out k hlt
        have q0 : (0 : Int) ≤ (k : Int) := by omega
        have q1 : (k : Int) < 8 := by omega
        have hs := FL.out k hlt
        have hb := (E k).isLt
        have e1 : IntKind.u64.wrap (256 * (f k : Int)) = 256 * (f k : Int) := u64_in _ (by omega)
        have e3 : IntKind.u64.wrap ((E k).toNat : Int) = ((E k).toNat : Int) := u64_in _ (by omega)
        have e2 : IntKind.u64.wrap (256 * (f k : Int) + ((E k).toNat : Int)) = 256 * (f k : Int) + ((E k).toNat : Int) := u64_in _ (by omega)
        have HN : Hid ((f (k + 1) : Int) = 256 * (f k : Int) + ((E k).toNat : Int)) := Lib.hid (by have := FS.out k; omega)
        clear HC
        go_wp2
        exact ⟨⟨k + 1, by omega, congrArg (Value.int .i64) (by omega), congrArg (Value.int .u64) HN.out.symm, trivial⟩, by simp [intOf]; omega⟩
      · obtain rfl : k = 8 := by omega
        clear HC
        go_wp2
        go_ret2
        exact ⟨rfl, rfl⟩
  · have h8' : ((n : Int) == 8) = false := by simp; omega
    have e1 : takeV E n = 0 := by unfold takeV; rw [if_neg h8]
    have e2 : takeC n = 3 := by unfold takeC; rw [if_neg h8]
    rw [e1, e2]
    clear h e1 e2
    go_enter Try.func13, Try.ntmps13
    go_wp2
    go_ret2
    exact ⟨rfl, rfl⟩

/-- The i last bytes are there. -/
def numTo (n : Int) (k j : Nat) : BitVec 8 := if k ≤ j then numB n j else 0
theorem num_next (n : Int) (k j : Nat) (hk : k < 8) : setAt (numTo n (k + 1)) k (numB n k) j = numTo n k j := by
  unfold setAt numTo
  by_cases h : j = k
  · subst h; rw [if_pos rfl, if_pos (Nat.le_refl _)]
  · rw [if_neg h]
    by_cases h2 : k ≤ j
    · rw [if_pos h2, if_pos (by omega)]
    · rw [if_neg h2, if_neg (by omega)]
theorem numU_lt (n : Int) : numU n < 18446744073709551616 := by unfold numU; omega
theorem u64_num (n : Int) : IntKind.u64.wrap n = (numU n : Int) := by
  unfold numU IntKind.wrap
  simp [IntKind.bits, IntKind.signed]
  omega
set_option maxRecDepth 100000 in
set_option maxHeartbeats 1000000 in
theorem refNumber_any (n : Int) (w : World) : Calls Try.prog 19 #[.int .i64 n] w fun x w' => ∃ v, x = .returned v ∧ Own w' w.heap.size 8 (numB n) v ∧ Below w.heap.size w w' := by
  have e0 := u64_num n
  go_enter Try.func19, Try.ntmps19
  go_wp2_with (at_make
               refine make_own (by rfl) (.const (.int .i64 8)) (.const (.int .i64 8)) (by rfl) .i64 .i64 8 (by rfl) (by rfl) (by omega) ?_
               intro w1 hown hb1)
  have hown : Own w1 w.heap.size 8 (numTo n 8) (.slice (some ⟨w.heap.size, 0, none⟩) 8 8) := Own.congr' hown (fun j hj => by unfold numTo; rw [if_neg (by omega)])
  go_loopw [3, 5] (fun u i wr => ∃ k : Nat, k ≤ 8 ∧ i = .int .i64 ((k : Int) - 1) ∧ u = .int .u64 ((numU n / 256 ^ (8 - k) : Nat) : Int) ∧ Hid (Own wr w.heap.size 8 (numTo n k) (.slice (some ⟨w.heap.size, 0, none⟩) 8 8)) ∧ Hid (Below w.heap.size w wr)) (fun _ i _ => (intOf i + 1).toNat)
  case atStart => exact ⟨8, by omega, rfl, by simp, hown, hb1⟩
  case round =>
    clear hown hb1
    obtain ⟨k, hk, rfl, rfl, ho, hb⟩ := hrel
    by_cases hlt : 0 < k
    · obtain ⟨j, rfl⟩ : ∃ j, k = j + 1 := ⟨k - 1, by omega⟩
      have hx := own_at ho.out j (by omega)
      obtain ⟨c0, f0⟩ := hx
      have q0 : (0 : Int) ≤ (j : Int) := by omega
      have q1 : (j : Int) < 8 := by omega
      have hi : (((j + 1 : Nat) : Int) - 1) = (j : Int) := by omega
      rw [hi]
      have hU : numU n / 256 ^ (8 - (j + 1)) = numU n / 256 ^ (7 - j) := by rw [show 8 - (j + 1) = 7 - j by omega]
      have hD : numU n / 256 ^ (8 - j) = numU n / 256 ^ (7 - j) / 256 := by rw [show 8 - j = (7 - j) + 1 by omega, Nat.pow_succ, ← Nat.div_div_eq_div_mul]
      have hB : numB n j = bt (numU n / 256 ^ (7 - j) % 256) := rfl
      have hlt : numU n / 256 ^ (7 - j) < 18446744073709551616 := Nat.lt_of_le_of_lt (Nat.div_le_self _ _) (numU_lt n)
      have hput := own_put ho.out j (by omega) (numB n j)
      rw [hU]
      generalize numU n / 256 ^ (7 - j) = z at *
      have hv : (numB n j).toNat = z % 256 := by rw [hB, bt_toNat (Nat.mod_lt _ (by omega))]
      have hput' := hput ((z : Int) % 256) (by rw [hv]; omega)
      have hown' : Own (wr.setCell ⟨w.heap.size, j, none⟩ (.int .u8 ((z : Int) % 256))) w.heap.size 8 (numTo n j) (.slice (some ⟨w.heap.size, 0, none⟩) 8 8) := Own.congr' hput' (fun i _ => num_next n j i (by omega))
      have hb' : Below w.heap.size w (wr.setCell ⟨w.heap.size, j, none⟩ (.int .u8 ((z : Int) % 256))) := hb.out.setCell (p := ⟨w.heap.size, j, none⟩) (Nat.le_refl _) _
      have HO := Lib.hid hown'
      have HB := Lib.hid hb'
      have HD := Lib.hid hD
      clear hput hput' hown' hb' ho hb hU hD hB hv hi
      go_wp2
      exact ⟨⟨j, by omega, rfl, congrArg (Value.int .u64) (by rw [HD.out] <;> omega), HO, HB⟩, by simp [intOf] <;> omega⟩
    · obtain rfl : k = 0 := by omega
      have ho' := Lib.hid (Own.congr' ho.out (fun j hj => by unfold numTo; rw [if_pos (Nat.zero_le _)]) : Own wr w.heap.size 8 (numB n) _)
      clear ho
      go_wp2
      go_ret
      exact ⟨_, rfl, ho'.out, hb.out⟩

end Go.Proofs.Ytmnddjoncciimaa.Field
