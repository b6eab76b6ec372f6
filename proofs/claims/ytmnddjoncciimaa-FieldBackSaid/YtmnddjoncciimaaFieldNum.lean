/-
  What field.Take and field.Number do.
-/
import Derived.Test.YtmnddjoncciimaaRefTake
import Derived.Laws.BitsAllLaws
namespace Go.Proofs.Ytmnddjoncciimaa.Field
open Go Go.RowKit Go.Proofs.Ytmnddjoncciimaa.Aid Go.Proofs.Ytmnddjoncciimaa.Law01

theorem or_byte64 (x : Int) (b : Nat) (hb : b < 256) : bits .or .i64 (wrap64 (wrap64 x * 256)) (b : Int) = wrap64 (256 * x + (b : Int)) := by
  show IntKind.i64.wrap ((BitVec.ofInt 64 (wrap64 (wrap64 x * 256)) ||| BitVec.ofInt 64 (b : Int)).toNat : Int) = _
  obtain ⟨y, hy⟩ : ∃ y : Nat, (y : Int) = (256 * x) % 18446744073709551616 := ⟨((256 * x) % 18446744073709551616).toNat, by omega⟩
  have e1 : BitVec.ofInt 64 (wrap64 (wrap64 x * 256)) = BitVec.ofInt 64 (y : Int) := by
    apply BitVec.eq_of_toInt_eq
    simp only [BitVec.toInt_ofInt, Int.bmod_def]
    unfold wrap64
    omega
  rw [e1, BitVec.toNat_or, ofInt_u64 y (by omega), ofInt_u64 b (by omega), nat_join8 y b (by omega) hb, IntKind.wrap_i64]
  unfold wrap64
  omega

set_option maxRecDepth 100000 in
set_option maxHeartbeats 1000000 in
theorem take_own (A : Option Addr) (c n : Nat) (E : Nat → BitVec 8) (w : World) (hn : n ≤ 1000000) (h : SliceOf w w.heap.size n E (.slice A n c)) :
    Calls Try.prog 12 #[.slice A n c] w fun x w' => x = .returned (.tuple #[.int .i64 (takeV E n), .int .i64 (takeC n)]) ∧ Below w.heap.size w w' := by
  by_cases h8 : n = 8
  · subst h8
    obtain ⟨A', c', he, hc, hr⟩ := h
    simp only [Value.slice.injEq, true_and] at he
    obtain ⟨rfl, rfl⟩ := he
    obtain ⟨sb, so, rfl, _, hcell⟩ := hr (by omega)
    have HC := Lib.hid hcell
    clear hcell hr
    have e1 : takeV E 8 = wrap64 (tU E 8 : Int) := by unfold takeV; rw [if_pos rfl]
    have e2 : takeC 8 = 0 := by unfold takeC; rw [if_pos rfl]
    rw [e1, e2]
    go_enter Try.func12, Try.ntmps12
    go_wp2
    go_loopw [4, 12] (fun u i wr => ∃ k : Nat, k ≤ 8 ∧ i = .int .i64 (k : Int) ∧ u = .int .i64 (wrap64 (tU E k : Int)) ∧ wr = w) (fun _ i _ => 8 - (intOf i).toNat)
    case atStart => exact ⟨0, by omega, rfl, by rw [show (tU E 0 : Int) = 0 from rfl, show wrap64 0 = 0 from by unfold wrap64; omega], rfl⟩
    case round =>
      obtain ⟨k, hk, rfl, rfl, rfl⟩ := hrel
      by_cases hlt : k < 8
      · have c0 := HC.out k hlt
        have q0 : (0 : Int) ≤ (k : Int) := by omega
        have q1 : (k : Int) < 8 := by omega
        have e3 : bits .or .i64 (wrap64 (wrap64 (tU E k : Int) * 256)) ((E k).toNat : Int) = wrap64 (tU E (k + 1) : Int) := by
          rw [or_byte64 _ _ (E k).isLt]
          show wrap64 _ = wrap64 ((256 * tU E k + (E k).toNat : Nat) : Int)
          congr 1
        clear HC
        go_wp2
        exact ⟨⟨k + 1, by omega, congrArg (Value.int .i64) (by omega), rfl, trivial⟩, by simp [intOf]; omega⟩
      · obtain rfl : k = 8 := by omega
        clear HC
        go_wp2
        go_ret2
        exact ⟨rfl, Below.refl _ _⟩
  · have h8' : ((n : Int) == 8) = false := by simp; omega
    have e1 : takeV E n = 0 := by unfold takeV; rw [if_neg h8]
    have e2 : takeC n = 3 := by unfold takeC; rw [if_neg h8]
    rw [e1, e2]
    clear h e1 e2
    go_enter Try.func12, Try.ntmps12
    go_wp2
    go_ret2
    exact ⟨rfl, Below.refl _ _⟩

theorem num_shr (n : Int) (i : Nat) (hi : i < 8) : IntKind.u8.wrap (n / 2 ^ (8 * i)) = ((numB n (7 - i)).toNat : Int) := by
  unfold numB
  rw [bt_toNat (Nat.mod_lt _ (by omega)), IntKind.wrap_u8]
  unfold numU
  have : i = 0 ∨ i = 1 ∨ i = 2 ∨ i = 3 ∨ i = 4 ∨ i = 5 ∨ i = 6 ∨ i = 7 := by omega
  rcases this with rfl | rfl | rfl | rfl | rfl | rfl | rfl | rfl <;> simp <;> omega
set_option maxRecDepth 100000 in
set_option maxHeartbeats 1000000 in
theorem number_own (n : Int) (w : World) : Calls Try.prog 18 #[.int .i64 n] w fun x w' => ∃ v, x = .returned v ∧ Own w' w.heap.size 8 (numB n) v ∧ Below w.heap.size w w' := by
  go_enter Try.func18, Try.ntmps18
  go_wp2_with (at_make
               refine make_own (by rfl) (.const (.int .i64 8)) (.const (.int .i64 8)) (by rfl) .i64 .i64 8 (by rfl) (by rfl) (by omega) ?_
               intro w1 hown hb1)
  have hown : Own w1 w.heap.size 8 (numTo n 8) (.slice (some ⟨w.heap.size, 0, none⟩) 8 8) := Own.congr' hown (fun j hj => by unfold numTo; rw [if_neg (by omega)])
  go_loopw [8] (fun i wr => ∃ k : Nat, k ≤ 8 ∧ i = .int .i64 (k : Int) ∧ Hid (Own wr w.heap.size 8 (numTo n (8 - k)) (.slice (some ⟨w.heap.size, 0, none⟩) 8 8)) ∧ Hid (Below w.heap.size w wr)) (fun i _ => 8 - (intOf i).toNat)
  case atStart => exact ⟨0, by omega, rfl, hown, hb1⟩
  case round =>
    clear hown hb1
    obtain ⟨k, hk, rfl, ho, hb⟩ := hrel
    by_cases hlt : k < 8
    · have hx := own_at ho.out (7 - k) (by omega)
      obtain ⟨c0, f0⟩ := hx
      have q0 : (0 : Int) ≤ (k : Int) := by omega
      have q1 : (k : Int) < 8 := by omega
      have hz : (n / 2 ^ (8 * k) % 256 : Int) = ((numB n (7 - k)).toNat : Int) := by rw [← num_shr n k hlt, IntKind.wrap_u8]
      have hput := own_put ho.out (7 - k) (by omega) (numB n (7 - k)) (n / 2 ^ (8 * k) % 256) hz
      have hown' : Own (wr.setCell ⟨w.heap.size, 7 - k, none⟩ (.int .u8 (n / 2 ^ (8 * k) % 256))) w.heap.size 8 (numTo n (8 - (k + 1))) (.slice (some ⟨w.heap.size, 0, none⟩) 8 8) := Own.congr' hput (fun i _ => by
        rw [show 8 - k = (7 - k) + 1 by omega, show 8 - (k + 1) = 7 - k by omega]
        exact num_next n (7 - k) i (by omega))
      have hb' : Below w.heap.size w (wr.setCell ⟨w.heap.size, 7 - k, none⟩ (.int .u8 (n / 2 ^ (8 * k) % 256))) := hb.out.setCell (p := ⟨w.heap.size, 7 - k, none⟩) (Nat.le_refl _) _
      have HO := Lib.hid hown'
      have HB := Lib.hid hb'
      clear hz hput hown' hb' ho hb
      go_wp2
      exact ⟨⟨k + 1, by omega, congrArg (Value.int .i64) (by omega), HO, HB⟩, by simp [intOf]; omega⟩
    · obtain rfl : k = 8 := by omega
      have ho' := Lib.hid (Own.congr' ho.out (fun j hj => by unfold numTo; rw [if_pos (by omega)]) : Own wr w.heap.size 8 (numB n) _)
      clear ho
      go_wp2
      go_ret
      exact ⟨_, rfl, ho'.out, hb.out⟩
end Go.Proofs.Ytmnddjoncciimaa.Field
