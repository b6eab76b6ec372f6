/-
  What aes.double and aes.Times do: the product of bytes, as the program works it out.
-/
import Derived.Test.YtapfanphlbcnjaaRefXored
namespace Go.Proofs.Ytapfanphlbcnjaa.Aes
open Go Go.RowKit Go.Proofs.Ytapfanphlbcnjaa.Aid

theorem double_nat : ∀ a : BitVec 8, bits .xor .u8 ((a.toNat : Int) * 2 % 256) ((a.toNat : Int) / 128 * 27) = ((xtime a).toNat : Int) := by decide +kernel
set_option maxRecDepth 100000 in
set_option maxHeartbeats 1000000 in
theorem double_any (a : BitVec 8) (w : World) :
    Calls Try.prog 17 #[.int .u8 (a.toNat : Int)] w fun x w' => x = .returned (.int .u8 ((xtime a).toNat : Int)) ∧ w' = w := by
  go_enter Try.func17, Try.ntmps17
  go_wp2
  go_ret
  exact ⟨by rw [double_nat]; rfl, rfl⟩
theorem and_bit : ∀ b : BitVec 8, ∀ k, k < 8 → bits .and .u8 ((b.toNat : Int) / 2 ^ k) 1 = if b.getLsbD k then 1 else 0 := by decide +kernel
theorem times_bit (X Y b : BitVec 8) (k : Nat) (hk : k < 8) :
    bits .xor .u8 (Y.toNat : Int) ((X.toNat : Int) * bits .and .u8 ((b.toNat : Int) / 2 ^ k) 1 % 256) = ((Y ^^^ (if b.getLsbD k then X else 0)).toNat : Int) := by
  rw [and_bit b k hk]
  have hX := X.isLt
  cases b.getLsbD k
  · simp only [Bool.false_eq_true, if_false, Int.mul_zero]
    exact xor8 Y 0
  · simp only [if_true, Int.mul_one]
    rw [show ((X.toNat : Int) % 256) = (X.toNat : Int) by omega]
    exact xor8 Y X
set_option maxRecDepth 100000 in
set_option maxHeartbeats 1000000 in
theorem ownTimes_any (a b : BitVec 8) (w : World) :
    Calls Try.prog 9 #[.int .u8 (a.toNat : Int), .int .u8 (b.toNat : Int)] w fun x w' => x = .returned (.int .u8 ((times a b).toNat : Int)) ∧ w' = w := by
  go_enter Try.func9, Try.ntmps9
  go_wp2
  go_loopw [0, 5, 6, 7] (fun x p _ i wr => ∃ (k : Nat) (X Y : BitVec 8), k ≤ 8 ∧ x = .int .u8 (X.toNat : Int) ∧ p = .int .u8 (Y.toNat : Int) ∧ i = .int .i64 (k : Int) ∧ Hid (X = xpow a k ∧ Y = timesTo a b k) ∧ wr = w) (fun _ _ _ i _ => 8 - (intOf i).toNat)
  case atStart => exact ⟨0, a, 0, by omega, rfl, rfl, rfl, ⟨rfl, rfl⟩, rfl⟩
  case round =>
    obtain ⟨k, X, Y, hk, rfl, rfl, rfl, H, rfl⟩ := hrel
    by_cases hlt : k < 8
    · have q0 : (k : Int) < 8 := by omega
      have q1 : (0 : Int) ≤ (k : Int) := by omega
      have hX := double_nat X
      have hY := times_bit X Y b k hlt
      have H' := Lib.hid hX
      have H'' := Lib.hid hY
      clear hX hY
      go_wp2
      exact ⟨⟨k + 1, xtime X, Y ^^^ (if b.getLsbD k then X else 0), by omega, congrArg (Value.int .u8) H'.out, congrArg (Value.int .u8) H''.out, ival (by omega), ⟨by rw [H.out.1]; rfl, by rw [H.out.1, H.out.2]; rfl⟩, trivial⟩, by simp [intOf]; omega⟩
    · have q0 : ¬ (k : Int) < 8 := by omega
      have hk8 : k = 8 := by omega
      have HY : Hid (Y = times a b) := by rw [hk8] at H; exact H.out.2
      clear hk8
      go_wp2
      go_ret
      exact ⟨by rw [HY.out]; rfl, rfl⟩
end Go.Proofs.Ytapfanphlbcnjaa.Aes
