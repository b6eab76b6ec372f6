/-
  What bartizanref03.Times does: the document's own product.
-/
import Derived.Test.YtcdgdoeegehjhaaAesPlain
import Derived.Test.YtcdgdoeegehjhaaProg
namespace Go.Proofs.Ytcdgdoeegehjhaa.Aes
open Go Go.RowKit Go.Proofs.Ytcdgdoeegehjhaa.Aid

theorem ival {k : IntKind} {x y : Int} (h : x = y) : Value.int k x = Value.int k y := by rw [h]
theorem xor64 (a b : Nat) (ha : a < 65536) (hb : b < 65536) : bits .xor .i64 (a : Int) (b : Int) = ((a ^^^ b : Nat) : Int) := by
  have h1 : BitVec.ofInt 64 (a : Int) = BitVec.ofNat 64 a := by simp
  have h2 : BitVec.ofInt 64 (b : Int) = BitVec.ofNat 64 b := by simp
  show IntKind.i64.wrap ((BitVec.ofInt 64 (a : Int) ^^^ BitVec.ofInt 64 (b : Int)).toNat : Int) = _
  rw [h1, h2, BitVec.toNat_xor, BitVec.toNat_ofNat, BitVec.toNat_ofNat, Nat.mod_eq_of_lt (by omega), Nat.mod_eq_of_lt (by omega)]
  have hx : a ^^^ b < 65536 := Nat.xor_lt_two_pow (n := 16) ha hb
  exact IntWalk.i64_in _ (by omega)
theorem xtime_nat : ∀ x : BitVec 8, (if 255 < 2 * x.toNat then 2 * x.toNat ^^^ 283 else 2 * x.toNat) = (xtime x).toNat := by decide +kernel
theorem bit_nat (b : BitVec 8) (k : Nat) : b.getLsbD k = decide (b.toNat / 2 ^ k % 2 = 1) := by
  rw [BitVec.getLsbD, Nat.testBit_eq_decide_div_mod_eq]
theorem timesTo_end (a b : BitVec 8) (k : Nat) (hk : k ≤ 8) (h : b.toNat / 2 ^ k = 0) : timesTo a b k = times a b := by
  have hz : ∀ j, k ≤ j → b.getLsbD j = false := fun j hj => by
    rw [bit_nat]
    have : b.toNat / 2 ^ j = 0 := by
      rw [Nat.div_eq_zero_iff] at h ⊢
      rcases h with h | h
      · exact absurd h (by have := Nat.pow_pos (n := k) (show 0 < 2 by omega); omega)
      · exact .inr (Nat.lt_of_lt_of_le h (Nat.pow_le_pow_right (by omega) hj))
    rw [this]
    rfl
  have hs : ∀ d, timesTo a b (k + d) = timesTo a b k := by
    intro d
    induction d with
    | zero => rfl
    | succ d ih =>
      show timesTo a b (k + d) ^^^ (if b.getLsbD (k + d) then _ else 0) = _
      rw [ih, hz (k + d) (by omega)]
      simp
  have := hs (8 - k)
  rw [show k + (8 - k) = 8 by omega] at this
  exact this.symm

/-- One bit more. -/
theorem times_next {a b : BitVec 8} {k N X Y : Nat} (H : N = (timesTo a b k).toNat ∧ X = (xpow a k).toNat ∧ Y = b.toNat / 2 ^ k) :
    (if Y % 2 = 1 then N ^^^ X else N) = (timesTo a b (k + 1)).toNat ∧ (if 255 < 2 * X then 2 * X ^^^ 283 else 2 * X) = (xpow a (k + 1)).toNat ∧ Y / 2 = b.toNat / 2 ^ (k + 1) := by
  obtain ⟨rfl, rfl, rfl⟩ := H
  refine ⟨?_, xtime_nat _, by rw [Nat.pow_succ, Nat.div_div_eq_div_mul]⟩
  show _ = (timesTo a b k ^^^ (if b.getLsbD k then xpow a k else 0)).toNat
  rw [bit_nat b k]
  by_cases h : b.toNat / 2 ^ k % 2 = 1
  · rw [if_pos h]; simp [h]
  · rw [if_neg h]; simp [h]
theorem times_left {b : BitVec 8} {k Y : Nat} (hY : Y = b.toNat / 2 ^ k) (h : 0 < Y) : k < 8 := by
  rcases Nat.lt_or_ge k 8 with h8 | h8
  · exact h8
  · have h1 : (2 : Nat) ^ 8 ≤ 2 ^ k := Nat.pow_le_pow_right (by omega) h8
    have h2 := b.isLt
    rw [hY, Nat.div_eq_of_lt (by omega)] at h
    omega

set_option maxRecDepth 100000 in
set_option maxHeartbeats 1000000 in
theorem refTimes_any (a b : BitVec 8) (w : World) :
    Calls Try.prog 24 #[.int .u8 (a.toNat : Int), .int .u8 (b.toNat : Int)] w fun x w' => x = .returned (.int .u8 ((times a b).toNat : Int)) ∧ w' = w := by
  go_enter Try.func24, Try.ntmps24
  go_wp2
  go_loopw [5, 6, 7] (fun n x y wr => ∃ N X Y k : Nat, k ≤ 8 ∧ n = .int .i64 (N : Int) ∧ x = .int .i64 (X : Int) ∧ y = .int .i64 (Y : Int) ∧ Hid (N = (timesTo a b k).toNat ∧ X = (xpow a k).toNat ∧ Y = b.toNat / 2 ^ k) ∧ wr = w) (fun _ _ y _ => (intOf y).toNat)
  case atStart => exact ⟨0, a.toNat, b.toNat, 0, by omega, rfl, rfl, rfl, ⟨rfl, rfl, by simp⟩, rfl⟩
  case round =>
    obtain ⟨N, X, Y, k, hk, rfl, rfl, rfl, H, rfl⟩ := hrel
    have hN : N < 256 := by rw [H.out.1]; exact (timesTo a b k).isLt
    have hX : X < 256 := by rw [H.out.2.1]; exact (xpow a k).isLt
    have hY : Y < 256 := by rw [H.out.2.2]; exact Nat.lt_of_le_of_lt (Nat.div_le_self _ _) b.isLt
    by_cases hpos : 0 < Y
    · have hk8 := times_left H.out.2.2 hpos
      have HN := times_next H.out
      have q0 : (0 : Int) < (Y : Int) := by omega
      by_cases hbit : Y % 2 = 1
      · have e1 : ((Y : Int) % 2 == 1) = true := by simp; omega
        rw [if_pos hbit] at HN
        by_cases hbig : 255 < 2 * X
        · have e2 : (255 : Int) < 2 * (X : Int) := by omega
          rw [if_pos hbig] at HN
          have hx1 := xor64 N X (by omega) (by omega)
          have hl1 : N ^^^ X < 65536 := Nat.xor_lt_two_pow (n := 16) (by omega) (by omega)
          obtain ⟨N', hN'⟩ : ∃ N', N' = N ^^^ X := ⟨_, rfl⟩
          rw [← hN'] at hx1 hl1 HN
          have hx2 : bits .xor .i64 (2 * (X : Int)) 283 = ((2 * X ^^^ 283 : Nat) : Int) := xor64 (2 * X) 283 (by omega) (by omega)
          have hl2 : 2 * X ^^^ 283 < 65536 := Nat.xor_lt_two_pow (n := 16) (by omega) (by omega)
          obtain ⟨X', hX'⟩ : ∃ X', X' = 2 * X ^^^ 283 := ⟨_, rfl⟩
          rw [← hX'] at hx2 hl2 HN
          have HN' := Lib.hid HN
          clear HN hN' hX'
          go_wp2
          exact ⟨⟨N', X', Y / 2, k + 1, by omega, rfl, rfl, ival (by omega), HN'.out, trivial⟩, by simp [intOf]; omega⟩
        · have e2 : ¬ (255 : Int) < 2 * (X : Int) := by omega
          rw [if_neg hbig] at HN
          have hx1 := xor64 N X (by omega) (by omega)
          have hl1 : N ^^^ X < 65536 := Nat.xor_lt_two_pow (n := 16) (by omega) (by omega)
          obtain ⟨N', hN'⟩ : ∃ N', N' = N ^^^ X := ⟨_, rfl⟩
          rw [← hN'] at hx1 hl1 HN
          have HN' := Lib.hid HN
          clear HN hN'
          go_wp2
          exact ⟨⟨N', 2 * X, Y / 2, k + 1, by omega, rfl, ival (by omega), ival (by omega), HN'.out, trivial⟩, by simp [intOf]; omega⟩
      · have e1 : ((Y : Int) % 2 == 1) = false := by simp; omega
        rw [if_neg hbit] at HN
        by_cases hbig : 255 < 2 * X
        · have e2 : (255 : Int) < 2 * (X : Int) := by omega
          rw [if_pos hbig] at HN
          have hx2 : bits .xor .i64 (2 * (X : Int)) 283 = ((2 * X ^^^ 283 : Nat) : Int) := xor64 (2 * X) 283 (by omega) (by omega)
          have hl2 : 2 * X ^^^ 283 < 65536 := Nat.xor_lt_two_pow (n := 16) (by omega) (by omega)
          obtain ⟨X', hX'⟩ : ∃ X', X' = 2 * X ^^^ 283 := ⟨_, rfl⟩
          rw [← hX'] at hx2 hl2 HN
          have HN' := Lib.hid HN
          clear HN hX'
          go_wp2
          exact ⟨⟨N, X', Y / 2, k + 1, by omega, rfl, rfl, ival (by omega), HN'.out, trivial⟩, by simp [intOf]; omega⟩
        · have e2 : ¬ (255 : Int) < 2 * (X : Int) := by omega
          rw [if_neg hbig] at HN
          have HN' := Lib.hid HN
          clear HN
          go_wp2
          exact ⟨⟨N, 2 * X, Y / 2, k + 1, by omega, rfl, ival (by omega), ival (by omega), HN'.out, trivial⟩, by simp [intOf]; omega⟩
    · have hY0 : Y = 0 := by omega
      have q0 : ¬ (0 : Int) < (Y : Int) := by omega
      have he := timesTo_end a b k hk (by rw [← H.out.2.2]; exact hY0)
      have HN : Hid (N = (times a b).toNat) := by rw [← he]; exact H.out.1
      clear he
      go_wp2
      go_ret
      exact ⟨by rw [← HN.out]; rfl, rfl⟩

end Go.Proofs.Ytcdgdoeegehjhaa.Aes
