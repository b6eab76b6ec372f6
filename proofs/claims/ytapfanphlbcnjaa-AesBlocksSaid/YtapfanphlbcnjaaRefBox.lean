/-
  What bartizanref03.Box and Boxes do: the document's own S-box, one by one and all of them.
-/
import Derived.Test.YtapfanphlbcnjaaRefTimes
namespace Go.Proofs.Ytapfanphlbcnjaa.Aes
open Go Go.RowKit Go.Proofs.Ytapfanphlbcnjaa.Aid

theorem inv_zero : inv 0 = 0 := by decide
/-- What Box has found among the numbers below n. -/
def foundTo (b : BitVec 8) (n : Nat) : BitVec 8 := if (inv b).toNat < n then inv b else 0
theorem found_hit (b : BitVec 8) (i : Nat) (h1 : i < 256) (h : times b (BitVec.ofNat 8 i) = 1) : BitVec.ofNat 8 i = foundTo b (i + 1) := by
  have h2 := inv_of_times h
  unfold foundTo
  rw [if_pos (by rw [← h2, BitVec.toNat_ofNat]; omega), ← h2]
theorem found_miss (b : BitVec 8) (i : Nat) (h0 : 0 < i) (h1 : i < 256) (h : times b (BitVec.ofNat 8 i) ≠ 1) : foundTo b i = foundTo b (i + 1) := by
  have hne : (inv b).toNat ≠ i := fun e => by
    have e2 : inv b = BitVec.ofNat 8 i := BitVec.eq_of_toNat_eq (by rw [e, BitVec.toNat_ofNat]; omega)
    have hb : b ≠ 0 := fun e0 => by rw [e0, inv_zero] at e; simp at e; omega
    exact h (by rw [← e2]; exact times_inv b hb)
  unfold foundTo
  by_cases h2 : (inv b).toNat < i
  · rw [if_pos h2, if_pos (by omega)]
  · rw [if_neg h2, if_neg (by omega)]
theorem found_all (b : BitVec 8) : foundTo b 256 = inv b := by unfold foundTo; rw [if_pos (inv b).isLt]
theorem found_none (b : BitVec 8) : foundTo b 1 = 0 := by
  unfold foundTo
  by_cases h : (inv b).toNat < 1
  · rw [if_pos h]; exact BitVec.eq_of_toNat_eq (by simp; omega)
  · rw [if_neg h]
theorem six (a b c d e f : Bool) : ((((((if a then 1 else 0) + (if b then 1 else 0)) + (if c then 1 else 0)) + (if d then 1 else 0)) + (if e then 1 else 0)) + (if f then 1 else 0) : Nat) % 2 = if ((((a ^^ b) ^^ c) ^^ d) ^^ e ^^ f) then 1 else 0 := by
  cases a <;> cases b <;> cases c <;> cases d <;> cases e <;> cases f <;> rfl
theorem box_sum (b : BitVec 8) (i : Nat) (hi : i < 8) :
    (bitN (inv b) i + bitN (inv b) ((i + 4) % 8) + bitN (inv b) ((i + 5) % 8) + bitN (inv b) ((i + 6) % 8) + bitN (inv b) ((i + 7) % 8) + bitN 99 i) % 2 = (box b).toNat / 2 ^ i % 2 := by
  rw [bitN_eq]
  unfold bitN
  rw [six, box_aff b i hi]
  rfl

set_option maxRecDepth 100000 in
set_option maxHeartbeats 1000000 in
theorem refBox_any (b : BitVec 8) (w : World) :
    Calls Try.prog 12 #[.int .u8 (b.toNat : Int)] w fun x w' => x = .returned (.int .u8 ((box b).toNat : Int)) ∧ w' = w := by
  go_enter Try.func12, Try.ntmps12
  go_wp2
  go_loopw [3, 4] (fun r i wr => ∃ k : Nat, 1 ≤ k ∧ k ≤ 256 ∧ r = .int .u8 ((foundTo b k).toNat : Int) ∧ i = .int .i64 (k : Int) ∧ wr = w) (fun _ i _ => 256 - (intOf i).toNat)
  case atStart => exact ⟨1, by omega, by omega, by rw [found_none]; rfl, rfl, rfl⟩
  case round =>
    obtain ⟨k, hk1, hk, rfl, rfl, rfl⟩ := hrel
    by_cases hlt : k < 256
    · have q0 : (k : Int) < 256 := by omega
      have hkb : (k : Int) = ((BitVec.ofNat 8 k).toNat : Int) := by rw [BitVec.toNat_ofNat]; omega
      have htm := refTimes_any b (BitVec.ofNat 8 k) wr
      rw [← hkb] at htm
      have Htm := Lib.hid htm
      have Hkb := Lib.hid hkb
      clear htm hkb
      by_cases hone : times b (BitVec.ofNat 8 k) = 1
      · have e1 : (((times b (BitVec.ofNat 8 k)).toNat : Int) == 1) = true := by rw [hone]; rfl
        have Hf := Lib.hid (found_hit b k hlt hone)
        have Ho := Lib.hid hone
        clear hone
        go_wp2_with (go_at_call 10
                     refine Htm.out.mono ?_
                     rintro e0 w1 ⟨rfl, rfl⟩)
        refine ⟨⟨k + 1, by omega, by omega, ?_, by go_num, trivial⟩, by simp [intOf]; omega⟩
        rw [← Hf.out, ← Hkb.out]
      · have e1 : (((times b (BitVec.ofNat 8 k)).toNat : Int) == 1) = false := by
          simp only [beq_eq_false_iff_ne, ne_eq]
          intro h
          exact hone (BitVec.eq_of_toNat_eq (by simp; omega))
        have Hf := Lib.hid (found_miss b k (by omega) hlt hone)
        have Ho := Lib.hid hone
        clear hone
        go_wp2_with (go_at_call 10
                     refine Htm.out.mono ?_
                     rintro e0 w1 ⟨rfl, rfl⟩)
        refine ⟨⟨k + 1, by omega, by omega, ?_, by go_num, trivial⟩, by simp [intOf]; omega⟩
        rw [← Hf.out]
    · have hk6 : k = 256 := by omega
      have q0 : ¬ (k : Int) < 256 := by omega
      rw [show foundTo b k = inv b by rw [hk6, found_all]]
      clear hk1 hk hlt hk6
      go_wp2
      clear q0
      obtain ⟨K0, hK0⟩ : ∃ K0 : Int, K0 = (k : Int) := ⟨_, rfl⟩
      rw [← hK0]
      clear hK0
      go_loopw [5, 6, 7] (fun n u i wr' => ∃ N U k : Nat, k ≤ 8 ∧ N < 256 ∧ U ≤ 256 ∧ n = .int .i64 (N : Int) ∧ u = .int .i64 (U : Int) ∧ i = .int .i64 (k : Int) ∧ Hid (N = (box b).toNat % 2 ^ k ∧ U = 2 ^ k) ∧ wr' = wr) (fun _ _ i _ => 8 - (intOf i).toNat)
      case atStart => exact ⟨0, 1, 0, by omega, by omega, by omega, rfl, rfl, rfl, ⟨by simp [Nat.mod_one], rfl⟩, rfl⟩
      case round =>
        obtain ⟨N, U, k, hk, hN, hU, rfl, rfl, rfl, H, rfl⟩ := hrel
        by_cases hlt : k < 8
        · have q0 : (k : Int) < 8 := by omega
          have hs := box_sum b k hlt
          have hb0 : ∀ i, bitN (inv b) i ≤ 1 := fun i => by unfold bitN; split <;> omega
          have h0 := refBit_any (inv b) k (by omega) wr
          have h4 := refBit_any (inv b) (k + 4) (by omega) wr
          have h5 := refBit_any (inv b) (k + 5) (by omega) wr
          have h6 := refBit_any (inv b) (k + 6) (by omega) wr
          have h7 := refBit_any (inv b) (k + 7) (by omega) wr
          have h9 := refBit_any 99 k (by omega) wr
          rw [show k % 8 = k by omega] at h0 h9
          rw [show ((k + 4 : Nat) : Int) = (k : Int) + 4 by omega] at h4
          rw [show ((k + 5 : Nat) : Int) = (k : Int) + 5 by omega] at h5
          rw [show ((k + 6 : Nat) : Int) = (k : Int) + 6 by omega] at h6
          rw [show ((k + 7 : Nat) : Int) = (k : Int) + 7 by omega] at h7
          have g0 := hb0 k
          have g4 := hb0 ((k + 4) % 8)
          have g5 := hb0 ((k + 5) % 8)
          have g6 := hb0 ((k + 6) % 8)
          have g7 := hb0 ((k + 7) % 8)
          have g9 : bitN 99 k ≤ 1 := by unfold bitN; split <;> omega
          generalize bitN (inv b) k = s0 at *
          generalize bitN (inv b) ((k + 4) % 8) = s4 at *
          generalize bitN (inv b) ((k + 5) % 8) = s5 at *
          generalize bitN (inv b) ((k + 6) % 8) = s6 at *
          generalize bitN (inv b) ((k + 7) % 8) = s7 at *
          generalize bitN 99 k = s9 at *
          obtain ⟨V, hV⟩ : ∃ V, V = (s0 + s4 + s5 + s6 + s7 + s9) % 2 := ⟨_, rfl⟩
          have e1 : ((s0 : Int) + (s4 : Int) + (s5 : Int) + (s6 : Int) + (s7 : Int) + (s9 : Int)) % 2 = (V : Int) := by omega
          have e2 : ((s0 : Int) + (s4 : Int) + (s5 : Int) + (s6 : Int) + (s7 : Int) + (s9 : Int)).tmod 2 = (V : Int) := by rw [Int.tmod_eq_emod_of_nonneg (by omega)]; exact e1
          have hnew : Hid (N + U * V = (box b).toNat % 2 ^ (k + 1) ∧ 2 * U = 2 ^ (k + 1)) := by
            refine ⟨?_, by rw [H.out.2, Nat.pow_succ]; omega⟩
            rw [hV, hs, H.out.1, H.out.2, Nat.mod_pow_succ]
          have hU2 : 2 * U ≤ 256 := by rw [hnew.out.2]; exact Nat.pow_le_pow_right (n := 2) (by omega) (show k + 1 ≤ 8 by omega)
          have hN2 : N + U * V < 256 := by rw [hnew.out.1]; exact Nat.lt_of_le_of_lt (Nat.mod_le _ _) (box b).isLt
          have hV1 : V = 0 ∨ V = 1 := by omega
          have H0 := Lib.hid h0
          have H4 := Lib.hid h4
          have H5 := Lib.hid h5
          have H6 := Lib.hid h6
          have H7 := Lib.hid h7
          have H9 := Lib.hid h9
          clear hs hV h0 h4 h5 h6 h7 h9 H hb0
          go_wp2_with fail
          refine H0.out.mono ?_
          rintro x w1 ⟨rfl, rfl⟩
          go_wp2_with fail
          refine H4.out.mono ?_
          rintro x w1 ⟨rfl, rfl⟩
          go_wp2_with fail
          refine H5.out.mono ?_
          rintro x w1 ⟨rfl, rfl⟩
          go_wp2_with fail
          refine H6.out.mono ?_
          rintro x w1 ⟨rfl, rfl⟩
          go_wp2_with fail
          refine H7.out.mono ?_
          rintro x w1 ⟨rfl, rfl⟩
          go_wp2_with fail
          refine H9.out.mono ?_
          rintro x w1 ⟨rfl, rfl⟩
          clear H0 H4 H5 H6 H7 H9
          rcases hV1 with rfl | rfl
          · go_wp2
            go_roundw
            case rel => exact ⟨N + U * 0, 2 * U, k + 1, by omega, by omega, by omega, ival (by omega), ival (by omega), by go_num, hnew.out, trivial⟩
            case measure => simp [intOf]; omega
          · go_wp2
            go_roundw
            case rel => exact ⟨N + U * 1, 2 * U, k + 1, by omega, by omega, by omega, ival (by omega), ival (by omega), by go_num, hnew.out, trivial⟩
            case measure => simp [intOf]; omega
        · have q0 : ¬ (k : Int) < 8 := by omega
          have hk8 : k = 8 := by omega
          have HN : Hid (N = (box b).toNat) := by
            have := H.out.1
            rw [hk8, Nat.mod_eq_of_lt (box b).isLt] at this
            exact this
          clear hk8
          go_wp2
          go_ret
          exact ⟨by rw [← HN.out]; rfl, rfl⟩
end Go.Proofs.Ytapfanphlbcnjaa.Aes
