/-
  What bartizanref01.filled does: bytes, and their padding.
-/
import Derived.Test.YtfjoflpidmjkbaaDoorOwn
import Derived.Test.YtfjoflpidmjkbaaDoorShaSum
namespace Go.Proofs.YtfjoflpidmjkbaaDoor.Sha
open Go Go.RowKit Go.Proofs.YtfjoflpidmjkbaaDoor.Aid

theorem padded_zero (e : Nat → BitVec 8) (n L : Nat) (h1 : n < L) (h2 : L < n + padAt n) : padded e n L = 0 := by
  unfold padded padByte
  rw [if_neg (by omega), if_neg (by omega), if_neg (by omega)]
theorem padded_128 (e : Nat → BitVec 8) (n : Nat) : padded e n n = 128 := by
  unfold padded padByte
  rw [if_neg (by omega), if_pos (by omega)]
theorem padded_len (e : Nat → BitVec 8) (n i : Nat) (h : i < 8) : padded e n (n + padAt n + i) = lenByte n i := by
  have := padAt_le n
  unfold padded padByte
  rw [if_neg (by omega), if_neg (by omega), if_pos (by omega), show n + padAt n + i - n - padAt n = i by omega]
theorem pad_not (n L : Nat) (h1 : n < L) (h2 : L < n + padAt n) : ¬ L % 64 = 56 := by
  unfold padAt at h2
  omega
theorem pad_end (n : Nat) : (n + padAt n) % 64 = 56 := by
  unfold padAt
  omega
def unitOf (k : Nat) : Nat := 72057594037927936 / 256 ^ k
theorem unitOf_pos (k : Nat) (h : k < 8) : 0 < unitOf k := by
  match k, h with
  | 0, _ => decide
  | 1, _ => decide
  | 2, _ => decide
  | 3, _ => decide
  | 4, _ => decide
  | 5, _ => decide
  | 6, _ => decide
  | 7, _ => decide
theorem unitOf_le (k : Nat) : unitOf k ≤ 72057594037927936 := Nat.div_le_self _ _
theorem unitOf_eq (k : Nat) (h : k < 8) : unitOf k = 2 ^ (56 - 8 * k) := by
  match k, h with
  | 0, _ => decide
  | 1, _ => decide
  | 2, _ => decide
  | 3, _ => decide
  | 4, _ => decide
  | 5, _ => decide
  | 6, _ => decide
  | 7, _ => decide
theorem unitOf_succ (k : Nat) : ((unitOf k : Nat) : Int) / 256 = ((unitOf (k + 1) : Nat) : Int) := by
  unfold unitOf
  rw [Nat.pow_succ, ← Nat.div_div_eq_div_mul]
  rfl
theorem unit_walk (n k : Nat) (h : k < 8) : ((8 * (n : Int)) / ((unitOf k : Nat) : Int)) % 256 = ((lenByte n k).toNat : Int) := by
  rw [unitOf_eq k h, ← lenByte_walk n k, Int.mul_comm]
  simp

def lenOfSlice : Value → Nat
  | .slice _ l _ => l
  | _ => 0

set_option maxRecDepth 100000 in
set_option maxHeartbeats 1000000 in
theorem filled_any (e : Nat → BitVec 8) (A : Option Addr) (n c : Nat) (w : World) (hs : SliceOf w w.heap.size n e (.slice A n c)) (hn : n ≤ 2000) :
    Calls Tryd.prog 39 #[.slice A n c] w fun x w' => ∃ v, x = .returned v ∧ Own w' w.heap.size (n + (padAt n + 8)) (padded e n) v ∧ Below w.heap.size w w' := by
  have ho0 := own_empty8 w e
  have hs0 : SliceOf (w.alloc (.cells #[] 5)) w.heap.size n e (.slice A n c) := hs.keep (fun b hb _ => Below.heap_alloc w _ b hb)
  go_enter Tryd.func39, Tryd.ntmps39
  go_wp2_with (first
    | (at_builtin
       refine append_bytes (by rfl) (.tmp 7) (.tmp 8) (by rfl) w.heap.size 0 e _ (by rfl) ho0 w.heap.size n e _ (by rfl) hs0 (by omega) (by simp) ?_
       intro v1 w1 hown1 hg1 hat1
       have hB1 : w.heap.size + 1 ≤ w1.heap.size := by have := hg1.size; simpa using this)
    | (at_builtin
       refine append_bytes (by rfl) (.tmp 9) (.tmp 10) (by rfl) w.heap.size (0 + n) (cat e 0 e) _ (by rfl) (by exact hown1.below ((Below.refl _ _).alloc (Nat.le_refl _) _)) w.heap.size 1 (fun _ => 128) _ (by rfl) (slice_one w1 w.heap.size (by omega) 128 128 rfl) (by omega) (by simp; omega) ?_
       intro v2 w2 hown2 hg2 hat2))
  have hb1 : Below w.heap.size w w1 := ((Below.refl _ _).alloc (Nat.le_refl _) _).grown hg1 (by simp) (fun k hk => by simp [Value.ownBlock] at hk; omega)
  have hb2 : Below w.heap.size w w2 := (hb1.alloc hb1.size _).grown hg2 (by have := hb1.size; simp; omega) (fun k hk => (hown1.lt hk).1)
  have h2 : Own w2 w.heap.size (n + 1) (padded e n) v2 := by
    have h := hown2
    rw [Nat.zero_add] at h
    refine Own.congr' h (fun j hj => ?_)
    unfold cat
    by_cases hjn : j < n
    · rw [if_pos hjn, if_neg (by omega), Nat.sub_zero]
      unfold padded
      rw [if_pos hjn]
    · rw [if_neg hjn, show j = n by omega, padded_128]
  have hpl := padAt_le n
  clear hown1 hown2 hg1 hg2 hat1 hat2 hb1 ho0 hs0 hs hB1
  go_loopw [3] (fun v wr => ∃ L : Nat, n + 1 ≤ L ∧ L ≤ n + padAt n ∧ Own wr w.heap.size L (padded e n) v ∧ Below w.heap.size w wr) (fun v _ => n + padAt n - lenOfSlice v)
  case atStart => exact ⟨n + 1, by omega, by omega, h2, hb2⟩
  case round =>
    clear h2 hb2
    obtain ⟨L, hL1, hL2, hown, hbl⟩ := hrel
    obtain ⟨hv, hm⟩ | ⟨g, cap, cur, rfl, hgb, hgl, hcap, _, _, _⟩ := hown.form
    · omega
    by_cases hlt : L < n + padAt n
    · have e0 : ((L : Int) % 64 != 56) = true := by
        have := pad_not n L (by omega) hlt
        rw [bne_iff_ne]
        omega
      have Hz := Lib.hid (padded_zero e n L (by omega) hlt)
      go_wp2_with (at_builtin
                   refine append_bytes (by rfl) (.tmp 16) (.tmp 17) (by rfl) w.heap.size L (padded e n) _ (by rfl) (by exact hown.below ((Below.refl _ _).alloc (Nat.le_refl _) _)) w.heap.size 1 (fun _ => 0) _ (by rfl) (slice_one wr w.heap.size (by have := hbl.size; have := (hown.lt rfl); omega) 0 0 rfl) (by omega) (by have := hbl.size; simp; omega) ?_
                   intro v3 w3 hown3 hg3 hat3)
      have h3 : Own w3 w.heap.size (L + 1) (padded e n) v3 := own_next hown3 Hz.out
      have hb3 : Below w.heap.size w w3 := (hbl.alloc hbl.size _).grown hg3 (by have := hbl.size; simp; omega) (fun k hk => (hown.lt hk).1)
      clear hown3 hg3 hat3 hown hbl Hz e0
      obtain ⟨hv, hm⟩ | ⟨g', cap', cur', rfl, _⟩ := h3.form
      · omega
      go_roundw
      case rel => exact ⟨L + 1, by omega, by omega, h3, hb3⟩
      case measure => simp [lenOfSlice]; omega
    · have hLn : L = n + padAt n := by omega
      have e0 : ((L : Int) % 64 != 56) = false := by
        have := pad_end n
        rw [bne_eq_false_iff_eq]
        omega
      have hL3 : L ≤ 2064 := by omega
      have hL4 : 1 ≤ L := by omega
      have HLn := Lib.hid hLn
      clear hLn hL1 hL2 hlt
      go_wp2
      go_loopw [3, 5, 6] (fun v u i wr => ∃ k : Nat, k ≤ 8 ∧ i = .int .i64 k ∧ u = .int .u64 ((unitOf k : Nat) : Int) ∧ Own wr w.heap.size (L + k) (padded e n) v ∧ Below w.heap.size w wr) (fun _ _ i _ => 8 - (intOf i).toNat)
      case atStart => exact ⟨0, by omega, rfl, rfl, hown, hbl⟩
      case round =>
        clear hown hbl
        obtain ⟨k, hk, rfl, rfl, hown, hbl⟩ := hrel
        by_cases hlt : k < 8
        · obtain ⟨U, hU⟩ : ∃ U : Nat, U = unitOf k := ⟨_, rfl⟩
          have hU0 : 0 < U := by rw [hU]; exact unitOf_pos k hlt
          have HU := Lib.hid hU
          rw [← hU]
          clear hU
          have hU1 : (U : Int) ≠ 0 := by omega
          have hU2 : ((U : Int) == 0) = false := by simp; omega
          have hne : w.heap.size ≠ wr.heap.size := by
            obtain ⟨hv, hm⟩ | ⟨g', cap', cur', _, h1, h2, _⟩ := hown.form
            · omega
            · omega
          have hp : Hid (padded e n (L + k) = lenByte n k) := by rw [HLn.out]; exact padded_len e n k hlt
          have hw : Hid ((8 * (n : Int) / (U : Int)).tmod 256 % 256 = ((lenByte n k).toNat : Int)) := by
            rw [HU.out, Int.tmod_eq_emod_of_nonneg (Int.ediv_nonneg (by omega) (by omega)), Int.emod_emod]; exact unit_walk n k hlt
          obtain ⟨V, hV⟩ : ∃ V : Nat, Hid (V = unitOf (k + 1)) := ⟨_, rfl⟩
          have hs : IntKind.u64.wrap ((U : Int) / 256) = (V : Int) := by
            rw [HU.out, hV.out, unitOf_succ k]
            exact IntWalk.u64_in _ (by have := unitOf_le (k + 1); omega)
          go_wp2_with (at_builtin
                       refine append_bytes (by rfl) (.tmp 27) (.tmp 33) (by rfl) w.heap.size (L + k) (padded e n) _ (by rfl) (by exact hown.below ((Below.refl _ _).alloc (Nat.le_refl _) _)) w.heap.size 1 (fun _ => lenByte n k) _ (by rfl) (slice_one wr w.heap.size hne (lenByte n k) _ hw.out) (by omega) (by have := hbl.size; simp; omega) ?_
                       intro v3 w3 hown3 hg3 hat3)
          have h3 : Own w3 w.heap.size (L + k + 1) (padded e n) v3 := own_next hown3 hp.out
          have hb3 : Below w.heap.size w w3 := (hbl.alloc hbl.size _).grown hg3 (by have := hbl.size; simp; omega) (fun k hk => (hown.lt hk).1)
          clear hown3 hg3 hat3 hown hbl hp hw
          go_roundw
          case rel =>
            exact ⟨k + 1, by omega, by go_num, int_of (by rw [hV.out]), h3, hb3⟩
          case measure => simp [intOf]; omega
        · have hk8 : k = 8 := by omega
          have h3 : Own wr w.heap.size (n + (padAt n + 8)) (padded e n) u3 := by rw [hk8, HLn.out] at hown; rw [← Nat.add_assoc]; exact hown
          go_wp2
          go_ret
          exact ⟨_, rfl, h3, hbl⟩
end Go.Proofs.YtfjoflpidmjkbaaDoor.Sha
