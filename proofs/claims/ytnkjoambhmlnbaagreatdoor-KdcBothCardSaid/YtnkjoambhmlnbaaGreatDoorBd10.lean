/-
  What bartizanref01.Same does, of any two slices of bytes: whether they are as long, and byte by byte the same. It writes nothing.
-/
import Derived.Test.YtnkjoambhmlnbaaGreatDoorBd03
import Derived.Test.YtnkjoambhmlnbaaGreatDoorProg
import Derived.WalkSmall
import Derived.Deep.Draws
namespace Go.Proofs.YtnkjoambhmlnbaaGreatDoor.Mac
open Go Go.RowKit Go.Proofs.YtnkjoambhmlnbaaGreatDoor.Aid

/-- The first n bytes, byte by byte. -/
def sameTo (e f : Nat → BitVec 8) : Nat → Bool
  | 0 => true
  | n + 1 => sameTo e f n && (e n == f n)
def sameBytes (m n : Nat) (e f : Nat → BitVec 8) : Bool := decide (m = n) && sameTo e f m
theorem sameTo_refl (e f : Nat → BitVec 8) : ∀ n, (∀ j, j < n → e j = f j) → sameTo e f n = true
  | 0, _ => rfl
  | n + 1, h => by
    show (sameTo e f n && (e n == f n)) = true
    rw [sameTo_refl e f n (fun j hj => h j (by omega)), h n (by omega)]
    simp
theorem same_refl (e f : Nat → BitVec 8) (n : Nat) (h : ∀ j, j < n → e j = f j) : sameBytes n n e f = true := by
  unfold sameBytes
  rw [sameTo_refl e f n h]
  simp
theorem same_short (e f : Nat → BitVec 8) (m n : Nat) (h : m ≠ n) : sameBytes m n e f = false := by
  unfold sameBytes
  rw [decide_eq_false h]
  rfl
/-- One byte unlike: no longer the same. -/
theorem sameTo_stop (e f : Nat → BitVec 8) (k : Nat) (h : e k ≠ f k) : ∀ n, k < n → sameTo e f n = false
  | n + 1, hn => by
    show (sameTo e f n && (e n == f n)) = false
    by_cases hk : k = n
    · subst hk; simp [h]
    · rw [sameTo_stop e f k h n (by omega)]; rfl

set_option maxRecDepth 100000 in
set_option maxHeartbeats 1000000 in
/-- 'bartizanref01.Same(a, b)'. -/
theorem same_gen (A B : Option Addr) (m n c d : Nat) (e f : Nat → BitVec 8) (g g' : Nat) (w : World) (h1 : SliceOf w g m e (.slice A m c)) (h2 : SliceOf w g' n f (.slice B n d)) (hm : m ≤ 1000000) (hn : n ≤ 1000000) :
    Calls Tryz.prog 11 #[.slice A m c, .slice B n d] w fun x w' => x = .returned (.bool (sameBytes m n e f)) ∧ ∃ q, w' = w.drewN q := by
  by_cases hmn : m = n
  · subst hmn
    go_enter Tryz.func11, Tryz.ntmps11
    go_wp2
    go_loopw [5] (fun i wr => ∃ k : Nat, k ≤ m ∧ i = .int .i64 k ∧ Hid (∃ q, wr = w.drewN q) ∧ Hid (sameTo e f k = true)) (fun i _ => m - (intOf i).toNat)
    case atStart => exact ⟨0, by omega, rfl, ⟨0, rfl⟩, rfl⟩
    case round =>
      obtain ⟨k, hk, rfl, hh, hs⟩ := hrel
      by_cases hlt : k < m
      · obtain ⟨A', c', e1, _, r1⟩ := h1
        obtain ⟨B', d', e2, _, r2⟩ := h2
        obtain ⟨sa, sx, hA, _, ha⟩ := r1 (by omega)
        obtain ⟨sb, sy, hB, _, hbc⟩ := r2 (by omega)
        simp only [Value.slice.injEq, true_and] at e1 e2
        obtain ⟨e1, e1'⟩ := e1
        obtain ⟨e2, e2'⟩ := e2
        subst e1 e1' e2 e2' hA hB
        have c0 : wr.cell? ⟨sa, sx + k, none⟩ = some (.int .u8 ((e k).toNat : Int)) := by obtain ⟨q, rfl⟩ := hh.out; exact ha k hlt
        have c1 : wr.cell? ⟨sb, sy + k, none⟩ = some (.int .u8 ((f k).toNat : Int)) := by obtain ⟨q, rfl⟩ := hh.out; exact hbc k hlt
        clear ha hbc r1 r2
        have q0 : (0 : Int) ≤ (k : Int) := by omega
        have q1 : (k : Int) < (m : Int) := by omega
        by_cases hef : e k = f k
        · have Hs' : Hid (sameTo e f (k + 1) = true) := by show (sameTo e f k && (e k == f k)) = true; rw [hs.out, hef]; simp
          rw [← hef] at c1
          clear hef
          go_wp2
          refine region_still (by kernel_rfl) (by kernel_rfl) ?_
          repeat still_step
          refine wpStill_nil ?_
          go_wp2
          go_roundw
          case rel => exact ⟨k + 1, by omega, by go_num, by obtain ⟨q, rfl⟩ := hh.out; exact ⟨q + 1, rfl⟩, Hs'⟩
          case measure => simp [intOf]; omega
        · have hst := sameTo_stop e f k hef m hlt
          have e0 : (((e k).toNat : Int) != ((f k).toNat : Int)) = true := by
            have : (e k).toNat ≠ (f k).toNat := fun h => hef (BitVec.eq_of_toNat_eq h)
            simp; omega
          have Hst := Lib.hid hst
          clear hst hef
          go_wp2
          refine region_still (by kernel_rfl) (by kernel_rfl) ?_
          repeat still_step
          refine wpStill_nil ?_
          go_wp2
          go_ret
          refine ⟨?_, by obtain ⟨q, rfl⟩ := hh.out; exact ⟨q + 1, rfl⟩⟩
          unfold sameBytes
          rw [Hst.out]
          simp
      · have hkm : k = m := by omega
        subst hkm
        go_wp2
        go_ret
        refine ⟨?_, hh.out⟩
        unfold sameBytes
        rw [hs.out]
        simp
  · have hb := same_short e f m n hmn
    have e0 : ((m : Int) != (n : Int)) = true := by simp; omega
    go_enter Tryz.func11, Tryz.ntmps11
    go_wp2
    go_ret
    exact ⟨by rw [hb]; rfl, 0, rfl⟩
end Go.Proofs.YtnkjoambhmlnbaaGreatDoor.Mac
