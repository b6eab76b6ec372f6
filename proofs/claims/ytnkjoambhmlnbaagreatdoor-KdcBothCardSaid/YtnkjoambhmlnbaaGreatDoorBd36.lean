/-
  What mac.Equal does, of any two slices of bytes: whether they are as long, and byte by byte the same. They write nothing.
-/
import Derived.Test.YtnkjoambhmlnbaaGreatDoorBd29
import Derived.Test.YtnkjoambhmlnbaaGreatDoorBd10
import Derived.WalkSmall
import Derived.Deep.Draws
namespace Go.Proofs.YtnkjoambhmlnbaaGreatDoor.Mac
open Go Go.RowKit Go.Proofs.YtnkjoambhmlnbaaGreatDoor.Aid Go.Proofs.YtnkjoambhmlnbaaGreatDoor.Sha

def unlikeTo (e f : Nat → BitVec 8) : Nat → BitVec 8
  | 0 => 0
  | n + 1 => unlikeTo e f n ||| (e n ^^^ f n)
theorem or_zero (x y : BitVec 8) : (x ||| y = 0) ↔ x = 0 ∧ y = 0 := by
  constructor
  · intro h
    constructor
    · apply BitVec.eq_of_getLsbD_eq
      intro i hi
      have := congrArg (fun z => z.getLsbD i) h
      simp at this
      simp [this.1]
    · apply BitVec.eq_of_getLsbD_eq
      intro i hi
      have := congrArg (fun z => z.getLsbD i) h
      simp at this
      simp [this.2]
  · rintro ⟨rfl, rfl⟩; rfl
theorem xor_zero (x y : BitVec 8) : (x ^^^ y = 0) ↔ x = y := by
  constructor
  · intro h
    apply BitVec.eq_of_getLsbD_eq
    intro i hi
    have := congrArg (fun z => z.getLsbD i) h
    simpa using this
  · rintro rfl; simp
theorem unlike_same (e f : Nat → BitVec 8) : ∀ n, (((unlikeTo e f n).toNat : Int) == 0) = sameTo e f n
  | 0 => rfl
  | n + 1 => by
    have ih := unlike_same e f n
    have hz : ∀ x : BitVec 8, ((x.toNat : Int) == 0) = decide (x = 0) := fun x => by
      by_cases h : x = 0
      · subst h; rfl
      · rw [decide_eq_false h]
        have : x.toNat ≠ 0 := fun h' => h (BitVec.eq_of_toNat_eq (by simpa using h'))
        simp; omega
    rw [hz] at ih ⊢
    show decide (unlikeTo e f n ||| (e n ^^^ f n) = 0) = (sameTo e f n && (e n == f n))
    rw [← ih]
    by_cases h1 : unlikeTo e f n = 0
    · by_cases h2 : e n = f n
      · simp [h1, h2]
      · have : ¬ (unlikeTo e f n ||| (e n ^^^ f n) = 0) := fun h => h2 ((xor_zero _ _).1 ((or_zero _ _).1 h).2)
        simp only [decide_eq_false this]
        simp [h2]
    · have : ¬ (unlikeTo e f n ||| (e n ^^^ f n) = 0) := fun h => h1 ((or_zero _ _).1 h).1
      rw [decide_eq_false this, decide_eq_false h1]
      rfl
set_option maxRecDepth 100000 in
set_option maxHeartbeats 1000000 in
/-- 'mac.Equal(a, b)'. -/
theorem equal_any (A B : Option Addr) (m n c d : Nat) (e f : Nat → BitVec 8) (g g' : Nat) (w : World) (h1 : SliceOf w g m e (.slice A m c)) (h2 : SliceOf w g' n f (.slice B n d)) (hm : m ≤ 1000000) (hn : n ≤ 1000000) :
    Calls Tryz.prog 50 #[.slice A m c, .slice B n d] w fun x w' => x = .returned (.bool (sameBytes m n e f)) ∧ ∃ q, w' = w.drewN q := by
  by_cases hmn : m = n
  · subst hmn
    have hun := unlike_same e f m
    have Hun := Lib.hid hun
    clear hun
    go_enter Tryz.func50, Tryz.ntmps50
    go_wp2
    go_loopw [5, 14] (fun u i wr => ∃ k : Nat, k ≤ m ∧ i = .int .i64 k ∧ u = .int .u8 ((unlikeTo e f k).toNat : Int) ∧ Hid (∃ q, wr = w.drewN q)) (fun _ i _ => m - (intOf i).toNat)
    case atStart => exact ⟨0, by omega, rfl, rfl, ⟨0, rfl⟩⟩
    case round =>
      obtain ⟨k, hk, rfl, rfl, hh⟩ := hrel
      by_cases hlt : k < m
      · obtain ⟨A', c', e1, _, r1⟩ := h1
        obtain ⟨B', d', e2, _, r2⟩ := h2
        obtain ⟨sa, sx, hA, _, ha⟩ := r1 (by omega)
        obtain ⟨sb, sy, hB, _, hbc⟩ := r2 (by omega)
        simp only [Value.slice.injEq, true_and] at e1 e2
        obtain ⟨e1, e1'⟩ := e1
        obtain ⟨e2, e2'⟩ := e2
        subst e1 e1' e2 e2' hA hB
        have c0 : wr.cell? ⟨sa, sx + k, none⟩ = some (.int .u8 ((e k).toNat : Int)) := by obtain ⟨q, rfl⟩ := hh.out; exact ha k hlt
        have c1 : wr.cell? ⟨sb, sy + k, none⟩ = some (.int .u8 ((f k).toNat : Int)) := by obtain ⟨q, rfl⟩ := hh.out; exact hbc k hlt
        clear ha hbc r1 r2
        have q0 : (0 : Int) ≤ (k : Int) := by omega
        have q1 : (k : Int) < (m : Int) := by omega
        go_wp2
        refine region_still (by kernel_rfl) (by kernel_rfl) ?_
        repeat still_step
        refine wpStill_nil ?_
        go_wp2
        go_roundw
        case rel => exact ⟨k + 1, by omega, by go_num, congrArg (Value.int .u8) (by rw [xor8, or8]; rfl), by obtain ⟨q, rfl⟩ := hh.out; exact ⟨q + 1, rfl⟩⟩
        case measure => simp [intOf]; omega
      · have hkm : k = m := by omega
        subst hkm
        have hbe := Hun.out
        go_wp2
        go_ret
        refine ⟨?_, hh.out⟩
        unfold sameBytes
        simp
  · have hb := same_short e f m n hmn
    have e0 : ((m : Int) != (n : Int)) = true := by simp; omega
    go_enter Tryz.func50, Tryz.ntmps50
    go_wp2
    go_ret
    exact ⟨by rw [hb]; rfl, 0, rfl⟩
end Go.Proofs.YtnkjoambhmlnbaaGreatDoor.Mac
