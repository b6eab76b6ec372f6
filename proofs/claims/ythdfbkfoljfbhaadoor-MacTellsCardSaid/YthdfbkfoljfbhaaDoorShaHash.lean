/-
  A Hash in memory: what has been written to it, and what it holds of that.
-/
import Derived.Test.YthdfbkfoljfbhaaDoorShaMix
import Derived.Test.YthdfbkfoljfbhaaDoorBytes
namespace Go.Proofs.YthdfbkfoljfbhaaDoor.Sha
open Go Go.RowKit Go.Proofs.YthdfbkfoljfbhaaDoor.Aid

def hashCell (s : St) (bl : Nat → BitVec 8) (n : Nat) (j : Nat) : Value :=
  if j < 8 then .int .u32 ((s.get j).toNat : Int) else if j < 72 then .int .u8 ((bl (j - 8)).toNat : Int) else .int .u64 (n : Int)
/-- Block g is a Hash with this state, these bytes in wait, and so many written. -/
def HashRow (w : World) (g : Nat) (s : St) (bl : Nat → BitVec 8) (n : Nat) : Prop := w.rowIs g 51 73 (hashCell s bl n)
/-- The first n bytes of D have been written to the Hash in block g (the state counts from the first byte on). -/
def HashIs (w : World) (g : Nat) (D : Nat → BitVec 8) (n : Nat) : Prop :=
  ∃ s bl, HashRow w g s bl n ∧ (0 < n → s = after D (n / 64)) ∧ ∀ j, j < n % 64 → bl j = D (64 * (n / 64) + j)
/-- The same, the state set. -/
def HashSet (w : World) (g : Nat) (D : Nat → BitVec 8) (n : Nat) : Prop :=
  ∃ bl, HashRow w g (after D (n / 64)) bl n ∧ ∀ j, j < n % 64 → bl j = D (64 * (n / 64) + j)
theorem HashSet.is {w : World} {g : Nat} {D : Nat → BitVec 8} {n : Nat} (h : HashSet w g D n) : HashIs w g D n := by
  obtain ⟨bl, h1, h2⟩ := h
  exact ⟨_, bl, h1, fun _ => rfl, h2⟩
theorem mix_congr (s : St) (b b' : Nat → BitVec 8) (h : ∀ j, j < 64 → b j = b' j) : mixOf s b = mixOf s b' := by
  have hw : ∀ i, i < 16 → word b i = word b' i := fun i hi => by
    unfold word
    rw [h (4 * i) (by omega), h (4 * i + 1) (by omega), h (4 * i + 2) (by omega), h (4 * i + 3) (by omega)]
  have hl : ∀ n, words b n = words b' n := by
    intro n
    induction n with
    | zero => rfl
    | succ n ih =>
      simp only [words, ih]
      unfold nextWord
      by_cases hn : n < 16
      · rw [if_pos hn, if_pos hn, hw n hn]
      · rw [if_neg hn, if_neg hn]
  have hs : sched b = sched b' := by
    funext i
    unfold sched
    rw [hl]
  unfold mixOf
  rw [hs]
theorem after_congr (D D' : Nat → BitVec 8) (k : Nat) (h : ∀ j, j < 64 * k → D j = D' j) : after D k = after D' k := by
  induction k with
  | zero => rfl
  | succ k ih =>
    unfold after
    rw [ih (fun j hj => h j (by omega))]
    exact mix_congr _ _ _ (fun j hj => h _ (by omega))
theorem HashIs.congr {w : World} {g : Nat} {D D' : Nat → BitVec 8} {n : Nat} (h : HashIs w g D n) (e : ∀ j, j < n → D j = D' j) : HashIs w g D' n := by
  obtain ⟨s, bl, h1, h2, h3⟩ := h
  refine ⟨s, bl, h1, fun hn => (h2 hn).trans (after_congr D D' _ (fun j hj => e j (by omega))), fun j hj => (h3 j hj).trans (e _ (by omega))⟩
theorem HashIs.keep {w w' : World} {g : Nat} {D : Nat → BitVec 8} {n : Nat} (h : HashIs w g D n) (e : w'.heap[g]? = w.heap[g]?) : HashIs w' g D n := by
  obtain ⟨s, bl, h1, h2, h3⟩ := h
  exact ⟨s, bl, World.rowIs.of_block h1 e, h2, h3⟩
theorem HashIs.lt {w : World} {g : Nat} {D : Nat → BitVec 8} {n : Nat} (h : HashIs w g D n) : g < w.heap.size := by
  obtain ⟨s, bl, h1, _⟩ := h
  exact World.rowIs.lt h1

theorem cell_len {w : World} {g : Nat} {s : St} {bl : Nat → BitVec 8} {n : Nat} (h : HashRow w g s bl n) : w.cell? ⟨g, 72, none⟩ = some (.int .u64 (n : Int)) := by
  have := World.rowIs.cell h (i := 72) (by omega)
  simpa [hashCell] using this
/-- The state is set. -/
theorem hash_state {w : World} {g : Nat} {s s' : St} {bl : Nat → BitVec 8} {n : Nat}
    (h : w.rowIs g 51 73 (fun j => if 0 ≤ j ∧ j < 0 + 8 then .int .u32 ((s'.get (j - 0)).toNat : Int) else hashCell s bl n j)) : HashRow w g s' bl n := by
  refine World.rowIs.congr h (fun i hi => ?_)
  unfold hashCell
  by_cases h8 : i < 8
  · rw [if_pos ⟨Nat.zero_le _, by omega⟩, if_pos h8, Nat.sub_zero]
  · rw [if_neg (by omega), if_neg h8, if_neg h8]
def blTo (bl e : Nat → BitVec 8) (r c : Nat) (j : Nat) : BitVec 8 := if r ≤ j ∧ j < r + c then e (j - r) else bl j
/-- Bytes come in. -/
theorem hash_bytes {w : World} {g : Nat} {s : St} {bl e : Nat → BitVec 8} {n r c : Nat} (hc : r + c ≤ 64)
    (h : w.rowIs g 51 73 (fun j => if 8 + r ≤ j ∧ j < 8 + r + c then .int .u8 ((e (j - (8 + r))).toNat : Int) else hashCell s bl n j)) : HashRow w g s (blTo bl e r c) n := by
  refine World.rowIs.congr h (fun i hi => ?_)
  unfold hashCell blTo
  by_cases h8 : i < 8
  · rw [if_neg (by omega), if_pos h8, if_pos h8]
  · rw [if_neg h8, if_neg h8]
    by_cases h72 : i < 72
    · rw [if_pos h72, if_pos h72]
      by_cases hr : 8 + r ≤ i ∧ i < 8 + r + c
      · rw [if_pos hr, if_pos (by omega), show i - (8 + r) = i - 8 - r by omega]
      · rw [if_neg hr, if_neg (by omega)]
    · rw [if_neg (by omega), if_neg h72, if_neg h72]
/-- The length is set. -/
theorem hash_len {w : World} {g : Nat} {s : St} {bl : Nat → BitVec 8} {n n' : Nat} (h : HashRow w g s bl n) : HashRow (w.setCell ⟨g, 72, none⟩ (.int .u64 (n' : Int))) g s bl n' := by
  refine World.rowIs.congr (World.rowIs.set h 72 _) (fun i hi => ?_)
  unfold hashCell
  by_cases h72 : i = 72
  · subst h72; rw [if_pos rfl, if_neg (by omega), if_neg (by omega)]
  · rw [if_neg h72]
    by_cases h8 : i < 8
    · rw [if_pos h8, if_pos h8]
    · rw [if_neg h8, if_neg h8, if_pos (by omega), if_pos (by omega)]
theorem hash_st_at (s : St) (bl : Nat → BitVec 8) (n i : Nat) (h : i < 8) : hashCell s bl n (0 + i) = .int .u32 ((s.get i).toNat : Int) := by
  unfold hashCell; rw [Nat.zero_add, if_pos h]
theorem hash_bl_at (s : St) (bl : Nat → BitVec 8) (n i : Nat) (h : i < 64) : hashCell s bl n (8 + i) = .int .u8 ((bl i).toNat : Int) := by
  unfold hashCell; rw [if_neg (by omega), if_pos (by omega), Nat.add_sub_cancel_left]
end Go.Proofs.YthdfbkfoljfbhaaDoor.Sha
