/-
  What the document's Word does.
-/
import Derived.Test.YtmnddjoncciimaaFieldPlain
import Derived.Test.YtmnddjoncciimaaMake
namespace Go.Proofs.Ytmnddjoncciimaa.Field
open Go Go.RowKit Go.Proofs.Ytmnddjoncciimaa.Aid Go.Proofs.Ytmnddjoncciimaa.Law01

def wordE (n : Nat) (E : Nat → BitVec 8) (j : Nat) : BitVec 8 := if n = 16 then E j else 0
/-- A word's value. -/
def wordV (E : Nat → BitVec 8) : Value := .agg (cellsOf 16 (fun j => .int .u8 ((E j).toNat : Int)))
theorem zero16 (Z : Array Value) (hZ : Z = Array.replicate 16 (.int .u8 0)) (i : Nat) (hi : i < 16) : Z[i]? = some (Value.int .u8 0) := by
  subst hZ; simp [hi]
theorem wordV_congr {E F : Nat → BitVec 8} (h : ∀ j, j < 16 → E j = F j) : wordV E = wordV F := by
  unfold wordV
  rw [cellsOf_congr (fun j hj => by rw [h j hj])]
/-- The first k bytes are there. -/
def wordTo (E : Nat → BitVec 8) (k j : Nat) : BitVec 8 := if j < k then E j else 0
theorem word_next (E : Nat → BitVec 8) (k j : Nat) : (if j = k then Value.int .u8 ((E k).toNat : Int) else .int .u8 ((wordTo E k j).toNat : Int)) = .int .u8 ((wordTo E (k + 1) j).toNat : Int) := by
  unfold wordTo
  by_cases h : j = k
  · subst h; rw [if_pos rfl, if_pos (by omega)]
  · rw [if_neg h]
    by_cases h2 : j < k
    · rw [if_pos h2, if_pos (by omega)]
    · rw [if_neg h2, if_neg (by omega)]
set_option maxRecDepth 100000 in
set_option maxHeartbeats 1000000 in
theorem refWord_any (A : Option Addr) (c n : Nat) (E : Nat → BitVec 8) (g : Nat) (w : World) (hn : n ≤ 1000000) (h : SliceOf w g n E (.slice A n c)) :
    Calls Try.prog 15 #[.slice A n c] w fun x w' => x = .returned (.tuple #[wordV (wordE n E), .int .i64 (wordC n)]) ∧ Below w.heap.size w w' := by
  by_cases h16 : n = 16
  · subst h16
    rw [show wordC 16 = 0 from by unfold wordC; rw [if_pos rfl], wordV_congr (F := E) (fun j hj => by unfold wordE; rw [if_pos rfl])]
    obtain ⟨A', c', he, hc, hr⟩ := h
    simp only [Value.slice.injEq, true_and] at he
    obtain ⟨rfl, rfl⟩ := he
    obtain ⟨sb, so, rfl, _, hcell⟩ := hr (by omega)
    have HC := Lib.hid hcell
    clear hcell hr
    go_enter Try.func15, Try.ntmps15
    go_wp2_with (refine store_whole (by rfl) 36 (.tmp 4) (.tmp 6) (by rfl) (w.heap.size + 1) _ 16 (fun _ => .int .u8 0) (fun _ => .int .u8 0) (by have := row_new (w.alloc (.cells (Array.replicate 16 (.int .u8 0)) 36)) (Array.replicate 16 (.int .u8 0)) 36 16 (fun _ => .int .u8 0) (by simp) (zero16 _ rfl); rw [World.size_alloc] at this; exact this) (by rfl) _ (by rfl) (by kernel_rfl) (by rfl) (zero16 _ (by rfl)) (fun _ _ => rfl) ?_
                 intro w2 hr2 ho2
                 have hz2 := ho2.row ((row_new w (Array.replicate 16 (.int .u8 0)) 36 16 (fun _ => .int .u8 0) (by simp) (zero16 _ rfl)).alloc (.cells (Array.replicate 16 (.int .u8 0)) 36)) (by omega)
                 have hb2 : Below w.heap.size w w2 := ho2.below (((Below.refl _ w).alloc (Nat.le_refl _) (.cells (Array.replicate 16 (.int .u8 0)) 36)).alloc (by simp) (.cells (Array.replicate 16 (.int .u8 0)) 36)) (by omega))
    clear ho2
    have hw0 : w2.rowIs (w.heap.size + 1) 36 16 (fun j => .int .u8 ((wordTo E 0 j).toNat : Int)) := hr2.congr (fun j _ => by unfold wordTo; rw [if_neg (by omega)]; rfl)
    go_loopw [5] (fun i wr => ∃ k : Nat, k ≤ 16 ∧ i = .int .i64 (k : Int) ∧ Hid (wr.rowIs (w.heap.size + 1) 36 16 (fun j => .int .u8 ((wordTo E k j).toNat : Int))) ∧ Hid (wr.rowIs w.heap.size 36 16 (fun _ => .int .u8 0)) ∧ Hid (Below w.heap.size w wr)) (fun i _ => 16 - (intOf i).toNat)
    case atStart => exact ⟨0, by omega, rfl, hw0, hz2, hb2⟩
    case round =>
      clear hr2 hw0 hz2 hb2
      obtain ⟨k, hk, rfl, hr, hz, hb⟩ := hrel
      by_cases hlt : k < 16
      · have c0 := HC.out k hlt
        have hsb := block_lt_of_cell c0
        have c0' := (hb.out.cell (p := ⟨sb, so + k, none⟩) hsb).trans c0
        have q0 : (0 : Int) ≤ (k : Int) := by omega
        have q1 : (k : Int) < 16 := by omega
        have d0 := hr.out.cell hlt
        have f0 := hr.out.frozen k
        have hs := hr.out.set k (.int .u8 ((E k).toNat : Int))
        have hs' : (wr.setCell ⟨w.heap.size + 1, k, none⟩ (.int .u8 ((E k).toNat : Int))).rowIs (w.heap.size + 1) 36 16 (fun j => .int .u8 ((wordTo E (k + 1) j).toNat : Int)) := hs.congr (fun j _ => word_next E k j)
        have hz' : (wr.setCell ⟨w.heap.size + 1, k, none⟩ (.int .u8 ((E k).toNat : Int))).rowIs w.heap.size 36 16 (fun _ => .int .u8 0) := hz.out.of_block (heap_setCell_other _ _ _ _ (by simp))
        have hb' : Below w.heap.size w (wr.setCell ⟨w.heap.size + 1, k, none⟩ (.int .u8 ((E k).toNat : Int))) := hb.out.setCell (p := ⟨w.heap.size + 1, k, none⟩) (by simp) _
        have HS := Lib.hid hs'
        have HZ := Lib.hid hz'
        have HB := Lib.hid hb'
        clear hs hs' hz' hb' hr hz hb c0 HC hsb
        go_wp2
        exact ⟨⟨k + 1, by omega, congrArg (Value.int .i64) (by omega), HS, HZ, HB⟩, by simp [intOf]; omega⟩
      · obtain rfl : k = 16 := by omega
        clear HC
        have hr' := hr.out
        have hz' := hz.out
        have hb' := hb.out
        clear hr hz hb
        go_wp2_with (first
          | (refine load_whole (by rfl) 36 (.tmp 4) (by rfl) _ _ _ _ hr' (by rfl) _ Try.underlying36 rfl (by kernel_rfl) ?_)
          | (refine store_whole (by rfl) 36 (.tmp 2) (.tmp 21) (by rfl) w.heap.size _ 16 (fun _ => .int .u8 0) (fun j => .int .u8 ((E j).toNat : Int)) hz' (by rfl) _ (by rfl) (by kernel_rfl) (size_cellsOf _ _) (fun j hj => by rw [cellsOf_at _ _ j hj]; unfold wordTo; rw [if_pos hj]) (fun _ _ => rfl) ?_
             intro w3 hr3 ho3
             have hb3 : Below w.heap.size w w3 := ho3.below hb' (Nat.le_refl _)
             clear ho3))
        exact bodyPost_ret (results_row_tmp rfl _ w.heap.size _ _ _ _ (by rfl) hr3 Try.underlying36 rfl (by kernel_rfl)) rfl ⟨rfl, hb3⟩
  · have h16' : ((n : Int) == 16) = false := by simp; omega
    rw [show wordC n = 3 from by unfold wordC; rw [if_neg h16], wordV_congr (F := fun _ => 0) (fun j hj => by unfold wordE; rw [if_neg h16])]
    clear h
    go_enter Try.func15, Try.ntmps15
    go_wp2_with (first
      | (refine store_whole (by rfl) 36 (.tmp 4) (.tmp 6) (by rfl) (w.heap.size + 1) _ 16 (fun _ => .int .u8 0) (fun _ => .int .u8 0) (by have := row_new (w.alloc (.cells (Array.replicate 16 (.int .u8 0)) 36)) (Array.replicate 16 (.int .u8 0)) 36 16 (fun _ => .int .u8 0) (by simp) (zero16 _ rfl); rw [World.size_alloc] at this; exact this) (by rfl) _ (by rfl) (by kernel_rfl) (by rfl) (zero16 _ (by rfl)) (fun _ _ => rfl) ?_
         intro w2 hr2 ho2
         have hz2 := ho2.row ((row_new w (Array.replicate 16 (.int .u8 0)) 36 16 (fun _ => .int .u8 0) (by simp) (zero16 _ rfl)).alloc (.cells (Array.replicate 16 (.int .u8 0)) 36)) (by omega)
         have hb2 : Below w.heap.size w w2 := ho2.below (((Below.refl _ w).alloc (Nat.le_refl _) (.cells (Array.replicate 16 (.int .u8 0)) 36)).alloc (by simp) (.cells (Array.replicate 16 (.int .u8 0)) 36)) (by omega)
         clear ho2)
      | (refine load_whole (by rfl) 36 (.tmp 4) (by rfl) _ _ _ _ hr2 (by rfl) _ Try.underlying36 rfl (by kernel_rfl) ?_)
      | (refine store_whole (by rfl) 36 (.tmp 2) (.tmp 10) (by rfl) w.heap.size _ 16 (fun _ => .int .u8 0) (fun _ => .int .u8 0) hz2 (by rfl) _ (by rfl) (by kernel_rfl) (size_cellsOf _ _) (cellsOf_at _ _) (fun _ _ => rfl) ?_
         intro w3 hr3 ho3
         have hb3 : Below w.heap.size w w3 := ho3.below hb2 (Nat.le_refl _)
         clear ho3))
    exact bodyPost_ret (results_row_tmp rfl _ w.heap.size _ _ _ _ (by rfl) hr3 Try.underlying36 rfl (by kernel_rfl)) rfl ⟨rfl, hb3⟩
end Go.Proofs.Ytmnddjoncciimaa.Field
