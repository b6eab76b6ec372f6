/-
  The walk of bartizanlaw01.ShaKeeps: for every slice of bytes and every place it returns true, and writes nothing that was there.
-/
import Derived.Test.YthdfbkfoljfbhaaDoorLaw01Awake
import Derived.Test.YthdfbkfoljfbhaaDoorOwn
import Derived.Test.YthdfbkfoljfbhaaDoorEq
import Derived.Deep.RegionHeld3
namespace Go.Proofs.YthdfbkfoljfbhaaDoor.Law01
open Go Go.RowKit Go.Proofs.YthdfbkfoljfbhaaDoor.Aid Go.Proofs.YthdfbkfoljfbhaaDoor.Sha

theorem own_empty (w : World) (e : Nat → BitVec 8) : Own (w.alloc (.cells #[] 5)) w.heap.size 0 e (.slice (some ⟨w.heap.size, 0, none⟩) 0 0) :=
  World.ownsRow_made w #[] 0 (Nat.le_refl _) (by simp [maxLen]) (by simp)

set_option maxRecDepth 100000 in
set_option maxHeartbeats 1000000 in
/-- 'Same': bytes held against themselves. -/
theorem same_any (A B : Option Addr) (m c d : Nat) (e : Nat → BitVec 8) (g : Nat) (w : World) (h1 : SliceOf w g m e (.slice A m c)) (h2 : SliceOf w g m e (.slice B m d)) (hm : m ≤ 1000000) :
    Calls Tryd.prog 16 #[.slice A m c, .slice B m d] w fun e w' => e = .returned (.bool true) ∧ Below w.heap.size w w' := by
  go_enter Tryd.func16, Tryd.ntmps16
  go_wp2
  go_loopw [5] (fun i wr => ∃ k : Nat, k ≤ m ∧ i = .int .i64 k ∧ Hid (wr.heap = w.heap) ∧ Below w.heap.size w wr) (fun i _ => m - (intOf i).toNat)
  case atStart => exact ⟨0, by omega, rfl, rfl, Below.refl _ _⟩
  case round =>
    obtain ⟨k, hk, rfl, hh, hb⟩ := hrel
    by_cases hlt : k < m
    · obtain ⟨A', c', e1, _, r1⟩ := h1
      obtain ⟨B', d', e2, _, r2⟩ := h2
      obtain ⟨sa, sx, hA, _, ha⟩ := r1 (by omega)
      obtain ⟨sb, sy, hB, _, hbc⟩ := r2 (by omega)
      simp only [Value.slice.injEq, true_and] at e1 e2
      obtain ⟨e1, e1'⟩ := e1
      obtain ⟨e2, e2'⟩ := e2
      subst e1 e1' e2 e2' hA hB
      have c0 : wr.cell? ⟨sa, sx + k, none⟩ = some (.int .u8 ((e k).toNat : Int)) := by rw [World.cell?_of_block (w := w) (w' := wr) (by rw [hh.out])]; exact ha k hlt
      have c1 : wr.cell? ⟨sb, sy + k, none⟩ = some (.int .u8 ((e k).toNat : Int)) := by rw [World.cell?_of_block (w := w) (w' := wr) (by rw [hh.out])]; exact hbc k hlt
      clear ha hbc r1 r2
      have q0 : (0 : Int) ≤ (k : Int) := by omega
      have q1 : (k : Int) < (m : Int) := by omega
      go_wp2
      refine region_still (by kernel_rfl) (by kernel_rfl) ?_
      repeat still_step
      refine wpStill_nil ?_
      go_wp2
      go_roundw
      case rel => exact ⟨k + 1, by omega, by go_num, hh, hb.drew⟩
      case measure => simp [intOf]; omega
    · go_wp2
      go_ret
      exact ⟨rfl, hb⟩

set_option maxRecDepth 100000 in
set_option maxHeartbeats 1000000 in
theorem keeps_out (A : Option Addr) (len cap : Nat) (at_ : Int) (w : World) (hk : Consts w) (h : (400 : Int) < (len : Int) ∨ at_ < 0 ∨ (len : Int) ≤ at_) :
    Calls Tryd.prog 5 #[.slice A len cap, .int .i64 at_] w fun e w' => e = .returned (.bool true) ∧ Below w.heap.size w w' := by
  by_cases h1 : (400 : Int) < (len : Int)
  · go_enter Tryd.func5, Tryd.ntmps5
    go_wp2_with fail
    refine (awake_any w hk).mono ?_
    rintro e w1 ⟨rfl, hb1⟩
    go_wp2
    go_ret
    exact ⟨rfl, hb1⟩
  · by_cases h2 : at_ < 0
    · go_enter Tryd.func5, Tryd.ntmps5
      go_wp2_with fail
      refine (awake_any w hk).mono ?_
      rintro e w1 ⟨rfl, hb1⟩
      go_wp2
      go_ret
      exact ⟨rfl, hb1⟩
    · have h3 : (len : Int) ≤ at_ := by omega
      go_enter Tryd.func5, Tryd.ntmps5
      go_wp2_with fail
      refine (awake_any w hk).mono ?_
      rintro e w1 ⟨rfl, hb1⟩
      go_wp2
      go_ret
      exact ⟨rfl, hb1⟩

theorem own_zero {w : World} {base m : Nat} {e f : Nat → BitVec 8} {v : Value} (h : Own w base (0 + m) (cat e 0 f) v) : Own w base m f v := by
  unfold Own at h ⊢
  rw [Nat.zero_add] at h
  simpa [cat] using h

set_option maxRecDepth 100000 in
set_option maxHeartbeats 2000000 in
theorem keeps_in (A : Option Addr) (len cap : Nat) (e : Nat → BitVec 8) (k : Nat) (w : World) (hk : Consts w) (hs : SliceOf w w.heap.size len e (.slice A len cap)) (hl : len ≤ 400) (hkl : k < len) :
    Calls Tryd.prog 5 #[.slice A len cap, .int .i64 k] w fun e w' => e = .returned (.bool true) ∧ Below w.heap.size w w' := by
  go_enter Tryd.func5, Tryd.ntmps5
  go_wp2_with fail
  refine (awake_any w hk).mono ?_
  rintro e0 w1 ⟨rfl, hb1⟩
  have hk1 := hk.below hb1 (Nat.le_refl _)
  have hs1 := slice_any (slice_below hs hb1) (Nat.le_refl w1.heap.size)
  have q1 : ¬ (400 : Int) < (len : Int) := by omega
  have q2 : ¬ (k : Int) < 0 := by omega
  have q3 : ¬ (len : Int) ≤ (k : Int) := by omega
  have ho0 := own_empty w1 e
  clear hs
  have hs2 : SliceOf (w1.alloc (.cells #[] 5)) w1.heap.size len e (.slice A len cap) := hs1.keep (fun b hb _ => Below.heap_alloc w1 _ b hb)
  clear hs1
  go_wp2_with (at_builtin
               refine append_bytes (by rfl) (.tmp 25) (.tmp 26) (by rfl) w1.heap.size 0 e _ (by rfl) ho0 w1.heap.size len e _ (by rfl) hs2 (by omega) (by simp) ?_
               intro v2 w2 hown2 hg2 hat2)
  have hown := own_zero hown2
  have hb2 : Below w1.heap.size w1 w2 := ⟨hg2.os, hg2.tape, hg2.output, Nat.le_trans (by simp) hg2.size, fun b hb => (hg2.block b (by simp; omega) (by simp [Value.ownBlock]; omega)).trans (Below.heap_alloc w1 _ b hb)⟩
  have hB2 := hb2.size
  have hs2' := hs2.keep (w' := w2) (fun b hb hne => by
    simp at hb
    have hlt : b < w1.heap.size := by omega
    exact (hb2.block b hlt).trans (Below.heap_alloc w1 _ b hlt).symm)
  clear hown2 hg2 hat2 ho0 hs2
  obtain ⟨hv, hm⟩ | ⟨g2, cap2, cur, rfl, hgb, hgl, hcap, hheap, hcur, hcells⟩ := hown.form
  · omega
  have hk2 := hk1.below hb2 (Nat.le_refl _)
  have hb2' := hb1.trans (hb2.mono hb1.size)
  have hB1 := hb1.size
  clear hb2 hb1 hk1
  refine (sum_any e len w2.heap.size _ w2 hk2 (hown.slice (.inr (Nat.le_refl _))) (by omega)).mono ?_
  rintro e0 w3 ⟨rfl, hb3⟩
  go_wp2_with (refine store_whole (by rfl) 24 (.tmp 7) (.tmp 29) (by rfl) w3.heap.size _ 32 (fun _ => .int .u8 0) (fun j => .int .u8 ((digest e len j).toNat : Int)) (by exact row_new w3 _ _ 32 _ (by rfl) (zeros32 _ (by rfl))) (by rfl) _ (by rfl) (by kernel_rfl) (size_cellsOf _ _) (cellsOf_at _ _) (fun _ _ => rfl) ?_
               intro w4 hr4 ho4)
  have hb4 : Below w2.heap.size w2 w4 := ho4.below (hb3.alloc hb3.size _) hb3.size
  have hs4 : w4.heap.size = w3.heap.size + 1 := by rw [ho4.size]; simp
  have Hs4 := Lib.hid hs4
  have hB3 := hb3.size
  clear hs4 ho4 hb3
  have hown4 := hown.below hb4
  have hk4 := hk2.below hb4 (Nat.le_refl _)
  have hs4' := slice_any (slice_below hs2' hb4) (Nat.le_refl w4.heap.size)
  have hb4' := hb2'.trans (hb4.mono (by omega))
  clear hb4 hk2 hb2' hown hs2'
  refine (same_any _ _ len _ _ e w4.heap.size w4 (hown4.slice (.inr (Nat.le_refl _))) hs4' (by omega)).mono ?_
  rintro e0 w5 ⟨rfl, hb5⟩
  have hk5 := hk4.below hb5 (Nat.le_refl _)
  have hown5 := hown4.below hb5
  have hr5 := hr4.of_block (hb5.block _ hr4.lt)
  have hB4 : w3.heap.size < w4.heap.size := hr4.lt
  have hb5' := hb4'.trans (hb5.mono (by omega))
  have hB5 := hb5.size
  clear hk4 hown4 hr4 hb4' hb5 hs4'
  go_wp2_with fail
  refine (new_any w5).mono ?_
  rintro e0 w6 ⟨rfl, rfl⟩
  have hh6 := hash_born w5 e
  have hb6 : Below w5.heap.size w5 (w5.alloc (.cells zeroHash 51)) := (Below.refl _ _).alloc (Nat.le_refl _) _
  generalize hw6 : w5.alloc (.cells zeroHash 51) = w6 at *
  clear hw6
  have hk6 := hk5.below hb6 (Nat.le_refl _)
  have hown6 := hown5.below hb6
  have hr6 := hr5.of_block (hb6.block _ hr5.lt)
  have hb6' := hb5'.trans (hb6.mono (by omega))
  have hg5 : g2 < w5.heap.size := (hown5.lt rfl).2
  have hs6 : SliceOf w6 w5.heap.size len (fun i => e (0 + i)) (.slice (some ⟨g2, 0, none⟩) len cap2) := by
    simp only [Nat.zero_add]
    exact slice_below (hown5.slice (.inr (Nat.le_refl _))) hb6
  clear hown5 hr5 hb5' hb6
  go_wp2_with fail
  refine (write_any e w5.heap.size 0 len _ w6 hk6 hh6 hs6 (by omega) (by have := hk5.lt; omega)).mono ?_
  rintro e0 w7 ⟨rfl, hh7, hg7⟩
  rw [Nat.zero_add] at hh7
  have hk7 := hk6.grown hg7 (by have := hk5.lt; omega)
  have hr7 := hr6.of_block (hg7.block _ hr6.lt (by simp; omega))
  have hown7 : Own w7 w1.heap.size len e (.slice (some ⟨g2, 0, none⟩) len cap2) := hown6.keep (fun b hb => hg7.block b (hown6.lt hb).2 (by
    have hbg : g2 = b := by simpa [Value.ownBlock] using hb
    subst hbg
    simp; omega))
  have hb7' : Below w.heap.size w w7 := hb6'.trans ⟨hg7.os, hg7.tape, hg7.output, hg7.size, fun b hb => hg7.block b (by have := hb6'.size; omega) (by simp; omega)⟩
  clear hk6 hr6 hown6 hb6' hg7 hs6 hh6 hheap hcells hcur
  obtain ⟨hv, hm⟩ | ⟨g', cap', cur', hv', _, _, _, hheap, hcur, hcells⟩ := hown7.form
  · omega
  simp only [Value.slice.injEq, Option.some.injEq, Addr.mk.injEq, and_true, true_and] at hv'
  obtain ⟨rfl, rfl⟩ := hv'
  have ck : w7.cell? ⟨g2, k, none⟩ = some (.int .u8 ((e k).toNat : Int)) := by rw [cell_of_row w7 g2 k cur' _ _ hheap]; exact hcells k hkl
  have fk : w7.frozen? ⟨g2, k, none⟩ = false := frozen_of_row w7 g2 k cur' _ hheap
  clear hheap hcells hcur hown7
  go_wp2
  have hh8 : HashIs (w7.setCell ⟨g2, k, none⟩ (.int .u8 (bits .xor .u8 ((e k).toNat : Int) 255))) w5.heap.size e len := hh7.keep (Below.heap_setCell _ _ _ _ (by simp; omega))
  have hr8 := hr7.setOther (a := ⟨g2, k, none⟩) (by simp; omega) (.int .u8 (bits .xor .u8 ((e k).toNat : Int) 255))
  have hb8 := hb7'.setCell (p := ⟨g2, k, none⟩) (by simp; omega) (.int .u8 (bits .xor .u8 ((e k).toNat : Int) 255))
  have hk8 : Consts (w7.setCell ⟨g2, k, none⟩ (.int .u8 (bits .xor .u8 ((e k).toNat : Int) 255))) := hk.below hb8 (Nat.le_refl _)
  clear hh7 hr7 hb7' hk7 ck fk
  generalize w7.setCell ⟨g2, k, none⟩ (.int .u8 (bits .xor .u8 ((e k).toNat : Int) 255)) = w8 at *
  obtain ⟨ct, hct⟩ : ∃ ct : List Value, ct = (List.range 32).map fun j => Value.int .u8 ((digest e len j).toNat : Int) := ⟨_, rfl⟩
  have r8 : w8.rangeAt w3.heap.size 0 ct := by
    have := row_range hr8 0 32 (by omega)
    simp only [Nat.zero_add] at this
    rw [hct]; exact this
  have hsz : w3.heap.size < w8.heap.size := hr8.lt
  have l32 : ct.length = 32 := by rw [hct]; simp
  have hu32 := Tryd.underlying24
  have hi32 : (Tryd.prog.info? 24).map (·.size) = some ct.length := by rw [l32]; kernel_rfl
  have heq : ∀ W, (binOp .eql 24 (.agg (byteCells 32 (digest e len))) (.agg ct.toArray)).run Tryd.prog W = .ok (.bool true) W := fun W => by
    rw [hct]
    exact run_eql_same Tryd.underlying24 Tryd.underlying5 (by kernel_rfl) _ (fun i hi => ⟨_, cellsOf_at 32 _ i hi⟩) W
  have Hsum := fun W hW hH => hashSum_any e w5.heap.size len W hW hH (by omega)
  clear hct hr8
  go_region_held3 (fun W => W.rangeAt w3.heap.size 0 ct) (first | assumption | exact S9) ((go_at_call 15; refine (Hsum w8.drew hk8.drew (hh8.keep rfl)).mono ?_; rintro e9 w9 ⟨rfl, hb9⟩; have S9 : w9.rangeAt w3.heap.size 0 ct := fun j v hv => (hb9.cell (p := ⟨w3.heap.size, 0 + j, none⟩) hsz).trans (r8 j v hv)))
  go_wp2
  go_ret
  exact ⟨rfl, hb8.drew.trans (hb9.mono hb8.size)⟩

/-- THE WALK, for every slice of bytes and every number. -/
theorem keeps_any (A : Option Addr) (len cap : Nat) (e : Nat → BitVec 8) (at_ : Int) (w : World) (hk : Consts w) (hs : SliceOf w w.heap.size len e (.slice A len cap)) :
    Calls Tryd.prog 5 #[.slice A len cap, .int .i64 at_] w fun e w' => e = .returned (.bool true) ∧ Below w.heap.size w w' := by
  by_cases h : (400 : Int) < (len : Int) ∨ at_ < 0 ∨ (len : Int) ≤ at_
  · exact keeps_out A len cap at_ w hk h
  · obtain ⟨k, rfl⟩ := Int.eq_ofNat_of_zero_le (show 0 ≤ at_ by omega)
    exact keeps_in A len cap e k w hk hs (by omega) (by omega)
end Go.Proofs.YthdfbkfoljfbhaaDoor.Law01
