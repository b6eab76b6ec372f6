/-
  What mac.begin does: a Hash to which a filled key was written, byte by byte xored.
-/
import Derived.Test.YthdfbkfoljfbhaaDoorMacPad
namespace Go.Proofs.YthdfbkfoljfbhaaDoor.Mac
open Go Go.RowKit Go.Proofs.YthdfbkfoljfbhaaDoor.Aid Go.Proofs.YthdfbkfoljfbhaaDoor.Sha

def xorTo (P : Nat → BitVec 8) (x : BitVec 8) (k j : Nat) : BitVec 8 := if j < k then P j ^^^ x else P j
theorem xorTo_next (P : Nat → BitVec 8) (x : BitVec 8) (k : Nat) {w : World} {g : Nat} (h : w.rowIs g 48 64 (fun j => .int .u8 ((xorTo P x k j).toNat : Int))) (v : Int) (hv : v = ((P k ^^^ x).toNat : Int)) :
    (w.setCell ⟨g, k, none⟩ (.int .u8 v)).rowIs g 48 64 (fun j => .int .u8 ((xorTo P x (k + 1) j).toNat : Int)) := by
  refine (h.set k (.int .u8 v)).congr (fun i hi => ?_)
  unfold xorTo
  by_cases h1 : i = k
  · subst h1
    rw [if_pos rfl, hv, if_pos (by omega)]
  · rw [if_neg h1]
    by_cases h2 : i < k
    · rw [if_pos h2, if_pos (by omega)]
    · rw [if_neg h2, if_neg (by omega)]

set_option maxRecDepth 100000 in
set_option maxHeartbeats 1000000 in
theorem begin_any (P : Nat → BitVec 8) (x : BitVec 8) (C : Array Value) (hC : C.size = 64) (hCi : ∀ i, i < 64 → C[i]? = some (.int .u8 ((P i).toNat : Int))) (D : Nat → BitVec 8) (hD : ∀ j, j < 64 → D j = P j ^^^ x) (w : World) (hk : Consts w) :
    Calls Tryd.prog 30 #[.agg C, .int .u8 (x.toNat : Int)] w fun e w' => ∃ b, e = .returned (.pointer (some ⟨b, 0, none⟩)) ∧ w.heap.size ≤ b ∧ b < w'.heap.size ∧ HashIs w' b D 64 ∧ Below w.heap.size w w' := by
  have hr0 : (w.alloc (.cells C 48)).rowIs w.heap.size 48 64 (fun j => .int .u8 ((xorTo P x 0 j).toNat : Int)) := row_new w C _ 64 _ hC (fun i hi => by rw [hCi i hi]; rfl)
  have hb0 : Below w.heap.size w (w.alloc (.cells C 48)) := (Below.refl _ _).alloc (by simp) _
  have HD := Lib.hid hD
  clear hD hCi
  go_enter Tryd.func30, Tryd.ntmps30
  go_wp2
  go_loopw [5, 7] (fun _ i wr => ∃ k : Nat, k ≤ 64 ∧ i = .int .i64 k ∧ Hid (wr.rowIs w.heap.size 48 64 (fun j => .int .u8 ((xorTo P x k j).toNat : Int))) ∧ Below w.heap.size w wr) (fun _ i _ => 64 - (intOf i).toNat)
  case atStart => exact ⟨0, by omega, rfl, hr0, hb0⟩
  case round =>
    clear hr0 hb0
    obtain ⟨k, hk', rfl, hr, hb⟩ := hrel
    by_cases hlt : k < 64
    · have c0 : wr.cell? ⟨w.heap.size, k, none⟩ = some (.int .u8 ((P k).toNat : Int)) := by
        rw [hr.out.cell hlt]
        unfold xorTo
        rw [if_neg (by omega)]
      have f0 := hr.out.frozen k
      have q0 : (0 : Int) ≤ (k : Int) := by omega
      have q1 : (k : Int) < 64 := by omega
      go_wp2
      go_roundw
      case rel => exact ⟨k + 1, by omega, by go_num, xorTo_next P x k hr.out _ (xor8 _ _), hb.setCell (by simp) _⟩
      case measure => simp [intOf]; omega
    · obtain rfl : k = 64 := by omega
      have hk1 := hk.below hb (Nat.le_refl _)
      go_wp2_with fail
      refine (new_any wr).mono ?_
      rintro e w2 ⟨rfl, rfl⟩
      have hh2 := hash_born wr D
      have hb2 : Below wr.heap.size wr (wr.alloc (.cells zeroHash 51)) := (Below.refl _ _).alloc (by simp) _
      have hs2 : SliceOf wr wr.heap.size 64 (fun i => D (0 + i)) (.slice (some ⟨w.heap.size, 0, none⟩) 64 64) := ⟨_, _, rfl, by omega, fun _ => ⟨w.heap.size, 0, rfl, by have := hr.out.lt; omega, fun j hj => by
        show _ = some (Value.int .u8 ((D (0 + j)).toNat : Int))
        rw [Nat.zero_add, hr.out.cell hj, HD.out j hj]
        unfold xorTo
        rw [if_pos hj]⟩⟩
      have hs3 := slice_below hs2 hb2
      clear hs2
      generalize hw6 : wr.alloc (.cells zeroHash 51) = w2 at *
      clear hw6
      have hk2 := hk1.below hb2 (Nat.le_refl _)
      go_wp2_with fail
      refine (write_any D wr.heap.size 0 64 _ w2 hk2 hh2 hs3 (by omega) (by have := hk1.lt; omega)).mono ?_
      rintro e w3 ⟨rfl, hh3, hg3⟩
      rw [Nat.zero_add] at hh3
      have hb3 : Below w.heap.size w w3 := hb.trans (hb2.mono hb.size) |>.trans ⟨hg3.os, hg3.tape, hg3.output, hg3.size, fun b hbb => hg3.block b (by have := hb.size; have := hb2.size; omega) (by have := hb.size; have := hr.out.lt; simp; omega)⟩
      have hsz := hb.size
      have hlt3 := hh3.lt
      clear hs3 hk2 hh2 hg3 hb2 hk1 hb hr
      go_wp2
      go_ret
      exact ⟨_, rfl, hsz, hlt3, hh3, hb3⟩
end Go.Proofs.YthdfbkfoljfbhaaDoor.Mac
