/-
  The walk of bartizanlaw01.ShaParts: for every list of slices of bytes it returns true, and writes nothing that was there.
-/
import Derived.Test.YthdfbkfoljfbhaaDoorLaw01All
import Derived.Test.YthdfbkfoljfbhaaDoorEq
namespace Go.Proofs.YthdfbkfoljfbhaaDoor.Law01
open Go Go.RowKit Go.Proofs.YthdfbkfoljfbhaaDoor.Aid Go.Proofs.YthdfbkfoljfbhaaDoor.Sha

/-- What ShaParts holds at its loop's head, i lists written. -/
structure PartsRel (len : Nat) (m : Nat → Nat) (e : Nat → Nat → BitVec 8) (g B : Nat) (all so : Value) (i : Nat) (w wr : World) : Prop where
  hi : i ≤ len
  hh : HashIs wr g (catAll m e len) (off m i)
  ho : Own wr (g + 1) (off m i) (catAll m e i) so
  ha : Own wr B (off m len) (catAll m e len) all
  alt : ∀ b, all.ownBlock = some b → b < g
  gl : g < wr.heap.size
  hb : Below w.heap.size w wr
theorem PartsRel.below {len : Nat} {m : Nat → Nat} {e : Nat → Nat → BitVec 8} {g B : Nat} {all so : Value} {i : Nat} {w wr wr' : World} (h : PartsRel len m e g B all so i w wr) (hg : w.heap.size ≤ g) (hb : Below wr.heap.size wr wr') :
    PartsRel len m e g B all so i w wr' :=
  ⟨h.hi, h.hh.keep (hb.block _ h.gl), h.ho.below hb, h.ha.below hb, h.alt, Nat.lt_of_lt_of_le h.gl hb.size, h.hb.trans (hb.mono (Nat.le_trans hg (Nat.le_of_lt h.gl)))⟩

theorem eq32 (D : Nat → BitVec 8) (n : Nat) (W : World) : (binOp .eql 24 (.agg (byteCells 32 (digest D n))) (.agg (byteCells 32 (digest D n)))).run Tryd.prog W = .ok (.bool true) W :=
  run_eql_same Tryd.underlying24 Tryd.underlying5 (by kernel_rfl) _ (fun i hi => ⟨_, byteCells_at 32 _ i hi⟩) W
theorem ne32 (D : Nat → BitVec 8) (n : Nat) (W : World) : (binOp .neq 24 (.agg (byteCells 32 (digest D n))) (.agg (byteCells 32 (digest D n)))).run Tryd.prog W = .ok (.bool false) W :=
  run_neq_same Tryd.underlying24 Tryd.underlying5 (by kernel_rfl) _ (fun i hi => ⟨_, byteCells_at 32 _ i hi⟩) W

set_option maxRecDepth 100000 in
set_option maxHeartbeats 2000000 in
theorem parts_any (len : Nat) (m : Nat → Nat) (e : Nat → Nat → BitVec 8) (v : Value) (w : World) (hk : Consts w) (hp : PartsOf w len m e v) (hm : ∀ i, i < len → m i ≤ 140737488351232) :
    Calls Tryd.prog 4 #[v] w fun e w' => e = .returned (.bool true) ∧ Below w.heap.size w w' := by
  go_enter Tryd.func4, Tryd.ntmps4
  go_wp2_with fail
  refine (awake_any w hk).mono ?_
  rintro e0 w1 ⟨rfl, hb1⟩
  have hp1 : PartsOf w1 len m e v := by
    obtain ⟨A, c, rfl, hr⟩ := hp
    refine ⟨A, c, rfl, fun h0 => ?_⟩
    obtain ⟨sb, so, hA, hc⟩ := hr h0
    refine ⟨sb, so, hA, fun i hi => ?_⟩
    obtain ⟨u, hu, hs⟩ := hc i hi
    exact ⟨u, (hb1.cell (p := ⟨sb, so + i, none⟩) (block_lt_of_cell hu)).trans hu, slice_any (slice_below hs hb1) (Nat.le_refl _)⟩
  go_wp2_with fail
  refine (all_any len m e v w1 hp1 hm).mono ?_
  rintro e0 w2 ⟨k, va, hkl, rfl, hown', hend, hb2⟩
  have hb2' := hb1.trans (hb2.mono hb1.size)
  have hB1 := hb1.size
  have hB2 := hb2.size
  by_cases hn : 1000 < off m k + k
  · obtain ⟨N, hN⟩ : ∃ N, N = off m k + k := ⟨_, rfl⟩
    rw [← hN] at hn ⊢
    have q : decide ((1000 : Int) < (N : Int)) = true := by simp; omega
    clear hN hend hown'
    go_wp2
    go_ret
    exact ⟨rfl, hb2'⟩
  · obtain rfl : k = len := by omega
    have hown := hown' (by omega)
    clear hown'
    obtain ⟨N, hN⟩ : ∃ N, N = off m k + k := ⟨_, rfl⟩
    have hoff : off m k ≤ 1000 := by omega
    have hlen : k ≤ 1000 := by omega
    rw [← hN] at hn ⊢
    have q : decide ((1000 : Int) < (N : Int)) = false := by simp; omega
    have Hoff := Lib.hid hoff
    clear hN hend hm hoff hn hkl
    go_wp2_with fail
    refine (new_any w2).mono ?_
    rintro e0 w3 ⟨rfl, rfl⟩
    have hr3 : PartsRel k m e w2.heap.size w1.heap.size va (.slice none 0 0) 0 w (w2.alloc (.cells zeroHash 51)) := by
      have hbn : Below w2.heap.size w2 (w2.alloc (.cells zeroHash 51)) := (Below.refl _ _).alloc (Nat.le_refl _) _
      exact ⟨Nat.zero_le _, hash_born w2 _, World.ownsRow_nil _ _ _ _, hown.below hbn, fun b hb => (hown.lt hb).2, by simp, hb2'.trans (hbn.mono (by omega))⟩
    generalize w2.alloc (.cells zeroHash 51) = w3 at *
    obtain ⟨g, hg⟩ : ∃ g, g = w2.heap.size := ⟨_, rfl⟩
    rw [← hg] at hr3 ⊢
    have hgw : w.heap.size ≤ g := by omega
    clear hown hb2 hb2' hb1 hp1 hB1 hB2 hg
    obtain ⟨A, c, rfl, hr⟩ := hp
    go_wp2
    go_loopw [7, 8] (fun so i wr => ∃ j : Nat, i = .int .i64 j ∧ PartsRel k m e g w1.heap.size va so j w wr) (fun _ i _ => k - (intOf i).toNat)
    case atStart => exact ⟨0, rfl, hr3⟩
    case round =>
      clear hr3
      obtain ⟨j, rfl, h⟩ := hrel
      have hj := h.hi
      have hoj := off_mono m hj
      by_cases hlt : j < k
      · obtain ⟨sb, so, rfl, hc⟩ := hr (by omega)
        obtain ⟨u, hu, hs⟩ := hc j hlt
        have hblt : sb < w.heap.size := block_lt_of_cell hu
        have cu := (h.hb.cell (p := ⟨sb, so + j, none⟩) hblt).trans hu
        have hoj1 : off m j + m j ≤ 1000 := Nat.le_trans (off_mono m (show j + 1 ≤ k by omega)) Hoff.out
        have hsl : SliceOf wr g (m j) (fun i => catAll m e k (off m j + i)) u := (slice_any hs hgw).keep (fun b hb _ => h.hb.block b hb) |>.congr (fun i hi => (catAll_part m e hlt i hi).symm)
        have hs0 := Lib.hid hs
        have q0 : (0 : Int) ≤ (j : Int) := by omega
        have q1 : (j : Int) < (k : Int) := by omega
        have Hoj := Lib.hid hoj
        have Hoj1 := Lib.hid hoj1
        clear hu hs hc hr hoj hoj1
        go_wp2_with fail
        refine (write_any (catAll m e k) g (off m j) (m j) u wr (hk.below h.hb (Nat.le_refl _)) h.hh hsl (by have := Hoj1.out; omega) (by have := hk.lt; omega)).mono ?_
        rintro e0 w4 ⟨rfl, hh4, hg4⟩
        have hb4 : Below w.heap.size w w4 := h.hb.trans ⟨hg4.os, hg4.tape, hg4.output, hg4.size, fun b hb => hg4.block b (by have := h.hb.size; omega) (by simp; omega)⟩
        have cu4 : w4.cell? ⟨sb, so + j, none⟩ = some u := hg4.cell cu (by simp; omega)
        have ho4 : Own w4 (g + 1) (off m j) (catAll m e j) _ := h.ho.keep (fun b hb => hg4.block b (h.ho.lt hb).2 (by have := (h.ho.lt hb).1; simp; omega))
        have ha4 : Own w4 w1.heap.size (off m k) (catAll m e k) va := h.ha.keep (fun b hb => hg4.block b (h.ha.lt hb).2 (by have := h.alt b hb; simp; omega))
        have hsl4 : SliceOf w4 w.heap.size (m j) (e j) u := hs0.out.keep (fun b hb _ => hb4.block b hb)
        have hgl4 : g < w4.heap.size := Nat.lt_of_lt_of_le h.gl hg4.size
        have hat := h.alt
        have Hsum : Hid (off m j + m j ≤ 1000000000) := by have := Hoj1.out; show _ ≤ _; omega
        clear h hsl hs0 cu hg4
        go_wp2_with (at_builtin
                     refine append_bytes (by rfl) (.tmp 31) (.tmp 35) (by rfl) (g + 1) (off m j) (catAll m e j) _ (by rfl) ho4 w.heap.size (m j) (e j) _ (by rfl) hsl4 Hsum.out hgl4 ?_
                     intro v5 w5 ho5 hg5 hat5)
        have hne5 : ∀ b, b ≤ g → some b ≠ (Value.ownBlock u7) := fun b hb e1 => by have := (ho4.lt e1.symm).1; omega
        have h5 : PartsRel k m e g w1.heap.size va v5 (j + 1) w w5 :=
          ⟨by omega, hh4.keep (hg5.block g hgl4 (hne5 g (Nat.le_refl _))), ho5, ha4.keep (fun b hb => hg5.block b (ha4.lt hb).2 (hne5 b (Nat.le_of_lt (hat b hb)))), hat, Nat.lt_of_lt_of_le hgl4 hg5.size,
           hb4.trans ⟨hg5.os, hg5.tape, hg5.output, hg5.size, fun b hb => hg5.block b (by omega) (hne5 b (by omega))⟩⟩
        clear hh4 ho5 ha4 hg5 hat5 hb4 cu4 ho4 hsl4 hgl4 hat hne5
        have hon : off m (j + 1) < 999999000 := by show off m j + m j < _; have := Hoj1.out; omega
        refine (hashSum_any (catAll m e k) g (off m (j + 1)) w5 (hk.below h5.hb (Nat.le_refl _)) h5.hh hon).mono ?_
        rintro e0 w6 ⟨rfl, hb6⟩
        have h6 := h5.below hgw hb6
        clear h5 hb6
        go_wp2_with fail
        refine (sum_any (catAll m e (j + 1)) (off m (j + 1)) w6.heap.size v5 w6 (hk.below h6.hb (Nat.le_refl _)) (h6.ho.slice (.inr (Nat.le_refl _))) hon).mono ?_
        rintro e0 w7 ⟨rfl, hb7⟩
        have h7 := h6.below hgw hb7
        clear h6 hb7
        rw [← digest_congr (catAll m e k) (catAll m e (j + 1)) (off m (j + 1)) (fun x hx => catAll_at m e (by omega) x hx)]
        have hq := fun W => ne32 (catAll m e k) (off m (j + 1)) W
        have Hon := Lib.hid hon
        clear hon
        go_wp2
        go_roundw
        case rel => exact ⟨j + 1, by go_num, h7⟩
        case measure => simp [intOf]; omega
      · have hjk : j = k := by omega
        have h2 : PartsRel k m e g w1.heap.size va u7 k w wr := by rw [hjk] at h; exact h
        have Hjk := Lib.hid hjk
        clear h hjk hr hoj
        have hon : off m k < 999999000 := by have := Hoff.out; omega
        go_wp2_with fail
        refine (hashSum_any (catAll m e k) g (off m k) wr (hk.below h2.hb (Nat.le_refl _)) h2.hh hon).mono ?_
        rintro e0 w6 ⟨rfl, hb6⟩
        have h6 := h2.below hgw hb6
        clear h2 hb6
        go_wp2_with fail
        refine (sum_any (catAll m e k) (off m k) w6.heap.size va w6 (hk.below h6.hb (Nat.le_refl _)) (h6.ha.slice (.inr (Nat.le_refl _))) hon).mono ?_
        rintro e0 w7 ⟨rfl, hb7⟩
        have h7 := h6.below hgw hb7
        clear h6 hb7
        have hq := fun W => eq32 (catAll m e k) (off m k) W
        have Hon := Lib.hid hon
        clear hon
        go_wp2
        go_ret
        exact ⟨rfl, h7.hb⟩
end Go.Proofs.YthdfbkfoljfbhaaDoor.Law01
