/-
  What mac.Mac does: the code of all parts, one behind the other. What mac.Expand does: the first bytes, so many, of the output for a key and a purpose; or why not.
-/
import Derived.Test.YtnkjoambhmlnbaaGreatDoorBd29
import Derived.Test.YtnkjoambhmlnbaaGreatDoorBd07
import Derived.Lib.ConvBytes
import Derived.OwnWalk
namespace Go.Proofs.YtnkjoambhmlnbaaGreatDoor.Mac
open Go Go.RowKit Go.Proofs.YtnkjoambhmlnbaaGreatDoor.Aid Go.Proofs.YtnkjoambhmlnbaaGreatDoor.Sha Go.Proofs.YtnkjoambhmlnbaaGreatDoor.Law01

/-- What Mac holds at its loop's head: j parts have been written. -/
structure MacRel (P : Nat → BitVec 8) (m : Nat → Nat) (e : Nat → Nat → BitVec 8) (k g p j : Nat) (w wr : World) : Prop where
  hj : j ≤ k
  hh : HashIs wr g (cat (xorBy P 54) 64 (catAll m e k)) (64 + off m j)
  r0 : wr.rowIs w.heap.size 101 32 (fun _ => .int .u8 0)
  r1 : wr.rowIs p 117 64 (fun j => .int .u8 ((P j).toNat : Int))
  hb : Below w.heap.size w wr

set_option maxRecDepth 100000 in
set_option maxHeartbeats 2000000 in
theorem mac_any (K : Nat → BitVec 8) (A : Option Addr) (l c gk k : Nat) (m : Nat → Nat) (e : Nat → Nat → BitVec 8) (v : Value) (w : World) (hk : Consts w) (hkey : SliceOf w gk l K (.slice A l c)) (hl : l ≤ 1000000)
    (hp : PartsOf w k m e v) (hoff : off m k ≤ 1000000) (hkk : k ≤ 1000000) :
    Calls Tryz.prog 77 #[.slice A l c, v] w fun x w' => x = .returned (.agg (byteCells 32 (code K l (catAll m e k) (off m k)))) ∧ Below w.heap.size w w' := by
  have hr0 : ∀ (Z : Array Value), Z = Array.replicate 32 (.int .u8 0) → (w.alloc (.cells Z 101)).rowIs w.heap.size 101 32 (fun _ => .int .u8 0) :=
    fun Z hZ => row_new w Z _ 32 _ (by rw [hZ]; simp) (zeros32 Z hZ)
  have hx1 := hr0 _ rfl
  have hb1 : Below w.heap.size w (w.alloc (.cells (Array.replicate 32 (.int .u8 0)) 101)) := (Below.refl _ _).alloc (by simp) _
  have hs1 := slice_any (slice_below hkey hb1) (Nat.le_refl _)
  obtain ⟨P, hP⟩ : ∃ P, P = padKey K l := ⟨_, rfl⟩
  have HP := Lib.hid hP
  have Hoff := Lib.hid hoff
  obtain ⟨B, cc, rfl, hr⟩ := hp
  clear hoff hr0
  go_enter Tryz.func77, Tryz.ntmps77
  go_wp2_with fail
  change Calls Tryz.prog 80 _ (w.alloc (.cells (Array.replicate 32 (.int .u8 0)) 101)) _
  generalize w.alloc (.cells (Array.replicate 32 (.int .u8 0)) 101) = w1 at *
  have hk1 := hk.below hb1 (Nat.le_refl _)
  refine (pad_any K l c _ A w1 hk1 hs1 hl).mono ?_
  rintro x w2 ⟨rfl, hb2⟩
  rw [← hP]
  have hx2 := hx1.of_block (hb2.block _ hx1.lt)
  have hb2' := hb1.trans (hb2.mono hb1.size)
  have hk2 := hk.below hb2' (Nat.le_refl _)
  have hlt2 := hx2.lt
  clear hb1 hb2 hx1 hs1 hk1 hP
  go_wp2_with (first
    | (refine store_whole (by rfl) 117 (.tmp 5) (.tmp 12) (by rfl) w2.heap.size _ 64 (fun _ => .int .u8 0) (fun j => .int .u8 ((P j).toNat : Int)) (by exact row_new w2 _ _ 64 _ (by rfl) (zeros64 _ (by rfl))) (by rfl) _ (by rfl) (by kernel_rfl) (size_cellsOf _ _) (cellsOf_at _ _) (fun _ _ => rfl) ?_
       intro w3 hr3 ho3
       have hx3 := ho3.row (hx2.alloc _) (Nat.ne_of_lt hlt2)
       have hb3 := ho3.below (hb2'.alloc hb2'.size _) hb2'.size
       clear ho3 hx2)
    | (refine load_whole (by rfl) 117 (.tmp 5) (by rfl) _ _ _ _ hr3 (by rfl) _ Tryz.underlying117 rfl (by kernel_rfl) ?_))
  have hk3 := hk.below hb3 (Nat.le_refl _)
  refine (begin_any P 54 _ (size_cellsOf _ _) (cellsOf_at _ _) (cat (xorBy P 54) 64 (catAll m e k)) (fun j hj => cat_lt _ _ _ _ hj) w3 hk3).mono ?_
  rintro x w4 ⟨g, rfl, hge, hgl, hh4, hb4⟩
  have hlt3 := hr3.lt
  have h4 : MacRel P m e k g w2.heap.size 0 w w4 := ⟨by omega, hh4, hx3.of_block (hb4.block _ hx3.lt), hr3.of_block (hb4.block _ hr3.lt), hb3.trans (hb4.mono hb3.size)⟩
  have hpg : w2.heap.size < g := by omega
  clear hh4 hx3 hb3 hb4 hr3 hk3 hk2 hb2' hge hgl hlt3
  obtain ⟨p, hp⟩ : ∃ p, p = w2.heap.size := ⟨_, rfl⟩
  rw [← hp] at h4 hpg hlt2 ⊢
  clear hp
  go_wp2
  go_loopw [8, 17] (fun _ i wr => ∃ j : Nat, i = .int .i64 j ∧ MacRel P m e k g p j w wr) (fun _ i _ => k - (intOf i).toNat)
  case atStart => exact ⟨0, rfl, h4⟩
  case round =>
    clear h4
    obtain ⟨j, rfl, h⟩ := hrel
    have hj := h.hj
    by_cases hlt : j < k
    · obtain ⟨sb, so, rfl, hc⟩ := hr (by omega)
      obtain ⟨u, hu, hs⟩ := hc j hlt
      have hblt : sb < w.heap.size := block_lt_of_cell hu
      have cu := (h.hb.cell (p := ⟨sb, so + j, none⟩) hblt).trans hu
      have hoj1 : off m j + m j ≤ 1000000 := Nat.le_trans (off_mono m (show j + 1 ≤ k by omega)) Hoff.out
      have hsl : SliceOf wr g (m j) (fun i => cat (xorBy P 54) 64 (catAll m e k) (64 + off m j + i)) u := (slice_any hs (show w.heap.size ≤ g by omega)).keep (fun b hb _ => h.hb.block b hb) |>.congr (fun i hi => by
        rw [cat_ge _ _ _ _ (by omega), show 64 + off m j + i - 64 = off m j + i by omega]
        exact (catAll_part m e hlt i hi).symm)
      have q0 : (0 : Int) ≤ (j : Int) := by omega
      have q1 : (j : Int) < (k : Int) := by omega
      have Hoj1 := Lib.hid hoj1
      clear hu hs hc hr hoj1
      go_wp2_with fail
      refine (write_any _ g (64 + off m j) (m j) u wr (hk.below h.hb (Nat.le_refl _)) h.hh hsl (by have := Hoj1.out; omega) (by have := hk.lt; omega)).mono ?_
      rintro x w5 ⟨rfl, hh5, hg5⟩
      have h5 : MacRel P m e k g p (j + 1) w w5 := ⟨by omega, by rw [Nat.add_assoc] at hh5; exact hh5, h.r0.of_block (hg5.block _ h.r0.lt (by simp; omega)), h.r1.of_block (hg5.block _ h.r1.lt (by simp; omega)),
        h.hb.trans ⟨hg5.os, hg5.tape, hg5.output, hg5.size, fun b hb => hg5.block b (by have := h.hb.size; omega) (by simp; omega)⟩⟩
      clear h hh5 hg5 hsl cu
      go_wp2
      go_roundw
      case rel => exact ⟨j + 1, by go_num, h5⟩
      case measure => simp [intOf]; omega
    · obtain rfl : j = k := by omega
      clear hr
      have hon : 64 + off m j < 999999000 := by have := Hoff.out; omega
      have hoo := Hoff.out
      obtain ⟨I, hI⟩ : ∃ I, I = inner P (catAll m e j) (off m j) := ⟨_, rfl⟩
      have HI := Lib.hid hI
      go_wp2_with fail
      refine (hashSum_any _ g (64 + off m j) wr (hk.below h.hb (Nat.le_refl _)) h.hh hon).mono ?_
      rw [show digest (cat (xorBy P 54) 64 (catAll m e j)) (64 + off m j) = I by rw [hI]; rfl]
      rintro x w5 ⟨rfl, hb5⟩
      have hr0 := h.r0.of_block (hb5.block _ h.r0.lt)
      have hr1 := h.r1.of_block (hb5.block _ h.r1.lt)
      have hb5' := h.hb.trans (hb5.mono h.hb.size)
      have hlt0 := hr0.lt
      have hlt1 := hr1.lt
      clear h hb5 hon hI
      go_wp2_with (first
        | (refine store_whole (by rfl) 101 (.tmp 9) (.tmp 26) (by rfl) w5.heap.size _ 32 (fun _ => .int .u8 0) (fun j => .int .u8 ((I j).toNat : Int)) (by exact row_new w5 _ _ 32 _ (by rfl) (zeros32 _ (by rfl))) (by rfl) _ (by rfl) (by kernel_rfl) (size_cellsOf _ _) (cellsOf_at _ _) (fun _ _ => rfl) ?_
           intro w6 hr6 ho6
           have hx6 := ho6.row (hr0.alloc _) (Nat.ne_of_lt hlt0)
           have hy6 := ho6.row (hr1.alloc _) (Nat.ne_of_lt hlt1)
           have hb6 := ho6.below (hb5'.alloc hb5'.size _) hb5'.size
           clear ho6 hr0 hr1)
        | (refine load_whole (by rfl) 117 (.tmp 5) (by rfl) _ _ _ _ hy6 (by rfl) _ Tryz.underlying117 rfl (by kernel_rfl) ?_))
      have hk6 := hk.below hb6 (Nat.le_refl _)
      have hlt6 := hr6.lt
      refine (begin_any P 92 _ (size_cellsOf _ _) (cellsOf_at _ _) (cat (xorBy P 92) 64 I) (fun j hj => cat_lt _ _ _ _ hj) w6 hk6).mono ?_
      rintro x w7 ⟨g7, rfl, hge, hgl, hh7, hb7⟩
      have hx7 := hx6.of_block (hb7.block _ hx6.lt)
      have hs7 : SliceOf w7 g7 32 (fun i => cat (xorBy P 92) 64 I (64 + i)) (.slice (some ⟨w5.heap.size, 0, none⟩) 32 32) := ⟨_, _, rfl, by omega, fun _ => ⟨w5.heap.size, 0, rfl, by omega, fun i hi => by
        rw [Nat.zero_add, (hr6.of_block (hb7.block _ hr6.lt)).cell hi]
        show _ = some (Value.int .u8 ((cat (xorBy P 92) 64 I (64 + i)).toNat : Int))
        rw [cat_ge _ _ _ _ (by omega), Nat.add_sub_cancel_left]⟩⟩
      have hb7' := hb6.trans (hb7.mono hb6.size)
      have hk7 := hk.below hb7' (Nat.le_refl _)
      have hg7 : w.heap.size < g7 := by have := hx6.lt; have := hb5'.size; omega
      clear hr6 hx6 hy6 hb6 hk6 hb7 hb5'
      go_wp2_with fail
      refine (write_any _ g7 64 32 _ w7 hk7 hh7 hs7 (by omega) (by have := hk.lt; omega)).mono ?_
      rintro x w8 ⟨rfl, hh8, hg8⟩
      have hx8 := hx7.of_block (hg8.block _ hx7.lt (by simp; omega))
      have hb8 : Below w.heap.size w w8 := hb7'.trans ⟨hg8.os, hg8.tape, hg8.output, hg8.size, fun b hb => hg8.block b (by have := hb7'.size; omega) (by simp; omega)⟩
      have hk8 := hk.below hb8 (Nat.le_refl _)
      clear hx7 hs7 hb7' hk7 hh7 hg8
      go_wp2_with fail
      refine (hashSum_any _ g7 (64 + 32) w8 hk8 hh8 (by omega)).mono ?_
      rw [show digest (cat (xorBy P 92) 64 I) (64 + 32) = code K l (catAll m e j) (off m j) by unfold code; rw [← HP.out]; unfold codeP; rw [← HI.out]]
      rintro x w9 ⟨rfl, hb9⟩
      have hx9 := hx8.of_block (hb9.block _ hx8.lt)
      have hb9' := hb8.trans (hb9.mono hb8.size)
      clear hx8 hb8 hk8 hh8 hb9 HP HI Hoff
      go_wp2_with (refine store_whole (by rfl) 101 (.tmp 4) (.tmp 33) (by rfl) w.heap.size _ 32 _ (fun t => .int .u8 ((code K l (catAll m e j) (off m j) t).toNat : Int)) hx9 (by rfl) _ (by rfl) (by kernel_rfl) (size_cellsOf _ _) (cellsOf_at _ _) (fun _ _ => rfl) ?_
                   intro w10 hr10 ho10)
      refine bodyPost_ret (results_row rfl _ w.heap.size _ _ _ _ (by rfl) hr10 Tryz.underlying101 rfl (by kernel_rfl)) rfl ⟨rfl, ho10.below hb9' (Nat.le_refl _)⟩

/-- One part in a new block. -/
theorem parts_one (w : World) (n : Nat) (f : Nat → BitVec 8) (v : Value) (h : SliceOf w w.heap.size n f v) : PartsOf (w.alloc (.cells #[v] 28)) 1 (fun _ => n) (fun _ => f) (.slice (some ⟨w.heap.size, 0, none⟩) 1 1) := by
  refine ⟨_, 1, rfl, fun _ => ⟨w.heap.size, 0, rfl, fun i hi => ⟨v, ?_, ?_⟩⟩⟩
  · obtain rfl : i = 0 := by omega
    rw [World.cell?_alloc_new]
    rfl
  · exact slice_any (slice_below h ((Below.refl _ _).alloc (by simp) _)) (Nat.le_refl _)
theorem code_one (K : Nat → BitVec 8) (l n : Nat) (f : Nat → BitVec 8) : code K l (catAll (fun _ => n) (fun _ => f) 1) (off (fun _ => n) 1) = code K l f n := by
  rw [show off (fun _ => n) 1 = n by show 0 + n = n; omega]
  refine code_congr _ _ _ _ _ _ (fun _ _ => rfl) (fun j hj => ?_)
  show cat (fun _ => 0) 0 f j = f j
  rw [cat_ge _ _ _ _ (by omega), Nat.sub_zero]

end Go.Proofs.YtnkjoambhmlnbaaGreatDoor.Mac

namespace Go.Proofs.YtnkjoambhmlnbaaGreatDoor.Mac
open Go Go.RowKit Go.Proofs.YtnkjoambhmlnbaaGreatDoor.Aid Go.Proofs.YtnkjoambhmlnbaaGreatDoor.Sha Go.Proofs.YtnkjoambhmlnbaaGreatDoor.Law01

def strByte (s : ByteArray) (j : Nat) : BitVec 8 := BitVec.ofNat 8 (s.data.toList.getD j 0).toNat
theorem strByte_cell (s : ByteArray) (j : Nat) : Value.int .u8 ((s.data.toList.getD j 0).toNat : Int) = Value.int .u8 ((strByte s j).toNat : Int) := by
  unfold strByte
  rw [BitVec.toNat_ofNat, Nat.mod_eq_of_lt (UInt8.toNat_lt _)]
/-- '[]byte(s)': the new bytes, and that nothing else has turned. -/
theorem str_below (w : World) (s : ByteArray) : Below w.heap.size w (Lib.bytesWorld w 5 s) :=
  ⟨rfl, rfl, rfl, by rw [Lib.bytesWorld_size]; omega, fun k hk => Lib.bytesWorld_at_old w _ s k hk⟩
theorem grownCap_le (w : World) (s : ByteArray) (n : Nat) (hn : n = grownCap w s.size 0 5) : s.size ≤ n := by
  subst hn
  exact grownCap_ge w s.size 0 5
theorem str_slice (w : World) (s : ByteArray) (g : Nat) (hg : g ≠ w.heap.size) : SliceOf (Lib.bytesWorld w 5 s) g s.size (strByte s) (.slice (some ⟨w.heap.size, 0, none⟩) s.size (grownCap w s.size 0 5)) :=
  ⟨_, _, rfl, grownCap_le w s _ rfl, fun _ => ⟨w.heap.size, 0, rfl, fun e => hg e.symm, fun j hj => by rw [Nat.zero_add, Lib.bytesWorld_cell w _ s j hj, strByte_cell]⟩⟩

def three {α : Type} (a b c : α) : Nat → α
  | 0 => a
  | 1 => b
  | _ => c
/-- Three parts in a new block. -/
theorem parts_three (w : World) (m : Nat → Nat) (e : Nat → Nat → BitVec 8) (v0 v1 v2 : Value) (h0 : SliceOf w w.heap.size (m 0) (e 0) v0) (h1 : SliceOf w w.heap.size (m 1) (e 1) v1) (h2 : SliceOf w w.heap.size (m 2) (e 2) v2) :
    PartsOf (w.alloc (.cells #[v0, v1, v2] 28)) 3 m e (.slice (some ⟨w.heap.size, 0, none⟩) 3 3) := by
  have hb : Below w.heap.size w (w.alloc (.cells #[v0, v1, v2] 28)) := (Below.refl _ _).alloc (by simp) _
  have hc : ∀ j, (w.alloc (.cells #[v0, v1, v2] 28)).cell? ⟨w.heap.size, j, none⟩ = (#[v0, v1, v2] : Array Value)[j]? := fun j => cell_of_row _ _ j _ _ _ (heap_alloc_new w _)
  refine ⟨_, 3, rfl, fun _ => ⟨w.heap.size, 0, rfl, fun i hi => ?_⟩⟩
  rw [Nat.zero_add]
  match i, hi with
  | 0, _ => exact ⟨v0, by rw [hc]; rfl, slice_any (slice_below h0 hb) (Nat.le_refl _)⟩
  | 1, _ => exact ⟨v1, by rw [hc]; rfl, slice_any (slice_below h1 hb) (Nat.le_refl _)⟩
  | 2, _ => exact ⟨v2, by rw [hc]; rfl, slice_any (slice_below h2 hb) (Nat.le_refl _)⟩
theorem code_three (P a b : Nat → BitVec 8) (x : BitVec 8) (l n : Nat) :
    code P 64 (catAll (three l n 1) (three a b (fun _ => x)) 3) (off (three l n 1) 3) = codeP P (cat a l (cat b n (fun _ => x))) (l + (n + 1)) := by
  rw [code_padded]
  rw [show off (three l n 1) 3 = l + (n + 1) by show 0 + l + n + 1 = _; omega]
  refine codeP_congr _ _ _ _ _ (fun _ _ => rfl) (fun j hj => ?_)
  show cat (cat (cat (fun _ => 0) 0 a) (0 + l) b) (0 + l + n) (fun _ => x) j = _
  rw [Nat.zero_add]
  by_cases h1 : j < l
  · rw [cat_lt _ _ _ _ (by omega), cat_lt _ _ _ _ h1, cat_ge _ _ _ _ (by omega), cat_lt _ _ _ _ h1, Nat.sub_zero]
  · by_cases h2 : j < l + n
    · rw [cat_lt _ _ _ _ h2, cat_ge _ _ _ _ (by omega), cat_ge _ _ _ _ (by omega), cat_lt _ _ _ _ (by omega)]
    · rw [cat_ge _ _ _ _ (by omega), cat_ge _ _ _ _ (by omega), cat_ge _ _ _ _ (by omega)]

/-- The three parts of a block: the one before, the purpose, the number. -/
theorem exp_parts (w : World) (s : ByteArray) (n l : Nat) (e : Nat → BitVec 8) (v : Value) (x : Int) (h : SliceOf w w.heap.size l e v) (hx : x = ((BitVec.ofNat 8 n).toNat : Int)) :
    PartsOf (((Lib.bytesWorld w 5 s).alloc (.cells #[.int .u8 x] 5)).alloc (.cells #[v, .slice (some ⟨w.heap.size, 0, none⟩) s.size (grownCap w s.size 0 5), .slice (some ⟨(Lib.bytesWorld w 5 s).heap.size, 0, none⟩) 1 1] 28))
      3 (three l s.size 1) (three e (strByte s) (fun _ => BitVec.ofNat 8 n)) (.slice (some ⟨(Lib.bytesWorld w 5 s).heap.size + 1, 0, none⟩) 3 3) ∧
    Below w.heap.size w (((Lib.bytesWorld w 5 s).alloc (.cells #[.int .u8 x] 5)).alloc (.cells #[v, .slice (some ⟨w.heap.size, 0, none⟩) s.size (grownCap w s.size 0 5), .slice (some ⟨(Lib.bytesWorld w 5 s).heap.size, 0, none⟩) 1 1] 28)) := by
  have hb1 := str_below w s
  have hs1 := str_slice w s (w.heap.size + 1) (by omega)
  have hsz := Lib.bytesWorld_size w 5 s
  have h1 := slice_below h hb1
  generalize hW1 : Lib.bytesWorld w 5 s = W1 at *
  have hb2 : Below W1.heap.size W1 (W1.alloc (.cells #[.int .u8 x] 5)) := (Below.refl _ _).alloc (by simp) _
  have h2 := slice_any (slice_below h1 hb2) (Nat.le_refl _)
  have hs2 := slice_any (slice_below hs1 hb2) (Nat.le_refl _)
  have ho2 := slice_one W1 (W1.heap.size + 1) (by omega) (BitVec.ofNat 8 n) x hx
  have hsz2 : (W1.alloc (.cells #[.int .u8 x] 5)).heap.size = W1.heap.size + 1 := by simp
  have hb3 : Below w.heap.size w ((W1.alloc (.cells #[.int .u8 x] 5))) := hb1.trans (hb2.mono hb1.size)
  have ho3 := slice_any ho2 (show _ ≤ _ by rw [hsz2]; exact Nat.le_refl (W1.heap.size + 1))
  generalize W1.alloc (.cells #[.int .u8 x] 5) = W2 at *
  rw [← hsz2]
  rw [← hsz2] at ho3
  exact ⟨parts_three W2 (three l s.size 1) (three e (strByte s) (fun _ => BitVec.ofNat 8 n)) _ _ _ h2 hs2 ho3, hb3.alloc hb3.size _⟩

/-- What Expand holds at its loop's head: k blocks are there, L bytes of them are out. -/
structure ExpRel (P S : Nat → BitVec 8) (s many p k L : Nat) (out prev : Value) (w wr : World) : Prop where
  hL : L = Nat.min (32 * k) many
  hk : 32 * k ≤ many + 31
  ho : Own wr (p + 1) L (output P S s) out
  hp : SliceOf wr wr.heap.size (prevLen k) (outBlock P S s k) prev
  r1 : wr.rowIs p 117 64 (fun j => .int .u8 ((P j).toNat : Int))
  hb : Below w.heap.size w wr

set_option maxRecDepth 100000 in
set_option maxHeartbeats 1000000 in
theorem expand_err (v : Value) (s : ByteArray) (many : Int) (w : World) (hm : many < 0 ∨ 8160 < many) :
    Calls Tryz.prog 73 #[v, .string s, .int .i64 many] w fun x w' => x = .returned (.tuple #[.slice none 0 0, .int .i64 1]) ∧ w' = w := by
  by_cases h0 : many < 0
  · have e0 : decide (many < 0) = true := decide_eq_true h0
    go_enter Tryz.func73, Tryz.ntmps73
    go_wp2
    go_ret2
    exact ⟨rfl, rfl⟩
  · have h1 : 8160 < many := by omega
    have e0 : decide (many < 0) = false := decide_eq_false h0
    go_enter Tryz.func73, Tryz.ntmps73
    go_wp2
    go_ret2
    exact ⟨rfl, rfl⟩

set_option maxRecDepth 100000 in
set_option maxHeartbeats 2000000 in
theorem expand_any (K : Nat → BitVec 8) (A : Option Addr) (l c : Nat) (s : ByteArray) (many : Nat) (w : World) (hk : Consts w) (hkey : SliceOf w w.heap.size l K (.slice A l c)) (hl : l ≤ 1000000) (hs : s.size ≤ 100000) (hm : many ≤ 8160) :
    Calls Tryz.prog 73 #[.slice A l c, .string s, .int .i64 (many : Int)] w fun x w' => ∃ v, x = .returned (.tuple #[v, .int .i64 0]) ∧ Own w' w.heap.size many (output (padKey K l) (strByte s) s.size) v ∧ Below w.heap.size w w' := by
  have q0 : ¬ (many : Int) < 0 := by omega
  have q1 : ¬ (8160 : Int) < (many : Int) := by omega
  have kc := fun (w : World) => Lib.run_convert_string_bytes (P := Tryz.prog) w 9 28 5 s Tryz.underlying9 Tryz.underlying28 Tryz.underlying5
  obtain ⟨i5, hi5, hz5⟩ := Option.map_eq_some_iff.1 info_u8
  simp only [Prod.mk.injEq] at hz5
  obtain ⟨P, hP⟩ : ∃ P, P = padKey K l := ⟨_, rfl⟩
  rw [← hP]
  go_enter Tryz.func73, Tryz.ntmps73
  go_wp2_with fail
  refine (pad_any K l c _ A w hk hkey hl).mono ?_
  rw [← hP]
  rintro x w2 ⟨rfl, hb2⟩
  clear hP hkey
  go_wp2_with (first
    | (refine store_whole (by rfl) 117 (.tmp 8) (.tmp 20) (by rfl) w2.heap.size _ 64 (fun _ => .int .u8 0) (fun j => .int .u8 ((P j).toNat : Int)) (by exact row_new w2 _ _ 64 _ (by rfl) (zeros64 _ (by rfl))) (by rfl) _ (by rfl) (by kernel_rfl) (size_cellsOf _ _) (cellsOf_at _ _) (fun _ _ => rfl) ?_
       intro w3 hr3 ho3
       have hb3 := ho3.below (hb2.alloc hb2.size _) hb2.size
       have hlt3 := hr3.lt
       have hsz3 := hb2.size
       clear ho3 hb2)
    | (at_make
       refine wpList_make_own _ (by rfl) _ _ 28 (by rfl) (w2.heap.size + 1) 5 i5 (.int .u8 0) 1 Tryz.underlying28 hi5 hz5.1 hz5.2.1 _ _ _ many (by rfl) (by rfl) (by rfl) (by rw [hz5.2.2]; omega) (by simp only [maxLen]; omega) hlt3 ?_
       intro w4 hown4 hg4))
  have h4 : ExpRel P (strByte s) s.size many w2.heap.size 0 0 (.slice (some ⟨w3.heap.size, 0, none⟩) 0 many) (.slice none 0 0) w w4 :=
    ⟨by simp, by omega, hown4, SliceOf.nil _ _ _, hr3.of_block (hg4.block _ hr3.lt (by simp)), hb3.trans ⟨hg4.os, hg4.tape, hg4.output, hg4.size, fun b hb => hg4.block b (by omega) (by simp)⟩⟩
  obtain ⟨p, hp⟩ : ∃ p, p = w2.heap.size := ⟨_, rfl⟩
  rw [← hp] at h4 hsz3 ⊢
  clear hown4 hg4 hr3 hb3 hlt3 hp hi5 hz5
  obtain ⟨v4, hv4⟩ : ∃ v4, v4 = Value.slice (some ⟨w3.heap.size, 0, none⟩) 0 many := ⟨_, rfl⟩
  go_loopw [9, 10, 11, 12] (fun out prev n _ wr => ∃ k L : Nat, n = .int .i64 ((k : Int) + 1) ∧ ExpRel P (strByte s) s.size many p k L out prev w wr) (fun out _ _ _ _ => many - lenOfSlice out)
  case atStart => exact ⟨0, 0, rfl, h4⟩
  case round =>
    clear h4 hv4 v4
    obtain ⟨k, L, rfl, h⟩ := hrel
    have hL := h.hL
    have hk' := h.hk
    obtain ⟨vo, hvo⟩ : ∃ vo, Hid (vo = u9) := ⟨_, rfl⟩
    have hform : ∃ B cap, u9 = .slice B L cap := by
      rcases h.ho.form with ⟨rfl, rfl⟩ | ⟨g, cap, cur, rfl, _⟩
      · exact ⟨_, _, rfl⟩
      · exact ⟨_, _, rfl⟩
    obtain ⟨B, cap, rfl⟩ := hform
    have hmin1 : L ≤ 32 * k := by rw [hL]; exact Nat.min_le_left _ _
    have hmin2 : L ≤ many := by rw [hL]; exact Nat.min_le_right _ _
    by_cases hlt : L < many
    · have hLk : L = 32 * k := by
        rw [hL] at hlt ⊢
        rcases Nat.le_total (32 * k) many with h1 | h1
        · exact Nat.min_eq_left h1
        · have : Nat.min (32 * k) many = many := Nat.min_eq_right h1
          omega
      obtain ⟨pA, pc, rfl, _⟩ := id h.hp
      have q2 : (L : Int) < (many : Int) := by omega
      have HL := Lib.hid hLk
      have HR := Lib.hid h
      clear h hL hLk hmin1 hmin2 hvo
      go_wp2_with fail
      obtain ⟨hq3, hw3⟩ := exp_parts wr s (k + 1) (prevLen k) (outBlock P (strByte s) s.size k) (.slice pA (prevLen k) pc) (((k : Int) + 1) % 256) HR.out.hp (by rw [BitVec.toNat_ofNat]; omega)
      generalize ((Lib.bytesWorld wr 5 s).alloc (.cells #[.int .u8 (((k : Int) + 1) % 256)] 5)).alloc _ = W3 at *
      have hr3 := HR.out.r1.of_block (hw3.block _ HR.out.r1.lt)
      have ho3 := HR.out.ho.below hw3
      have hb3 := HR.out.hb.trans (hw3.mono HR.out.hb.size)
      have hplt := hr3.lt
      have hkey : SliceOf W3 W3.heap.size 64 P (.slice (some ⟨p, 0, none⟩) 64 64) := ⟨_, _, rfl, by omega, fun _ => ⟨p, 0, rfl, by omega, fun j hj => by rw [Nat.zero_add, hr3.cell hj]⟩⟩
      refine (mac_any P (some ⟨p, 0, none⟩) 64 64 W3.heap.size 3 _ _ _ W3 (hk.below hb3 (Nat.le_refl _)) hkey (by omega) hq3 (by unfold prevLen; show 0 + three _ _ _ 0 + three _ _ _ 1 + three _ _ _ 2 ≤ _; simp only [three]; split <;> omega) (by omega)).mono ?_
      rw [code_three, show codeP P (cat (outBlock P (strByte s) s.size k) (prevLen k) (cat (strByte s) s.size (fun _ => BitVec.ofNat 8 (k + 1)))) (prevLen k + (s.size + 1)) = outBlock P (strByte s) s.size (k + 1) from rfl]
      obtain ⟨E, hE⟩ : ∃ E, E = outBlock P (strByte s) s.size (k + 1) := ⟨_, rfl⟩
      rw [← hE]
      have HE := Lib.hid hE
      rintro x w5 ⟨rfl, hb5⟩
      have hr5 := hr3.of_block (hb5.block _ hr3.lt)
      have ho5 := ho3.below hb5
      have hb5' := hb3.trans (hb5.mono hb3.size)
      have hplt5 := hr5.lt
      obtain ⟨C, hC⟩ : ∃ C : Nat, C = Nat.min 32 (many - L) := ⟨_, rfl⟩
      have hC1 : C ≤ 32 := by rw [hC]; exact Nat.min_le_left _ _
      have hC2 : C ≤ many - L := by rw [hC]; exact Nat.min_le_right _ _
      have hC0 : 0 < C := by rw [hC]; exact Nat.lt_min.2 ⟨by omega, by omega⟩
      have hC3 : Hid (L + C = Nat.min (32 * (k + 1)) many) := by
        have := HL.out
        show L + C = Nat.min (32 * (k + 1)) many
        rcases Nat.le_total 32 (many - L) with h1 | h1
        · rw [hC, show Nat.min (32 * (k + 1)) many = 32 * (k + 1) from Nat.min_eq_left (by omega), show Nat.min 32 (many - L) = 32 from Nat.min_eq_left h1]; omega
        · rw [hC, show Nat.min (32 * (k + 1)) many = many from Nat.min_eq_right (by omega), show Nat.min 32 (many - L) = many - L from Nat.min_eq_right h1]; omega
      have hmin : (if (many : Int) - (L : Int) < 32 then (many : Int) - (L : Int) else 32) = (C : Int) := by
        rcases Nat.le_total 32 (many - L) with h1 | h1
        · rw [hC, show Nat.min 32 (many - L) = 32 from Nat.min_eq_left h1, if_neg (by omega)]; rfl
        · rw [hC, show Nat.min 32 (many - L) = many - L from Nat.min_eq_right h1]
          split <;> omega
      have hcut := fun b W => arr_run (P := Tryz.prog) 101 5 32 Tryz.underlying101 (by kernel_rfl) (C : Int) C rfl hC1 b 0 .i64 W
      clear hq3 hw3 hr3 ho3 hb3 hkey hb5 hplt HR hE hC kc
      go_wp2_with (first
        | (refine store_whole (by rfl) 101 (.tmp 12) (.tmp 37) (by rfl) w5.heap.size _ 32 (fun _ => .int .u8 0) (fun t => .int .u8 ((E t).toNat : Int)) (by exact row_new w5 _ _ 32 _ (by rfl) (zeros32 _ (by rfl))) (by rfl) _ (by rfl) (by kernel_rfl) (size_cellsOf _ _) (cellsOf_at _ _) (fun _ _ => rfl) ?_
           intro w6 hr6 ho6
           have hx6 := ho6.row (hr5.alloc _) (Nat.ne_of_lt hplt5)
           have hb6 := ho6.below (hb5'.alloc hb5'.size _) hb5'.size
           have hown6 := ho5.keep (w' := w6) (fun b hb => (ho6.block b (Nat.ne_of_lt (ho5.lt hb).2)).trans (Below.heap_alloc w5 _ b (ho5.lt hb).2))
           have hsl6 : SliceOf w6 w6.heap.size C E (.slice (some ⟨w5.heap.size, 0, none⟩) C 32) := ⟨_, _, rfl, hC1, fun _ => ⟨w5.heap.size, 0, rfl, by have := hr6.lt; omega, fun j hj => by rw [Nat.zero_add, hr6.cell (by omega)]⟩⟩
           have hlt6 : w5.heap.size < w6.heap.size := hr6.lt
           have hob : ∀ b, (Value.slice B L cap).ownBlock = some b → p < b ∧ b < w5.heap.size := fun b hb => ⟨(ho5.lt hb).1, (ho5.lt hb).2⟩
           clear ho6 hr5 hb5')
        | (at_builtin
           refine append_bytes (by rfl) (.tmp 38) (.tmp 44) (by rfl) (p + 1) L (output P (strByte s) s.size) _ (by rfl) hown6 w6.heap.size C E _ (by rfl) hsl6 (by omega) (by omega) ?_
           intro v7 w7 hown7 hg7 hat7))
      have hne7 : ∀ b, b ≤ p ∨ b = w5.heap.size → some b ≠ (Value.slice B L cap).ownBlock := fun b hb e1 => by have := hob b e1.symm; omega
      have h7 : ExpRel P (strByte s) s.size many p (k + 1) (L + C) v7 (.slice (some ⟨w5.heap.size, 0, none⟩) 32 32) w w7 := by
        refine ⟨hC3.out, by have := HL.out; omega, ?_, ?_, hx6.of_block (hg7.block _ hx6.lt (hne7 _ (.inl (Nat.le_refl _)))), hb6.trans ⟨hg7.os, hg7.tape, hg7.output, hg7.size, fun b hb => hg7.block b (by have := hb6.size; omega) (hne7 _ (.inl (by omega)))⟩⟩
        · refine Own.congr' hown7 (fun j hj => ?_)
          by_cases h1 : j < L
          · rw [cat_lt _ _ _ _ h1]
          · rw [cat_ge _ _ _ _ (by omega), HE.out, ← output_block P (strByte s) s.size k (j - L) (by omega), show 32 * k + (j - L) = j by have := HL.out; omega]
        · have hr7 := hr6.of_block (hg7.block _ hr6.lt (hne7 _ (.inr rfl)))
          have hlt7 := hr7.lt
          refine ⟨_, _, rfl, by unfold prevLen; rw [if_neg (by omega)]; exact Nat.le_refl _, fun _ => ⟨w5.heap.size, 0, rfl, by omega, fun j hj => ?_⟩⟩
          have hj' : j < 32 := by unfold prevLen at hj; rw [if_neg (by omega)] at hj; exact hj
          rw [Nat.zero_add, hr7.cell hj', HE.out]
      refine ⟨⟨k + 1, L + C, int_of (by omega), h7⟩, ?_⟩
      have hv7 : lenOfSlice v7 = L + C := by
        rcases hown7.form with ⟨rfl, h0⟩ | ⟨g, cap', cur, rfl, _⟩
        · omega
        · rfl
      rw [hv7]
      show many - (L + C) < many - L
      omega
    · have hLm : L = many := by omega
      have ho := h.ho
      rw [hLm] at ho
      have hb := h.hb
      have HLm := Lib.hid hLm
      clear h hL hmin1 hmin2 hvo hLm
      go_wp2
      go_ret2
      refine ⟨_, rfl, ?_, hb⟩
      rw [HLm.out]
      obtain ⟨o1, o2⟩ := ho
      refine ⟨o1, ?_⟩
      rcases o2 with o2 | ⟨g, cap', cur, hv, hg, r⟩
      · exact .inl o2
      · exact .inr ⟨g, cap', cur, hv, by omega, r⟩
end Go.Proofs.YtnkjoambhmlnbaaGreatDoor.Mac
