/-
  What mac.Mac and mac.Extract do: the code of all parts, one behind the other.
-/
import Derived.Test.YthdfbkfoljfbhaaDoorMacBegin
import Derived.Test.YthdfbkfoljfbhaaDoorLaw01All
namespace Go.Proofs.YthdfbkfoljfbhaaDoor.Mac
open Go Go.RowKit Go.Proofs.YthdfbkfoljfbhaaDoor.Aid Go.Proofs.YthdfbkfoljfbhaaDoor.Sha Go.Proofs.YthdfbkfoljfbhaaDoor.Law01

/-- What Mac holds at its loop's head: j parts have been written. -/
structure MacRel (P : Nat → BitVec 8) (m : Nat → Nat) (e : Nat → Nat → BitVec 8) (k g p j : Nat) (w wr : World) : Prop where
  hj : j ≤ k
  hh : HashIs wr g (cat (xorBy P 54) 64 (catAll m e k)) (64 + off m j)
  r0 : wr.rowIs w.heap.size 24 32 (fun _ => .int .u8 0)
  r1 : wr.rowIs p 48 64 (fun j => .int .u8 ((P j).toNat : Int))
  hb : Below w.heap.size w wr

set_option maxRecDepth 100000 in
set_option maxHeartbeats 2000000 in
theorem mac_any (K : Nat → BitVec 8) (A : Option Addr) (l c gk k : Nat) (m : Nat → Nat) (e : Nat → Nat → BitVec 8) (v : Value) (w : World) (hk : Consts w) (hkey : SliceOf w gk l K (.slice A l c)) (hl : l ≤ 1000000)
    (hp : PartsOf w k m e v) (hoff : off m k ≤ 1000000) (hkk : k ≤ 1000000) :
    Calls Tryd.prog 20 #[.slice A l c, v] w fun x w' => x = .returned (.agg (byteCells 32 (code K l (catAll m e k) (off m k)))) ∧ Below w.heap.size w w' := by
  have hr0 : ∀ (Z : Array Value), Z = Array.replicate 32 (.int .u8 0) → (w.alloc (.cells Z 24)).rowIs w.heap.size 24 32 (fun _ => .int .u8 0) :=
    fun Z hZ => row_new w Z _ 32 _ (by rw [hZ]; simp) (zeros32 Z hZ)
  have hx1 := hr0 _ rfl
  have hb1 : Below w.heap.size w (w.alloc (.cells (Array.replicate 32 (.int .u8 0)) 24)) := (Below.refl _ _).alloc (by simp) _
  have hs1 := slice_any (slice_below hkey hb1) (Nat.le_refl _)
  obtain ⟨P, hP⟩ : ∃ P, P = padKey K l := ⟨_, rfl⟩
  have HP := Lib.hid hP
  have Hoff := Lib.hid hoff
  obtain ⟨B, cc, rfl, hr⟩ := hp
  clear hoff hr0
  go_enter Tryd.func20, Tryd.ntmps20
  go_wp2_with fail
  change Calls Tryd.prog 29 _ (w.alloc (.cells (Array.replicate 32 (.int .u8 0)) 24)) _
  generalize w.alloc (.cells (Array.replicate 32 (.int .u8 0)) 24) = w1 at *
  have hk1 := hk.below hb1 (Nat.le_refl _)
  refine (pad_any K l c _ A w1 hk1 hs1 hl).mono ?_
  rintro x w2 ⟨rfl, hb2⟩
  rw [← hP]
  have hx2 := hx1.of_block (hb2.block _ hx1.lt)
  have hb2' := hb1.trans (hb2.mono hb1.size)
  have hk2 := hk.below hb2' (Nat.le_refl _)
  have hlt2 := hx2.lt
  clear hb1 hb2 hx1 hs1 hk1 hP
  go_wp2_with (first
    | (refine store_whole (by rfl) 48 (.tmp 5) (.tmp 12) (by rfl) w2.heap.size _ 64 (fun _ => .int .u8 0) (fun j => .int .u8 ((P j).toNat : Int)) (by exact row_new w2 _ _ 64 _ (by rfl) (zeros64 _ (by rfl))) (by rfl) _ (by rfl) (by kernel_rfl) (size_cellsOf _ _) (cellsOf_at _ _) (fun _ _ => rfl) ?_
       intro w3 hr3 ho3
       have hx3 := ho3.row (hx2.alloc _) (Nat.ne_of_lt hlt2)
       have hb3 := ho3.below (hb2'.alloc hb2'.size _) hb2'.size
       clear ho3 hx2)
    | (refine load_whole (by rfl) 48 (.tmp 5) (by rfl) _ _ _ _ hr3 (by rfl) _ Tryd.underlying48 rfl (by kernel_rfl) ?_))
  have hk3 := hk.below hb3 (Nat.le_refl _)
  refine (begin_any P 54 _ (size_cellsOf _ _) (cellsOf_at _ _) (cat (xorBy P 54) 64 (catAll m e k)) (fun j hj => cat_lt _ _ _ _ hj) w3 hk3).mono ?_
  rintro x w4 ⟨g, rfl, hge, hgl, hh4, hb4⟩
  have hlt3 := hr3.lt
  have h4 : MacRel P m e k g w2.heap.size 0 w w4 := ⟨by omega, hh4, hx3.of_block (hb4.block _ hx3.lt), hr3.of_block (hb4.block _ hr3.lt), hb3.trans (hb4.mono hb3.size)⟩
  have hpg : w2.heap.size < g := by omega
  clear hh4 hx3 hb3 hb4 hr3 hk3 hk2 hb2' hge hgl hlt3
  obtain ⟨p, hp⟩ : ∃ p, p = w2.heap.size := ⟨_, rfl⟩
  rw [← hp] at h4 hpg hlt2 ⊢
  clear hp
  go_wp2
  go_loopw [8, 17] (fun _ i wr => ∃ j : Nat, i = .int .i64 j ∧ MacRel P m e k g p j w wr) (fun _ i _ => k - (intOf i).toNat)
  case atStart => exact ⟨0, rfl, h4⟩
  case round =>
    clear h4
    obtain ⟨j, rfl, h⟩ := hrel
    have hj := h.hj
    by_cases hlt : j < k
    · obtain ⟨sb, so, rfl, hc⟩ := hr (by omega)
      obtain ⟨u, hu, hs⟩ := hc j hlt
      have hblt : sb < w.heap.size := block_lt_of_cell hu
      have cu := (h.hb.cell (p := ⟨sb, so + j, none⟩) hblt).trans hu
      have hoj1 : off m j + m j ≤ 1000000 := Nat.le_trans (off_mono m (show j + 1 ≤ k by omega)) Hoff.out
      have hsl : SliceOf wr g (m j) (fun i => cat (xorBy P 54) 64 (catAll m e k) (64 + off m j + i)) u := (slice_any hs (show w.heap.size ≤ g by omega)).keep (fun b hb _ => h.hb.block b hb) |>.congr (fun i hi => by
        rw [cat_ge _ _ _ _ (by omega), show 64 + off m j + i - 64 = off m j + i by omega]
        exact (catAll_part m e hlt i hi).symm)
      have q0 : (0 : Int) ≤ (j : Int) := by omega
      have q1 : (j : Int) < (k : Int) := by omega
      have Hoj1 := Lib.hid hoj1
      clear hu hs hc hr hoj1
      go_wp2_with fail
      refine (write_any _ g (64 + off m j) (m j) u wr (hk.below h.hb (Nat.le_refl _)) h.hh hsl (by have := Hoj1.out; omega) (by have := hk.lt; omega)).mono ?_
      rintro x w5 ⟨rfl, hh5, hg5⟩
      have h5 : MacRel P m e k g p (j + 1) w w5 := ⟨by omega, by rw [Nat.add_assoc] at hh5; exact hh5, h.r0.of_block (hg5.block _ h.r0.lt (by simp; omega)), h.r1.of_block (hg5.block _ h.r1.lt (by simp; omega)),
        h.hb.trans ⟨hg5.os, hg5.tape, hg5.output, hg5.size, fun b hb => hg5.block b (by have := h.hb.size; omega) (by simp; omega)⟩⟩
      clear h hh5 hg5 hsl cu
      go_wp2
      go_roundw
      case rel => exact ⟨j + 1, by go_num, h5⟩
      case measure => simp [intOf]; omega
    · obtain rfl : j = k := by omega
      clear hr
      have hon : 64 + off m j < 999999000 := by have := Hoff.out; omega
      have hoo := Hoff.out
      obtain ⟨I, hI⟩ : ∃ I, I = inner P (catAll m e j) (off m j) := ⟨_, rfl⟩
      have HI := Lib.hid hI
      go_wp2_with fail
      refine (hashSum_any _ g (64 + off m j) wr (hk.below h.hb (Nat.le_refl _)) h.hh hon).mono ?_
      rw [show digest (cat (xorBy P 54) 64 (catAll m e j)) (64 + off m j) = I by rw [hI]; rfl]
      rintro x w5 ⟨rfl, hb5⟩
      have hr0 := h.r0.of_block (hb5.block _ h.r0.lt)
      have hr1 := h.r1.of_block (hb5.block _ h.r1.lt)
      have hb5' := h.hb.trans (hb5.mono h.hb.size)
      have hlt0 := hr0.lt
      have hlt1 := hr1.lt
      clear h hb5 hon hI
      go_wp2_with (first
        | (refine store_whole (by rfl) 24 (.tmp 9) (.tmp 26) (by rfl) w5.heap.size _ 32 (fun _ => .int .u8 0) (fun j => .int .u8 ((I j).toNat : Int)) (by exact row_new w5 _ _ 32 _ (by rfl) (zeros32 _ (by rfl))) (by rfl) _ (by rfl) (by kernel_rfl) (size_cellsOf _ _) (cellsOf_at _ _) (fun _ _ => rfl) ?_
           intro w6 hr6 ho6
           have hx6 := ho6.row (hr0.alloc _) (Nat.ne_of_lt hlt0)
           have hy6 := ho6.row (hr1.alloc _) (Nat.ne_of_lt hlt1)
           have hb6 := ho6.below (hb5'.alloc hb5'.size _) hb5'.size
           clear ho6 hr0 hr1)
        | (refine load_whole (by rfl) 48 (.tmp 5) (by rfl) _ _ _ _ hy6 (by rfl) _ Tryd.underlying48 rfl (by kernel_rfl) ?_))
      have hk6 := hk.below hb6 (Nat.le_refl _)
      have hlt6 := hr6.lt
      refine (begin_any P 92 _ (size_cellsOf _ _) (cellsOf_at _ _) (cat (xorBy P 92) 64 I) (fun j hj => cat_lt _ _ _ _ hj) w6 hk6).mono ?_
      rintro x w7 ⟨g7, rfl, hge, hgl, hh7, hb7⟩
      have hx7 := hx6.of_block (hb7.block _ hx6.lt)
      have hs7 : SliceOf w7 g7 32 (fun i => cat (xorBy P 92) 64 I (64 + i)) (.slice (some ⟨w5.heap.size, 0, none⟩) 32 32) := ⟨_, _, rfl, by omega, fun _ => ⟨w5.heap.size, 0, rfl, by omega, fun i hi => by
        rw [Nat.zero_add, (hr6.of_block (hb7.block _ hr6.lt)).cell hi]
        show _ = some (Value.int .u8 ((cat (xorBy P 92) 64 I (64 + i)).toNat : Int))
        rw [cat_ge _ _ _ _ (by omega), Nat.add_sub_cancel_left]⟩⟩
      have hb7' := hb6.trans (hb7.mono hb6.size)
      have hk7 := hk.below hb7' (Nat.le_refl _)
      have hg7 : w.heap.size < g7 := by have := hx6.lt; have := hb5'.size; omega
      clear hr6 hx6 hy6 hb6 hk6 hb7 hb5'
      go_wp2_with fail
      refine (write_any _ g7 64 32 _ w7 hk7 hh7 hs7 (by omega) (by have := hk.lt; omega)).mono ?_
      rintro x w8 ⟨rfl, hh8, hg8⟩
      have hx8 := hx7.of_block (hg8.block _ hx7.lt (by simp; omega))
      have hb8 : Below w.heap.size w w8 := hb7'.trans ⟨hg8.os, hg8.tape, hg8.output, hg8.size, fun b hb => hg8.block b (by have := hb7'.size; omega) (by simp; omega)⟩
      have hk8 := hk.below hb8 (Nat.le_refl _)
      clear hx7 hs7 hb7' hk7 hh7 hg8
      go_wp2_with fail
      refine (hashSum_any _ g7 (64 + 32) w8 hk8 hh8 (by omega)).mono ?_
      rw [show digest (cat (xorBy P 92) 64 I) (64 + 32) = code K l (catAll m e j) (off m j) by unfold code; rw [← HP.out]; unfold codeP; rw [← HI.out]]
      rintro x w9 ⟨rfl, hb9⟩
      have hx9 := hx8.of_block (hb9.block _ hx8.lt)
      have hb9' := hb8.trans (hb9.mono hb8.size)
      clear hx8 hb8 hk8 hh8 hb9 HP HI Hoff
      go_wp2_with (refine store_whole (by rfl) 24 (.tmp 4) (.tmp 33) (by rfl) w.heap.size _ 32 _ (fun t => .int .u8 ((code K l (catAll m e j) (off m j) t).toNat : Int)) hx9 (by rfl) _ (by rfl) (by kernel_rfl) (size_cellsOf _ _) (cellsOf_at _ _) (fun _ _ => rfl) ?_
                   intro w10 hr10 ho10)
      refine bodyPost_ret (results_row rfl _ w.heap.size _ _ _ _ (by rfl) hr10 Tryd.underlying24 rfl (by kernel_rfl)) rfl ⟨rfl, ho10.below hb9' (Nat.le_refl _)⟩

/-- One part in a new block. -/
theorem parts_one (w : World) (n : Nat) (f : Nat → BitVec 8) (v : Value) (h : SliceOf w w.heap.size n f v) : PartsOf (w.alloc (.cells #[v] 22)) 1 (fun _ => n) (fun _ => f) (.slice (some ⟨w.heap.size, 0, none⟩) 1 1) := by
  refine ⟨_, 1, rfl, fun _ => ⟨w.heap.size, 0, rfl, fun i hi => ⟨v, ?_, ?_⟩⟩⟩
  · obtain rfl : i = 0 := by omega
    rw [World.cell?_alloc_new]
    rfl
  · exact slice_any (slice_below h ((Below.refl _ _).alloc (by simp) _)) (Nat.le_refl _)
theorem code_one (K : Nat → BitVec 8) (l n : Nat) (f : Nat → BitVec 8) : code K l (catAll (fun _ => n) (fun _ => f) 1) (off (fun _ => n) 1) = code K l f n := by
  rw [show off (fun _ => n) 1 = n by show 0 + n = n; omega]
  refine code_congr _ _ _ _ _ _ (fun _ _ => rfl) (fun j hj => ?_)
  show cat (fun _ => 0) 0 f j = f j
  rw [cat_ge _ _ _ _ (by omega), Nat.sub_zero]

set_option maxRecDepth 100000 in
set_option maxHeartbeats 1000000 in
theorem extract_any (K f : Nat → BitVec 8) (A B : Option Addr) (l c n d : Nat) (w : World) (hk : Consts w) (hkey : SliceOf w w.heap.size l K (.slice A l c)) (hl : l ≤ 1000000) (hb : SliceOf w w.heap.size n f (.slice B n d)) (hn : n ≤ 1000000) :
    Calls Tryd.prog 22 #[.slice A l c, .slice B n d] w fun x w' => x = .returned (.agg (byteCells 32 (code K l f n))) ∧ Below w.heap.size w w' := by
  have hr1 : ∀ (Z : Array Value) o2, Z = Array.replicate 32 (.int .u8 0) → ((w.alloc (.cells Z 24)).alloc o2).rowIs w.heap.size 24 32 (fun _ => .int .u8 0) :=
    fun Z o2 hZ => (row_new w Z _ 32 _ (by rw [hZ]; simp) (zeros32 Z hZ)).alloc _
  have hb1 : ∀ o1 o2, Below w.heap.size w ((w.alloc o1).alloc o2) := fun o1 o2 => ((Below.refl _ _).alloc (by simp) _).alloc (by simp) _
  have hp1 : ∀ o1, PartsOf ((w.alloc o1).alloc (.cells #[.slice B n d] 22)) 1 (fun _ => n) (fun _ => f) (.slice (some ⟨w.heap.size + 1, 0, none⟩) 1 1) := fun o1 => by
    have := parts_one (w.alloc o1) n f (.slice B n d) (slice_any (slice_below hb ((Below.refl _ _).alloc (by simp) _)) (Nat.le_refl _))
    rw [show (w.alloc o1).heap.size = w.heap.size + 1 by simp] at this
    exact this
  go_enter Tryd.func22, Tryd.ntmps22
  go_wp2_with fail
  have hx1 := hr1 _ (.cells #[.slice B n d] 22) rfl
  have hw1 := hb1 (.cells (Array.replicate 32 (.int .u8 0)) 24) (.cells #[.slice B n d] 22)
  have hq1 := hp1 (.cells (Array.replicate 32 (.int .u8 0)) 24)
  change Calls Tryd.prog 20 _ ((w.alloc (.cells (Array.replicate 32 (.int .u8 0)) 24)).alloc (.cells #[.slice B n d] 22)) _
  clear hr1 hb1 hp1
  generalize (w.alloc (.cells (Array.replicate 32 (.int .u8 0)) 24)).alloc (.cells #[.slice B n d] 22) = w1 at *
  refine (mac_any K A l c w1.heap.size 1 _ _ _ w1 (hk.below hw1 (Nat.le_refl _)) (slice_any (slice_below hkey hw1) (Nat.le_refl _)) hl hq1 (show 0 + n ≤ _ by omega) (by omega)).mono ?_
  rw [code_one]
  rintro x w2 ⟨rfl, hb2⟩
  have hx2 := hx1.of_block (hb2.block _ hx1.lt)
  have hw2 := hw1.trans (hb2.mono hw1.size)
  clear hx1 hw1 hq1 hb2
  go_wp2_with (refine store_whole (by rfl) 24 (.tmp 4) (.tmp 8) (by rfl) w.heap.size _ 32 _ (fun t => .int .u8 ((code K l f n t).toNat : Int)) hx2 (by rfl) _ (by rfl) (by kernel_rfl) (size_cellsOf _ _) (cellsOf_at _ _) (fun _ _ => rfl) ?_
               intro w4 hr4 ho4)
  exact bodyPost_ret (results_row rfl _ w.heap.size _ _ _ _ (by rfl) hr4 Tryd.underlying24 rfl (by kernel_rfl)) rfl ⟨rfl, ho4.below hw2 (Nat.le_refl _)⟩
end Go.Proofs.YthdfbkfoljfbhaaDoor.Mac
