/-
  What bartizanref03.Keys does: the document's own round keys.
  What bartizanref03.Encrypt does: the document's own encryption of a block.
-/
import Derived.Test.YtfjoflpidmjkbaaDoorRefXored
import Derived.Test.YtfjoflpidmjkbaaDoorFirst
namespace Go.Proofs.YtfjoflpidmjkbaaDoor.Aes
open Go Go.RowKit Go.Proofs.YtfjoflpidmjkbaaDoor.Aid

theorem keys_zero (t : TypeId) (ht : t = 66) : (Tryd.prog.info? t).map (fun i => (i.zero, i.size)) = some (some (.agg (cellsOf 176 fun _ => .int .u8 0)), 176) := by subst ht; kernel_rfl
/-- The first k round keys, one behind the other. -/
def keysTo (key : Blk) (k t : Nat) : BitVec 8 := if t < 16 * k then roundKey key (t / 16) (t % 16) else 0
theorem keysTo_at (key : Blk) (k i j : Nat) (hi : i < k) (hj : j < 16) : keysTo key k (16 * i + j) = roundKey key i j := by
  unfold keysTo
  rw [if_pos (by omega), show (16 * i + j) / 16 = i by omega, show (16 * i + j) % 16 = j by omega]
theorem keysTo_next (key : Blk) (k t : Nat) (f : Nat → BitVec 8) (hf : Same16 f (roundKey key k)) : (if 16 * k ≤ t ∧ t < 16 * k + 16 then f (t - 16 * k) else keysTo key k t) = keysTo key (k + 1) t := by
  unfold keysTo
  by_cases h1 : t < 16 * k
  · rw [if_neg (by omega), if_pos h1, if_pos (by omega)]
  · by_cases h2 : t < 16 * k + 16
    · rw [if_pos ⟨by omega, h2⟩, if_pos (by omega), hf _ (by omega), show t / 16 = k by omega, show t - 16 * k = t % 16 by omega]
    · rw [if_neg (by omega), if_neg h1, if_neg (by omega)]

/-- The first column, without the power. -/
def preFirst (was : Blk) (r : Nat) : BitVec 8 := was r ^^^ box (was (12 + (r + 1) % 4))
/-- The block under way: the first column, without the power. -/
structure NowRel (key : Blk) (was f : Blk) (b2 b3 b4 b7 b8 k : Nat) (w wr : World) : Prop where
  r2 : wr.rowIs b2 66 176 (fun _ => .int .u8 0)
  r3 : RowB wr b3 64 256 boxAt
  r4 : RowB wr b4 66 176 (keysTo key k)
  r7 : RowB wr b7 22 16 was
  r8 : RowB wr b8 22 16 f
  hb : Below w.heap.size w wr
theorem NowRel.set {key was f g : Blk} {b2 b3 b4 b7 b8 k i : Nat} {w wr : World} {v : Int} (h : NowRel key was f b2 b3 b4 b7 b8 k w wr) (hs : RowB (wr.setCell ⟨b8, i, none⟩ (.int .u8 v)) b8 22 16 g)
    (h2 : b2 ≠ b8) (h3 : b3 ≠ b8) (h4 : b4 ≠ b8) (h7 : b7 ≠ b8) (hw : w.heap.size ≤ b8) : NowRel key was g b2 b3 b4 b7 b8 k w (wr.setCell ⟨b8, i, none⟩ (.int .u8 v)) :=
  ⟨World.rowIs.setOther (a := ⟨b8, i, none⟩) h.r2 h2 _, World.rowIs.setOther (a := ⟨b8, i, none⟩) h.r3 h3 _, World.rowIs.setOther (a := ⟨b8, i, none⟩) h.r4 h4 _, World.rowIs.setOther (a := ⟨b8, i, none⟩) h.r7 h7 _, hs, h.hb.setCell (p := ⟨b8, i, none⟩) hw _⟩

theorem NowRel.drew {key was f : Blk} {b2 b3 b4 b7 b8 k : Nat} {w wr : World} (h : NowRel key was f b2 b3 b4 b7 b8 k w wr) : NowRel key was f b2 b3 b4 b7 b8 k w wr.drew := ⟨h.r2, h.r3, h.r4, h.r7, h.r8, h.hb.drew⟩
theorem nextKey_step (was : Blk) (p : BitVec 8) (i : Nat) (h4 : 4 ≤ i) : nextKey was p i = was i ^^^ nextKey was p (i - 4) := by
  unfold nextKey
  obtain ⟨c, hc⟩ : ∃ c, i / 4 = c + 1 := ⟨i / 4 - 1, by omega⟩
  rw [hc, show (i - 4) / 4 = c by omega, show (i - 4) % 4 = i % 4 by omega]
  show was (4 * (c + 1) + i % 4) ^^^ _ = _
  rw [show 4 * (c + 1) + i % 4 = i by omega]
/-- The power comes in. -/
theorem first_power (was : Blk) (p : BitVec 8) {w : World} {b t : Nat} (h : RowB w b t 16 (setTo (fun _ => 0) (preFirst was) 4)) (v : Int) (hv : v = ((preFirst was 0 ^^^ p).toNat : Int)) : RowB (w.setCell ⟨b, 0, none⟩ (.int .u8 v)) b t 16 (setTo (fun _ => 0) (nextKey was p) 4) := by
  refine World.rowIs.congr (World.rowIs.set h 0 (.int .u8 v)) (fun i hi => ?_)
  have key : ∀ j, j < 4 → nextKey was p j = preFirst was j ^^^ (if j = 0 then p else 0) := fun j hj => by
    unfold nextKey
    rw [show j / 4 = 0 by omega, show j % 4 = j by omega]
    rfl
  unfold setTo
  by_cases h1 : i = 0
  · subst h1
    rw [if_pos rfl, hv, if_pos (by omega), key 0 (by omega), if_pos rfl]
  · rw [if_neg h1]
    by_cases h2 : i < 4
    · rw [if_pos h2, if_pos h2, key i h2, if_neg h1]; simp
    · rw [if_neg h2, if_neg h2]

/-- What Keys holds at its loop's head: the first k round keys are there. -/
structure KeysRel (key : Blk) (b2 b3 b4 k : Nat) (w wr : World) : Prop where
  r2 : wr.rowIs b2 66 176 (fun _ => .int .u8 0)
  r3 : RowB wr b3 64 256 boxAt
  r4 : RowB wr b4 66 176 (keysTo key k)
  hb : Below w.heap.size w wr

set_option maxRecDepth 100000 in
set_option maxHeartbeats 4000000 in
theorem refKeys_any (key : Blk) (X : Array Value) (hX : X.size = 16) (hXi : ∀ i, i < 16 → X[i]? = some (.int .u8 ((key i).toNat : Int))) (w : World) :
    Calls Tryd.prog 36 #[.agg X] w fun r w' => r = .returned (.agg (byteRow 176 (keysTo key 11))) ∧ Below w.heap.size w w' := by
  obtain ⟨hz1, _⟩ := zero_of_info (keys_zero _ rfl)
  have h1 : ∃ W, W = (w.alloc (.cells X 22)).alloc (.cells (cellsOf 176 fun _ => .int .u8 0) 66) ∧ RowB W w.heap.size 22 16 key ∧ W.rowIs (w.heap.size + 1) 66 176 (fun _ => .int .u8 0) ∧ Below w.heap.size w W := by
    have s1 : (w.alloc (.cells X 22)).heap.size = w.heap.size + 1 := by simp
    have r1 := (row_new w X 22 16 (fun j => .int .u8 ((key j).toNat : Int)) hX hXi).alloc (.cells (cellsOf 176 fun _ => .int .u8 0) 66)
    have r2 := row_new (w.alloc (.cells X 22)) (cellsOf 176 fun _ => .int .u8 0) 66 176 _ (size_cellsOf _ _) (cellsOf_at _ _)
    rw [s1] at r2
    exact ⟨_, rfl, r1, r2, ((Below.refl _ _).alloc (Nat.le_refl _) _).alloc (by simp) _⟩
  obtain ⟨W, hW, hk0, hz0, hb0⟩ := h1
  clear hXi
  go_enter Tryd.func36, Tryd.ntmps36
  go_wp2_with fail
  change Calls Tryd.prog 35 _ ((w.alloc (.cells X 22)).alloc (.cells (cellsOf 176 fun _ => .int .u8 0) 66)) _
  rw [← hW]
  clear hW
  refine (refBoxes_any W).mono ?_
  rintro x w1 ⟨rfl, hb1⟩
  have hk1 : RowB w1 w.heap.size _ 16 key := World.rowIs.of_block hk0 (hb1.block _ (World.rowIs.lt hk0))
  have hz1' := hz0.of_block (hb1.block _ hz0.lt)
  have hb1' := hb0.trans (hb1.mono hb0.size)
  have hl1 : w.heap.size + 1 < w1.heap.size := hz1'.lt
  obtain ⟨hz2, _⟩ := zero_of_info (boxes_zero _ rfl)
  clear hk0 hz0 hb0 hb1
  go_wp2_with (first
    | (refine store_whole (by rfl) 64 (.tmp 3) (.tmp 11) (by rfl) w1.heap.size _ 256 (fun _ => .int .u8 0) (fun j => .int .u8 ((boxAt j).toNat : Int)) (by exact row_new w1 _ _ 256 _ (size_cellsOf _ _) (cellsOf_at _ _)) (by rfl) _ (by rfl) (by kernel_rfl) (size_cellsOf _ _) (cellsOf_at _ _) (fun _ _ => rfl) ?_
       intro w2 hr2 ho2
       have hk2 : RowB w2 w.heap.size _ 16 key := ho2.row (World.rowIs.alloc hk1 _) (by omega)
       have hz2' := ho2.row (hz1'.alloc _) (by omega)
       have hb2 := ho2.below (hb1'.alloc hb1'.size _) hb1'.size
       have hl2 : w1.heap.size < w2.heap.size := hr2.lt
       clear hk1 hz1' hb1' ho2)
    | (refine build_named (by rfl) 66 _ (by rfl) (cellsOf 176 fun _ => .int .u8 0) (by kernel_rfl) ?_)
    | (refine store_whole (by rfl) 66 (.tmp 4) (.tmp 12) (by rfl) w2.heap.size _ 176 (fun _ => .int .u8 0) (fun _ => .int .u8 0) (by exact row_new w2 _ _ 176 _ (size_cellsOf _ _) (cellsOf_at _ _)) (by rfl) _ (by rfl) (by kernel_rfl) (size_cellsOf _ _) (cellsOf_at _ _) (fun _ _ => rfl) ?_
       intro w3 hr3 ho3
       have hk3 : RowB w3 w.heap.size _ 16 key := ho3.row (World.rowIs.alloc hk2 _) (by omega)
       have hz3 := ho3.row (hz2'.alloc _) (by omega)
       have hx3 : RowB w3 w1.heap.size _ 256 boxAt := ho3.row (World.rowIs.alloc hr2 _) (by omega)
       have hb3 := ho3.below (hb2.alloc hb2.size _) hb2.size
       clear hk2 hz2' hb2 ho3 hr2)
    | (refine load_whole (by rfl) 22 (.tmp 1) (by rfl) _ _ _ _ hk3 (by rfl) _ Tryd.underlying22 rfl (by kernel_rfl) ?_)
    | (refine store_row (by rfl) 22 (.tmp 14) (.tmp 13) (by rfl) w2.heap.size 0 _ 176 16 _ (fun j => .int .u8 ((key j).toNat : Int)) hr3 (by rfl) _ (by rfl) (by kernel_rfl) (by omega) (size_cellsOf _ _) (cellsOf_at _ _) (fun _ _ => rfl) ?_
       intro w4 hr4 ho4))
  have h4 : KeysRel key (w.heap.size + 1) w1.heap.size w2.heap.size 1 w w4 := by
    refine ⟨ho4.row hz3 (by omega), ho4.row hx3 (by omega), World.rowIs.congr hr4 (fun j hj => ?_), ho4.below hb3 (by omega)⟩
    have := keysTo_next key 0 j key (fun _ _ => rfl)
    rw [← this]
    simp only [Nat.mul_zero, Nat.zero_add, Nat.sub_zero]
    by_cases hj : 0 ≤ j ∧ j < 16
    · rw [if_pos hj, if_pos hj]
    · rw [if_neg hj, if_neg hj]; unfold keysTo; rw [if_neg (by omega)]; rfl
  obtain ⟨B3, hB3⟩ : ∃ B3, B3 = w1.heap.size := ⟨_, rfl⟩
  obtain ⟨B4, hB4⟩ : ∃ B4, B4 = w2.heap.size := ⟨_, rfl⟩
  rw [← hB3] at hl1 hl2 h4 ⊢
  rw [← hB4] at hl2 h4 ⊢
  clear hr4 ho4 hk3 hz3 hx3 hb3 hr3 hB3 hB4 hz1 hz2
  go_loopw [5, 6, 7, 8, 9, 10] (fun pw n _ _ _ _ wr => ∃ (k : Nat) (p : BitVec 8), k ≤ 10 ∧ pw = .int .u8 (p.toNat : Int) ∧ n = .int .i64 ((k : Int) + 1) ∧ Hid (p = xpow 1 k) ∧ KeysRel key (w.heap.size + 1) B3 B4 (k + 1) w wr) (fun _ n _ _ _ _ _ => 12 - (intOf n).toNat)
  case atStart => exact ⟨0, 1, by omega, rfl, rfl, rfl, h4⟩
  case round =>
    clear h4
    obtain ⟨k, p, hk, rfl, rfl, Hp, h⟩ := hrel
    by_cases hlt : k < 10
    · have q0 : (k : Int) + 1 ≤ 10 := by omega
      have q1 : (0 : Int) ≤ (k : Int) := by omega
      have q2 : (k : Int) < 11 := by omega
      have HR := Lib.hid h
      clear h
      have hr4 := HR.out.r4
      have hB4 : B4 < wr.heap.size := World.rowIs.lt HR.out.r4
      go_wp2_with (first
        | (refine load_row (by rfl) 22 (.tmp 21) (by rfl) B4 (k * 16) _ 176 16 _ hr4 (by rfl) _ Tryd.underlying22 rfl (by kernel_rfl) (by omega) ?_)
        | (refine store_whole (by rfl) 22 (.tmp 7) (.tmp 22) (by rfl) wr.heap.size _ 16 (fun _ => .int .u8 0) (fun j => .int .u8 ((roundKey key k j).toNat : Int)) (by exact row_new wr _ _ 16 _ (by rfl) (zeros16 _ (by rfl))) (by rfl) _ (by rfl) (by kernel_rfl) (size_cellsOf _ _) (fun i hi => by rw [cellsOf_at _ _ _ hi, Nat.mul_comm, keysTo_at _ _ _ _ (by omega) hi]) (fun _ _ => rfl) ?_
           intro w5 hr5 ho5
           have hl5 : wr.heap.size < w5.heap.size := hr5.lt
           have hb5 : Below wr.heap.size wr w5 := ho5.below ((Below.refl _ _).alloc (Nat.le_refl _) _) (Nat.le_refl _)
           clear ho5)
        | (refine build_named (by rfl) 22 _ (by rfl) (cellsOf 16 fun _ => .int .u8 0) (by kernel_rfl) ?_)
        | (refine store_whole (by rfl) 22 (.tmp 8) (.tmp 23) (by rfl) w5.heap.size _ 16 (fun _ => .int .u8 0) (fun _ => .int .u8 0) (by exact row_new w5 _ _ 16 _ (by rfl) (zeros16 _ (by rfl))) (by rfl) _ (by rfl) (by kernel_rfl) (size_cellsOf _ _) (cellsOf_at _ _) (fun _ _ => rfl) ?_
           intro w6 hr6 ho6
           have hl6 : w5.heap.size < w6.heap.size := hr6.lt
           have hb56 : Below w5.heap.size w5 w6 := ho6.below ((Below.refl _ _).alloc (Nat.le_refl _) _) (Nat.le_refl _)
           have hr5' : RowB w6 wr.heap.size _ 16 (roundKey key k) := World.rowIs.of_block hr5 (hb56.block _ hl5)
           have hb6 : Below wr.heap.size wr w6 := hb5.trans (hb56.mono hb5.size)
           clear ho6 hb56))
      have hB2 : w.heap.size + 1 < wr.heap.size := HR.out.r2.lt
      have h6 : NowRel key (roundKey key k) (setTo (fun _ => 0) (preFirst (roundKey key k)) 0) (w.heap.size + 1) B3 B4 wr.heap.size w5.heap.size (k + 1) w w6 :=
        ⟨HR.out.r2.of_block (hb6.block _ hB2), World.rowIs.of_block HR.out.r3 (hb6.block _ (by omega)), World.rowIs.of_block HR.out.r4 (hb6.block _ hB4), hr5', World.rowIs.congr hr6 (fun _ _ => rfl), HR.out.hb.trans (hb6.mono HR.out.hb.size)⟩
      obtain ⟨B7, hB7⟩ : ∃ B7, B7 = wr.heap.size := ⟨_, rfl⟩
      obtain ⟨B8, hB8⟩ : ∃ B8, B8 = w5.heap.size := ⟨_, rfl⟩
      rw [← hB7] at h6 hl5 hB4 hB2 ⊢
      rw [← hB8] at h6 hl5 ⊢
      obtain ⟨was, hwas⟩ : ∃ was, was = roundKey key k := ⟨_, rfl⟩
      rw [← hwas] at h6
      have Hwas := Lib.hid hwas
      clear hr5 hr5' hr6 hb5 hb6 hl6 HR hr4 hB7 hB8 hwas
      go_loopw [9] (fun r wr' => ∃ i : Nat, i ≤ 4 ∧ r = .int .i64 (i : Int) ∧ NowRel key was (setTo (fun _ => 0) (preFirst was) i) (w.heap.size + 1) B3 B4 B7 B8 (k + 1) w wr') (fun r _ => 4 - (intOf r).toNat)
      case atStart => exact ⟨0, by omega, rfl, h6⟩
      case round =>
        clear h6
        obtain ⟨i, hi, rfl, h⟩ := hrel
        by_cases hi4 : i < 4
        · obtain ⟨m, hm⟩ : ∃ m, m = (i + 1) % 4 := ⟨_, rfl⟩
          have hm4 : m < 4 := by omega
          have c0 : wr.cell? ⟨B7, i, none⟩ = some (.int .u8 ((was i).toNat : Int)) := World.rowIs.cell h.r7 (by omega)
          have c1 : wr.cell? ⟨B7, 12 + m, none⟩ = some (.int .u8 ((was (12 + m)).toNat : Int)) := World.rowIs.cell h.r7 (by omega)
          have hby := (was (12 + m)).isLt
          have c2 : wr.cell? ⟨B3, (was (12 + m)).toNat, none⟩ = some (.int .u8 ((box (was (12 + m))).toNat : Int)) := World.rowIs.cell h.r3 hby
          have c3 : wr.cell? ⟨B8, i, none⟩ = some (.int .u8 ((0 : BitVec 8).toNat : Int)) := by
            rw [World.rowIs.cell h.r8 (show i < 16 by omega)]
            unfold setTo
            rw [if_neg (by omega)]
          have f3 : wr.frozen? ⟨B8, i, none⟩ = false := World.rowIs.frozen h.r8 i
          have hnx : Hid (∀ v : Int, v = ((preFirst was i).toNat : Int) → NowRel key was (setTo (fun _ => 0) (preFirst was) (i + 1)) (w.heap.size + 1) B3 B4 B7 B8 (k + 1) w (wr.setCell ⟨B8, i, none⟩ (.int .u8 v))) := fun v hv => h.set (setTo_next h.r8 v hv) (by omega) (by omega) (by omega) (by omega) (by omega)
          have e1 : ((i : Int) + 1).tmod 4 = (m : Int) := by rw [Int.tmod_eq_emod_of_nonneg (by omega)]; omega
          have e2 : ((i : Int) + 1) % 4 = (m : Int) := by omega
          have Hm := Lib.hid hm
          have q3 : (i : Int) < 4 := by omega
          have q4 : (0 : Int) ≤ (i : Int) := by omega
          have q5 : (i : Int) < 16 := by omega
          have q6 : (0 : Int) ≤ 12 + (m : Int) := by omega
          have q7 : 12 + (m : Int) < 16 := by omega
          have q8 : (12 + (m : Int)).toNat = 12 + m := by omega
          have q9 : (0 : Int) ≤ ((was (12 + m)).toNat : Int) := by omega
          have q10 : ((was (12 + m)).toNat : Int) < 256 := by omega
          have w1 : IntKind.i64.wrap ((i : Int) + 1) = (i : Int) + 1 := IntWalk.i64_in _ (by omega)
          have w2 : IntKind.i64.wrap (12 + (m : Int)) = 12 + (m : Int) := IntWalk.i64_in _ (by omega)
          clear hm h hby
          go_wp2
          refine region_tail 14 (by kernel_rfl) (by kernel_rfl) ?_
          simp only [List.take_succ_cons, List.take_zero, List.drop_succ_cons, List.drop_zero]
          repeat still_step
          refine wpStill_nil ?_
          go_wp2
          exact ⟨⟨i + 1, by omega, ival (by omega), (hnx.out _ (by rw [xor8, Hm.out]; rfl)).drew⟩, by simp [intOf]; omega⟩
        · have q3 : ¬ (i : Int) < 4 := by omega
          have hi4' : i = 4 := by omega
          rw [hi4'] at h
          clear hi4'
          have c0 : wr.cell? ⟨B8, 0, none⟩ = some (.int .u8 ((preFirst was 0).toNat : Int)) := World.rowIs.cell h.r8 (by omega)
          have f0 : wr.frozen? ⟨B8, 0, none⟩ = false := World.rowIs.frozen h.r8 0
          have hnx : Hid (∀ v : Int, v = ((preFirst was 0 ^^^ p).toNat : Int) → NowRel key was (setTo (fun _ => 0) (nextKey was p) 4) (w.heap.size + 1) B3 B4 B7 B8 (k + 1) w (wr.setCell ⟨B8, 0, none⟩ (.int .u8 v))) := fun v hv => h.set (first_power was p h.r8 v hv) (by omega) (by omega) (by omega) (by omega) (by omega)
          clear h
          go_wp2
          have h7 := hnx.out _ (xor8 (preFirst was 0) p)
          clear hnx c0 f0 q3 hi hi4
          generalize wr.setCell ⟨B8, 0, none⟩ (.int .u8 (bits .xor .u8 ((preFirst was 0).toNat : Int) (p.toNat : Int))) = w7 at *
          obtain ⟨I0, hI0⟩ : ∃ I0 : Int, I0 = (i : Int) := ⟨_, rfl⟩
          rw [← hI0]
          clear hI0
          go_loopw [10] (fun r wr' => ∃ j : Nat, 4 ≤ j ∧ j ≤ 16 ∧ r = .int .i64 (j : Int) ∧ NowRel key was (setTo (fun _ => 0) (nextKey was p) j) (w.heap.size + 1) B3 B4 B7 B8 (k + 1) w wr') (fun r _ => 16 - (intOf r).toNat)
          case atStart => exact ⟨4, by omega, by omega, rfl, h7⟩
          case round =>
            clear h7
            obtain ⟨j, hj4, hj, rfl, h⟩ := hrel
            by_cases hj16 : j < 16
            · have c0 : wr.cell? ⟨B7, j, none⟩ = some (.int .u8 ((was j).toNat : Int)) := World.rowIs.cell h.r7 hj16
              have c1 : wr.cell? ⟨B8, j - 4, none⟩ = some (.int .u8 ((nextKey was p (j - 4)).toNat : Int)) := by
                rw [World.rowIs.cell h.r8 (show j - 4 < 16 by omega)]
                unfold setTo
                rw [if_pos (by omega)]
              have c3 : wr.cell? ⟨B8, j, none⟩ = some (.int .u8 ((0 : BitVec 8).toNat : Int)) := by
                rw [World.rowIs.cell h.r8 hj16]
                unfold setTo
                rw [if_neg (by omega)]
              have f3 : wr.frozen? ⟨B8, j, none⟩ = false := World.rowIs.frozen h.r8 j
              have hnx : Hid (∀ v : Int, v = ((nextKey was p j).toNat : Int) → NowRel key was (setTo (fun _ => 0) (nextKey was p) (j + 1)) (w.heap.size + 1) B3 B4 B7 B8 (k + 1) w (wr.setCell ⟨B8, j, none⟩ (.int .u8 v))) := fun v hv => h.set (setTo_next h.r8 v hv) (by omega) (by omega) (by omega) (by omega) (by omega)
              have hst := Lib.hid (nextKey_step was p j hj4)
              have q3 : (j : Int) < 16 := by omega
              have q4 : (0 : Int) ≤ (j : Int) := by omega
              have q6 : (0 : Int) ≤ (j : Int) - 4 := by omega
              have q7 : (j : Int) - 4 < 16 := by omega
              have q8 : ((j : Int) - 4).toNat = j - 4 := by omega
              have q9 : (4 : Int) ≤ (j : Int) := by omega
              have w2 : IntKind.i64.wrap ((j : Int) - 4) = (j : Int) - 4 := IntWalk.i64_in _ (by omega)
              clear h
              go_wp2
              refine region_tail 10 (by kernel_rfl) (by kernel_rfl) ?_
              simp only [List.take_succ_cons, List.take_zero, List.drop_succ_cons, List.drop_zero]
              repeat still_step
              refine wpStill_nil ?_
              go_wp2
              exact ⟨⟨j + 1, by omega, by omega, ival (by omega), (hnx.out _ (by rw [xor8, hst.out])).drew⟩, by simp [intOf]; omega⟩
            · have q3 : ¬ (j : Int) < 16 := by omega
              have hr8 : wr.rowIs B8 22 16 (fun t => .int .u8 ((roundKey key (k + 1) t).toNat : Int)) := World.rowIs.congr h.r8 (fun t ht => by
                unfold setTo
                rw [if_pos (by omega), Hp.out, Hwas.out]
                rfl)
              have hr4 := h.r4
              have HR := Lib.hid h
              clear h
              have p0 : (0 : Int) ≤ (k : Int) + 1 := by omega
              have p1 : (k : Int) + 1 < 11 := by omega
              have p2 : ((k : Int) + 1).toNat = k + 1 := by omega
              have htm := Lib.hid (fun W => refTimes_any p 2 W)
              go_wp2_with (first
                | (refine load_whole (by rfl) 22 (.tmp 8) (by rfl) _ _ _ _ hr8 (by rfl) _ Tryd.underlying22 rfl (by kernel_rfl) ?_)
                | (refine store_row (by rfl) 22 (.tmp 63) (.tmp 62) (by rfl) B4 ((k + 1) * 16) _ 176 16 _ (fun j => .int .u8 ((roundKey key (k + 1) j).toNat : Int)) hr4 (by rfl) _ (by rfl) (by kernel_rfl) (by omega) (size_cellsOf _ _) (cellsOf_at _ _) (fun _ _ => rfl) ?_
                   intro w8 hr8' ho8)
                | (go_at_call 38
                   refine (htm.out _).mono ?_
                   rintro x w9 ⟨rfl, rfl⟩))
              have hpn : Hid (times p 2 = xpow 1 (k + 1)) := by show times p 2 = xtime (xpow 1 k); rw [times_two, Hp.out]
              have h9 : KeysRel key (w.heap.size + 1) B3 B4 (k + 1 + 1) w w9 := by
                refine ⟨ho8.row HR.out.r2 (by omega), ho8.row HR.out.r3 (by omega), World.rowIs.congr hr8' (fun t ht => ?_), ho8.below HR.out.hb (by omega)⟩
                rw [← keysTo_next key (k + 1) t (roundKey key (k + 1)) (fun _ _ => rfl), Nat.mul_comm (k + 1) 16]
                by_cases h1 : 16 * (k + 1) ≤ t ∧ t < 16 * (k + 1) + 16
                · rw [if_pos h1, if_pos h1]
                · rw [if_neg h1, if_neg h1]
              exact ⟨⟨k + 1, times p 2, by omega, rfl, ival (by omega), hpn.out, h9⟩, by simp [intOf]; omega⟩
    · have q0 : ¬ (k : Int) + 1 ≤ 10 := by omega
      have hk10 : k = 10 := by omega
      have hr4 : wr.rowIs B4 66 176 (fun t => .int .u8 ((keysTo key 11 t).toNat : Int)) := by
        have := h.r4
        rw [hk10] at this
        exact this
      have hr2 := h.r2
      have hb := h.hb
      clear h hk10
      go_wp2_with (first
        | (refine load_whole (by rfl) 66 (.tmp 4) (by rfl) _ _ _ _ hr4 (by rfl) _ Tryd.underlying66 rfl (by kernel_rfl) ?_)
        | (refine store_whole (by rfl) 66 (.tmp 2) (.tmp 66) (by rfl) (w.heap.size + 1) _ 176 _ _ hr2 (by rfl) _ (by rfl) (by kernel_rfl) (size_cellsOf _ _) (cellsOf_at _ _) (fun _ _ => rfl) ?_
           intro w6 hr6 ho6))
      exact bodyPost_ret (results_row rfl _ (w.heap.size + 1) _ _ _ _ (by rfl) hr6 Tryd.underlying66 rfl (by kernel_rfl)) rfl ⟨rfl, ho6.below hb (by omega)⟩
end Go.Proofs.YtfjoflpidmjkbaaDoor.Aes

namespace Go.Proofs.YtfjoflpidmjkbaaDoor.Aes
open Go Go.RowKit Go.Proofs.YtfjoflpidmjkbaaDoor.Aid

/-- What Encrypt holds throughout: the result's place, the S-box, the round keys, the block. -/
structure EncRows (key cur : Blk) (r b5 b6 b7 : Nat) (w wr : World) : Prop where
  r4 : wr.rowIs r 22 16 (fun _ => .int .u8 0)
  r5 : RowB wr b5 64 256 boxAt
  r6 : RowB wr b6 66 176 (keysTo key 11)
  r7 : RowB wr b7 22 16 cur
  hb : Below w.heap.size w wr
theorem EncRows.below {key cur : Blk} {r b5 b6 b7 : Nat} {w wr wr' : World} (h : EncRows key cur r b5 b6 b7 w wr) (hb : Below wr.heap.size wr wr') : EncRows key cur r b5 b6 b7 w wr' :=
  ⟨h.r4.of_block (hb.block _ h.r4.lt), World.rowIs.of_block h.r5 (hb.block _ (World.rowIs.lt h.r5)), World.rowIs.of_block h.r6 (hb.block _ (World.rowIs.lt h.r6)), World.rowIs.of_block h.r7 (hb.block _ (World.rowIs.lt h.r7)), h.hb.trans (hb.mono h.hb.size)⟩
theorem EncRows.set {key cur : Blk} {r b5 b6 b7 b i : Nat} {w wr : World} (v : Value) (h : EncRows key cur r b5 b6 b7 w wr) (h4 : r ≠ b) (h5 : b5 ≠ b) (h6 : b6 ≠ b) (h7 : b7 ≠ b) (hw : w.heap.size ≤ b) : EncRows key cur r b5 b6 b7 w (wr.setCell ⟨b, i, none⟩ v) :=
  ⟨World.rowIs.setOther (a := ⟨b, i, none⟩) h.r4 h4 _, World.rowIs.setOther (a := ⟨b, i, none⟩) h.r5 h5 _, World.rowIs.setOther (a := ⟨b, i, none⟩) h.r6 h6 _, World.rowIs.setOther (a := ⟨b, i, none⟩) h.r7 h7 _, h.hb.setCell (p := ⟨b, i, none⟩) hw _⟩
theorem EncRows.drew {key cur : Blk} {r b5 b6 b7 : Nat} {w wr : World} (h : EncRows key cur r b5 b6 b7 w wr) : EncRows key cur r b5 b6 b7 w wr.drew := ⟨h.r4, h.r5, h.r6, h.r7, h.hb.drew⟩

/-- Numbers as the walk meets them, for one of the three further rows. -/
theorem row_facts (i j n m : Nat) (N : Int) (hN : N = (n : Int)) (hi : i < 4) (hj : j < 4) (hn : n < 4) (hm : m = (j + n) % 4) :
    ((j : Int) + N).tmod 4 = (m : Int) ∧ ((j : Int) + N) % 4 = (m : Int) ∧ IntKind.i64.wrap ((j : Int) + N) = (j : Int) + N ∧ IntKind.i64.wrap (4 * (i : Int) + (m : Int)) = 4 * (i : Int) + (m : Int) ∧
    (0 : Int) ≤ 4 * (i : Int) + (m : Int) ∧ 4 * (i : Int) + (m : Int) < 16 ∧ (4 * (i : Int) + (m : Int)).toNat = 4 * i + m := by
  subst hN
  have h1 : ((j : Int) + (n : Int)) % 4 = (m : Int) := by omega
  refine ⟨by rw [Int.tmod_eq_emod_of_nonneg (by omega)]; exact h1, h1, IntWalk.i64_in _ (by omega), IntWalk.i64_in _ (by omega), by omega, by omega, by omega⟩
theorem row_first (i j : Nat) (hi : i < 4) (hj : j < 4) :
    IntKind.i64.wrap (4 * (i : Int)) = 4 * (i : Int) ∧ IntKind.i64.wrap (4 * (i : Int) + (j : Int)) = 4 * (i : Int) + (j : Int) ∧ (0 : Int) ≤ 4 * (i : Int) + (j : Int) ∧ 4 * (i : Int) + (j : Int) < 16 ∧ (4 * (i : Int) + (j : Int)).toNat = 4 * i + j :=
  ⟨IntWalk.i64_in _ (by omega), IntWalk.i64_in _ (by omega), by omega, by omega, by omega⟩

set_option maxRecDepth 100000 in
set_option maxHeartbeats 4000000 in
theorem refEncrypt_any (key block : Blk) (X Y : Array Value) (hX : X.size = 16) (hXi : ∀ i, i < 16 → X[i]? = some (.int .u8 ((key i).toNat : Int))) (hY : Y.size = 16) (hYi : ∀ i, i < 16 → Y[i]? = some (.int .u8 ((block i).toNat : Int))) (w : World) :
    Calls Tryd.prog 25 #[.agg X, .agg Y] w fun x w' => x = .returned (.agg (byteRow 16 (enc key block))) ∧ Below w.heap.size w w' := by
  have hr : ∀ (Z : Array Value), Z = Array.replicate 16 (.int .u8 0) → ∃ W, W = ((w.alloc (.cells X 22)).alloc (.cells Y 22)).alloc (.cells Z 22) ∧ RowB W w.heap.size 22 16 key ∧ RowB W (w.heap.size + 1) 22 16 block ∧ W.rowIs (w.heap.size + 2) 22 16 (fun _ => .int .u8 0) ∧ Below w.heap.size w W := fun Z hZ => by
    have s1 : (w.alloc (.cells X 22)).heap.size = w.heap.size + 1 := by simp
    have s2 : ((w.alloc (.cells X 22)).alloc (.cells Y 22)).heap.size = w.heap.size + 2 := by simp
    have r1 := ((row_new w X 22 16 (fun j => .int .u8 ((key j).toNat : Int)) hX hXi).alloc (.cells Y 22)).alloc (.cells Z 22)
    have r2 := (row_new (w.alloc (.cells X 22)) Y 22 16 (fun j => .int .u8 ((block j).toNat : Int)) hY hYi).alloc (.cells Z 22)
    have r3 := row_new ((w.alloc (.cells X 22)).alloc (.cells Y 22)) Z 22 16 _ (by rw [hZ]; simp) (zeros16 Z hZ)
    rw [s1] at r2
    rw [s2] at r3
    exact ⟨_, rfl, r1, r2, r3, (((Below.refl _ _).alloc (Nat.le_refl _) _).alloc (by simp) _).alloc (by rw [s2]; omega) _⟩
  have hrk : Hid (∀ i, i < 16 → keysTo key 11 i = roundKey key 0 i) := fun i hi => by have := keysTo_at key 11 0 i (by omega) hi; rw [Nat.mul_zero, Nat.zero_add] at this; exact this
  obtain ⟨hz1, _⟩ := zero_of_info (keys_zero _ rfl)
  obtain ⟨hz2, _⟩ := zero_of_info (boxes_zero _ rfl)
  clear hXi hYi
  go_enter Tryd.func25, Tryd.ntmps25
  go_wp2_with fail
  obtain ⟨W, hW, hk0, hb0, hz0, hl0⟩ := hr _ rfl
  change Calls Tryd.prog 35 _ (((w.alloc (.cells X 22)).alloc (.cells Y 22)).alloc (.cells (Array.replicate 16 (.int .u8 0)) 22)) _
  rw [← hW]
  clear hW hr
  refine (refBoxes_any W).mono ?_
  rintro x w1 ⟨rfl, hb1⟩
  have hk1 : RowB w1 w.heap.size _ 16 key := World.rowIs.of_block hk0 (hb1.block _ (World.rowIs.lt hk0))
  have hp1 : RowB w1 (w.heap.size + 1) _ 16 block := World.rowIs.of_block hb0 (hb1.block _ (World.rowIs.lt hb0))
  have hz1' := hz0.of_block (hb1.block _ hz0.lt)
  have hl1 := hl0.trans (hb1.mono hl0.size)
  have hs1 : w.heap.size + 2 < w1.heap.size := hz1'.lt
  clear hk0 hb0 hz0 hl0 hb1
  go_wp2_with (first
    | (refine store_whole (by rfl) 64 (.tmp 5) (.tmp 15) (by rfl) w1.heap.size _ 256 (fun _ => .int .u8 0) (fun j => .int .u8 ((boxAt j).toNat : Int)) (by exact row_new w1 _ _ 256 _ (size_cellsOf _ _) (cellsOf_at _ _)) (by rfl) _ (by rfl) (by kernel_rfl) (size_cellsOf _ _) (cellsOf_at _ _) (fun _ _ => rfl) ?_
       intro w2 hr2 ho2
       have hk2 : RowB w2 w.heap.size _ 16 key := ho2.row (World.rowIs.alloc hk1 _) (by omega)
       have hp2 : RowB w2 (w.heap.size + 1) _ 16 block := ho2.row (World.rowIs.alloc hp1 _) (by omega)
       have hz2' := ho2.row (hz1'.alloc _) (by omega)
       have hl2 := ho2.below (hl1.alloc hl1.size _) hl1.size
       have hs2 : w1.heap.size < w2.heap.size := hr2.lt
       clear hk1 hp1 hz1' hl1 ho2)
    | (refine load_whole (by rfl) 22 (.tmp 2) (by rfl) _ _ _ _ hk2 (by rfl) _ Tryd.underlying22 rfl (by kernel_rfl) ?_)
    | (go_at_call 36
       refine (refKeys_any key _ (size_cellsOf _ _) (cellsOf_at _ _) w2).mono ?_
       rintro x w3 ⟨rfl, hb3⟩
       have hp3 : RowB w3 (w.heap.size + 1) _ 16 block := World.rowIs.of_block hp2 (hb3.block _ (World.rowIs.lt hp2))
       have hz3 := hz2'.of_block (hb3.block _ hz2'.lt)
       have hr3 : RowB w3 w1.heap.size _ 256 boxAt := World.rowIs.of_block hr2 (hb3.block _ hs2)
       have hl3 := hl2.trans (hb3.mono hl2.size)
       have hs3 := hb3.size
       clear hk2 hp2 hz2' hl2 hb3 hr2)
    | (refine store_whole (by rfl) 66 (.tmp 6) (.tmp 17) (by rfl) w3.heap.size _ 176 (fun _ => .int .u8 0) (fun t => .int .u8 ((keysTo key 11 t).toNat : Int)) (by exact row_new w3 _ _ 176 _ (size_cellsOf _ _) (cellsOf_at _ _)) (by rfl) _ (by rfl) (by kernel_rfl) (size_cellsOf _ _) (cellsOf_at _ _) (fun _ _ => rfl) ?_
       intro w4 hr4 ho4
       have hp4 : RowB w4 (w.heap.size + 1) _ 16 block := ho4.row (World.rowIs.alloc hp3 _) (by omega)
       have hz4 := ho4.row (hz3.alloc _) (by omega)
       have hx4 : RowB w4 w1.heap.size _ 256 boxAt := ho4.row (World.rowIs.alloc hr3 _) (by omega)
       have hl4 := ho4.below (hl3.alloc hl3.size _) hl3.size
       have hs4 : w3.heap.size < w4.heap.size := hr4.lt
       clear hp3 hz3 hr3 hl3 ho4)
    | (refine load_whole (by rfl) 22 (.tmp 3) (by rfl) _ _ _ _ hp4 (by rfl) _ Tryd.underlying22 rfl (by kernel_rfl) ?_)
    | (refine load_row (by rfl) 22 (.tmp 19) (by rfl) w3.heap.size 0 _ 176 16 _ hr4 (by rfl) _ Tryd.underlying22 rfl (by kernel_rfl) (by omega) ?_)
    | (go_at_call 37
       refine (refXored_any block (roundKey key 0) _ _ (size_cellsOf _ _) (cellsOf_at _ _) (size_cellsOf _ _) (fun i hi => (cellsOf_at _ _ _ hi).trans (by rw [← hrk.out i hi])) w4).mono ?_
       rintro x w5 ⟨rfl, hb5⟩
       have hz5 := hz4.of_block (hb5.block _ hz4.lt)
       have hx5 : RowB w5 w1.heap.size _ 256 boxAt := World.rowIs.of_block hx4 (hb5.block _ (World.rowIs.lt hx4))
       have hk5 : RowB w5 w3.heap.size _ 176 (keysTo key 11) := World.rowIs.of_block hr4 (hb5.block _ hs4)
       have hl5 := hl4.trans (hb5.mono hl4.size)
       have hs5 := hb5.size
       clear hp4 hz4 hx4 hl4 hb5 hr4)
    | (refine store_whole (by rfl) 22 (.tmp 7) (.tmp 21) (by rfl) w5.heap.size _ 16 (fun _ => .int .u8 0) (fun t => .int .u8 ((addKey block (roundKey key 0) t).toNat : Int)) (by exact row_new w5 _ _ 16 _ (by rfl) (zeros16 _ (by rfl))) (by rfl) _ (by rfl) (by kernel_rfl) (size_cellsOf _ _) (cellsOf_at _ _) (fun _ _ => rfl) ?_
       intro w6 hr6 ho6))
  have h6 : EncRows key (encTo key block 0) (w.heap.size + 2) w1.heap.size w3.heap.size w5.heap.size w w6 :=
    ⟨ho6.row (hz5.alloc _) (by omega), ho6.row (World.rowIs.alloc hx5 _) (by omega), ho6.row (World.rowIs.alloc hk5 _) (by omega), hr6, ho6.below (hl5.alloc hl5.size _) hl5.size⟩
  obtain ⟨B5, hB5⟩ : ∃ B, B = w1.heap.size := ⟨_, rfl⟩
  obtain ⟨B6, hB6⟩ : ∃ B, B = w3.heap.size := ⟨_, rfl⟩
  obtain ⟨B7, hB7⟩ : ∃ B, B = w5.heap.size := ⟨_, rfl⟩
  rw [← hB5] at h6 hs1 hs2 ⊢
  rw [← hB6] at h6 hs3 hs4 ⊢
  rw [← hB7] at h6 hs5 ⊢
  clear hr6 ho6 hz5 hx5 hk5 hl5 hB5 hB6 hB7 hz1 hz2
  go_loopw [8, 9, 10, 11, 12, 13, 14] (fun n _ _ _ _ _ _ wr => ∃ k : Nat, k ≤ 10 ∧ n = .int .i64 ((k : Int) + 1) ∧ EncRows key (encTo key block k) (w.heap.size + 2) B5 B6 B7 w wr) (fun n _ _ _ _ _ _ _ => 12 - (intOf n).toNat)
  case atStart => exact ⟨0, by omega, rfl, h6⟩
  case round =>
    clear h6
    obtain ⟨k, hk, rfl, h⟩ := hrel
    by_cases hlt : k < 10
    · have q0 : (k : Int) + 1 ≤ 10 := by omega
      obtain ⟨cur, hcur⟩ : ∃ cur, cur = encTo key block k := ⟨_, rfl⟩
      rw [← hcur] at h
      have Hcur := Lib.hid hcur
      clear hcur
      go_wp2_with (first
        | (refine build_named (by rfl) 22 _ (by rfl) (cellsOf 16 fun _ => .int .u8 0) (by kernel_rfl) ?_)
        | (refine store_whole (by rfl) 22 (.tmp 9) (.tmp 26) (by rfl) wr.heap.size _ 16 (fun _ => .int .u8 0) (fun _ => .int .u8 0) (by exact row_new wr _ _ 16 _ (by rfl) (zeros16 _ (by rfl))) (by rfl) _ (by rfl) (by kernel_rfl) (size_cellsOf _ _) (cellsOf_at _ _) (fun _ _ => rfl) ?_
           intro w7 hr7 ho7))
      have hb7 : Below wr.heap.size wr w7 := ho7.below ((Below.refl _ _).alloc (Nat.le_refl _) _) (Nat.le_refl _)
      have h7 := h.below hb7
      have t7 : RowB w7 wr.heap.size 22 16 (setTo (fun _ => 0) (subShift cur) 0) := World.rowIs.congr hr7 (fun _ _ => rfl)
      have hB7 : B7 < wr.heap.size := World.rowIs.lt h.r7
      obtain ⟨B9, hB9⟩ : ∃ B, B = wr.heap.size := ⟨_, rfl⟩
      rw [← hB9] at t7 hB7 ⊢
      clear h hr7 ho7 hb7 hB9
      go_loopw [10, 11] (fun c _ wr' => ∃ i : Nat, i ≤ 4 ∧ c = .int .i64 (i : Int) ∧ EncRows key cur (w.heap.size + 2) B5 B6 B7 w wr' ∧ RowB wr' B9 22 16 (setTo (fun _ => 0) (subShift cur) (4 * i))) (fun c _ _ => 4 - (intOf c).toNat)
      case atStart => exact ⟨0, by omega, rfl, h7, t7⟩
      case round =>
        clear h7 t7
        obtain ⟨i, hi, rfl, h, t⟩ := hrel
        by_cases hi4 : i < 4
        · have q1 : (i : Int) < 4 := by omega
          go_wp2
          go_loopw [11] (fun r wr' => ∃ j : Nat, j ≤ 4 ∧ r = .int .i64 (j : Int) ∧ EncRows key cur (w.heap.size + 2) B5 B6 B7 w wr' ∧ RowB wr' B9 22 16 (setTo (fun _ => 0) (subShift cur) (4 * i + j))) (fun r _ => 4 - (intOf r).toNat)
          case atStart => exact ⟨0, by omega, rfl, h, t⟩
          case round =>
            clear h t
            obtain ⟨j, hj, rfl, h, t⟩ := hrel
            by_cases hj4 : j < 4
            · obtain ⟨m, hm⟩ : ∃ m, m = (i + j) % 4 := ⟨_, rfl⟩
              have hm4 : m < 4 := by omega
              have c0 : wr.cell? ⟨B7, 4 * m + j, none⟩ = some (.int .u8 ((cur (4 * m + j)).toNat : Int)) := World.rowIs.cell h.r7 (by omega)
              have hby := (cur (4 * m + j)).isLt
              have c1 : wr.cell? ⟨B5, (cur (4 * m + j)).toNat, none⟩ = some (.int .u8 ((box (cur (4 * m + j))).toNat : Int)) := World.rowIs.cell h.r5 hby
              have c2 : wr.cell? ⟨B9, 4 * i + j, none⟩ = some (.int .u8 ((0 : BitVec 8).toNat : Int)) := by
                rw [World.rowIs.cell t (show 4 * i + j < 16 by omega)]
                unfold setTo
                rw [if_neg (by omega)]
              have f2 : wr.frozen? ⟨B9, 4 * i + j, none⟩ = false := World.rowIs.frozen t _
              have hsub : subShift cur (4 * i + j) = box (cur (4 * m + j)) := by
                unfold subShift
                rw [show (4 * i + j) / 4 = i by omega, show (4 * i + j) % 4 = j by omega, ← hm]
              have hnx : Hid (EncRows key cur (w.heap.size + 2) B5 B6 B7 w (wr.setCell ⟨B9, 4 * i + j, none⟩ (.int .u8 ((box (cur (4 * m + j))).toNat : Int))) ∧ RowB (wr.setCell ⟨B9, 4 * i + j, none⟩ (.int .u8 ((box (cur (4 * m + j))).toNat : Int))) B9 22 16 (setTo (fun _ => 0) (subShift cur) (4 * i + (j + 1)))) :=
                ⟨h.set _ (by omega) (by omega) (by omega) (by omega) (by omega), setTo_next t _ (by rw [hsub])⟩
              have e1 : ((i : Int) + (j : Int)).tmod 4 = (m : Int) := by rw [Int.tmod_eq_emod_of_nonneg (by omega)]; omega
              have e2 : ((i : Int) + (j : Int)) % 4 = (m : Int) := by omega
              have q2 : (j : Int) < 4 := by omega
              have q3 : (0 : Int) ≤ 4 * (i : Int) + (j : Int) := by omega
              have q4 : 4 * (i : Int) + (j : Int) < 16 := by omega
              have q5 : (4 * (i : Int) + (j : Int)).toNat = 4 * i + j := by omega
              have q6 : (0 : Int) ≤ 4 * (m : Int) + (j : Int) := by omega
              have q7 : 4 * (m : Int) + (j : Int) < 16 := by omega
              have q8 : (4 * (m : Int) + (j : Int)).toNat = 4 * m + j := by omega
              have q9 : (0 : Int) ≤ ((cur (4 * m + j)).toNat : Int) := by omega
              have q10 : ((cur (4 * m + j)).toNat : Int) < 256 := by omega
              have Hm := Lib.hid hm
              have Hsub := Lib.hid hsub
              clear hm hsub h t hby
              go_wp2
              exact ⟨⟨j + 1, by omega, ival (by omega), hnx.out.1, hnx.out.2⟩, by simp [intOf]; omega⟩
            · have hj4' : j = 4 := by omega
              have q2 : ¬ (j : Int) < 4 := by omega
              rw [hj4'] at t
              clear hj4'
              have HR := Lib.hid (And.intro h t)
              clear h t
              go_wp2
              exact ⟨⟨i + 1, by omega, ival (by omega), HR.out.1, HR.out.2⟩, by simp [intOf]; omega⟩
        · have hi4' : i = 4 := by omega
          have q1 : ¬ (i : Int) < 4 := by omega
          obtain ⟨sub, hsub⟩ : ∃ sub, sub = subShift cur := ⟨_, rfl⟩
          have t9 : wr.rowIs B9 22 16 (fun x => .int .u8 ((sub x).toNat : Int)) := by
            rw [hi4'] at t
            refine World.rowIs.congr t (fun x hx => ?_)
            unfold setTo
            rw [if_pos (by omega), hsub]
          have Hsub := Lib.hid hsub
          clear t hi4' hsub
          have hB9 : B9 < wr.heap.size := t9.lt
          go_wp2_with (first
            | (refine load_whole (by rfl) 22 (.tmp 9) (by rfl) _ _ _ _ t9 (by rfl) _ Tryd.underlying22 rfl (by kernel_rfl) ?_)
            | (refine store_whole (by rfl) 22 (.tmp 12) (.tmp 51) (by rfl) wr.heap.size _ 16 (fun _ => .int .u8 0) (fun x => .int .u8 ((sub x).toNat : Int)) (by exact row_new wr _ _ 16 _ (by rfl) (zeros16 _ (by rfl))) (by rfl) _ (by rfl) (by kernel_rfl) (size_cellsOf _ _) (cellsOf_at _ _) (fun _ _ => rfl) ?_
               intro w8 hr8 ho8))
          have hb8 : Below wr.heap.size wr w8 := ho8.below ((Below.refl _ _).alloc (Nat.le_refl _) _) (Nat.le_refl _)
          have h8 := h.below hb8
          have t8 : RowB w8 B9 22 16 sub := t9.of_block (hb8.block _ hB9)
          have m8 : RowB w8 wr.heap.size 22 16 (setTo sub (mixCols sub) (4 * 0)) := World.rowIs.congr hr8 (fun _ _ => rfl)
          obtain ⟨B12, hB12⟩ : ∃ B, B = wr.heap.size := ⟨_, rfl⟩
          rw [← hB12] at m8 hB9 ⊢
          obtain ⟨I0, hI0⟩ : ∃ I0 : Int, I0 = (i : Int) := ⟨_, rfl⟩
          clear h t9 hr8 ho8 hb8 hB12 hi4 hi
          go_loopw [13, 14] (fun c _ wr' => ∃ i : Nat, i ≤ 4 ∧ c = .int .i64 (i : Int) ∧ (¬ k + 1 < 10 → i = 0) ∧ EncRows key cur (w.heap.size + 2) B5 B6 B7 w wr' ∧ RowB wr' B9 22 16 sub ∧ RowB wr' B12 22 16 (setTo sub (mixCols sub) (4 * i))) (fun c _ _ => 4 - (intOf c).toNat)
          case atStart => exact ⟨0, by omega, rfl, fun _ => rfl, h8, t8, m8⟩
          case round =>
            clear h8 t8 m8
            obtain ⟨i, hi, rfl, hik, h, t, mm⟩ := hrel
            by_cases hgo : i < 4 ∧ k + 1 < 10
            · obtain ⟨hi4, hk9⟩ := hgo
              have q1 : (i : Int) < 4 := by omega
              have q2 : (k : Int) + 1 < 10 := by omega
              have Hik := Lib.hid hik
              clear hik
              go_wp2
              go_loopw [14] (fun r wr' => ∃ j : Nat, j ≤ 4 ∧ r = .int .i64 (j : Int) ∧ EncRows key cur (w.heap.size + 2) B5 B6 B7 w wr' ∧ RowB wr' B9 22 16 sub ∧ RowB wr' B12 22 16 (setTo sub (mixCols sub) (4 * i + j))) (fun r _ => 4 - (intOf r).toNat)
              case atStart => exact ⟨0, by omega, rfl, h, t, mm⟩
              case round =>
                clear h t mm
                obtain ⟨j, hj, rfl, h, t, mm⟩ := hrel
                by_cases hj4 : j < 4
                · obtain ⟨m1, hm1⟩ : ∃ m, m = (j + 1) % 4 := ⟨_, rfl⟩
                  obtain ⟨m2, hm2⟩ : ∃ m, m = (j + 2) % 4 := ⟨_, rfl⟩
                  obtain ⟨m3, hm3⟩ : ∃ m, m = (j + 3) % 4 := ⟨_, rfl⟩
                  have hl1 : m1 < 4 := by omega
                  have hl2 : m2 < 4 := by omega
                  have hl3 : m3 < 4 := by omega
                  have c0 : wr.cell? ⟨B9, 4 * i + j, none⟩ = some (.int .u8 ((sub (4 * i + j)).toNat : Int)) := World.rowIs.cell t (by omega)
                  have c1 : wr.cell? ⟨B9, 4 * i + m1, none⟩ = some (.int .u8 ((sub (4 * i + m1)).toNat : Int)) := World.rowIs.cell t (by omega)
                  have c2 : wr.cell? ⟨B9, 4 * i + m2, none⟩ = some (.int .u8 ((sub (4 * i + m2)).toNat : Int)) := World.rowIs.cell t (by omega)
                  have c3 : wr.cell? ⟨B9, 4 * i + m3, none⟩ = some (.int .u8 ((sub (4 * i + m3)).toNat : Int)) := World.rowIs.cell t (by omega)
                  have c4 : wr.cell? ⟨B12, 4 * i + j, none⟩ = some (.int .u8 ((sub (4 * i + j)).toNat : Int)) := by
                    rw [World.rowIs.cell mm (show 4 * i + j < 16 by omega)]
                    unfold setTo
                    rw [if_neg (by omega)]
                  have f4 : wr.frozen? ⟨B12, 4 * i + j, none⟩ = false := World.rowIs.frozen mm _
                  have hmix : Hid (mixCols sub (4 * i + j) = times 2 (sub (4 * i + j)) ^^^ times 3 (sub (4 * i + m1)) ^^^ sub (4 * i + m2) ^^^ sub (4 * i + m3)) := by
                    show mixCols sub (4 * i + j) = _
                    unfold mixCols
                    rw [show (4 * i + j) / 4 = i by omega, show (4 * i + j) % 4 = j by omega, ← hm1, ← hm2, ← hm3]
                  have hnx : Hid (∀ v : Int, v = ((mixCols sub (4 * i + j)).toNat : Int) → EncRows key cur (w.heap.size + 2) B5 B6 B7 w (wr.setCell ⟨B12, 4 * i + j, none⟩ (.int .u8 v)) ∧ RowB (wr.setCell ⟨B12, 4 * i + j, none⟩ (.int .u8 v)) B9 22 16 sub ∧ RowB (wr.setCell ⟨B12, 4 * i + j, none⟩ (.int .u8 v)) B12 22 16 (setTo sub (mixCols sub) (4 * i + (j + 1)))) := fun v hv =>
                    ⟨h.set _ (by omega) (by omega) (by omega) (by omega) (by omega), World.rowIs.setOther (a := ⟨B12, 4 * i + j, none⟩) t (show B9 ≠ B12 by omega) _, setTo_next mm v hv⟩
                  have q3 : (j : Int) < 4 := by omega
                  obtain ⟨e1, e1', v1, w1, a1, b1, n1⟩ := row_facts i j 1 m1 1 rfl hi4 hj4 (by decide) hm1
                  obtain ⟨e2, e2', v2, w2, a2, b2, n2⟩ := row_facts i j 2 m2 2 rfl hi4 hj4 (by decide) hm2
                  obtain ⟨e3, e3', v3, w3, a3, b3, n3⟩ := row_facts i j 3 m3 3 rfl hi4 hj4 (by decide) hm3
                  obtain ⟨u0, u1, u2, u3, u4⟩ := row_first i j hi4 hj4
                  have ht2 : ∀ (x : BitVec 8) (W : World), Calls Tryd.prog 38 #[.int .u8 2, .int .u8 (x.toNat : Int)] W fun y w' => y = .returned (.int .u8 ((times 2 x).toNat : Int)) ∧ w' = W := fun x W => refTimes_any 2 x W
                  have ht3 : ∀ (x : BitVec 8) (W : World), Calls Tryd.prog 38 #[.int .u8 3, .int .u8 (x.toNat : Int)] W fun y w' => y = .returned (.int .u8 ((times 3 x).toNat : Int)) ∧ w' = W := fun x W => refTimes_any 3 x W
                  have Ht2 := Lib.hid ht2
                  have Ht3 := Lib.hid ht3
                  clear hm1 hm2 hm3 h t mm ht2 ht3
                  go_wp2
                  refine region_tail 40 (by kernel_rfl) (by kernel_rfl) ?_
                  simp only [List.take_succ_cons, List.take_zero, List.drop_succ_cons, List.drop_zero]
                  iterate 10 still_step
                  still_call (Ht2.out _ _)
                  iterate 8 still_step
                  still_call (Ht3.out _ _)
                  repeat still_step
                  refine wpStill_nil ?_
                  clear e1 e1' v1 w1 a1 b1 n1 e2 e2' v2 w2 a2 b2 n2 e3 e3' v3 w3 a3 b3 n3 u0 u1 u2 u3 u4 Ht2 Ht3 c0 c1 c2 c3
                  go_wp2
                  have hmv : bits .xor .u8 (bits .xor .u8 (bits .xor .u8 ((times 2 (sub (4 * i + j))).toNat : Int) ((times 3 (sub (4 * i + m1))).toNat : Int)) ((sub (4 * i + m2)).toNat : Int)) ((sub (4 * i + m3)).toNat : Int) = ((mixCols sub (4 * i + j)).toNat : Int) := by
                    rw [xor8, xor8, xor8]; exact congrArg (fun z : BitVec 8 => (z.toNat : Int)) hmix.out.symm
                  have hn := hnx.out _ hmv
                  exact ⟨⟨j + 1, by omega, ival (by omega), hn.1.drew, hn.2.1, hn.2.2⟩, by simp [intOf]; omega⟩
                · have hj4' : j = 4 := by omega
                  have q3 : ¬ (j : Int) < 4 := by omega
                  rw [hj4'] at mm
                  clear hj4'
                  have HR := Lib.hid (And.intro h (And.intro t mm))
                  clear h t mm
                  go_wp2
                  exact ⟨⟨i + 1, by omega, ival (by omega), fun hx => absurd hk9 hx, HR.out.1, HR.out.2.1, HR.out.2.2⟩, by simp [intOf]; omega⟩
            · obtain ⟨fin, hfin⟩ : ∃ fin, fin = (if k + 1 < 10 then mixCols sub else sub) := ⟨_, rfl⟩
              have Hfin := Lib.hid hfin
              by_cases hi4 : i < 4
              · have hk9 : ¬ k + 1 < 10 := fun hx => hgo ⟨hi4, hx⟩
                have q1 : (i : Int) < 4 := by omega
                have q2 : ¬ (k : Int) + 1 < 10 := by omega
                have m12 : wr.rowIs B12 22 16 (fun x => .int .u8 ((fin x).toNat : Int)) := World.rowIs.congr mm (fun x hx => by rw [hik hk9]; unfold setTo; rw [if_neg (by omega), hfin, if_neg hk9])
                clear hfin
                have hr6 := h.r6
                have hr7 := h.r7
                have p0 : (0 : Int) ≤ (k : Int) + 1 := by omega
                have p1 : (k : Int) + 1 < 11 := by omega
                have p2 : ((k : Int) + 1).toNat = k + 1 := by omega
                have HR := Lib.hid h
                clear h mm t hik
                go_wp2
                refine region_tail 4 (by kernel_rfl) (by kernel_rfl) ?_
                simp only [List.take_succ_cons, List.take_zero, List.drop_succ_cons, List.drop_zero]
                have m12' : wr.drew.rowIs B12 _ 16 _ := m12
                have hr6' : wr.drew.rowIs B6 _ 176 _ := hr6
                repeat (first
                  | (refine still_row (by rfl) 22 (.tmp 12) (by rfl) B12 0 _ 16 16 _ m12' (by rfl) _ Tryd.underlying22 rfl (by kernel_rfl) (by omega) ?_)
                  | (refine still_row (by rfl) 22 (.tmp 106) (by rfl) B6 ((k + 1) * 16) _ 176 16 _ hr6' (by rfl) _ Tryd.underlying22 rfl (by kernel_rfl) (by omega) ?_)
                  | still_step)
                refine wpStill_nil ?_
                go_wp2_with fail
                refine (refXored_any fin (roundKey key (k + 1)) _ _ (size_cellsOf _ _) (cellsOf_at _ _) (size_cellsOf _ _) (fun x hx => (cellsOf_at _ _ _ hx).trans (by rw [Nat.mul_comm, keysTo_at _ _ _ _ (by omega) hx])) wr.drew).mono ?_
                rintro x w9 ⟨rfl, hb9⟩
                have h9 := HR.out.drew.below hb9
                have hr9 := h9.r7
                have H9 := Lib.hid h9
                clear h9 HR m12 m12' hr6 hr6' hr7
                go_wp2_with (refine store_whole (by rfl) 22 (.tmp 7) (.tmp 108) (by rfl) B7 _ 16 _ (fun x => .int .u8 ((addKey fin (roundKey key (k + 1)) x).toNat : Int)) hr9 (by rfl) _ (by rfl) (by kernel_rfl) (size_cellsOf _ _) (cellsOf_at _ _) (fun _ _ => rfl) ?_
                             intro w10 hr10 ho10)
                have h10 : EncRows key (encTo key block (k + 1)) (w.heap.size + 2) B5 B6 B7 w w10 := by
                  refine ⟨ho10.row H9.out.r4 (by omega), ho10.row H9.out.r5 (by omega), ho10.row H9.out.r6 (by omega), ?_, ho10.below H9.out.hb (by omega)⟩
                  have he : encTo key block (k + 1) = addKey fin (roundKey key (k + 1)) := by
                    show addKey (if k + 1 < 10 then mixCols (subShift (encTo key block k)) else subShift (encTo key block k)) _ = _
                    rw [Hfin.out, Hsub.out, Hcur.out]
                  rw [he]
                  exact hr10
                exact ⟨⟨k + 1, by omega, ival (by omega), h10⟩, by simp [intOf]; omega⟩
              · have hk9 : k + 1 < 10 := Decidable.byContradiction (fun hx => by have := hik hx; omega)
                have q1 : ¬ (i : Int) < 4 := by omega
                have m12 : wr.rowIs B12 22 16 (fun x => .int .u8 ((fin x).toNat : Int)) := World.rowIs.congr mm (fun x hx => by unfold setTo; rw [if_pos (by omega), hfin, if_pos hk9])
                clear hfin
                have hr6 := h.r6
                have hr7 := h.r7
                have p0 : (0 : Int) ≤ (k : Int) + 1 := by omega
                have p1 : (k : Int) + 1 < 11 := by omega
                have p2 : ((k : Int) + 1).toNat = k + 1 := by omega
                have HR := Lib.hid h
                clear h mm t hik
                go_wp2
                refine region_tail 4 (by kernel_rfl) (by kernel_rfl) ?_
                simp only [List.take_succ_cons, List.take_zero, List.drop_succ_cons, List.drop_zero]
                have m12' : wr.drew.rowIs B12 _ 16 _ := m12
                have hr6' : wr.drew.rowIs B6 _ 176 _ := hr6
                repeat (first
                  | (refine still_row (by rfl) 22 (.tmp 12) (by rfl) B12 0 _ 16 16 _ m12' (by rfl) _ Tryd.underlying22 rfl (by kernel_rfl) (by omega) ?_)
                  | (refine still_row (by rfl) 22 (.tmp 106) (by rfl) B6 ((k + 1) * 16) _ 176 16 _ hr6' (by rfl) _ Tryd.underlying22 rfl (by kernel_rfl) (by omega) ?_)
                  | still_step)
                refine wpStill_nil ?_
                go_wp2_with fail
                refine (refXored_any fin (roundKey key (k + 1)) _ _ (size_cellsOf _ _) (cellsOf_at _ _) (size_cellsOf _ _) (fun x hx => (cellsOf_at _ _ _ hx).trans (by rw [Nat.mul_comm, keysTo_at _ _ _ _ (by omega) hx])) wr.drew).mono ?_
                rintro x w9 ⟨rfl, hb9⟩
                have h9 := HR.out.drew.below hb9
                have hr9 := h9.r7
                have H9 := Lib.hid h9
                clear h9 HR m12 m12' hr6 hr6' hr7
                go_wp2_with (refine store_whole (by rfl) 22 (.tmp 7) (.tmp 108) (by rfl) B7 _ 16 _ (fun x => .int .u8 ((addKey fin (roundKey key (k + 1)) x).toNat : Int)) hr9 (by rfl) _ (by rfl) (by kernel_rfl) (size_cellsOf _ _) (cellsOf_at _ _) (fun _ _ => rfl) ?_
                             intro w10 hr10 ho10)
                have h10 : EncRows key (encTo key block (k + 1)) (w.heap.size + 2) B5 B6 B7 w w10 := by
                  refine ⟨ho10.row H9.out.r4 (by omega), ho10.row H9.out.r5 (by omega), ho10.row H9.out.r6 (by omega), ?_, ho10.below H9.out.hb (by omega)⟩
                  have he : encTo key block (k + 1) = addKey fin (roundKey key (k + 1)) := by
                    show addKey (if k + 1 < 10 then mixCols (subShift (encTo key block k)) else subShift (encTo key block k)) _ = _
                    rw [Hfin.out, Hsub.out, Hcur.out]
                  rw [he]
                  exact hr10
                exact ⟨⟨k + 1, by omega, ival (by omega), h10⟩, by simp [intOf]; omega⟩
    · have q0 : ¬ (k : Int) + 1 ≤ 10 := by omega
      have hk10 : k = 10 := by omega
      have hr7 : wr.rowIs B7 22 16 (fun x => .int .u8 ((enc key block x).toNat : Int)) := by
        have := h.r7
        rw [hk10] at this
        exact this
      have hr4 := h.r4
      have hb := h.hb
      clear h hk10
      go_wp2_with (first
        | (refine load_whole (by rfl) 22 (.tmp 7) (by rfl) _ _ _ _ hr7 (by rfl) _ Tryd.underlying22 rfl (by kernel_rfl) ?_)
        | (refine store_whole (by rfl) 22 (.tmp 4) (.tmp 109) (by rfl) (w.heap.size + 2) _ 16 _ _ hr4 (by rfl) _ (by rfl) (by kernel_rfl) (size_cellsOf _ _) (cellsOf_at _ _) (fun _ _ => rfl) ?_
           intro w6 hr6 ho6))
      exact bodyPost_ret (results_row rfl _ (w.heap.size + 2) _ _ _ _ (by rfl) hr6 Tryd.underlying22 rfl (by kernel_rfl)) rfl ⟨rfl, ho6.below hb (by omega)⟩
end Go.Proofs.YtfjoflpidmjkbaaDoor.Aes
