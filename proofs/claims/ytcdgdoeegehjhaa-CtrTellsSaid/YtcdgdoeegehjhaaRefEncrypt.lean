/-
  What bartizanref03.Encrypt does: the document's own encryption of a block.
-/
import Derived.Test.YtcdgdoeegehjhaaRefKeys
import Derived.Test.YtcdgdoeegehjhaaFirst
namespace Go.Proofs.Ytcdgdoeegehjhaa.Aes
open Go Go.RowKit Go.Proofs.Ytcdgdoeegehjhaa.Aid

/-- What Encrypt holds throughout: the result's place, the S-box, the round keys, the block. -/
structure EncRows (key cur : Blk) (r b5 b6 b7 : Nat) (w wr : World) : Prop where
  r4 : wr.rowIs r 22 16 (fun _ => .int .u8 0)
  r5 : RowB wr b5 38 256 boxAt
  r6 : RowB wr b6 40 176 (keysTo key 11)
  r7 : RowB wr b7 22 16 cur
  hb : Below w.heap.size w wr
theorem EncRows.below {key cur : Blk} {r b5 b6 b7 : Nat} {w wr wr' : World} (h : EncRows key cur r b5 b6 b7 w wr) (hb : Below wr.heap.size wr wr') : EncRows key cur r b5 b6 b7 w wr' :=
  ⟨h.r4.of_block (hb.block _ h.r4.lt), World.rowIs.of_block h.r5 (hb.block _ (World.rowIs.lt h.r5)), World.rowIs.of_block h.r6 (hb.block _ (World.rowIs.lt h.r6)), World.rowIs.of_block h.r7 (hb.block _ (World.rowIs.lt h.r7)), h.hb.trans (hb.mono h.hb.size)⟩
theorem EncRows.set {key cur : Blk} {r b5 b6 b7 b i : Nat} {w wr : World} (v : Value) (h : EncRows key cur r b5 b6 b7 w wr) (h4 : r ≠ b) (h5 : b5 ≠ b) (h6 : b6 ≠ b) (h7 : b7 ≠ b) (hw : w.heap.size ≤ b) : EncRows key cur r b5 b6 b7 w (wr.setCell ⟨b, i, none⟩ v) :=
  ⟨World.rowIs.setOther (a := ⟨b, i, none⟩) h.r4 h4 _, World.rowIs.setOther (a := ⟨b, i, none⟩) h.r5 h5 _, World.rowIs.setOther (a := ⟨b, i, none⟩) h.r6 h6 _, World.rowIs.setOther (a := ⟨b, i, none⟩) h.r7 h7 _, h.hb.setCell (p := ⟨b, i, none⟩) hw _⟩
theorem EncRows.drew {key cur : Blk} {r b5 b6 b7 : Nat} {w wr : World} (h : EncRows key cur r b5 b6 b7 w wr) : EncRows key cur r b5 b6 b7 w wr.drew := ⟨h.r4, h.r5, h.r6, h.r7, h.hb.drew⟩

/-- Numbers as the walk meets them, for one of the three further rows. -/
theorem row_facts (i j n m : Nat) (N : Int) (hN : N = (n : Int)) (hi : i < 4) (hj : j < 4) (hn : n < 4) (hm : m = (j + n) % 4) :
    ((j : Int) + N).tmod 4 = (m : Int) ∧ ((j : Int) + N) % 4 = (m : Int) ∧ IntKind.i64.wrap ((j : Int) + N) = (j : Int) + N ∧ IntKind.i64.wrap (4 * (i : Int) + (m : Int)) = 4 * (i : Int) + (m : Int) ∧
    (0 : Int) ≤ 4 * (i : Int) + (m : Int) ∧ 4 * (i : Int) + (m : Int) < 16 ∧ (4 * (i : Int) + (m : Int)).toNat = 4 * i + m := by
  subst hN
  have h1 : ((j : Int) + (n : Int)) % 4 = (m : Int) := by omega
  refine ⟨by rw [Int.tmod_eq_emod_of_nonneg (by omega)]; exact h1, h1, IntWalk.i64_in _ (by omega), IntWalk.i64_in _ (by omega), by omega, by omega, by omega⟩
theorem row_first (i j : Nat) (hi : i < 4) (hj : j < 4) :
    IntKind.i64.wrap (4 * (i : Int)) = 4 * (i : Int) ∧ IntKind.i64.wrap (4 * (i : Int) + (j : Int)) = 4 * (i : Int) + (j : Int) ∧ (0 : Int) ≤ 4 * (i : Int) + (j : Int) ∧ 4 * (i : Int) + (j : Int) < 16 ∧ (4 * (i : Int) + (j : Int)).toNat = 4 * i + j :=
  ⟨IntWalk.i64_in _ (by omega), IntWalk.i64_in _ (by omega), by omega, by omega, by omega⟩

set_option maxRecDepth 100000 in
set_option maxHeartbeats 4000000 in
theorem refEncrypt_any (key block : Blk) (X Y : Array Value) (hX : X.size = 16) (hXi : ∀ i, i < 16 → X[i]? = some (.int .u8 ((key i).toNat : Int))) (hY : Y.size = 16) (hYi : ∀ i, i < 16 → Y[i]? = some (.int .u8 ((block i).toNat : Int))) (w : World) :
    Calls Try.prog 14 #[.agg X, .agg Y] w fun x w' => x = .returned (.agg (byteRow 16 (enc key block))) ∧ Below w.heap.size w w' := by
  have hr : ∀ (Z : Array Value), Z = Array.replicate 16 (.int .u8 0) → ∃ W, W = ((w.alloc (.cells X 22)).alloc (.cells Y 22)).alloc (.cells Z 22) ∧ RowB W w.heap.size 22 16 key ∧ RowB W (w.heap.size + 1) 22 16 block ∧ W.rowIs (w.heap.size + 2) 22 16 (fun _ => .int .u8 0) ∧ Below w.heap.size w W := fun Z hZ => by
    have s1 : (w.alloc (.cells X 22)).heap.size = w.heap.size + 1 := by simp
    have s2 : ((w.alloc (.cells X 22)).alloc (.cells Y 22)).heap.size = w.heap.size + 2 := by simp
    have r1 := ((row_new w X 22 16 (fun j => .int .u8 ((key j).toNat : Int)) hX hXi).alloc (.cells Y 22)).alloc (.cells Z 22)
    have r2 := (row_new (w.alloc (.cells X 22)) Y 22 16 (fun j => .int .u8 ((block j).toNat : Int)) hY hYi).alloc (.cells Z 22)
    have r3 := row_new ((w.alloc (.cells X 22)).alloc (.cells Y 22)) Z 22 16 _ (by rw [hZ]; simp) (zeros16 Z hZ)
    rw [s1] at r2
    rw [s2] at r3
    exact ⟨_, rfl, r1, r2, r3, (((Below.refl _ _).alloc (Nat.le_refl _) _).alloc (by simp) _).alloc (by rw [s2]; omega) _⟩
  have hrk : Hid (∀ i, i < 16 → keysTo key 11 i = roundKey key 0 i) := fun i hi => by have := keysTo_at key 11 0 i (by omega) hi; rw [Nat.mul_zero, Nat.zero_add] at this; exact this
  obtain ⟨hz1, _⟩ := zero_of_info (keys_zero _ rfl)
  obtain ⟨hz2, _⟩ := zero_of_info (boxes_zero _ rfl)
  clear hXi hYi
  go_enter Try.func14, Try.ntmps14
  go_wp2_with fail
  obtain ⟨W, hW, hk0, hb0, hz0, hl0⟩ := hr _ rfl
  change Calls Try.prog 21 _ (((w.alloc (.cells X 22)).alloc (.cells Y 22)).alloc (.cells (Array.replicate 16 (.int .u8 0)) 22)) _
  rw [← hW]
  clear hW hr
  refine (refBoxes_any W).mono ?_
  rintro x w1 ⟨rfl, hb1⟩
  have hk1 : RowB w1 w.heap.size _ 16 key := World.rowIs.of_block hk0 (hb1.block _ (World.rowIs.lt hk0))
  have hp1 : RowB w1 (w.heap.size + 1) _ 16 block := World.rowIs.of_block hb0 (hb1.block _ (World.rowIs.lt hb0))
  have hz1' := hz0.of_block (hb1.block _ hz0.lt)
  have hl1 := hl0.trans (hb1.mono hl0.size)
  have hs1 : w.heap.size + 2 < w1.heap.size := hz1'.lt
  clear hk0 hb0 hz0 hl0 hb1
  go_wp2_with (first
    | (refine store_whole (by rfl) 38 (.tmp 5) (.tmp 15) (by rfl) w1.heap.size _ 256 (fun _ => .int .u8 0) (fun j => .int .u8 ((boxAt j).toNat : Int)) (by exact row_new w1 _ _ 256 _ (size_cellsOf _ _) (cellsOf_at _ _)) (by rfl) _ (by rfl) (by kernel_rfl) (size_cellsOf _ _) (cellsOf_at _ _) (fun _ _ => rfl) ?_
       intro w2 hr2 ho2
       have hk2 : RowB w2 w.heap.size _ 16 key := ho2.row (World.rowIs.alloc hk1 _) (by omega)
       have hp2 : RowB w2 (w.heap.size + 1) _ 16 block := ho2.row (World.rowIs.alloc hp1 _) (by omega)
       have hz2' := ho2.row (hz1'.alloc _) (by omega)
       have hl2 := ho2.below (hl1.alloc hl1.size _) hl1.size
       have hs2 : w1.heap.size < w2.heap.size := hr2.lt
       clear hk1 hp1 hz1' hl1 ho2)
    | (refine load_whole (by rfl) 22 (.tmp 2) (by rfl) _ _ _ _ hk2 (by rfl) _ Try.underlying22 rfl (by kernel_rfl) ?_)
    | (go_at_call 22
       refine (refKeys_any key _ (size_cellsOf _ _) (cellsOf_at _ _) w2).mono ?_
       rintro x w3 ⟨rfl, hb3⟩
       have hp3 : RowB w3 (w.heap.size + 1) _ 16 block := World.rowIs.of_block hp2 (hb3.block _ (World.rowIs.lt hp2))
       have hz3 := hz2'.of_block (hb3.block _ hz2'.lt)
       have hr3 : RowB w3 w1.heap.size _ 256 boxAt := World.rowIs.of_block hr2 (hb3.block _ hs2)
       have hl3 := hl2.trans (hb3.mono hl2.size)
       have hs3 := hb3.size
       clear hk2 hp2 hz2' hl2 hb3 hr2)
    | (refine store_whole (by rfl) 40 (.tmp 6) (.tmp 17) (by rfl) w3.heap.size _ 176 (fun _ => .int .u8 0) (fun t => .int .u8 ((keysTo key 11 t).toNat : Int)) (by exact row_new w3 _ _ 176 _ (size_cellsOf _ _) (cellsOf_at _ _)) (by rfl) _ (by rfl) (by kernel_rfl) (size_cellsOf _ _) (cellsOf_at _ _) (fun _ _ => rfl) ?_
       intro w4 hr4 ho4
       have hp4 : RowB w4 (w.heap.size + 1) _ 16 block := ho4.row (World.rowIs.alloc hp3 _) (by omega)
       have hz4 := ho4.row (hz3.alloc _) (by omega)
       have hx4 : RowB w4 w1.heap.size _ 256 boxAt := ho4.row (World.rowIs.alloc hr3 _) (by omega)
       have hl4 := ho4.below (hl3.alloc hl3.size _) hl3.size
       have hs4 : w3.heap.size < w4.heap.size := hr4.lt
       clear hp3 hz3 hr3 hl3 ho4)
    | (refine load_whole (by rfl) 22 (.tmp 3) (by rfl) _ _ _ _ hp4 (by rfl) _ Try.underlying22 rfl (by kernel_rfl) ?_)
    | (refine load_row (by rfl) 22 (.tmp 19) (by rfl) w3.heap.size 0 _ 176 16 _ hr4 (by rfl) _ Try.underlying22 rfl (by kernel_rfl) (by omega) ?_)
    | (go_at_call 23
       refine (refXored_any block (roundKey key 0) _ _ (size_cellsOf _ _) (cellsOf_at _ _) (size_cellsOf _ _) (fun i hi => (cellsOf_at _ _ _ hi).trans (by rw [← hrk.out i hi])) w4).mono ?_
       rintro x w5 ⟨rfl, hb5⟩
       have hz5 := hz4.of_block (hb5.block _ hz4.lt)
       have hx5 : RowB w5 w1.heap.size _ 256 boxAt := World.rowIs.of_block hx4 (hb5.block _ (World.rowIs.lt hx4))
       have hk5 : RowB w5 w3.heap.size _ 176 (keysTo key 11) := World.rowIs.of_block hr4 (hb5.block _ hs4)
       have hl5 := hl4.trans (hb5.mono hl4.size)
       have hs5 := hb5.size
       clear hp4 hz4 hx4 hl4 hb5 hr4)
    | (refine store_whole (by rfl) 22 (.tmp 7) (.tmp 21) (by rfl) w5.heap.size _ 16 (fun _ => .int .u8 0) (fun t => .int .u8 ((addKey block (roundKey key 0) t).toNat : Int)) (by exact row_new w5 _ _ 16 _ (by rfl) (zeros16 _ (by rfl))) (by rfl) _ (by rfl) (by kernel_rfl) (size_cellsOf _ _) (cellsOf_at _ _) (fun _ _ => rfl) ?_
       intro w6 hr6 ho6))
  have h6 : EncRows key (encTo key block 0) (w.heap.size + 2) w1.heap.size w3.heap.size w5.heap.size w w6 :=
    ⟨ho6.row (hz5.alloc _) (by omega), ho6.row (World.rowIs.alloc hx5 _) (by omega), ho6.row (World.rowIs.alloc hk5 _) (by omega), hr6, ho6.below (hl5.alloc hl5.size _) hl5.size⟩
  obtain ⟨B5, hB5⟩ : ∃ B, B = w1.heap.size := ⟨_, rfl⟩
  obtain ⟨B6, hB6⟩ : ∃ B, B = w3.heap.size := ⟨_, rfl⟩
  obtain ⟨B7, hB7⟩ : ∃ B, B = w5.heap.size := ⟨_, rfl⟩
  rw [← hB5] at h6 hs1 hs2 ⊢
  rw [← hB6] at h6 hs3 hs4 ⊢
  rw [← hB7] at h6 hs5 ⊢
  clear hr6 ho6 hz5 hx5 hk5 hl5 hB5 hB6 hB7 hz1 hz2
  go_loopw [8, 9, 10, 11, 12, 13, 14] (fun n _ _ _ _ _ _ wr => ∃ k : Nat, k ≤ 10 ∧ n = .int .i64 ((k : Int) + 1) ∧ EncRows key (encTo key block k) (w.heap.size + 2) B5 B6 B7 w wr) (fun n _ _ _ _ _ _ _ => 12 - (intOf n).toNat)
  case atStart => exact ⟨0, by omega, rfl, h6⟩
  case round =>
    clear h6
    obtain ⟨k, hk, rfl, h⟩ := hrel
    by_cases hlt : k < 10
    · have q0 : (k : Int) + 1 ≤ 10 := by omega
      obtain ⟨cur, hcur⟩ : ∃ cur, cur = encTo key block k := ⟨_, rfl⟩
      rw [← hcur] at h
      have Hcur := Lib.hid hcur
      clear hcur
      go_wp2_with (first
        | (refine build_named (by rfl) 22 _ (by rfl) (cellsOf 16 fun _ => .int .u8 0) (by kernel_rfl) ?_)
        | (refine store_whole (by rfl) 22 (.tmp 9) (.tmp 26) (by rfl) wr.heap.size _ 16 (fun _ => .int .u8 0) (fun _ => .int .u8 0) (by exact row_new wr _ _ 16 _ (by rfl) (zeros16 _ (by rfl))) (by rfl) _ (by rfl) (by kernel_rfl) (size_cellsOf _ _) (cellsOf_at _ _) (fun _ _ => rfl) ?_
           intro w7 hr7 ho7))
      have hb7 : Below wr.heap.size wr w7 := ho7.below ((Below.refl _ _).alloc (Nat.le_refl _) _) (Nat.le_refl _)
      have h7 := h.below hb7
      have t7 : RowB w7 wr.heap.size 22 16 (setTo (fun _ => 0) (subShift cur) 0) := World.rowIs.congr hr7 (fun _ _ => rfl)
      have hB7 : B7 < wr.heap.size := World.rowIs.lt h.r7
      obtain ⟨B9, hB9⟩ : ∃ B, B = wr.heap.size := ⟨_, rfl⟩
      rw [← hB9] at t7 hB7 ⊢
      clear h hr7 ho7 hb7 hB9
      go_loopw [10, 11] (fun c _ wr' => ∃ i : Nat, i ≤ 4 ∧ c = .int .i64 (i : Int) ∧ EncRows key cur (w.heap.size + 2) B5 B6 B7 w wr' ∧ RowB wr' B9 22 16 (setTo (fun _ => 0) (subShift cur) (4 * i))) (fun c _ _ => 4 - (intOf c).toNat)
      case atStart => exact ⟨0, by omega, rfl, h7, t7⟩
      case round =>
        clear h7 t7
        obtain ⟨i, hi, rfl, h, t⟩ := hrel
        by_cases hi4 : i < 4
        · have q1 : (i : Int) < 4 := by omega
          go_wp2
          go_loopw [11] (fun r wr' => ∃ j : Nat, j ≤ 4 ∧ r = .int .i64 (j : Int) ∧ EncRows key cur (w.heap.size + 2) B5 B6 B7 w wr' ∧ RowB wr' B9 22 16 (setTo (fun _ => 0) (subShift cur) (4 * i + j))) (fun r _ => 4 - (intOf r).toNat)
          case atStart => exact ⟨0, by omega, rfl, h, t⟩
          case round =>
            clear h t
            obtain ⟨j, hj, rfl, h, t⟩ := hrel
            by_cases hj4 : j < 4
            · obtain ⟨m, hm⟩ : ∃ m, m = (i + j) % 4 := ⟨_, rfl⟩
              have hm4 : m < 4 := by omega
              have c0 : wr.cell? ⟨B7, 4 * m + j, none⟩ = some (.int .u8 ((cur (4 * m + j)).toNat : Int)) := World.rowIs.cell h.r7 (by omega)
              have hby := (cur (4 * m + j)).isLt
              have c1 : wr.cell? ⟨B5, (cur (4 * m + j)).toNat, none⟩ = some (.int .u8 ((box (cur (4 * m + j))).toNat : Int)) := World.rowIs.cell h.r5 hby
              have c2 : wr.cell? ⟨B9, 4 * i + j, none⟩ = some (.int .u8 ((0 : BitVec 8).toNat : Int)) := by
                rw [World.rowIs.cell t (show 4 * i + j < 16 by omega)]
                unfold setTo
                rw [if_neg (by omega)]
              have f2 : wr.frozen? ⟨B9, 4 * i + j, none⟩ = false := World.rowIs.frozen t _
              have hsub : subShift cur (4 * i + j) = box (cur (4 * m + j)) := by
                unfold subShift
                rw [show (4 * i + j) / 4 = i by omega, show (4 * i + j) % 4 = j by omega, ← hm]
              have hnx : Hid (EncRows key cur (w.heap.size + 2) B5 B6 B7 w (wr.setCell ⟨B9, 4 * i + j, none⟩ (.int .u8 ((box (cur (4 * m + j))).toNat : Int))) ∧ RowB (wr.setCell ⟨B9, 4 * i + j, none⟩ (.int .u8 ((box (cur (4 * m + j))).toNat : Int))) B9 22 16 (setTo (fun _ => 0) (subShift cur) (4 * i + (j + 1)))) :=
                ⟨h.set _ (by omega) (by omega) (by omega) (by omega) (by omega), setTo_next t _ (by rw [hsub])⟩
              have e1 : ((i : Int) + (j : Int)).tmod 4 = (m : Int) := by rw [Int.tmod_eq_emod_of_nonneg (by omega)]; omega
              have e2 : ((i : Int) + (j : Int)) % 4 = (m : Int) := by omega
              have q2 : (j : Int) < 4 := by omega
              have q3 : (0 : Int) ≤ 4 * (i : Int) + (j : Int) := by omega
              have q4 : 4 * (i : Int) + (j : Int) < 16 := by omega
              have q5 : (4 * (i : Int) + (j : Int)).toNat = 4 * i + j := by omega
              have q6 : (0 : Int) ≤ 4 * (m : Int) + (j : Int) := by omega
              have q7 : 4 * (m : Int) + (j : Int) < 16 := by omega
              have q8 : (4 * (m : Int) + (j : Int)).toNat = 4 * m + j := by omega
              have q9 : (0 : Int) ≤ ((cur (4 * m + j)).toNat : Int) := by omega
              have q10 : ((cur (4 * m + j)).toNat : Int) < 256 := by omega
              have Hm := Lib.hid hm
              have Hsub := Lib.hid hsub
              clear hm hsub h t hby
              go_wp2
              exact ⟨⟨j + 1, by omega, ival (by omega), hnx.out.1, hnx.out.2⟩, by simp [intOf]; omega⟩
            · have hj4' : j = 4 := by omega
              have q2 : ¬ (j : Int) < 4 := by omega
              rw [hj4'] at t
              clear hj4'
              have HR := Lib.hid (And.intro h t)
              clear h t
              go_wp2
              exact ⟨⟨i + 1, by omega, ival (by omega), HR.out.1, HR.out.2⟩, by simp [intOf]; omega⟩
        · have hi4' : i = 4 := by omega
          have q1 : ¬ (i : Int) < 4 := by omega
          obtain ⟨sub, hsub⟩ : ∃ sub, sub = subShift cur := ⟨_, rfl⟩
          have t9 : wr.rowIs B9 22 16 (fun x => .int .u8 ((sub x).toNat : Int)) := by
            rw [hi4'] at t
            refine World.rowIs.congr t (fun x hx => ?_)
            unfold setTo
            rw [if_pos (by omega), hsub]
          have Hsub := Lib.hid hsub
          clear t hi4' hsub
          have hB9 : B9 < wr.heap.size := t9.lt
          go_wp2_with (first
            | (refine load_whole (by rfl) 22 (.tmp 9) (by rfl) _ _ _ _ t9 (by rfl) _ Try.underlying22 rfl (by kernel_rfl) ?_)
            | (refine store_whole (by rfl) 22 (.tmp 12) (.tmp 51) (by rfl) wr.heap.size _ 16 (fun _ => .int .u8 0) (fun x => .int .u8 ((sub x).toNat : Int)) (by exact row_new wr _ _ 16 _ (by rfl) (zeros16 _ (by rfl))) (by rfl) _ (by rfl) (by kernel_rfl) (size_cellsOf _ _) (cellsOf_at _ _) (fun _ _ => rfl) ?_
               intro w8 hr8 ho8))
          have hb8 : Below wr.heap.size wr w8 := ho8.below ((Below.refl _ _).alloc (Nat.le_refl _) _) (Nat.le_refl _)
          have h8 := h.below hb8
          have t8 : RowB w8 B9 22 16 sub := t9.of_block (hb8.block _ hB9)
          have m8 : RowB w8 wr.heap.size 22 16 (setTo sub (mixCols sub) (4 * 0)) := World.rowIs.congr hr8 (fun _ _ => rfl)
          obtain ⟨B12, hB12⟩ : ∃ B, B = wr.heap.size := ⟨_, rfl⟩
          rw [← hB12] at m8 hB9 ⊢
          obtain ⟨I0, hI0⟩ : ∃ I0 : Int, I0 = (i : Int) := ⟨_, rfl⟩
          clear h t9 hr8 ho8 hb8 hB12 hi4 hi
          go_loopw [13, 14] (fun c _ wr' => ∃ i : Nat, i ≤ 4 ∧ c = .int .i64 (i : Int) ∧ (¬ k + 1 < 10 → i = 0) ∧ EncRows key cur (w.heap.size + 2) B5 B6 B7 w wr' ∧ RowB wr' B9 22 16 sub ∧ RowB wr' B12 22 16 (setTo sub (mixCols sub) (4 * i))) (fun c _ _ => 4 - (intOf c).toNat)
          case atStart => exact ⟨0, by omega, rfl, fun _ => rfl, h8, t8, m8⟩
          case round =>
            clear h8 t8 m8
            obtain ⟨i, hi, rfl, hik, h, t, mm⟩ := hrel
            by_cases hgo : i < 4 ∧ k + 1 < 10
            · obtain ⟨hi4, hk9⟩ := hgo
              have q1 : (i : Int) < 4 := by omega
              have q2 : (k : Int) + 1 < 10 := by omega
              have Hik := Lib.hid hik
              clear hik
              go_wp2
              go_loopw [14] (fun r wr' => ∃ j : Nat, j ≤ 4 ∧ r = .int .i64 (j : Int) ∧ EncRows key cur (w.heap.size + 2) B5 B6 B7 w wr' ∧ RowB wr' B9 22 16 sub ∧ RowB wr' B12 22 16 (setTo sub (mixCols sub) (4 * i + j))) (fun r _ => 4 - (intOf r).toNat)
              case atStart => exact ⟨0, by omega, rfl, h, t, mm⟩
              case round =>
                clear h t mm
                obtain ⟨j, hj, rfl, h, t, mm⟩ := hrel
                by_cases hj4 : j < 4
                · obtain ⟨m1, hm1⟩ : ∃ m, m = (j + 1) % 4 := ⟨_, rfl⟩
                  obtain ⟨m2, hm2⟩ : ∃ m, m = (j + 2) % 4 := ⟨_, rfl⟩
                  obtain ⟨m3, hm3⟩ : ∃ m, m = (j + 3) % 4 := ⟨_, rfl⟩
                  have hl1 : m1 < 4 := by omega
                  have hl2 : m2 < 4 := by omega
                  have hl3 : m3 < 4 := by omega
                  have c0 : wr.cell? ⟨B9, 4 * i + j, none⟩ = some (.int .u8 ((sub (4 * i + j)).toNat : Int)) := World.rowIs.cell t (by omega)
                  have c1 : wr.cell? ⟨B9, 4 * i + m1, none⟩ = some (.int .u8 ((sub (4 * i + m1)).toNat : Int)) := World.rowIs.cell t (by omega)
                  have c2 : wr.cell? ⟨B9, 4 * i + m2, none⟩ = some (.int .u8 ((sub (4 * i + m2)).toNat : Int)) := World.rowIs.cell t (by omega)
                  have c3 : wr.cell? ⟨B9, 4 * i + m3, none⟩ = some (.int .u8 ((sub (4 * i + m3)).toNat : Int)) := World.rowIs.cell t (by omega)
                  have c4 : wr.cell? ⟨B12, 4 * i + j, none⟩ = some (.int .u8 ((sub (4 * i + j)).toNat : Int)) := by
                    rw [World.rowIs.cell mm (show 4 * i + j < 16 by omega)]
                    unfold setTo
                    rw [if_neg (by omega)]
                  have f4 : wr.frozen? ⟨B12, 4 * i + j, none⟩ = false := World.rowIs.frozen mm _
                  have hmix : Hid (mixCols sub (4 * i + j) = times 2 (sub (4 * i + j)) ^^^ times 3 (sub (4 * i + m1)) ^^^ sub (4 * i + m2) ^^^ sub (4 * i + m3)) := by
                    show mixCols sub (4 * i + j) = _
                    unfold mixCols
                    rw [show (4 * i + j) / 4 = i by omega, show (4 * i + j) % 4 = j by omega, ← hm1, ← hm2, ← hm3]
                  have hnx : Hid (∀ v : Int, v = ((mixCols sub (4 * i + j)).toNat : Int) → EncRows key cur (w.heap.size + 2) B5 B6 B7 w (wr.setCell ⟨B12, 4 * i + j, none⟩ (.int .u8 v)) ∧ RowB (wr.setCell ⟨B12, 4 * i + j, none⟩ (.int .u8 v)) B9 22 16 sub ∧ RowB (wr.setCell ⟨B12, 4 * i + j, none⟩ (.int .u8 v)) B12 22 16 (setTo sub (mixCols sub) (4 * i + (j + 1)))) := fun v hv =>
                    ⟨h.set _ (by omega) (by omega) (by omega) (by omega) (by omega), World.rowIs.setOther (a := ⟨B12, 4 * i + j, none⟩) t (show B9 ≠ B12 by omega) _, setTo_next mm v hv⟩
                  have q3 : (j : Int) < 4 := by omega
                  obtain ⟨e1, e1', v1, w1, a1, b1, n1⟩ := row_facts i j 1 m1 1 rfl hi4 hj4 (by decide) hm1
                  obtain ⟨e2, e2', v2, w2, a2, b2, n2⟩ := row_facts i j 2 m2 2 rfl hi4 hj4 (by decide) hm2
                  obtain ⟨e3, e3', v3, w3, a3, b3, n3⟩ := row_facts i j 3 m3 3 rfl hi4 hj4 (by decide) hm3
                  obtain ⟨u0, u1, u2, u3, u4⟩ := row_first i j hi4 hj4
                  have ht2 : ∀ (x : BitVec 8) (W : World), Calls Try.prog 24 #[.int .u8 2, .int .u8 (x.toNat : Int)] W fun y w' => y = .returned (.int .u8 ((times 2 x).toNat : Int)) ∧ w' = W := fun x W => refTimes_any 2 x W
                  have ht3 : ∀ (x : BitVec 8) (W : World), Calls Try.prog 24 #[.int .u8 3, .int .u8 (x.toNat : Int)] W fun y w' => y = .returned (.int .u8 ((times 3 x).toNat : Int)) ∧ w' = W := fun x W => refTimes_any 3 x W
                  have Ht2 := Lib.hid ht2
                  have Ht3 := Lib.hid ht3
                  clear hm1 hm2 hm3 h t mm ht2 ht3
                  go_wp2
                  refine region_tail 40 (by kernel_rfl) (by kernel_rfl) ?_
                  simp only [List.take_succ_cons, List.take_zero, List.drop_succ_cons, List.drop_zero]
                  iterate 10 still_step
                  still_call (Ht2.out _ _)
                  iterate 8 still_step
                  still_call (Ht3.out _ _)
                  repeat still_step
                  refine wpStill_nil ?_
                  clear e1 e1' v1 w1 a1 b1 n1 e2 e2' v2 w2 a2 b2 n2 e3 e3' v3 w3 a3 b3 n3 u0 u1 u2 u3 u4 Ht2 Ht3 c0 c1 c2 c3
                  go_wp2
                  have hmv : bits .xor .u8 (bits .xor .u8 (bits .xor .u8 ((times 2 (sub (4 * i + j))).toNat : Int) ((times 3 (sub (4 * i + m1))).toNat : Int)) ((sub (4 * i + m2)).toNat : Int)) ((sub (4 * i + m3)).toNat : Int) = ((mixCols sub (4 * i + j)).toNat : Int) := by
                    rw [xor8, xor8, xor8]; exact congrArg (fun z : BitVec 8 => (z.toNat : Int)) hmix.out.symm
                  have hn := hnx.out _ hmv
                  exact ⟨⟨j + 1, by omega, ival (by omega), hn.1.drew, hn.2.1, hn.2.2⟩, by simp [intOf]; omega⟩
                · have hj4' : j = 4 := by omega
                  have q3 : ¬ (j : Int) < 4 := by omega
                  rw [hj4'] at mm
                  clear hj4'
                  have HR := Lib.hid (And.intro h (And.intro t mm))
                  clear h t mm
                  go_wp2
                  exact ⟨⟨i + 1, by omega, ival (by omega), fun hx => absurd hk9 hx, HR.out.1, HR.out.2.1, HR.out.2.2⟩, by simp [intOf]; omega⟩
            · obtain ⟨fin, hfin⟩ : ∃ fin, fin = (if k + 1 < 10 then mixCols sub else sub) := ⟨_, rfl⟩
              have Hfin := Lib.hid hfin
              by_cases hi4 : i < 4
              · have hk9 : ¬ k + 1 < 10 := fun hx => hgo ⟨hi4, hx⟩
                have q1 : (i : Int) < 4 := by omega
                have q2 : ¬ (k : Int) + 1 < 10 := by omega
                have m12 : wr.rowIs B12 22 16 (fun x => .int .u8 ((fin x).toNat : Int)) := World.rowIs.congr mm (fun x hx => by rw [hik hk9]; unfold setTo; rw [if_neg (by omega), hfin, if_neg hk9])
                clear hfin
                have hr6 := h.r6
                have hr7 := h.r7
                have p0 : (0 : Int) ≤ (k : Int) + 1 := by omega
                have p1 : (k : Int) + 1 < 11 := by omega
                have p2 : ((k : Int) + 1).toNat = k + 1 := by omega
                have HR := Lib.hid h
                clear h mm t hik
                go_wp2
                refine region_tail 4 (by kernel_rfl) (by kernel_rfl) ?_
                simp only [List.take_succ_cons, List.take_zero, List.drop_succ_cons, List.drop_zero]
                have m12' : wr.drew.rowIs B12 _ 16 _ := m12
                have hr6' : wr.drew.rowIs B6 _ 176 _ := hr6
                repeat (first
                  | (refine still_row (by rfl) 22 (.tmp 12) (by rfl) B12 0 _ 16 16 _ m12' (by rfl) _ Try.underlying22 rfl (by kernel_rfl) (by omega) ?_)
                  | (refine still_row (by rfl) 22 (.tmp 106) (by rfl) B6 ((k + 1) * 16) _ 176 16 _ hr6' (by rfl) _ Try.underlying22 rfl (by kernel_rfl) (by omega) ?_)
                  | still_step)
                refine wpStill_nil ?_
                go_wp2_with fail
                refine (refXored_any fin (roundKey key (k + 1)) _ _ (size_cellsOf _ _) (cellsOf_at _ _) (size_cellsOf _ _) (fun x hx => (cellsOf_at _ _ _ hx).trans (by rw [Nat.mul_comm, keysTo_at _ _ _ _ (by omega) hx])) wr.drew).mono ?_
                rintro x w9 ⟨rfl, hb9⟩
                have h9 := HR.out.drew.below hb9
                have hr9 := h9.r7
                have H9 := Lib.hid h9
                clear h9 HR m12 m12' hr6 hr6' hr7
                go_wp2_with (refine store_whole (by rfl) 22 (.tmp 7) (.tmp 108) (by rfl) B7 _ 16 _ (fun x => .int .u8 ((addKey fin (roundKey key (k + 1)) x).toNat : Int)) hr9 (by rfl) _ (by rfl) (by kernel_rfl) (size_cellsOf _ _) (cellsOf_at _ _) (fun _ _ => rfl) ?_
                             intro w10 hr10 ho10)
                have h10 : EncRows key (encTo key block (k + 1)) (w.heap.size + 2) B5 B6 B7 w w10 := by
                  refine ⟨ho10.row H9.out.r4 (by omega), ho10.row H9.out.r5 (by omega), ho10.row H9.out.r6 (by omega), ?_, ho10.below H9.out.hb (by omega)⟩
                  have he : encTo key block (k + 1) = addKey fin (roundKey key (k + 1)) := by
                    show addKey (if k + 1 < 10 then mixCols (subShift (encTo key block k)) else subShift (encTo key block k)) _ = _
                    rw [Hfin.out, Hsub.out, Hcur.out]
                  rw [he]
                  exact hr10
                exact ⟨⟨k + 1, by omega, ival (by omega), h10⟩, by simp [intOf]; omega⟩
              · have hk9 : k + 1 < 10 := Decidable.byContradiction (fun hx => by have := hik hx; omega)
                have q1 : ¬ (i : Int) < 4 := by omega
                have m12 : wr.rowIs B12 22 16 (fun x => .int .u8 ((fin x).toNat : Int)) := World.rowIs.congr mm (fun x hx => by unfold setTo; rw [if_pos (by omega), hfin, if_pos hk9])
                clear hfin
                have hr6 := h.r6
                have hr7 := h.r7
                have p0 : (0 : Int) ≤ (k : Int) + 1 := by omega
                have p1 : (k : Int) + 1 < 11 := by omega
                have p2 : ((k : Int) + 1).toNat = k + 1 := by omega
                have HR := Lib.hid h
                clear h mm t hik
                go_wp2
                refine region_tail 4 (by kernel_rfl) (by kernel_rfl) ?_
                simp only [List.take_succ_cons, List.take_zero, List.drop_succ_cons, List.drop_zero]
                have m12' : wr.drew.rowIs B12 _ 16 _ := m12
                have hr6' : wr.drew.rowIs B6 _ 176 _ := hr6
                repeat (first
                  | (refine still_row (by rfl) 22 (.tmp 12) (by rfl) B12 0 _ 16 16 _ m12' (by rfl) _ Try.underlying22 rfl (by kernel_rfl) (by omega) ?_)
                  | (refine still_row (by rfl) 22 (.tmp 106) (by rfl) B6 ((k + 1) * 16) _ 176 16 _ hr6' (by rfl) _ Try.underlying22 rfl (by kernel_rfl) (by omega) ?_)
                  | still_step)
                refine wpStill_nil ?_
                go_wp2_with fail
                refine (refXored_any fin (roundKey key (k + 1)) _ _ (size_cellsOf _ _) (cellsOf_at _ _) (size_cellsOf _ _) (fun x hx => (cellsOf_at _ _ _ hx).trans (by rw [Nat.mul_comm, keysTo_at _ _ _ _ (by omega) hx])) wr.drew).mono ?_
                rintro x w9 ⟨rfl, hb9⟩
                have h9 := HR.out.drew.below hb9
                have hr9 := h9.r7
                have H9 := Lib.hid h9
                clear h9 HR m12 m12' hr6 hr6' hr7
                go_wp2_with (refine store_whole (by rfl) 22 (.tmp 7) (.tmp 108) (by rfl) B7 _ 16 _ (fun x => .int .u8 ((addKey fin (roundKey key (k + 1)) x).toNat : Int)) hr9 (by rfl) _ (by rfl) (by kernel_rfl) (size_cellsOf _ _) (cellsOf_at _ _) (fun _ _ => rfl) ?_
                             intro w10 hr10 ho10)
                have h10 : EncRows key (encTo key block (k + 1)) (w.heap.size + 2) B5 B6 B7 w w10 := by
                  refine ⟨ho10.row H9.out.r4 (by omega), ho10.row H9.out.r5 (by omega), ho10.row H9.out.r6 (by omega), ?_, ho10.below H9.out.hb (by omega)⟩
                  have he : encTo key block (k + 1) = addKey fin (roundKey key (k + 1)) := by
                    show addKey (if k + 1 < 10 then mixCols (subShift (encTo key block k)) else subShift (encTo key block k)) _ = _
                    rw [Hfin.out, Hsub.out, Hcur.out]
                  rw [he]
                  exact hr10
                exact ⟨⟨k + 1, by omega, ival (by omega), h10⟩, by simp [intOf]; omega⟩
    · have q0 : ¬ (k : Int) + 1 ≤ 10 := by omega
      have hk10 : k = 10 := by omega
      have hr7 : wr.rowIs B7 22 16 (fun x => .int .u8 ((enc key block x).toNat : Int)) := by
        have := h.r7
        rw [hk10] at this
        exact this
      have hr4 := h.r4
      have hb := h.hb
      clear h hk10
      go_wp2_with (first
        | (refine load_whole (by rfl) 22 (.tmp 7) (by rfl) _ _ _ _ hr7 (by rfl) _ Try.underlying22 rfl (by kernel_rfl) ?_)
        | (refine store_whole (by rfl) 22 (.tmp 4) (.tmp 109) (by rfl) (w.heap.size + 2) _ 16 _ _ hr4 (by rfl) _ (by rfl) (by kernel_rfl) (size_cellsOf _ _) (cellsOf_at _ _) (fun _ _ => rfl) ?_
           intro w6 hr6 ho6))
      exact bodyPost_ret (results_row rfl _ (w.heap.size + 2) _ _ _ _ (by rfl) hr6 Try.underlying22 rfl (by kernel_rfl)) rfl ⟨rfl, ho6.below hb (by omega)⟩
end Go.Proofs.Ytcdgdoeegehjhaa.Aes
