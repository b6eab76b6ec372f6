/-
  What aes.mix does: each column anew of all four bytes of it.
  What aes.Encrypt does: the encryption of a block.
-/
import Derived.Test.YtfjoflpidmjkbaaDoorOwnThree
import Derived.Test.YtfjoflpidmjkbaaDoorRefEncrypt
import Derived.Test.YtfjoflpidmjkbaaDoorOwnKeys
namespace Go.Proofs.YtfjoflpidmjkbaaDoor.Aes
open Go Go.RowKit Go.Proofs.YtfjoflpidmjkbaaDoor.Aid

def colSum (t : Blk) (i : Nat) : BitVec 8 := t (4 * i) ^^^ t (4 * i + 1) ^^^ t (4 * i + 2) ^^^ t (4 * i + 3)
theorem mix_by_sum (t : Blk) (i j : Nat) (hj : j < 4) : xtime (t (4 * i + j) ^^^ t (4 * i + (j + 1) % 4)) ^^^ colSum t i ^^^ t (4 * i + j) = mixCols t (4 * i + j) := by
  have h0 : ∀ a b c d : BitVec 8, xtime (a ^^^ b) ^^^ (a ^^^ b ^^^ c ^^^ d) ^^^ a = times 2 a ^^^ times 3 b ^^^ c ^^^ d := fun a b c d => by
    rw [xtime_add, two_times, three_times]
    have : xtime a ^^^ xtime b ^^^ (a ^^^ b ^^^ c ^^^ d) ^^^ a = (xtime a ^^^ (xtime b ^^^ b) ^^^ c ^^^ d) ^^^ (a ^^^ a) := by ac_rfl
    rw [this, BitVec.xor_self, BitVec.xor_zero]
  have hs : colSum t i = t (4 * i + j) ^^^ t (4 * i + (j + 1) % 4) ^^^ t (4 * i + (j + 2) % 4) ^^^ t (4 * i + (j + 3) % 4) := by
    unfold colSum
    have : j = 0 ∨ j = 1 ∨ j = 2 ∨ j = 3 := by omega
    rcases this with rfl | rfl | rfl | rfl
    · rfl
    · show t (4 * i) ^^^ t (4 * i + 1) ^^^ t (4 * i + 2) ^^^ t (4 * i + 3) = t (4 * i + 1) ^^^ t (4 * i + 2) ^^^ t (4 * i + 3) ^^^ t (4 * i); ac_rfl
    · show t (4 * i) ^^^ t (4 * i + 1) ^^^ t (4 * i + 2) ^^^ t (4 * i + 3) = t (4 * i + 2) ^^^ t (4 * i + 3) ^^^ t (4 * i) ^^^ t (4 * i + 1); ac_rfl
    · show t (4 * i) ^^^ t (4 * i + 1) ^^^ t (4 * i + 2) ^^^ t (4 * i + 3) = t (4 * i + 3) ^^^ t (4 * i) ^^^ t (4 * i + 1) ^^^ t (4 * i + 2); ac_rfl
  rw [hs, h0]
  unfold mixCols
  rw [show (4 * i + j) / 4 = i by omega, show (4 * i + j) % 4 = j by omega]

set_option maxRecDepth 100000 in
set_option maxHeartbeats 1000000 in
theorem mix_any (cur : Blk) (X : Array Value) (hX : X.size = 16) (hXi : ∀ i, i < 16 → X[i]? = some (.int .u8 ((cur i).toNat : Int))) (w : World) :
    Calls Tryd.prog 48 #[.agg X] w fun r w' => r = .returned (.agg (byteRow 16 (mixCols cur))) ∧ Below w.heap.size w w' := by
  have hr := Lib.hid (fun Z hZ => three_new cur X Z hX hXi hZ w)
  clear hXi
  go_enter Tryd.func48, Tryd.ntmps48
  go_wp2
  obtain ⟨W, hW, h0⟩ := hr.out _ rfl
  change Code.wp _ _ _ _ (((w.alloc (.cells X 22)).alloc (.cells (Array.replicate 16 (.int .u8 0)) 22)).alloc (.cells (Array.replicate 16 (.int .u8 0)) 22))
  rw [← hW]
  clear hW hr
  go_loopw [4, 5, 6, 7, 8, 31] (fun c _ _ _ _ _ wr => ∃ i : Nat, i ≤ 4 ∧ c = .int .i64 (4 * (i : Int)) ∧ Hid (Three cur (setTo (fun _ => 0) (mixCols cur) (4 * i)) w wr)) (fun c _ _ _ _ _ _ => 20 - (intOf c).toNat)
  case atStart => exact ⟨0, by omega, rfl, h0.congr (fun _ _ => rfl)⟩
  case round =>
    clear h0
    obtain ⟨i, hi, rfl, h⟩ := hrel
    by_cases hi4 : i < 4
    · have cc : ∀ j, j < 4 → wr.cell? ⟨w.heap.size, 4 * i + j, none⟩ = some (.int .u8 ((cur (4 * i + j)).toNat : Int)) := fun j hj => World.rowIs.cell h.out.r0 (by omega)
      have c0 : wr.cell? ⟨w.heap.size, 4 * i, none⟩ = some (.int .u8 ((cur (4 * i)).toNat : Int)) := cc 0 (by omega)
      have c1 := cc 1 (by omega)
      have c2 := cc 2 (by omega)
      have c3 := cc 3 (by omega)
      have q0 : 4 * (i : Int) < 16 := by omega
      have q1 : (0 : Int) ≤ 4 * (i : Int) := by omega
      have q2 : (4 * (i : Int)).toNat = 4 * i := by omega
      have a1 : IntKind.i64.wrap (4 * (i : Int) + 1) = 4 * (i : Int) + 1 := IntWalk.i64_in _ (by omega)
      have a2 : IntKind.i64.wrap (4 * (i : Int) + 2) = 4 * (i : Int) + 2 := IntWalk.i64_in _ (by omega)
      have a3 : IntKind.i64.wrap (4 * (i : Int) + 3) = 4 * (i : Int) + 3 := IntWalk.i64_in _ (by omega)
      have b1 : 4 * (i : Int) + 1 < 16 := by omega
      have b2 : 4 * (i : Int) + 2 < 16 := by omega
      have b3 : 4 * (i : Int) + 3 < 16 := by omega
      have d1 : (0 : Int) ≤ 4 * (i : Int) + 1 := by omega
      have d2 : (0 : Int) ≤ 4 * (i : Int) + 2 := by omega
      have d3 : (0 : Int) ≤ 4 * (i : Int) + 3 := by omega
      have e1 : (4 * (i : Int) + 1).toNat = 4 * i + 1 := by omega
      have e2 : (4 * (i : Int) + 2).toNat = 4 * i + 2 := by omega
      have e3 : (4 * (i : Int) + 3).toNat = 4 * i + 3 := by omega
      clear cc
      go_wp2
      refine region_still (by kernel_rfl) (by kernel_rfl) ?_
      repeat still_step
      refine wpStill_nil ?_
      go_wp2
      rw [xor8, xor8, xor8]
      obtain ⟨S1, hS1⟩ : ∃ S, S = cur (4 * i) ^^^ cur (4 * i + 1) := ⟨_, rfl⟩
      obtain ⟨S2, hS2⟩ : ∃ S, S = S1 ^^^ cur (4 * i + 2) := ⟨_, rfl⟩
      obtain ⟨S, hS⟩ : ∃ S, S = S2 ^^^ cur (4 * i + 3) := ⟨_, rfl⟩
      rw [← hS1, ← hS2, ← hS]
      have HS : Hid (S = colSum cur i) := by show _ = _; rw [hS, hS2, hS1]; rfl
      clear hS1 hS2
      have h1 : Three cur (setTo (fun _ => 0) (mixCols cur) (4 * i + 0)) w wr.drew := h.out.drew
      clear hS h c0 c1 c2 c3 a1 a2 a3 b1 b2 b3 d1 d2 d3 e1 e2 e3
      go_loopw [6, 7, 8, 31] (fun _ _ _ r wr' => ∃ j : Nat, j ≤ 4 ∧ r = .int .i64 (j : Int) ∧ Hid (Three cur (setTo (fun _ => 0) (mixCols cur) (4 * i + j)) w wr')) (fun _ _ _ r _ => 4 - (intOf r).toNat)
      case atStart => exact ⟨0, by omega, rfl, h1⟩
      case round =>
        clear h1
        obtain ⟨j, hj, rfl, h⟩ := hrel
        by_cases hj4 : j < 4
        · obtain ⟨m, hm⟩ : ∃ m, m = (j + 1) % 4 := ⟨_, rfl⟩
          have hm4 : m < 4 := by omega
          obtain ⟨e1, e2, e3, e4, e5, e6, e7⟩ := row_facts i j 1 m 1 rfl hi4 hj4 (by omega) hm
          obtain ⟨_, g2, g3, g4, g5⟩ := row_first i j hi4 hj4
          have c0 : wr.cell? ⟨w.heap.size, 4 * i + j, none⟩ = some (.int .u8 ((cur (4 * i + j)).toNat : Int)) := World.rowIs.cell h.out.r0 (by omega)
          have c1 : wr.cell? ⟨w.heap.size, 4 * i + m, none⟩ = some (.int .u8 ((cur (4 * i + m)).toNat : Int)) := World.rowIs.cell h.out.r0 (by omega)
          have c2 : wr.cell? ⟨w.heap.size + 2, 4 * i + j, none⟩ = some (.int .u8 ((0 : BitVec 8).toNat : Int)) := by
            rw [World.rowIs.cell h.out.r2 (show 4 * i + j < 16 by omega)]
            unfold setTo
            rw [if_neg (by omega)]
          have f2 : wr.frozen? ⟨w.heap.size + 2, 4 * i + j, none⟩ = false := World.rowIs.frozen h.out.r2 _
          have hnx : Hid (∀ v : Int, v = ((mixCols cur (4 * i + j)).toNat : Int) → Three cur (setTo (fun _ => 0) (mixCols cur) (4 * i + (j + 1))) w (wr.setCell ⟨w.heap.size + 2, 4 * i + j, none⟩ (.int .u8 v))) := fun v hv => h.out.set (setTo_next h.out.r2 v hv)
          have hmix : Hid (xtime (cur (4 * i + j) ^^^ cur (4 * i + m)) ^^^ S ^^^ cur (4 * i + j) = mixCols cur (4 * i + j)) := by show _ = _; rw [HS.out, hm, mix_by_sum cur i j hj4]
          have q3 : (j : Int) < 4 := by omega
          have q4 : (0 : Int) ≤ (j : Int) := by omega
          have x1 := xor8 (cur (4 * i + j)) (cur (4 * i + m))
          obtain ⟨B, hB⟩ : ∃ B, B = cur (4 * i + j) ^^^ cur (4 * i + m) := ⟨_, rfl⟩
          rw [← hB] at x1 hmix
          obtain ⟨D, hD⟩ : ∃ D, D = xtime B := ⟨_, rfl⟩
          rw [← hD] at hmix
          have hdb := fun W => double_any B W
          rw [← hD] at hdb
          have HD := Lib.hid hdb
          have x2 := xor8 D S
          obtain ⟨E, hE⟩ : ∃ E, E = D ^^^ S := ⟨_, rfl⟩
          rw [← hE] at x2 hmix
          have x3 := xor8 E (cur (4 * i + j))
          rw [hmix.out] at x3
          clear hB hD hE hdb
          clear hm hm4 h
          go_wp2
          refine region_still (by kernel_rfl) (by kernel_rfl) ?_
          repeat still_step
          refine wpStill_nil ?_
          go_wp2_with (go_at_call 56
                       refine (HD.out _).mono ?_
                       rintro x w9 ⟨rfl, rfl⟩)
          exact ⟨⟨j + 1, by omega, ival (by omega), (hnx.out _ rfl).drew⟩, by simp [intOf]; omega⟩
        · have q3 : ¬ (j : Int) < 4 := by omega
          have hj4' : j = 4 := by omega
          rw [hj4'] at h
          clear hj4'
          have h2 : Hid (Three cur (setTo (fun _ => 0) (mixCols cur) (4 * (i + 1))) w wr) := h
          clear h
          go_wp2
          exact ⟨⟨i + 1, by omega, ival (by omega), h2.out⟩, by simp [intOf]; omega⟩
    · have q0 : ¬ 4 * (i : Int) < 16 := by omega
      have hr : wr.rowIs (w.heap.size + 2) 22 16 (fun j => .int .u8 ((mixCols cur j).toNat : Int)) := World.rowIs.congr h.out.r2 (fun j hj => by unfold setTo; rw [if_pos (by omega)])
      have hz := h.out.r1
      have hb := h.out.hb
      go_wp2_with (first
        | (refine load_whole (by rfl) 22 (.tmp 3) (by rfl) _ _ _ _ hr (by rfl) _ Tryd.underlying22 rfl (by kernel_rfl) ?_)
        | (refine store_whole (by rfl) 22 (.tmp 2) (.tmp 59) (by rfl) (w.heap.size + 1) _ 16 _ _ hz (by rfl) _ (by rfl) (by kernel_rfl) (size_cellsOf _ _) (cellsOf_at _ _) (fun _ _ => rfl) ?_
           intro w6 hr6 ho6))
      exact bodyPost_ret (results_row rfl _ (w.heap.size + 1) _ _ _ _ (by rfl) hr6 Tryd.underlying22 rfl (by kernel_rfl)) rfl ⟨rfl, ho6.below hb (by omega)⟩
end Go.Proofs.YtfjoflpidmjkbaaDoor.Aes

namespace Go.Proofs.YtfjoflpidmjkbaaDoor.Aes
open Go Go.RowKit Go.Proofs.YtfjoflpidmjkbaaDoor.Aid

theorem EncRows.store {key cur new : Blk} {r b5 b6 b7 : Nat} {w wr wr' : World} (h : EncRows key cur r b5 b6 b7 w wr) (ho : Only b7 wr wr') (hr : RowB wr' b7 22 16 new) (h4 : r ≠ b7) (h5 : b5 ≠ b7) (h6 : b6 ≠ b7) (hw : w.heap.size ≤ b7) : EncRows key new r b5 b6 b7 w wr' :=
  ⟨ho.row h.r4 h4, ho.row h.r5 h5, ho.row h.r6 h6, hr, ho.below h.hb hw⟩

set_option maxRecDepth 100000 in
set_option maxHeartbeats 4000000 in
theorem ownEncrypt_any (key block : Blk) (X Y : Array Value) (hX : X.size = 16) (hXi : ∀ i, i < 16 → X[i]? = some (.int .u8 ((key i).toNat : Int))) (hY : Y.size = 16) (hYi : ∀ i, i < 16 → Y[i]? = some (.int .u8 ((block i).toNat : Int))) (w : World) :
    Calls Tryd.prog 31 #[.agg X, .agg Y] w fun x w' => x = .returned (.agg (byteRow 16 (enc key block))) ∧ Below w.heap.size w w' := by
  have hr : ∀ (Z : Array Value), Z = Array.replicate 16 (.int .u8 0) → ∃ W, W = ((w.alloc (.cells X 22)).alloc (.cells Y 22)).alloc (.cells Z 22) ∧ RowB W w.heap.size 22 16 key ∧ RowB W (w.heap.size + 1) 22 16 block ∧ W.rowIs (w.heap.size + 2) 22 16 (fun _ => .int .u8 0) ∧ Below w.heap.size w W := fun Z hZ => by
    have s1 : (w.alloc (.cells X 22)).heap.size = w.heap.size + 1 := by simp
    have s2 : ((w.alloc (.cells X 22)).alloc (.cells Y 22)).heap.size = w.heap.size + 2 := by simp
    have r1 := ((row_new w X 22 16 (fun j => .int .u8 ((key j).toNat : Int)) hX hXi).alloc (.cells Y 22)).alloc (.cells Z 22)
    have r2 := (row_new (w.alloc (.cells X 22)) Y 22 16 (fun j => .int .u8 ((block j).toNat : Int)) hY hYi).alloc (.cells Z 22)
    have r3 := row_new ((w.alloc (.cells X 22)).alloc (.cells Y 22)) Z 22 16 _ (by rw [hZ]; simp) (zeros16 Z hZ)
    rw [s1] at r2
    rw [s2] at r3
    exact ⟨_, rfl, r1, r2, r3, (((Below.refl _ _).alloc (Nat.le_refl _) _).alloc (by simp) _).alloc (by rw [s2]; omega) _⟩
  have hrk : Hid (∀ i, i < 16 → keysTo key 11 i = roundKey key 0 i) := fun i hi => by have := keysTo_at key 11 0 i (by omega) hi; rw [Nat.mul_zero, Nat.zero_add] at this; exact this
  obtain ⟨hz1, _⟩ := zero_of_info (keys_zero _ rfl)
  obtain ⟨hz2, _⟩ := zero_of_info (boxes_zero _ rfl)
  clear hXi hYi
  go_enter Tryd.func31, Tryd.ntmps31
  go_wp2_with fail
  obtain ⟨W, hW, hk0, hb0, hz0, hl0⟩ := hr _ rfl
  change Calls Tryd.prog 44 _ (((w.alloc (.cells X 22)).alloc (.cells Y 22)).alloc (.cells (Array.replicate 16 (.int .u8 0)) 22)) _
  rw [← hW]
  clear hW hr
  refine (values_any W).mono ?_
  rintro x w1 ⟨rfl, hb1⟩
  have hk1 : RowB w1 w.heap.size _ 16 key := World.rowIs.of_block hk0 (hb1.block _ (World.rowIs.lt hk0))
  have hp1 : RowB w1 (w.heap.size + 1) _ 16 block := World.rowIs.of_block hb0 (hb1.block _ (World.rowIs.lt hb0))
  have hz1' := hz0.of_block (hb1.block _ hz0.lt)
  have hl1 := hl0.trans (hb1.mono hl0.size)
  have hs1 : w.heap.size + 2 < w1.heap.size := hz1'.lt
  clear hk0 hb0 hz0 hl0 hb1
  go_wp2_with (first
    | (refine store_whole (by rfl) 64 (.tmp 5) (.tmp 8) (by rfl) w1.heap.size _ 256 (fun _ => .int .u8 0) (fun j => .int .u8 ((boxAt j).toNat : Int)) (by exact row_new w1 _ _ 256 _ (size_cellsOf _ _) (cellsOf_at _ _)) (by rfl) _ (by rfl) (by kernel_rfl) (size_cellsOf _ _) (cellsOf_at _ _) (fun _ _ => rfl) ?_
       intro w2 hr2 ho2
       have hk2 : RowB w2 w.heap.size _ 16 key := ho2.row (World.rowIs.alloc hk1 _) (by omega)
       have hp2 : RowB w2 (w.heap.size + 1) _ 16 block := ho2.row (World.rowIs.alloc hp1 _) (by omega)
       have hz2' := ho2.row (hz1'.alloc _) (by omega)
       have hl2 := ho2.below (hl1.alloc hl1.size _) hl1.size
       have hs2 : w1.heap.size < w2.heap.size := hr2.lt
       clear hk1 hp1 hz1' hl1 ho2)
    | (refine load_whole (by rfl) 22 (.tmp 2) (by rfl) _ _ _ _ hk2 (by rfl) _ Tryd.underlying22 rfl (by kernel_rfl) ?_)
    | (go_at_call 45
       refine (keysBy_any key _ (size_cellsOf _ _) (cellsOf_at _ _) w2 w1.heap.size hr2).mono ?_
       rintro x w3 ⟨rfl, hb3⟩
       have hp3 : RowB w3 (w.heap.size + 1) _ 16 block := World.rowIs.of_block hp2 (hb3.block _ (World.rowIs.lt hp2))
       have hz3 := hz2'.of_block (hb3.block _ hz2'.lt)
       have hr3 : RowB w3 w1.heap.size _ 256 boxAt := World.rowIs.of_block hr2 (hb3.block _ hs2)
       have hl3 := hl2.trans (hb3.mono hl2.size)
       have hs3 := hb3.size
       clear hk2 hp2 hz2' hl2 hb3 hr2)
    | (refine store_whole (by rfl) 66 (.tmp 6) (.tmp 10) (by rfl) w3.heap.size _ 176 (fun _ => .int .u8 0) (fun t => .int .u8 ((keysTo key 11 t).toNat : Int)) (by exact row_new w3 _ _ 176 _ (size_cellsOf _ _) (cellsOf_at _ _)) (by rfl) _ (by rfl) (by kernel_rfl) (size_cellsOf _ _) (cellsOf_at _ _) (fun _ _ => rfl) ?_
       intro w4 hr4 ho4
       have hp4 : RowB w4 (w.heap.size + 1) _ 16 block := ho4.row (World.rowIs.alloc hp3 _) (by omega)
       have hz4 := ho4.row (hz3.alloc _) (by omega)
       have hx4 : RowB w4 w1.heap.size _ 256 boxAt := ho4.row (World.rowIs.alloc hr3 _) (by omega)
       have hl4 := ho4.below (hl3.alloc hl3.size _) hl3.size
       have hs4 : w3.heap.size < w4.heap.size := hr4.lt
       have h4 : Hid (EncRows key block (w.heap.size + 2) w1.heap.size w3.heap.size (w.heap.size + 1) w w4) := ⟨hz4, hx4, hr4, hp4, hl4⟩
       clear hp3 hz3 hr3 hl3 ho4 hz4 hx4 hl4)
    | (refine load_whole (by rfl) 22 (.tmp 3) (by rfl) _ _ _ _ hp4 (by rfl) _ Tryd.underlying22 rfl (by kernel_rfl) ?_)
    | (refine load_row (by rfl) 22 (.tmp 12) (by rfl) w3.heap.size 0 _ 176 16 _ hr4 (by rfl) _ Tryd.underlying22 rfl (by kernel_rfl) (by omega) ?_)
    | (go_at_call 46
       refine (add_any block (roundKey key 0) _ _ (size_cellsOf _ _) (cellsOf_at _ _) (size_cellsOf _ _) (fun i hi => (cellsOf_at _ _ _ hi).trans (by rw [← hrk.out i hi])) w4).mono ?_
       rintro x w5 ⟨rfl, hb5⟩
       have h5 := Lib.hid (h4.out.below hb5)
       have hp5 := h5.out.r7
       clear hp4 hr4 h4 hb5)
    | (refine store_whole (by rfl) 22 (.tmp 3) (.tmp 14) (by rfl) (w.heap.size + 1) _ 16 _ (fun t => .int .u8 ((addKey block (roundKey key 0) t).toNat : Int)) hp5 (by rfl) _ (by rfl) (by kernel_rfl) (size_cellsOf _ _) (cellsOf_at _ _) (fun _ _ => rfl) ?_
       intro w6 hr6 ho6))
  have h6 : EncRows key (encTo key block 0) (w.heap.size + 2) w1.heap.size w3.heap.size (w.heap.size + 1) w w6 := h5.out.store ho6 hr6 (by omega) (by omega) (by omega) (by omega)
  obtain ⟨B5, hB5⟩ : ∃ B, B = w1.heap.size := ⟨_, rfl⟩
  obtain ⟨B6, hB6⟩ : ∃ B, B = w3.heap.size := ⟨_, rfl⟩
  rw [← hB5] at h6 hs1 hs2 ⊢
  rw [← hB6] at h6 hs3 hs4 ⊢
  clear hr6 ho6 hp5 h5 hB5 hB6 hz1 hz2
  go_loopw [7, 15] (fun _ n wr => ∃ k : Nat, k ≤ 10 ∧ n = .int .i64 (k : Int) ∧ Hid (EncRows key (encTo key block k) (w.heap.size + 2) B5 B6 (w.heap.size + 1) w wr)) (fun _ n _ => 12 - (intOf n).toNat)
  case atStart => exact ⟨0, by omega, rfl, h6⟩
  case round =>
    clear h6
    obtain ⟨k, hk, rfl, h⟩ := hrel
    by_cases hlt : k < 10
    · have q0 : (k : Int) < 10 := by omega
      have q1 : (0 : Int) ≤ (k : Int) := by omega
      have p0 : (0 : Int) ≤ (k : Int) + 1 := by omega
      have p1 : (k : Int) + 1 < 11 := by omega
      have p2 : ((k : Int) + 1).toNat = k + 1 := by omega
      have e1 : IntKind.i64.wrap ((k : Int) + 1) = (k : Int) + 1 := IntWalk.i64_in _ (by omega)
      obtain ⟨cur, hcur⟩ : ∃ cur, cur = encTo key block k := ⟨_, rfl⟩
      rw [← hcur] at h
      have Hcur := Lib.hid hcur
      clear hcur
      have hr7 := h.out.r7
      have hr5 := h.out.r5
      by_cases h10 : k + 1 < 10
      · have q9 : (k : Int) < 9 := by omega
        go_wp2_with (first
          | (refine load_whole (by rfl) 22 (.tmp 3) (by rfl) _ _ _ _ hr7 (by rfl) _ Tryd.underlying22 rfl (by kernel_rfl) ?_)
          | (go_at_call 47
             refine (substitute_any cur _ (size_cellsOf _ _) (cellsOf_at _ _) wr B5 hr5).mono ?_
             rintro x w7 ⟨rfl, hb7⟩
             have h7 := Lib.hid (h.out.below hb7)
             have hr7' := h7.out.r7
             clear hr7 hr5 h hb7)
          | (refine store_whole (by rfl) 22 (.tmp 3) (.tmp 19) (by rfl) (w.heap.size + 1) _ 16 _ (fun t => .int .u8 ((subShift cur t).toNat : Int)) hr7' (by rfl) _ (by rfl) (by kernel_rfl) (size_cellsOf _ _) (cellsOf_at _ _) (fun _ _ => rfl) ?_
             intro w8 hr8 ho8
             have h8 : Hid (EncRows key (subShift cur) (w.heap.size + 2) B5 B6 (w.heap.size + 1) w w8) := h7.out.store ho8 hr8 (by omega) (by omega) (by omega) (by omega)
             clear ho8 hr7' h7)
          | (refine load_whole (by rfl) 22 (.tmp 3) (by rfl) _ _ _ _ hr8 (by rfl) _ Tryd.underlying22 rfl (by kernel_rfl) ?_)
          | (go_at_call 48
             refine (mix_any (subShift cur) _ (size_cellsOf _ _) (cellsOf_at _ _) w8).mono ?_
             rintro x w9 ⟨rfl, hb9⟩
             have h9 := Lib.hid (h8.out.below hb9)
             have hr9 := h9.out.r7
             clear hr8 h8 hb9)
          | (refine store_whole (by rfl) 22 (.tmp 3) (.tmp 23) (by rfl) (w.heap.size + 1) _ 16 _ (fun t => .int .u8 ((mixCols (subShift cur) t).toNat : Int)) hr9 (by rfl) _ (by rfl) (by kernel_rfl) (size_cellsOf _ _) (cellsOf_at _ _) (fun _ _ => rfl) ?_
             intro wz hrz hoz
             have hz : Hid (EncRows key (mixCols (subShift cur)) (w.heap.size + 2) B5 B6 (w.heap.size + 1) w wz) := h9.out.store hoz hrz (by omega) (by omega) (by omega) (by omega)
             clear hoz hr9 h9))
        obtain ⟨fin, hfin⟩ : ∃ fin, fin = mixCols (subShift cur) := ⟨_, rfl⟩
        rw [← hfin] at hrz hz
        have Hfin : Hid (encTo key block (k + 1) = addKey fin (roundKey key (k + 1))) := by
          show addKey (if k + 1 < 10 then mixCols (subShift (encTo key block k)) else subShift (encTo key block k)) _ = _
          rw [if_pos h10, hfin, Hcur.out]
        clear hfin
        refine region_tail 5 (by kernel_rfl) (by kernel_rfl) ?_
        simp only [List.take_succ_cons, List.take_zero, List.drop_succ_cons, List.drop_zero]
        have m7 : wz.drew.rowIs (w.heap.size + 1) _ 16 _ := hrz
        have m6 : wz.drew.rowIs B6 _ 176 _ := hz.out.r6
        repeat (first
          | (refine still_row (by rfl) 22 (.tmp 3) (by rfl) (w.heap.size + 1) 0 _ 16 16 _ m7 (by rfl) _ Tryd.underlying22 rfl (by kernel_rfl) (by omega) ?_)
          | (refine still_row (by rfl) 22 (.tmp 27) (by rfl) B6 ((k + 1) * 16) _ 176 16 _ m6 (by rfl) _ Tryd.underlying22 rfl (by kernel_rfl) (by omega) ?_)
          | still_step)
        refine wpStill_nil ?_
        go_wp2_with fail
        refine (add_any fin (roundKey key (k + 1)) _ _ (size_cellsOf _ _) (cellsOf_at _ _) (size_cellsOf _ _) (fun x hx => (cellsOf_at _ _ _ hx).trans (by rw [Nat.mul_comm, keysTo_at _ _ _ _ (by omega) hx])) wz.drew).mono ?_
        rintro x wa ⟨rfl, hba⟩
        have ha := Lib.hid (hz.out.drew.below hba)
        have hra := ha.out.r7
        clear hba hz hrz m6 m7
        go_wp2_with (refine store_whole (by rfl) 22 (.tmp 3) (.tmp 29) (by rfl) (w.heap.size + 1) _ 16 _ (fun x => .int .u8 ((addKey fin (roundKey key (k + 1)) x).toNat : Int)) hra (by rfl) _ (by rfl) (by kernel_rfl) (size_cellsOf _ _) (cellsOf_at _ _) (fun _ _ => rfl) ?_
                     intro wb hrb hob
                     have hb : Hid (EncRows key (encTo key block (k + 1)) (w.heap.size + 2) B5 B6 (w.heap.size + 1) w wb) := by
                       rw [Hfin.out]
                       exact ha.out.store hob hrb (by omega) (by omega) (by omega) (by omega)
                     clear hob hrb hra ha)
        exact ⟨⟨k + 1, by omega, ival (by omega), hb.out⟩, by simp [intOf]; omega⟩
      · have q9 : ¬ (k : Int) < 9 := by omega
        go_wp2_with (first
          | (refine load_whole (by rfl) 22 (.tmp 3) (by rfl) _ _ _ _ hr7 (by rfl) _ Tryd.underlying22 rfl (by kernel_rfl) ?_)
          | (go_at_call 47
             refine (substitute_any cur _ (size_cellsOf _ _) (cellsOf_at _ _) wr B5 hr5).mono ?_
             rintro x w7 ⟨rfl, hb7⟩
             have h7 := Lib.hid (h.out.below hb7)
             have hr7' := h7.out.r7
             clear hr7 hr5 h hb7)
          | (refine store_whole (by rfl) 22 (.tmp 3) (.tmp 19) (by rfl) (w.heap.size + 1) _ 16 _ (fun t => .int .u8 ((subShift cur t).toNat : Int)) hr7' (by rfl) _ (by rfl) (by kernel_rfl) (size_cellsOf _ _) (cellsOf_at _ _) (fun _ _ => rfl) ?_
             intro w8 hr8 ho8
             have h8 : Hid (EncRows key (subShift cur) (w.heap.size + 2) B5 B6 (w.heap.size + 1) w w8) := h7.out.store ho8 hr8 (by omega) (by omega) (by omega) (by omega)
             clear ho8 hr7' h7))
        obtain ⟨fin, hfin⟩ : ∃ fin, fin = subShift cur := ⟨_, rfl⟩
        rw [← hfin] at hr8 h8
        have Hfin : Hid (encTo key block (k + 1) = addKey fin (roundKey key (k + 1))) := by
          show addKey (if k + 1 < 10 then mixCols (subShift (encTo key block k)) else subShift (encTo key block k)) _ = _
          rw [if_neg h10, hfin, Hcur.out]
        clear hfin
        refine region_tail 5 (by kernel_rfl) (by kernel_rfl) ?_
        simp only [List.take_succ_cons, List.take_zero, List.drop_succ_cons, List.drop_zero]
        have m7 : w8.drew.rowIs (w.heap.size + 1) _ 16 _ := hr8
        have m6 : w8.drew.rowIs B6 _ 176 _ := h8.out.r6
        repeat (first
          | (refine still_row (by rfl) 22 (.tmp 3) (by rfl) (w.heap.size + 1) 0 _ 16 16 _ m7 (by rfl) _ Tryd.underlying22 rfl (by kernel_rfl) (by omega) ?_)
          | (refine still_row (by rfl) 22 (.tmp 27) (by rfl) B6 ((k + 1) * 16) _ 176 16 _ m6 (by rfl) _ Tryd.underlying22 rfl (by kernel_rfl) (by omega) ?_)
          | still_step)
        refine wpStill_nil ?_
        go_wp2_with fail
        refine (add_any fin (roundKey key (k + 1)) _ _ (size_cellsOf _ _) (cellsOf_at _ _) (size_cellsOf _ _) (fun x hx => (cellsOf_at _ _ _ hx).trans (by rw [Nat.mul_comm, keysTo_at _ _ _ _ (by omega) hx])) w8.drew).mono ?_
        rintro x wa ⟨rfl, hba⟩
        have ha := Lib.hid (h8.out.drew.below hba)
        have hra := ha.out.r7
        clear hba h8 hr8 m6 m7
        go_wp2_with (refine store_whole (by rfl) 22 (.tmp 3) (.tmp 29) (by rfl) (w.heap.size + 1) _ 16 _ (fun x => .int .u8 ((addKey fin (roundKey key (k + 1)) x).toNat : Int)) hra (by rfl) _ (by rfl) (by kernel_rfl) (size_cellsOf _ _) (cellsOf_at _ _) (fun _ _ => rfl) ?_
                     intro wb hrb hob
                     have hb : Hid (EncRows key (encTo key block (k + 1)) (w.heap.size + 2) B5 B6 (w.heap.size + 1) w wb) := by
                       rw [Hfin.out]
                       exact ha.out.store hob hrb (by omega) (by omega) (by omega) (by omega)
                     clear hob hrb hra ha)
        exact ⟨⟨k + 1, by omega, ival (by omega), hb.out⟩, by simp [intOf]; omega⟩
    · have q0 : ¬ (k : Int) < 10 := by omega
      have hk10 : k = 10 := by omega
      have hr7 : wr.rowIs (w.heap.size + 1) 22 16 (fun x => .int .u8 ((enc key block x).toNat : Int)) := by
        have := h.out.r7
        rw [hk10] at this
        exact this
      have hr4 := h.out.r4
      have hb := h.out.hb
      clear h hk10
      go_wp2_with (first
        | (refine load_whole (by rfl) 22 (.tmp 3) (by rfl) _ _ _ _ hr7 (by rfl) _ Tryd.underlying22 rfl (by kernel_rfl) ?_)
        | (refine store_whole (by rfl) 22 (.tmp 4) (.tmp 31) (by rfl) (w.heap.size + 2) _ 16 _ _ hr4 (by rfl) _ (by rfl) (by kernel_rfl) (size_cellsOf _ _) (cellsOf_at _ _) (fun _ _ => rfl) ?_
           intro w6 hr6 ho6))
      exact bodyPost_ret (results_row rfl _ (w.heap.size + 2) _ _ _ _ (by rfl) hr6 Tryd.underlying22 rfl (by kernel_rfl)) rfl ⟨rfl, ho6.below hb (by omega)⟩
end Go.Proofs.YtfjoflpidmjkbaaDoor.Aes
