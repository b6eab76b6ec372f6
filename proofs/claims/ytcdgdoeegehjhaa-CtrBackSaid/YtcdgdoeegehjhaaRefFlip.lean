/-
  What bartizanref04.Flip does: the document's own counter mode.
-/
import Derived.Test.YtcdgdoeegehjhaaRefNext
import Derived.Test.YtcdgdoeegehjhaaRefEncrypt
import Derived.Test.YtcdgdoeegehjhaaSl
import Derived.Test.YtcdgdoeegehjhaaMix
namespace Go.Proofs.Ytcdgdoeegehjhaa.Ctr
open Go Go.RowKit Go.Proofs.Ytcdgdoeegehjhaa.Aid Go.Proofs.Ytcdgdoeegehjhaa.Aes

/-- The call's three blocks: the key, the counter, the block of the key stream. -/
structure FlipRel (key at_ M : Blk) (w wr : World) : Prop where
  r0 : RowB wr w.heap.size 22 16 key
  r1 : RowB wr (w.heap.size + 1) 22 16 at_
  r2 : RowB wr (w.heap.size + 2) 22 16 M
  hb : Below w.heap.size w wr
theorem FlipRel.below {key at_ M : Blk} {w wr wr' : World} {B : Nat} (h : FlipRel key at_ M w wr) (hb : Below B wr wr') (hB : w.heap.size + 3 ≤ B) : FlipRel key at_ M w wr' :=
  ⟨World.rowIs.of_block h.r0 (hb.block _ (by omega)), World.rowIs.of_block h.r1 (hb.block _ (by omega)), World.rowIs.of_block h.r2 (hb.block _ (by omega)), h.hb.trans (hb.mono (by omega))⟩
theorem FlipRel.drew {key at_ M : Blk} {w wr : World} (h : FlipRel key at_ M w wr) : FlipRel key at_ M w wr.drew := ⟨h.r0, h.r1, h.r2, h.hb.drew⟩
theorem FlipRel.store {key at_ M N : Blk} {w wr wr' : World} (h : FlipRel key at_ M w wr) (ho : Only (w.heap.size + 2) wr wr') (hr : RowB wr' (w.heap.size + 2) 22 16 N) : FlipRel key at_ N w wr' :=
  ⟨ho.row h.r0 (by omega), ho.row h.r1 (by omega), hr, ho.below h.hb (by omega)⟩
theorem stream_at {key at_ M : Blk} {k : Nat} (h : Same16 M (enc key (nextB at_ (k / 16)))) : M (k % 16) = stream key at_ k := h (k % 16) (by omega)

set_option maxRecDepth 100000 in
set_option maxHeartbeats 2000000 in
theorem refFlip_any (key at_ e : Nat → BitVec 8) (X Y : Array Value) (hX : X.size = 16) (hXi : ∀ i, i < 16 → X[i]? = some (.int .u8 ((key i).toNat : Int))) (hY : Y.size = 16) (hYi : ∀ i, i < 16 → Y[i]? = some (.int .u8 ((at_ i).toNat : Int)))
    (A : Option Addr) (n c : Nat) (w : World) (hs : SliceOf w w.heap.size n e (.slice A n c)) (hn : n ≤ 1000) :
    Calls Try.prog 9 #[.agg X, .agg Y, .slice A n c] w fun x w' => ∃ v, x = .returned v ∧ Own w' w.heap.size n (flipB key at_ e) v ∧ Below w.heap.size w w' := by
  have h0 : ∃ W, W = (w.alloc (.cells X 22)).alloc (.cells Y 22) ∧ W.heap.size = w.heap.size + 2 ∧ RowB W w.heap.size 22 16 key ∧ RowB W (w.heap.size + 1) 22 16 at_ ∧ Below w.heap.size w W := by
    have s1 : (w.alloc (.cells X 22)).heap.size = w.heap.size + 1 := by simp
    have r1 := (row_new w X 22 16 (fun j => .int .u8 ((key j).toNat : Int)) hX hXi).alloc (.cells Y 22)
    have r2 := row_new (w.alloc (.cells X 22)) Y 22 16 (fun j => .int .u8 ((at_ j).toNat : Int)) hY hYi
    rw [s1] at r2
    exact ⟨_, rfl, by simp, r1, r2, ((Below.refl _ _).alloc (Nat.le_refl _) _).alloc (by simp) _⟩
  obtain ⟨W, hW, hsz, hk0, ha0, hb0⟩ := h0
  have HS := Lib.hid hs
  clear hXi hYi hs
  go_enter Try.func9, Try.ntmps9
  go_wp2_with (first
    | (change wpList _ _ _ _ _ ((w.alloc (.cells X 22)).alloc (.cells Y 22))
       rw [← hW]
       clear hW
       refine build_named (by rfl) 22 _ (by rfl) (cellsOf 16 fun _ => .int .u8 0) (by kernel_rfl) ?_)
    | (refine store_whole (by rfl) 22 (.tmp 8) (.tmp 10) (by rfl) (w.heap.size + 2) _ 16 (fun _ => .int .u8 0) (fun _ => .int .u8 0) (by rw [← hsz]; exact row_new W _ _ 16 _ (by rfl) (zeros16 _ (by rfl))) (by rfl) _ (by rfl) (by kernel_rfl) (size_cellsOf _ _) (cellsOf_at _ _) (fun _ _ => rfl) ?_
       intro w3 hr3 ho3
       have h3 : Hid (FlipRel key at_ (fun _ => 0) w w3) := ⟨ho3.row (World.rowIs.alloc hk0 _) (by omega), ho3.row (World.rowIs.alloc ha0 _) (by omega), hr3, ho3.below (hb0.alloc hb0.size _) (by omega)⟩
       clear hk0 ha0 hb0 hsz hr3 ho3))
  go_loopw [7, 9] (fun o i wr => ∃ (k : Nat) (M : Blk), k ≤ n ∧ i = .int .i64 (k : Int) ∧ Hid (FlipRel key at_ M w wr) ∧ Hid (k % 16 ≠ 0 → Same16 M (enc key (nextB at_ (k / 16)))) ∧ Own wr (w.heap.size + 3) k (flipB key at_ e) o) (fun _ i _ => n - (intOf i).toNat)
  case atStart => exact ⟨0, fun _ => 0, by omega, rfl, h3.out, fun h => absurd rfl h, World.ownsRow_nil _ _ _ _⟩
  case round =>
    clear h3
    obtain ⟨k, M, hk, rfl, h, hM, hown⟩ := hrel
    by_cases hlt : k < n
    · have q0 : (0 : Int) ≤ (k : Int) := by omega
      have q1 : (k : Int) < (n : Int) := by omega
      obtain ⟨m, hm⟩ : ∃ m, m = k % 16 := ⟨_, rfl⟩
      have hm16 : m < 16 := by omega
      have e1 : (k : Int).tmod 16 = (m : Int) := by rw [Int.tmod_eq_emod_of_nonneg (by omega)]; omega
      have e2 : (k : Int) % 16 = (m : Int) := by omega
      have q2 : (0 : Int) ≤ (m : Int) := by omega
      have q3 : (m : Int) < 16 := by omega
      obtain ⟨A', c', ea, _, r1⟩ := HS.out
      simp only [Value.slice.injEq, true_and] at ea
      obtain ⟨rfl, rfl⟩ := ea
      obtain ⟨sb, so, rfl, _, hc⟩ := r1 (by omega)
      have cu0 := hc k hlt
      have hsb : sb < w.heap.size := block_lt_of_cell cu0
      have Hm := Lib.hid hm
      clear hc r1
      by_cases hm0 : k % 16 = 0
      · have b0 : ((m : Int) == 0) = true := by simp; omega
        obtain ⟨q, hq⟩ : ∃ q, q = k / 16 := ⟨_, rfl⟩
        have e3 : (k : Int) / 16 = (q : Int) := by omega
        have e4 : (k : Int).tdiv 16 = (q : Int) := by rw [Int.tdiv_eq_ediv_of_nonneg (by omega)]; omega
        have e5 : IntKind.u64.wrap (q : Int) = (q : Int) := IntWalk.u64_in _ (by omega)
        have e6 : IntKind.i64.wrap (q : Int) = (q : Int) := IntWalk.i64_in _ (by omega)
        have hkr := h.out.r0
        have har := h.out.r1
        have Hq := Lib.hid hq
        have Hm0 := Lib.hid hm0
        clear hq hm hm0
        go_wp2
        have hsz1 : w.heap.size + 3 ≤ wr.heap.size := by have := World.rowIs.lt h.out.r2; omega
        refine region_mix (Below (w.heap.size + 2) wr) [(0, true), (1, true), (2, true), (3, true), (4, true), (5, false), (6, false), (7, false)] (by kernel_rfl) (by kernel_rfl) (Below.refl _ wr).drew ?_
        refine m_load rfl (by rfl) 22 (.tmp 3) (by rfl) w.heap.size 0 _ 16 16 _ (fun W hW => World.rowIs.of_block hkr (hW.block _ (by omega))) (by rfl) _ Try.underlying22 rfl (by kernel_rfl) (by omega) ?_
        simp only [Act.put, List.setIfInBounds_toArray, List.set_cons_zero, List.set_cons_succ, Nat.zero_add]
        refine m_load rfl (by rfl) 22 (.tmp 4) (by rfl) (w.heap.size + 1) 0 _ 16 16 _ (fun W hW => World.rowIs.of_block har (hW.block _ (by omega))) (by rfl) _ Try.underlying22 rfl (by kernel_rfl) (by omega) ?_
        simp only [Act.put, List.setIfInBounds_toArray, List.set_cons_zero, List.set_cons_succ, Nat.zero_add]
        refine m_val rfl (by rfl) (.int .i64 (k : Int)) (fun W _ => by go_simp) ?_
        simp only [Act.put, List.setIfInBounds_toArray, List.set_cons_zero, List.set_cons_succ]
        refine m_val rfl (by rfl) (.int .i64 (q : Int)) (fun W _ => by go_simp) ?_
        simp only [Act.put, List.setIfInBounds_toArray, List.set_cons_zero, List.set_cons_succ]
        refine m_val rfl (by rfl) (.int .u64 (q : Int)) (fun W _ => by go_simp) ?_
        simp only [Act.put, List.setIfInBounds_toArray, List.set_cons_zero, List.set_cons_succ]
        refine m_go rfl ?_
        go_wp2_with fail
        refine (refNext_any at_ q (by omega) _ (size_cellsOf _ _) (cellsOf_at _ _) wr.drew).mono ?_
        rintro x w4 ⟨rfl, hb4⟩
        have hb4' : Below wr.heap.size wr w4 := (Below.refl _ wr).drew.trans hb4
        have h4 := Lib.hid (h.out.below hb4' hsz1)
        have hown4 := hown.below hb4'
        clear hkr har hb4
        go_wp2_with fail
        refine m_on (hb4'.mono (by omega)) ?_
        refine m_go rfl ?_
        go_wp2_with fail
        refine (refEncrypt_any key (nextB at_ q) _ _ (size_cellsOf _ _) (cellsOf_at _ _) (size_cellsOf _ _) (cellsOf_at _ _) w4).mono ?_
        rintro x w5 ⟨rfl, hb5⟩
        have hb5' : Below wr.heap.size wr w5 := hb4'.trans (hb5.mono hb4'.size)
        have h5 := Lib.hid (h4.out.below hb5 (by have := hb4'.size; omega))
        have hown5 := hown4.below hb5
        have hr5 := h5.out.r2
        clear hb5 hb4' h4 hown4 hown h
        go_wp2_with fail
        refine m_on (hb5'.mono (by omega)) ?_
        refine m_go rfl ?_
        go_wp2_with (refine store_whole (by rfl) 22 (.tmp 8) (.tmp 26) (by rfl) (w.heap.size + 2) _ 16 _ (fun j => .int .u8 ((enc key (nextB at_ q) j).toNat : Int)) hr5 (by rfl) _ (by rfl) (by kernel_rfl) (size_cellsOf _ _) (cellsOf_at _ _) (fun _ _ => rfl) ?_
                     intro w6 hr6 ho6
                     have h6 : Hid (FlipRel key at_ (enc key (nextB at_ q)) w w6) := h5.out.store ho6 hr6
                     have hown6 : Own w6 (w.heap.size + 3) k (flipB key at_ e) u7 := hown5.keep (fun b hb => ho6.block b (by have := (hown5.lt hb).1; omega))
                     clear hr6 hr5 h5 hown5)
        refine m_on ((hb5'.mono (by omega)).trans ⟨ho6.os, ho6.tape, ho6.output, by rw [ho6.size]; exact Nat.le_refl _, fun b hb => ho6.block b (by omega)⟩) ?_
        refine m_end ?_
        clear ho6 hb5'
        go_wp2
        obtain ⟨M', hM'⟩ : ∃ M', M' = enc key (nextB at_ q) := ⟨_, rfl⟩
        rw [← hM'] at h6
        have HM : Hid (Same16 M' (enc key (nextB at_ (k / 16)))) := by rw [hM', Hq.out]; exact fun _ _ => rfl
        clear hM'
        have cu := ((h6).out.hb.cell (p := ⟨sb, so + k, none⟩) hsb).trans cu0
        have cm : w6.cell? ⟨w.heap.size + 2, m, none⟩ = some (.int .u8 ((M' m).toNat : Int)) := World.rowIs.cell h6.out.r2 hm16
        have hx : Hid (flipB key at_ e k = e k ^^^ M' m) := by show e k ^^^ stream key at_ k = _; rw [Hm.out, stream_at HM.out]
        have hone := slice_below (slice_one w6 (w6.heap.size + 1) (by omega) (e k ^^^ M' m) (bits .xor .u8 ((e k).toNat : Int) ((M' m).toNat : Int)) (xor8 _ _)) (Below.refl _ _).drew
        have ho1 := (hown6.below ((Below.refl _ w6).alloc (Nat.le_refl _) (.cells #[.int .u8 (bits .xor .u8 ((e k).toNat : Int) ((M' m).toNat : Int))] 5))).below (Below.refl _ _).drew
        have hsz2 : w.heap.size + 3 ≤ w6.heap.size := by have := World.rowIs.lt h6.out.r2; omega
        refine region_mix (Below (w.heap.size + 3) w6) [(0, true), (1, true), (2, true), (3, true), (4, true), (5, true), (6, true), (7, true), (8, true), (9, true), (10, false), (11, false), (12, false)] (by kernel_rfl) (by kernel_rfl) (Below.refl _ w6).drew ?_
        refine m_val rfl (by rfl) u7 (fun W _ => by go_simp) ?_
        simp only [Act.put, List.setIfInBounds_toArray, List.set_cons_zero, List.set_cons_succ]
        refine m_val rfl (by rfl) (.slice (some ⟨sb, so, none⟩) n c) (fun W _ => by go_simp) ?_
        simp only [Act.put, List.setIfInBounds_toArray, List.set_cons_zero, List.set_cons_succ]
        refine m_val rfl (by rfl) (.int .i64 (k : Int)) (fun W _ => by go_simp) ?_
        simp only [Act.put, List.setIfInBounds_toArray, List.set_cons_zero, List.set_cons_succ]
        refine m_val rfl (by rfl) (.pointer (some ⟨sb, so + k, none⟩)) (fun W _ => by go_simp) ?_
        simp only [Act.put, List.setIfInBounds_toArray, List.set_cons_zero, List.set_cons_succ]
        refine m_val rfl (by rfl) (.int .u8 ((e k).toNat : Int)) (fun W hW => by have cW := (hW.cell (p := ⟨sb, so + k, none⟩) (by show sb < _; omega)).trans cu; go_simp) ?_
        simp only [Act.put, List.setIfInBounds_toArray, List.set_cons_zero, List.set_cons_succ]
        refine m_val rfl (by rfl) (.int .i64 (k : Int)) (fun W _ => by go_simp) ?_
        simp only [Act.put, List.setIfInBounds_toArray, List.set_cons_zero, List.set_cons_succ]
        refine m_val rfl (by rfl) (.int .i64 (m : Int)) (fun W _ => by go_simp) ?_
        simp only [Act.put, List.setIfInBounds_toArray, List.set_cons_zero, List.set_cons_succ]
        refine m_val rfl (by rfl) (.pointer (some ⟨w.heap.size + 2, m, none⟩)) (fun W _ => by go_simp) ?_
        simp only [Act.put, List.setIfInBounds_toArray, List.set_cons_zero, List.set_cons_succ]
        refine m_val rfl (by rfl) (.int .u8 ((M' m).toNat : Int)) (fun W hW => by have cW := (hW.cell (p := ⟨w.heap.size + 2, m, none⟩) (by show w.heap.size + 2 < _; omega)).trans cm; go_simp) ?_
        simp only [Act.put, List.setIfInBounds_toArray, List.set_cons_zero, List.set_cons_succ]
        refine m_val rfl (by rfl) (.int .u8 (bits .xor .u8 ((e k).toNat : Int) ((M' m).toNat : Int))) (fun W _ => by go_simp) ?_
        simp only [Act.put, List.setIfInBounds_toArray, List.set_cons_zero, List.set_cons_succ]
        refine m_go rfl ?_
        go_wp2_with fail
        refine m_on ((Below.refl _ w6).alloc (by omega) _).drew ?_
        refine m_go rfl ?_
        go_wp2_with (at_builtin
                     refine append_bytes (by rfl) (.tmp 27) (.tmp 37) (by rfl) (w.heap.size + 3) k (flipB key at_ e) _ (by rfl) ho1 (w6.heap.size + 1) 1 (fun _ => e k ^^^ M' m) _ (by rfl) hone (by omega) (by simp; omega) ?_
                     intro v3 w3 hown3 hg3 hat3)
        have hn3 : Own w3 (w.heap.size + 3) (k + 1) (flipB key at_ e) v3 := own_next hown3 hx.out
        have hb3 : Below (w.heap.size + 3) w6 w3 := ((Below.refl _ w6).alloc (by omega) _).drew.grown hg3 (by simp; omega) (fun b hb => (ho1.lt hb).1)
        have h5 := h6.out.below hb3 (Nat.le_refl _)
        refine m_on hb3 ?_
        refine m_go rfl ?_
        go_wp2_with fail
        refine m_on hb3 ?_
        refine m_end ?_
        go_wp2
        clear hown3 hg3 hat3 ho1 hone
        exact ⟨⟨k + 1, M', by omega, ival (by omega), h5, fun hne => by rw [show (k + 1) / 16 = k / 16 by omega]; exact HM.out, hn3⟩, by simp [intOf]; omega⟩
      · have b0 : ((m : Int) == 0) = false := by simp; omega
        obtain ⟨M', hM'⟩ : ∃ M', M' = M := ⟨_, rfl⟩
        rw [← hM'] at h hM
        have HM : Hid (Same16 M' (enc key (nextB at_ (k / 16)))) := hM.out hm0
        clear hM hM' hm0 hm
        go_wp2
        have cu := ((h).out.hb.cell (p := ⟨sb, so + k, none⟩) hsb).trans cu0
        have cm : wr.cell? ⟨w.heap.size + 2, m, none⟩ = some (.int .u8 ((M' m).toNat : Int)) := World.rowIs.cell h.out.r2 hm16
        have hx : Hid (flipB key at_ e k = e k ^^^ M' m) := by show e k ^^^ stream key at_ k = _; rw [Hm.out, stream_at HM.out]
        have hone := slice_below (slice_one wr (wr.heap.size + 1) (by omega) (e k ^^^ M' m) (bits .xor .u8 ((e k).toNat : Int) ((M' m).toNat : Int)) (xor8 _ _)) (Below.refl _ _).drew
        have ho1 := (hown.below ((Below.refl _ wr).alloc (Nat.le_refl _) (.cells #[.int .u8 (bits .xor .u8 ((e k).toNat : Int) ((M' m).toNat : Int))] 5))).below (Below.refl _ _).drew
        have hsz2 : w.heap.size + 3 ≤ wr.heap.size := by have := World.rowIs.lt h.out.r2; omega
        refine region_mix (Below (w.heap.size + 3) wr) [(0, true), (1, true), (2, true), (3, true), (4, true), (5, true), (6, true), (7, true), (8, true), (9, true), (10, false), (11, false), (12, false)] (by kernel_rfl) (by kernel_rfl) (Below.refl _ wr).drew ?_
        refine m_val rfl (by rfl) u7 (fun W _ => by go_simp) ?_
        simp only [Act.put, List.setIfInBounds_toArray, List.set_cons_zero, List.set_cons_succ]
        refine m_val rfl (by rfl) (.slice (some ⟨sb, so, none⟩) n c) (fun W _ => by go_simp) ?_
        simp only [Act.put, List.setIfInBounds_toArray, List.set_cons_zero, List.set_cons_succ]
        refine m_val rfl (by rfl) (.int .i64 (k : Int)) (fun W _ => by go_simp) ?_
        simp only [Act.put, List.setIfInBounds_toArray, List.set_cons_zero, List.set_cons_succ]
        refine m_val rfl (by rfl) (.pointer (some ⟨sb, so + k, none⟩)) (fun W _ => by go_simp) ?_
        simp only [Act.put, List.setIfInBounds_toArray, List.set_cons_zero, List.set_cons_succ]
        refine m_val rfl (by rfl) (.int .u8 ((e k).toNat : Int)) (fun W hW => by have cW := (hW.cell (p := ⟨sb, so + k, none⟩) (by show sb < _; omega)).trans cu; go_simp) ?_
        simp only [Act.put, List.setIfInBounds_toArray, List.set_cons_zero, List.set_cons_succ]
        refine m_val rfl (by rfl) (.int .i64 (k : Int)) (fun W _ => by go_simp) ?_
        simp only [Act.put, List.setIfInBounds_toArray, List.set_cons_zero, List.set_cons_succ]
        refine m_val rfl (by rfl) (.int .i64 (m : Int)) (fun W _ => by go_simp) ?_
        simp only [Act.put, List.setIfInBounds_toArray, List.set_cons_zero, List.set_cons_succ]
        refine m_val rfl (by rfl) (.pointer (some ⟨w.heap.size + 2, m, none⟩)) (fun W _ => by go_simp) ?_
        simp only [Act.put, List.setIfInBounds_toArray, List.set_cons_zero, List.set_cons_succ]
        refine m_val rfl (by rfl) (.int .u8 ((M' m).toNat : Int)) (fun W hW => by have cW := (hW.cell (p := ⟨w.heap.size + 2, m, none⟩) (by show w.heap.size + 2 < _; omega)).trans cm; go_simp) ?_
        simp only [Act.put, List.setIfInBounds_toArray, List.set_cons_zero, List.set_cons_succ]
        refine m_val rfl (by rfl) (.int .u8 (bits .xor .u8 ((e k).toNat : Int) ((M' m).toNat : Int))) (fun W _ => by go_simp) ?_
        simp only [Act.put, List.setIfInBounds_toArray, List.set_cons_zero, List.set_cons_succ]
        refine m_go rfl ?_
        go_wp2_with fail
        refine m_on ((Below.refl _ wr).alloc (by omega) _).drew ?_
        refine m_go rfl ?_
        go_wp2_with (at_builtin
                     refine append_bytes (by rfl) (.tmp 27) (.tmp 37) (by rfl) (w.heap.size + 3) k (flipB key at_ e) _ (by rfl) ho1 (wr.heap.size + 1) 1 (fun _ => e k ^^^ M' m) _ (by rfl) hone (by omega) (by simp; omega) ?_
                     intro v3 w3 hown3 hg3 hat3)
        have hn3 : Own w3 (w.heap.size + 3) (k + 1) (flipB key at_ e) v3 := own_next hown3 hx.out
        have hb3 : Below (w.heap.size + 3) wr w3 := ((Below.refl _ wr).alloc (by omega) _).drew.grown hg3 (by simp; omega) (fun b hb => (ho1.lt hb).1)
        have h5 := h.out.below hb3 (Nat.le_refl _)
        refine m_on hb3 ?_
        refine m_go rfl ?_
        go_wp2_with fail
        refine m_on hb3 ?_
        refine m_end ?_
        go_wp2
        clear hown3 hg3 hat3 ho1 hone
        exact ⟨⟨k + 1, M', by omega, ival (by omega), h5, fun hne => by rw [show (k + 1) / 16 = k / 16 by omega]; exact HM.out, hn3⟩, by simp [intOf]; omega⟩
    · have q1 : ¬ (k : Int) < (n : Int) := by omega
      have hkn : k = n := by omega
      rw [hkn] at hown
      have ho := own_base hown (show w.heap.size ≤ w.heap.size + 3 by omega)
      have hb := h.out.hb
      clear hkn hown
      go_wp2
      go_ret
      exact ⟨_, rfl, ho, hb⟩
end Go.Proofs.Ytcdgdoeegehjhaa.Ctr
