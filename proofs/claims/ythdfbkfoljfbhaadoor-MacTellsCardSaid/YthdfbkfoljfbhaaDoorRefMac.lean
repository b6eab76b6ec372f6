/-
  What bartizanref02.xored and Mac do: the document's own code.
-/
import Derived.Test.YthdfbkfoljfbhaaDoorMacExpand
import Derived.Test.YthdfbkfoljfbhaaDoorRefSum
import Derived.Deep.DeepCutAuto
import Derived.Deep.DrawnRows
import Derived.Deep.RegionHeld3
import Derived.Test.YthdfbkfoljfbhaaDoorTake
namespace Go.Proofs.YthdfbkfoljfbhaaDoor.Mac
open Go Go.RowKit Go.Proofs.YthdfbkfoljfbhaaDoor.Aid Go.Proofs.YthdfbkfoljfbhaaDoor.Sha Go.Proofs.YthdfbkfoljfbhaaDoor.Law01

/-- 'x[:]' of an array. -/
theorem arr_all {P : Program} (t e N : TypeId) (hu : P.underlying t = some (.array N e)) (hsz : (P.info? e).map (·.size) = some 1) (b o : Nat) (W : World) :
    (Instr.sliceAt t (.pointer (some ⟨b, o, none⟩)) none none none).run P W = .ok (.slice (some ⟨b, o, none⟩) N N) W := by
  cases hq : P.info? e with
  | none => simp [hq] at hsz
  | some i =>
    simp [Instr.sliceAt, Instr.sliceBounds, Instr.sureAddr, Sem.run_bind, run_underlying hu W, Result.andThen, sizeOf, typeInfo, hq, Addr.add]
theorem own_base {w : World} {base base' m : Nat} {e : Nat → BitVec 8} {v : Value} (h : Own w base m e v) (hb : base' ≤ base) : Own w base' m e v :=
  ⟨h.1, h.2.elim Or.inl (fun ⟨g, cap, cur, hv, hg, r⟩ => Or.inr ⟨g, cap, cur, hv, Nat.le_trans hb hg, r⟩)⟩
/-- The key, or its digest, as xored goes on with it. -/
def KeyRel (K : Nat → BitVec 8) (m : Nat) (w : World) (v : Value) (wr : World) : Prop :=
  ∃ (A : Option Addr) (l c : Nat) (K' : Nat → BitVec 8), v = .slice A l c ∧ l ≤ 64 ∧ SliceOf wr wr.heap.size l K' v ∧ (∀ j, (if j < l then K' j else 0) = padKey K m j) ∧ Below w.heap.size w wr

set_option maxRecDepth 100000 in
set_option maxHeartbeats 1000000 in
theorem xored_any (K : Nat → BitVec 8) (A : Option Addr) (m c : Nat) (x : BitVec 8) (w : World) (hv : SliceOf w w.heap.size m K (.slice A m c)) (hm : m ≤ 400) :
    Calls Tryd.prog 31 #[.slice A m c, .int .u8 (x.toNat : Int)] w fun r w' => ∃ v, r = .returned v ∧ Own w' w.heap.size 64 (xorBy (padKey K m) x) v ∧ Below w.heap.size w w' := by
  go_enter Tryd.func31, Tryd.ntmps31
  go_upto_if 10 with fail
  go_cut [0] (fun v wx => KeyRel K m w v wx)
  case first =>
    by_cases h64 : 64 < m
    · have e0 : decide ((64 : Int) < (m : Int)) = true := by simp; omega
      go_wp2_with (first
        | (go_at_call 11
           refine (refSum_any K A m c w hv hm).mono ?_
           rintro e1 w1 ⟨rfl, hb1⟩)
        | (refine store_whole (by rfl) 24 (.tmp 5) (.tmp 12) (by rfl) w1.heap.size _ 32 (fun _ => .int .u8 0) (fun j => .int .u8 ((digest K m j).toNat : Int)) (by exact row_new w1 _ _ 32 _ (by rfl) (zeros32 _ (by rfl))) (by rfl) _ (by rfl) (by kernel_rfl) (size_cellsOf _ _) (cellsOf_at _ _) (fun _ _ => rfl) ?_
           intro w2 hr2 ho2
           have hb2 := ho2.below (hb1.alloc hb1.size _) hb1.size
           clear ho2))
      go_meet
      have hlt2 := hr2.lt
      refine ⟨_, 32, 32, digest K m, rfl, by omega, ⟨_, _, rfl, by omega, fun _ => ⟨w1.heap.size, 0, rfl, by omega, fun j hj => by rw [Nat.zero_add, hr2.cell hj]⟩⟩, fun j => ?_, hb2⟩
      unfold padKey
      rw [if_pos h64]
    · have e0 : decide ((64 : Int) < (m : Int)) = false := by simp; omega
      go_wp2
      go_meet
      refine ⟨_, m, c, K, rfl, by omega, hv, fun j => ?_, Below.refl _ _⟩
      unfold padKey
      rw [if_neg h64]
  case rest =>
    obtain ⟨A', l, c', K', rfl, hl, hk, hpad, hb1⟩ := hcut
    clear hv
    have Hpad := Lib.hid hpad
    clear hpad
    go_wp2
    go_loopw [6, 7] (fun o i wr => ∃ k : Nat, k ≤ 64 ∧ i = .int .i64 k ∧ Own wr wc.heap.size k (xorBy (padKey K m) x) o ∧ Below wc.heap.size wc wr) (fun _ i _ => 64 - (intOf i).toNat)
    case atStart => exact ⟨0, by omega, rfl, World.ownsRow_nil _ _ _ _, Below.refl _ _⟩
    case round =>
      obtain ⟨k, hk64, rfl, hown, hb⟩ := hrel
      have hBs := hb.size
      obtain ⟨v0b, hv0⟩ : ∃ y, Hid (u6.ownBlock = y) := ⟨_, rfl⟩
      by_cases hlt : k < 64
      · have q0 : (0 : Int) ≤ (k : Int) := by omega
        have q1 : (k : Int) < 64 := by omega
        by_cases hkl : k < l
        · have q2 : (k : Int) < (l : Int) := by omega
          obtain ⟨A'', c'', e1, _, r1⟩ := hk
          simp only [Value.slice.injEq, true_and] at e1
          obtain ⟨rfl, rfl⟩ := e1
          obtain ⟨sb, so, rfl, _, hc⟩ := r1 (by omega)
          have cu0 := hc k hkl
          have hsb : sb < wc.heap.size := block_lt_of_cell cu0
          have cu := (hb.cell (p := ⟨sb, so + k, none⟩) hsb).trans cu0
          have hx : Hid (xorBy (padKey K m) x k = K' k ^^^ x) := by
            have := Hpad.out k
            rw [if_pos hkl] at this
            show padKey K m k ^^^ x = _
            rw [← this]
          have hone := slice_one wr (wr.heap.size + 1) (by omega) (K' k ^^^ x) (bits .xor .u8 ((K' k).toNat : Int) (x.toNat : Int)) (xor8 _ _)
          have ho1 := hown.below ((Below.refl _ wr).alloc (Nat.le_refl _) (.cells #[.int .u8 (bits .xor .u8 ((K' k).toNat : Int) (x.toNat : Int))] 5))
          clear hc cu0 r1
          go_wp2_with (at_builtin
                       refine append_bytes (by rfl) (.tmp 22) (.tmp 29) (by rfl) wc.heap.size k (xorBy (padKey K m) x) _ (by rfl) ho1 (wr.heap.size + 1) 1 (fun _ => K' k ^^^ x) _ (by rfl) hone (by omega) (by simp; omega) ?_
                       intro v3 w3 hown3 hg3 hat3)
          have h3 : Own w3 wc.heap.size (k + 1) (xorBy (padKey K m) x) v3 := own_next hown3 hx.out
          have hb3 : Below wc.heap.size wc w3 := (hb.alloc hb.size _).grown hg3 (by simp; omega) (fun b hb => (ho1.lt hb).1)
          clear hown3 hg3 hat3 hown hb ho1 hone
          go_roundw
          case rel => exact ⟨k + 1, by omega, by go_num, h3, hb3⟩
          case measure => simp [intOf]; omega
        · have q2 : ¬ (k : Int) < (l : Int) := by omega
          have hx : Hid (xorBy (padKey K m) x k = x) := by
            have := Hpad.out k
            rw [if_neg hkl] at this
            show padKey K m k ^^^ x = _
            rw [← this]
            simp
          have hone := slice_one wr (wr.heap.size + 1) (by omega) x (x.toNat : Int) rfl
          have ho1 := hown.below ((Below.refl _ wr).alloc (Nat.le_refl _) (.cells #[.int .u8 (x.toNat : Int)] 5))
          go_wp2_with (at_builtin
                       refine append_bytes (by rfl) (.tmp 31) (.tmp 33) (by rfl) wc.heap.size k (xorBy (padKey K m) x) _ (by rfl) ho1 (wr.heap.size + 1) 1 (fun _ => x) _ (by rfl) hone (by omega) (by simp; omega) ?_
                       intro v3 w3 hown3 hg3 hat3)
          have h3 : Own w3 wc.heap.size (k + 1) (xorBy (padKey K m) x) v3 := own_next hown3 hx.out
          have hb3 : Below wc.heap.size wc w3 := (hb.alloc hb.size _).grown hg3 (by simp; omega) (fun b hb => (ho1.lt hb).1)
          clear hown3 hg3 hat3 hown hb ho1 hone
          go_roundw
          case rel => exact ⟨k + 1, by omega, by go_num, h3, hb3⟩
          case measure => simp [intOf]; omega
      · obtain rfl : k = 64 := by omega
        have hw := hb1.trans (hb.mono hb1.size)
        have ho := own_base hown hb1.size
        clear hown hb hk
        go_wp2
        go_ret
        exact ⟨_, rfl, ho, hw⟩

set_option maxRecDepth 100000 in
set_option maxHeartbeats 1000000 in
theorem refMac_any (K D : Nat → BitVec 8) (A B : Option Addr) (m c n d : Nat) (w : World) (hkey : SliceOf w w.heap.size m K (.slice A m c)) (hm : m ≤ 300) (hs : SliceOf w w.heap.size n D (.slice B n d)) (hn : n ≤ 300) :
    Calls Tryd.prog 21 #[.slice A m c, .slice B n d] w fun x w' => x = .returned (.agg (byteCells 32 (code K m D n))) ∧ Below w.heap.size w w' := by
  have hr0 := row_new w (Array.replicate 32 (.int .u8 0)) 24 32 _ (by simp) (zeros32 _ rfl)
  have hb0 := (Below.refl w.heap.size w).alloc (Nat.le_refl _) (.cells (Array.replicate 32 (.int .u8 0)) 24)
  have hk0 := slice_any (slice_below hkey hb0) (Nat.le_refl _)
  have hs0 := slice_any (slice_below hs hb0) (Nat.le_refl _)
  obtain ⟨P, hP⟩ : ∃ P, P = padKey K m := ⟨_, rfl⟩
  have HP := Lib.hid hP
  clear hkey hs
  go_enter Tryd.func21, Tryd.ntmps21
  go_wp2_with fail
  change Calls Tryd.prog 31 _ (w.alloc (.cells (Array.replicate 32 (.int .u8 0)) 24)) _
  generalize w.alloc (.cells (Array.replicate 32 (.int .u8 0)) 24) = w0 at *
  refine (xored_any K A m c 54 w0 hk0 (by omega)).mono ?_
  rw [← hP]
  rintro x w1 ⟨v1, rfl, hown1, hb1⟩
  obtain ⟨g1, cap1, rfl⟩ : ∃ g1 cap1, v1 = .slice (some ⟨g1, 0, none⟩) 64 cap1 := by
    rcases hown1.form with ⟨_, h0⟩ | ⟨g, cap, cur, rfl, _⟩
    · omega
    · exact ⟨_, _, rfl⟩
  have hs1 := slice_any (slice_below hs0 hb1) (Nat.le_refl _)
  have hBB := hb1.size
  have hlt0 : w.heap.size < w0.heap.size := hr0.lt
  clear hP hs0
  go_wp2_with (at_builtin
               refine append_bytes (by rfl) (.tmp 7) (.tmp 8) (by rfl) w0.heap.size 64 (xorBy P 54) _ (by rfl) hown1 w1.heap.size n D _ (by rfl) hs1 (by omega) hBB ?_
               intro v2 w2 hown2 hg2 hat2)
  obtain ⟨g2, cap2, rfl⟩ : ∃ g2 cap2, v2 = .slice (some ⟨g2, 0, none⟩) (64 + n) cap2 := by
    rcases hown2.form with ⟨_, h0⟩ | ⟨g, cap, cur, rfl, _⟩
    · omega
    · exact ⟨_, _, rfl⟩
  have hne1 : ∀ b, b < w0.heap.size → some b ≠ (Value.slice (some ⟨g1, 0, none⟩) 64 cap1).ownBlock := fun b hb e1 => by have := (hown1.lt e1.symm).1; omega
  have h02 : Below w0.heap.size w0 w2 := hb1.trans ⟨hg2.os, hg2.tape, hg2.output, hg2.size, fun b hb => hg2.block b (by omega) (hne1 b hb)⟩
  have hs2 := hown2.slice (g' := w2.heap.size) (.inr (Nat.le_refl _))
  clear hown1 hown2 hg2 hat2 hne1 hb1 hs1 hBB
  refine (refSum_any _ _ (64 + n) cap2 w2 hs2 (by omega)).mono ?_
  obtain ⟨I, hI⟩ : ∃ I, I = inner P D n := ⟨_, rfl⟩
  rw [show digest (cat (xorBy P 54) 64 D) (64 + n) = I by rw [hI]; rfl]
  have HI := Lib.hid hI
  rintro x w3 ⟨rfl, hb3⟩
  have h03 := h02.trans (hb3.mono h02.size)
  clear hI hs2 hb3 h02
  go_wp2_with (refine store_whole (by rfl) 24 (.tmp 5) (.tmp 10) (by rfl) w3.heap.size _ 32 (fun _ => .int .u8 0) (fun j => .int .u8 ((I j).toNat : Int)) (by exact row_new w3 _ _ 32 _ (by rfl) (zeros32 _ (by rfl))) (by rfl) _ (by rfl) (by kernel_rfl) (size_cellsOf _ _) (cellsOf_at _ _) (fun _ _ => rfl) ?_
               intro w4 hr4 ho4
               have h04 := ho4.below (h03.alloc h03.size _) h03.size
               have hlt4 : w3.heap.size < w4.heap.size := hr4.lt
               clear ho4 h03)
  have hk4 := slice_any (slice_below hk0 h04) (Nat.le_refl w4.heap.size)
  have hsz0 := h04.size
  have hk4' : SliceOf w4.drew w4.drew.heap.size m K (.slice A m c) := hk4
  refine wp_region_noPanic ?_
  refine region_02 (.slice A m c) (.slice (some ⟨w3.heap.size, 0, none⟩) 32 32) (by kernel_rfl) (by kernel_rfl) (fun _ _ _ h => h) (fun _ _ _ h => h) (.inl ⟨rfl, fun _ => rfl⟩) (.inl ⟨rfl, fun W => ?_⟩) ?_
  · simp [execOp, Act.put]
    show ((Instr.sliceAt 24 (.pointer (some ⟨w3.heap.size, 0, none⟩)) none none none).run Tryd.prog W).andThen _ = _
    rw [arr_all 24 5 32 Tryd.underlying24 (by kernel_rfl)]
    rfl
  simp only [Act.put]
  go_wp2_with fail
  refine (xored_any K A m c 92 w4.drew hk4' (by omega)).mono ?_
  rw [← HP.out]
  rintro x w5 ⟨v5, rfl, hown5, hb5⟩
  obtain ⟨g5, cap5, rfl⟩ : ∃ g5 cap5, v5 = .slice (some ⟨g5, 0, none⟩) 64 cap5 := by
    rcases hown5.form with ⟨_, h0⟩ | ⟨g, cap, cur, rfl, _⟩
    · omega
    · exact ⟨_, _, rfl⟩
  have h45 : Below w4.heap.size w4 w5 := (Below.refl _ w4).drew.trans hb5
  have hr5 := hr4.of_block (h45.block _ hlt4)
  have hlt5 : w4.heap.size ≤ w5.heap.size := h45.size
  have hsl5 : SliceOf w5 w5.heap.size 32 I (.slice (some ⟨w3.heap.size, 0, none⟩) 32 32) := ⟨_, _, rfl, by omega, fun _ => ⟨w3.heap.size, 0, rfl, by omega, fun j hj => by rw [Nat.zero_add, hr5.cell hj]⟩⟩
  have h05 := h04.trans (h45.mono h04.size)
  clear hk4 hk4' hr4 h04 h45 hb5 hr5
  go_wp2_with (at_builtin
               refine append_bytes (by rfl) (.tmp 12) (.tmp 13) (by rfl) w4.heap.size 64 (xorBy P 92) _ (by rfl) hown5 w5.heap.size 32 I _ (by rfl) hsl5 (by omega) hlt5 ?_
               intro v6 w6 hown6 hg6 hat6)
  obtain ⟨g6, cap6, rfl⟩ : ∃ g6 cap6, v6 = .slice (some ⟨g6, 0, none⟩) 96 cap6 := by
    rcases hown6.form with ⟨_, h0⟩ | ⟨g, cap, cur, rfl, _⟩
    · omega
    · exact ⟨_, _, rfl⟩
  have hne5 : ∀ b, b < w4.heap.size → some b ≠ (Value.slice (some ⟨g5, 0, none⟩) 64 cap5).ownBlock := fun b hb e1 => by have := (hown5.lt e1.symm).1; simp at this; omega
  have h06 : Below w0.heap.size w0 w6 := h05.trans ⟨hg6.os, hg6.tape, hg6.output, hg6.size, fun b hb => hg6.block b (by omega) (hne5 b (by omega))⟩
  have hs6 := hown6.slice (g' := w6.heap.size) (.inr (Nat.le_refl _))
  have hr6 := hr0.of_block (h06.block _ hlt0)
  clear hown5 hown6 hg6 hat6 hne5 h05 hsl5
  refine (refSum_any _ _ 96 cap6 w6 hs6 (by omega)).mono ?_
  rw [show digest (cat (xorBy P 92) 64 I) 96 = code K m D n by unfold code; rw [← HP.out]; unfold codeP; rw [← HI.out]]
  rintro x w7 ⟨rfl, hb7⟩
  have hr7 := hr6.of_block (hb7.block _ hr6.lt)
  have h07 := h06.trans (hb7.mono h06.size)
  have hw7 := hb0.trans (h07.mono hb0.size)
  clear hs6 hr6 hb7 h06 h07 hb0 hr0 hk0 HP HI
  go_wp2_with (refine store_whole (by rfl) 24 (.tmp 4) (.tmp 15) (by rfl) w.heap.size _ 32 _ (fun t => .int .u8 ((code K m D n t).toNat : Int)) hr7 (by rfl) _ (by rfl) (by kernel_rfl) (size_cellsOf _ _) (cellsOf_at _ _) (fun _ _ => rfl) ?_
               intro w8 hr8 ho8)
  refine NoPanic.normal ?_
  go_wp2
  exact bodyPost_ret (results_row rfl _ w.heap.size _ _ _ _ (by rfl) hr8 Tryd.underlying24 rfl (by kernel_rfl)) rfl ⟨rfl, ho8.below hw7 (Nat.le_refl _)⟩
end Go.Proofs.YthdfbkfoljfbhaaDoor.Mac
