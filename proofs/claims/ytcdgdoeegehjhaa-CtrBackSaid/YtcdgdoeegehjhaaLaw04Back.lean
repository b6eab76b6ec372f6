/-
  bartizanlaw04.CtrBack, by what the program's own functions do: true, whatever the input.
-/
import Derived.Test.YtcdgdoeegehjhaaLaw04Tells
namespace Go.Proofs.Ytcdgdoeegehjhaa.Ctr
open Go Go.RowKit Go.Proofs.Ytcdgdoeegehjhaa.Aid Go.Proofs.Ytcdgdoeegehjhaa.Aes

/-- 'b[k:]' of any bytes, as a value and as what it reads. -/
theorem tail_slice {w : World} {g m k c : Nat} {e : Nat → BitVec 8} {A : Option Addr} (h : SliceOf w g m e (.slice A m c)) (h0 : 0 < m) (hk : k ≤ m) :
    ∃ A' : Option Addr, (∀ (kd : IntKind) (W : World), (Instr.sliceAt 23 (.slice A m c) (some (.int kd (k : Int))) none none).run Try.prog W = .ok (.slice A' (m - k) (c - k)) W) ∧ SliceOf w g (m - k) (fun j => e (k + j)) (.slice A' (m - k) (c - k)) := by
  obtain ⟨A2, c2, ea, hc, r1⟩ := h
  simp only [Value.slice.injEq, true_and] at ea
  obtain ⟨rfl, rfl⟩ := ea
  obtain ⟨sb, so, rfl, hne, hcell⟩ := r1 h0
  obtain ⟨A', hA', hrun⟩ := cut_run (P := Try.prog) 23 5 Try.underlying23 (by kernel_rfl) sb so m c k hk hc
  refine ⟨A', hrun, A', c - k, rfl, by omega, fun hm => ⟨sb, so + k, hA' hm, hne, fun j hj => ?_⟩⟩
  rw [Nat.add_assoc]
  exact hcell (k + j) (by omega)

/-- What the law holds at its loop's head. -/
structure BackRel (K D e : Nat → BitVec 8) (A F : Option Addr) (n c cf : Nat) (w wr : World) : Prop where
  r0 : RowB wr w.heap.size 22 16 K
  r1 : RowB wr (w.heap.size + 1) 22 16 D
  hs : SliceOf wr wr.heap.size n e (.slice A n c)
  hf : SliceOf wr wr.heap.size n (flipB K D e) (.slice F n cf)
  hb : Below w.heap.size w wr
theorem BackRel.below {K D e : Nat → BitVec 8} {A F : Option Addr} {n c cf : Nat} {w wr wr' : World} (h : BackRel K D e A F n c cf w wr) (hb : Below wr.heap.size wr wr') : BackRel K D e A F n c cf w wr' :=
  ⟨World.rowIs.of_block h.r0 (hb.block _ (World.rowIs.lt h.r0)), World.rowIs.of_block h.r1 (hb.block _ (World.rowIs.lt h.r1)), slice_any (slice_below h.hs hb) (Nat.le_refl _), slice_any (slice_below h.hf hb) (Nat.le_refl _), h.hb.trans (hb.mono h.hb.size)⟩

set_option maxRecDepth 100000 in
set_option maxHeartbeats 2000000 in
theorem back_any (C : CtrHas) (K D e : Nat → BitVec 8) (X Y : Array Value) (hX : X.size = 16) (hXi : ∀ i, i < 16 → X[i]? = some (.int .u8 ((K i).toNat : Int))) (hY : Y.size = 16) (hYi : ∀ i, i < 16 → Y[i]? = some (.int .u8 ((D i).toNat : Int)))
    (A : Option Addr) (n c : Nat) (w : World) (hs : SliceOf w w.heap.size n e (.slice A n c)) :
    Calls Try.prog 4 #[.agg X, .agg Y, .slice A n c] w fun x w' => x = .returned (.bool true) ∧ Below w.heap.size w w' := by
  obtain ⟨W, hW, hk0, ha0, hb0⟩ := two_new K D X Y hX hXi hY hYi w
  have HS := Lib.hid hs
  clear hXi hYi hs
  go_enter Try.func4, Try.ntmps4
  go_wp2_with fail
  rw [← hW]
  clear hW
  refine (awake_any C W).mono ?_
  rintro x w1 ⟨rfl, hb1⟩
  have hk1 : RowB w1 w.heap.size _ 16 K := World.rowIs.of_block hk0 (hb1.block _ (World.rowIs.lt hk0))
  have ha1 : RowB w1 (w.heap.size + 1) _ 16 D := World.rowIs.of_block ha0 (hb1.block _ (World.rowIs.lt ha0))
  have hl1 := hb0.trans (hb1.mono hb0.size)
  clear hk0 ha0 hb0 hb1
  by_cases hn : (200 : Int) < (n : Int)
  · go_wp2
    go_ret
    exact ⟨rfl, hl1⟩
  · have hn' : n ≤ 200 := by omega
    have hs1 : SliceOf w1 w1.heap.size n e (.slice A n c) := slice_any (slice_below HS.out hl1) (Nat.le_refl _)
    have Hs1 := Lib.hid hs1
    clear hs1 HS
    go_wp2_with (first
      | (refine load_whole (by rfl) 22 (.tmp 3) (by rfl) _ _ _ _ hk1 (by rfl) _ Try.underlying22 rfl (by kernel_rfl) ?_)
      | (refine load_whole (by rfl) 22 (.tmp 4) (by rfl) _ _ _ _ ha1 (by rfl) _ Try.underlying22 rfl (by kernel_rfl) ?_)
      | (go_at_call 8
         refine (C.flip K D e _ _ (size_cellsOf _ _) (cellsOf_at _ _) (size_cellsOf _ _) (cellsOf_at _ _) A n c w1 Hs1.out (by omega)).mono ?_
         rintro x w2 ⟨F, cf, rfl, hf2, hb2⟩
         have h2 : Hid (BackRel K D e A F n c cf w w2) := ⟨World.rowIs.of_block hk1 (hb2.block _ (World.rowIs.lt hk1)), World.rowIs.of_block ha1 (hb2.block _ (World.rowIs.lt ha1)), slice_any (slice_below Hs1.out hb2) (Nat.le_refl _), hf2, hl1.trans (hb2.mono hl1.size)⟩
         have hk2 := h2.out.r0
         have ha2 := h2.out.r1
         clear hk1 ha1 hl1 hb2 hf2 Hs1)
      | (refine load_whole (by rfl) 22 (.tmp 3) (by rfl) _ _ _ _ hk2 (by rfl) _ Try.underlying22 rfl (by kernel_rfl) ?_)
      | (refine load_whole (by rfl) 22 (.tmp 4) (by rfl) _ _ _ _ ha2 (by rfl) _ Try.underlying22 rfl (by kernel_rfl) ?_)
      | (go_at_call 8
         refine (C.flip K D (flipB K D e) _ _ (size_cellsOf _ _) (cellsOf_at _ _) (size_cellsOf _ _) (cellsOf_at _ _) F n cf w2 h2.out.hf (by omega)).mono ?_
         rintro x w3 ⟨G, cg, rfl, hg3, hb3⟩
         have h3 := Lib.hid (h2.out.below hb3)
         have Hg3 : Hid (SliceOf w3 w3.heap.size n (flipB K D (flipB K D e)) (.slice G n cg)) := hg3
         clear hk2 ha2 h2 hb3 hg3)
      | (go_at_call 7
         refine (Mac.same_gen G A n n cg c (flipB K D (flipB K D e)) e _ _ w3 Hg3.out h3.out.hs (by omega) (by omega)).mono ?_
         rintro x w4 ⟨rfl, q4, hw4⟩
         rw [Mac.same_refl _ _ _ (fun j _ => flip_flip K D e j)]
         have h4 : Hid (BackRel K D e A F n c cf w w4) := by rw [hw4]; exact h3.out.below ⟨rfl, rfl, rfl, Nat.le_refl _, fun _ _ => rfl⟩
         clear hw4 h3 Hg3))
    go_loopw [10, 11, 12] (fun i _ _ wr => ∃ I q : Nat, i = .int .i64 (I : Int) ∧ I ≤ 216 ∧ 1 ≤ q ∧ Hid (I = 16 * q) ∧ Hid (BackRel K D e A F n c cf w wr)) (fun i _ _ _ => 300 - (intOf i).toNat)
    case atStart => exact ⟨16, 1, rfl, by omega, by omega, rfl, h4.out⟩
    case round =>
      clear h4
      obtain ⟨I, q, rfl, hI, hq1, HI, h⟩ := hrel
      by_cases hlt : I ≤ n
      · have q0 : (I : Int) ≤ (n : Int) := by omega
        have q1 : (0 : Int) ≤ (I : Int) := by omega
        have e1 : (I : Int) / 16 = (q : Int) := by have := HI.out; omega
        have e2 : (I : Int).tdiv 16 = (q : Int) := by rw [Int.tdiv_eq_ediv_of_nonneg (by omega)]; exact e1
        have hq20 : q ≤ 20 := by have := HI.out; omega
        have hI0 : 0 < I := by have := HI.out; omega
        have e3 : IntKind.i64.wrap (q : Int) = (q : Int) := IntWalk.i64_in _ (by omega)
        have e4 : IntKind.u64.wrap (q : Int) = (q : Int) := IntWalk.u64_in _ (by omega)
        obtain ⟨A2, hrun2, hs2⟩ := tail_slice h.out.hs (by omega) hlt
        obtain ⟨F2, hrunF, hf2⟩ := tail_slice h.out.hf (by omega) hlt
        have Hs2 := Lib.hid hs2
        have Hf2 := Lib.hid hf2
        have hk1 := h.out.r0
        have ha1 := h.out.r1
        clear hs2 hf2
        go_wp2
        refine region_mix (Below wr.heap.size wr) [(0, true), (1, true), (2, true), (3, true), (4, true), (6, true), (7, true), (8, true), (5, false), (9, false), (10, false)] (by kernel_rfl) (by kernel_rfl) (Below.refl _ wr).drew ?_
        refine m_load rfl (by rfl) 22 (.tmp 3) (by rfl) w.heap.size 0 _ 16 16 _ (fun W hW => World.rowIs.of_block hk1 (hW.block _ (World.rowIs.lt hk1))) (by rfl) _ Try.underlying22 rfl (by kernel_rfl) (by decide) ?_
        simp only [Act.put, List.setIfInBounds_toArray, List.set_cons_zero, List.set_cons_succ, Nat.zero_add]
        refine m_load rfl (by rfl) 22 (.tmp 4) (by rfl) (w.heap.size + 1) 0 _ 16 16 _ (fun W hW => World.rowIs.of_block ha1 (hW.block _ (World.rowIs.lt ha1))) (by rfl) _ Try.underlying22 rfl (by kernel_rfl) (by decide) ?_
        simp only [Act.put, List.setIfInBounds_toArray, List.set_cons_zero, List.set_cons_succ, Nat.zero_add]
        refine m_val rfl (by rfl) (.int .i64 (I : Int)) (fun W _ => by go_simp) ?_
        simp only [Act.put, List.setIfInBounds_toArray, List.set_cons_zero, List.set_cons_succ]
        refine m_val rfl (by rfl) (.int .i64 (q : Int)) (fun W _ => by go_simp) ?_
        simp only [Act.put, List.setIfInBounds_toArray, List.set_cons_zero, List.set_cons_succ]
        refine m_val rfl (by rfl) (.int .u64 (q : Int)) (fun W _ => by go_simp) ?_
        simp only [Act.put, List.setIfInBounds_toArray, List.set_cons_zero, List.set_cons_succ]
        refine m_val rfl (by rfl) (.slice A n c) (fun W _ => by go_simp) ?_
        simp only [Act.put, List.setIfInBounds_toArray, List.set_cons_zero, List.set_cons_succ]
        refine m_val rfl (by rfl) (.int .i64 (I : Int)) (fun W _ => by go_simp) ?_
        simp only [Act.put, List.setIfInBounds_toArray, List.set_cons_zero, List.set_cons_succ]
        refine m_val rfl (by rfl) (.slice A2 (n - I) (c - I)) (fun W _ => by go_simp) ?_
        simp only [Act.put, List.setIfInBounds_toArray, List.set_cons_zero, List.set_cons_succ]
        refine m_go rfl ?_
        go_wp2_with fail
        refine (C.next D q (by omega) _ (size_cellsOf _ _) (cellsOf_at _ _) wr.drew).mono ?_
        rintro x w2 ⟨rfl, hb2⟩
        have hb2' : Below wr.heap.size wr w2 := (Below.refl _ wr).drew.trans hb2
        have Hs3 : Hid (SliceOf w2 w2.heap.size (n - I) (fun j => e (I + j)) (.slice A2 (n - I) (c - I))) := slice_any (slice_below Hs2.out hb2') (Nat.le_refl _)
        have Hf3 : Hid (SliceOf w2 w2.heap.size (n - I) (fun j => flipB K D e (I + j)) (.slice F2 (n - I) (cf - I))) := slice_any (slice_below Hf2.out hb2') (Nat.le_refl _)
        have h2 := Lib.hid (h.out.below hb2')
        clear hb2 Hs2 Hf2 hk1 ha1 h
        go_wp2_with fail
        refine m_on hb2' ?_
        refine m_go rfl ?_
        go_wp2_with fail
        refine (C.flip K (nextB D q) (fun j => e (I + j)) _ _ (size_cellsOf _ _) (cellsOf_at _ _) (size_cellsOf _ _) (cellsOf_at _ _) A2 (n - I) (c - I) w2 Hs3.out (by omega)).mono ?_
        rintro x w3 ⟨P3, c3, rfl, hp3, hb3⟩
        have hb3' : Below wr.heap.size wr w3 := hb2'.trans (hb3.mono hb2'.size)
        have Hf4 : Hid (SliceOf w3 w3.heap.size (n - I) (fun j => flipB K D e (I + j)) (.slice F2 (n - I) (cf - I))) := slice_any (slice_below Hf3.out hb3) (Nat.le_refl _)
        have Hp4 := Lib.hid hp3
        have h3 := Lib.hid (h2.out.below hb3)
        clear hb3 Hs3 Hf3 h2 hp3 hb2'
        go_wp2_with fail
        refine m_on hb3' ?_
        refine m_go rfl ?_
        go_wp2_with fail
        refine m_on hb3' ?_
        refine m_end ?_
        clear hb3'
        go_wp2_with (go_at_call 7
                     refine (Mac.same_gen P3 F2 (n - I) (n - I) c3 (cf - I) _ _ _ _ w3 Hp4.out Hf4.out (by omega) (by omega)).mono ?_
                     rintro x w4 ⟨rfl, q4, hw4⟩
                     rw [Mac.same_refl _ _ _ (fun j _ => by rw [HI.out]; exact flip_part K D e q j)]
                     have h4 : Hid (BackRel K D e A F n c cf w w4) := by rw [hw4]; exact h3.out.below ⟨rfl, rfl, rfl, Nat.le_refl _, fun _ _ => rfl⟩
                     clear hw4 h3 Hp4 Hf4)
        exact ⟨⟨I + 16, q + 1, ival (by omega), by omega, by omega, by show _ = _; rw [HI.out]; omega, h4.out⟩, by simp [intOf]; omega⟩
      · have q0 : ¬ (I : Int) ≤ (n : Int) := by omega
        have hb := h.out.hb
        go_wp2
        go_ret
        exact ⟨rfl, hb⟩
end Go.Proofs.Ytcdgdoeegehjhaa.Ctr
