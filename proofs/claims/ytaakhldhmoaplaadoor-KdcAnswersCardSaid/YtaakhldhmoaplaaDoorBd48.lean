/-
  What bartizanref05.Open does: the document's own plaintext of a sealed form, or why not. What the document's Seal and Open do of any arguments, in the same forms.
-/
import Derived.Test.YtaakhldhmoaplaaDoorBd24
import Derived.Test.YtaakhldhmoaplaaDoorBd13
namespace Go.Proofs.YtaakhldhmoaplaaDoor.Seal
open Go Go.RowKit Go.Proofs.YtaakhldhmoaplaaDoor.Aid Go.Proofs.YtaakhldhmoaplaaDoor.Sha Go.Proofs.YtaakhldhmoaplaaDoor.Mac Go.Proofs.YtaakhldhmoaplaaDoor.Aes Go.Proofs.YtaakhldhmoaplaaDoor.Ctr

set_option maxRecDepth 100000 in
theorem refOpen_arg (s : ByteArray) (h : ¬ (1 ≤ s.size ∧ s.size ≤ 40)) (C : Array Value) (B : Option Addr) (m d : Nat) (w : World) :
    Calls Tryd.prog 31 #[.agg C, .string s, .slice B m d] w fun x w' => x = .returned (.tuple #[.slice none 0 0, .int .i64 1]) ∧ Below w.heap.size w w' := by
  have hb : Below w.heap.size w (w.alloc (.cells C 25)) := (Below.refl _ _).alloc (Nat.le_refl _) _
  by_cases hz : s.size = 0
  · have hE : s.toList = [] := (str_none s).2 hz
    go_enter Tryd.func31, Tryd.ntmps31
    go_wp2
    go_ret2
    exact ⟨rfl, hb⟩
  · have hE : ¬ s.toList = [] := fun h => hz ((str_none s).1 h)
    have hg : (40 : Int) < (s.size : Int) := by omega
    go_enter Tryd.func31, Tryd.ntmps31
    go_wp2
    go_ret2
    exact ⟨rfl, hb⟩
set_option maxRecDepth 100000 in
theorem refOpen_short (s : ByteArray) (h : 1 ≤ s.size ∧ s.size ≤ 40) (C : Array Value) (B : Option Addr) (m d : Nat) (hm : m < 48) (w : World) :
    Calls Tryd.prog 31 #[.agg C, .string s, .slice B m d] w fun x w' => x = .returned (.tuple #[.slice none 0 0, .int .i64 2]) ∧ Below w.heap.size w w' := by
  have hb : Below w.heap.size w (w.alloc (.cells C 25)) := (Below.refl _ _).alloc (Nat.le_refl _) _
  have hE : s.toList.isEmpty = false := str_some s h.1
  have hg : ¬ (40 : Int) < (s.size : Int) := by omega
  have q0 : (m : Int) < 48 := by omega
  go_enter Tryd.func31, Tryd.ntmps31
  go_wp2
  go_ret2
  exact ⟨rfl, hb⟩
set_option maxRecDepth 100000 in
theorem refOpen_full (s : ByteArray) (h : 1 ≤ s.size ∧ s.size ≤ 40) (C : Array Value) (B : Option Addr) (m d : Nat) (hm : 1048 < m) (w : World) :
    Calls Tryd.prog 31 #[.agg C, .string s, .slice B m d] w fun x w' => x = .returned (.tuple #[.slice none 0 0, .int .i64 7]) ∧ Below w.heap.size w w' := by
  have hb : Below w.heap.size w (w.alloc (.cells C 25)) := (Below.refl _ _).alloc (Nat.le_refl _) _
  have hE : s.toList.isEmpty = false := str_some s h.1
  have hg : ¬ (40 : Int) < (s.size : Int) := by omega
  have q0 : ¬ (m : Int) < 48 := by omega
  have q1 : (1048 : Int) < (m : Int) := by omega
  go_enter Tryd.func31, Tryd.ntmps31
  go_wp2
  go_ret2
  exact ⟨rfl, hb⟩

set_option maxRecDepth 100000 in
set_option maxHeartbeats 4000000 in
theorem refOpen_ok (key e : Nat → BitVec 8) (s : ByteArray) (h : 1 ≤ s.size ∧ s.size ≤ 40) (C : Array Value) (hC : C.size = 16) (hCi : ∀ i, i < 16 → C[i]? = some (.int .u8 ((key i).toNat : Int)))
    (B : Option Addr) (m d : Nat) (w : World) (hp : SliceOf w w.heap.size m e (.slice B m d)) (hm : 48 ≤ m) (hm2 : m ≤ 1048) :
    Calls Tryd.prog 31 #[.agg C, .string s, .slice B m d] w (OpenPost (keysB key s) e m w) := by
  have hE : s.toList.isEmpty = false := str_some s h.1
  have hg : ¬ (40 : Int) < (s.size : Int) := by omega
  have q0 : ¬ (m : Int) < 48 := by omega
  have q1 : ¬ (1048 : Int) < (m : Int) := by omega
  have e1 : IntKind.i64.wrap ((m : Int) - 32) = (m : Int) - 32 := IntWalk.i64_in _ (by omega)
  have h1 : ∃ w1, w1 = w.alloc (.cells C 25) ∧ RowB w1 w.heap.size 25 16 key ∧ Below w.heap.size w w1 :=
    ⟨_, rfl, row_new w C 25 16 (fun j => .int .u8 ((key j).toNat : Int)) hC hCi, (Below.refl _ _).alloc (Nat.le_refl _) _⟩
  obtain ⟨w1, hw1, hr1, hb1⟩ := h1
  obtain ⟨B', d', eB, hmd, hB⟩ := hp
  simp only [Value.slice.injEq, true_and] at eB
  obtain ⟨rfl, rfl⟩ := eB
  obtain ⟨sb, so, rfl, _, hcell⟩ := hB (by omega)
  have hsb : sb < w.heap.size := block_lt_of_cell (hcell 0 (by omega))
  have Hcell := Lib.hid hcell
  have hx : ∀ j, j < 16 → (w.alloc (.cells C 25)).cell? ⟨w.heap.size, 0 + j, none⟩ = some (.int .u8 ((key j).toNat : Int)) := fun j hj => by rw [← hw1, Nat.zero_add]; exact World.rowIs.cell hr1 hj
  have HX := Lib.hid hx
  have HW := Lib.hid hw1
  clear hCi hC hw1 hx hB hcell
  go_enter Tryd.func31, Tryd.ntmps31
  go_wp2_with (refine load_bytes (by rfl) 25 (.tmp 3) (by rfl) w.heap.size 0 16 key HX.out (by rfl) _ Tryd.underlying25 rfl (by kernel_rfl) ?_)
  rw [← HW.out]
  clear HX HW
  refine (refKeys5_any key s (by omega) _ (size_cellsOf _ _) (cellsOf_at _ _) w1).mono ?_
  rintro x w2 ⟨A2, c2, rfl, ha2, hb2⟩
  have hb2' := hb1.trans (hb2.mono hb1.size)
  have k1 : ∀ W, (Instr.sliceAt 28 (.slice (some ⟨sb, so, none⟩) m d) none (some (.int .i64 ((m : Int) - 32))) none).run Tryd.prog W = .ok (.slice (some ⟨sb, so, none⟩) (m - 32) d) W := fun W => by
    have := head_run (P := Tryd.prog) 28 5 Tryd.underlying28 (by kernel_rfl) (some ⟨sb, so, none⟩) (fun x hx => by cases hx; exact ⟨_, _, rfl⟩) m d (m - 32) (by omega) .i64 W
    rwa [show ((m - 32 : Nat) : Int) = (m : Int) - 32 by omega] at this
  clear hr1 hb1 hb2
  go_wp2_with (first
    | (refine store_whole (by rfl) 24 (.tmp 8) (.tmp 31) (by rfl) w2.heap.size _ 16 (fun _ => .int .u8 0) (fun j => .int .u8 ((keysB key s j).toNat : Int)) (by exact row_new w2 _ _ 16 _ (by rfl) (zeros16 _ (by rfl))) (by rfl) _ (by rfl) (by kernel_rfl) (size_cellsOf _ _) (cellsOf_at _ _) (fun _ _ => rfl) ?_
       intro w5 hk5 ho5
       have h25 : Below w2.heap.size w2 w5 := ho5.below ((Below.refl _ _).alloc (Nat.le_refl _) _) (Nat.le_refl _)
       have ha5 := slice_any (slice_below ha2 h25) (Nat.le_refl _)
       have hb5 := hb2'.trans (h25.mono hb2'.size)
       have hkl := World.rowIs.lt hk5
       have h6 : Below w5.heap.size w5 (w5.alloc (.cells #[] 5)) := (Below.refl _ _).alloc (Nat.le_refl _) _
       have hown6 : Aid.Own (w5.alloc (.cells #[] 5)) w5.heap.size 0 e (.slice (some ⟨w5.heap.size, 0, none⟩) 0 0) := own_empty8 w5 e
       have hs6 := SliceOf.congr (e' := e) (part_slice Hcell.out (hb5.trans (h6.mono hb5.size)) 0 (m - 32) d so (fun _ => rfl) (by omega) (by omega)) (fun j _ => by rw [Nat.zero_add])
       clear ha2 hb2' ho5 h25)
    | (at_builtin
       refine append_bytes (by rfl) (.tmp 39) (.tmp 40) (by rfl) w5.heap.size 0 e _ (by rfl) hown6 _ (m - 32) e _ (by rfl) hs6 (by omega) h6.size ?_
       intro v7 w7 hown7' hg7 _
       have h7 : Below w5.heap.size w5 w7 := h6.grown hg7 h6.size (fun b hb => (hown6.lt hb).1)
       have hown7 : Aid.Own w7 w5.heap.size (m - 32) e v7 := by
         have := Aid.Own.congr' (e' := e) hown7' (fun j hj => by rw [cat_ge _ _ _ _ (by omega), Nat.sub_zero])
         rwa [Nat.zero_add] at this
       clear h6 hown6 hs6 hg7 hown7'))
  obtain ⟨A7, c7, rfl, _, _⟩ := own_shape hown7
  have hs7 := hown7.slice (g' := w7.heap.size) (.inr (Nat.le_refl _))
  have h57 := hb5.trans (h7.mono hb5.size)
  refine (refMac_any (authB (keysB key s)) e A2 A7 32 c2 (m - 32) c7 w7 (slice_any (slice_below ha5 h7) (Nat.le_refl _)) (by omega) hs7 (by omega)).mono ?_
  obtain ⟨D, hD⟩ : ∃ D, D = code (authB (keysB key s)) 32 e (m - 32) := ⟨_, rfl⟩
  rw [← hD]
  have hok : okB (keysB key s) e m = sameBytes 32 32 D (fun j => e (m - 32 + j)) := by rw [hD]; rfl
  rintro x w8 ⟨rfl, hb8⟩
  have h58 := h7.trans (hb8.mono h7.size)
  clear hD hs7 hown7 ha5 h7 hb8 h57
  go_wp2_with (refine store_whole (by rfl) 93 (.tmp 11) (.tmp 42) (by rfl) w8.heap.size _ 32 (fun _ => .int .u8 0) (fun j => .int .u8 ((D j).toNat : Int)) (by exact row_new w8 _ _ 32 _ (by rfl) (zeros32 _ (by rfl))) (by rfl) _ (by rfl) (by kernel_rfl) (size_cellsOf _ _) (cellsOf_at _ _) (fun _ _ => rfl) ?_
               intro w9 hr9 ho9)
  have h89 : Below w8.heap.size w8 w9 := ho9.below ((Below.refl _ _).alloc (Nat.le_refl _) _) (Nat.le_refl _)
  have h59 := h58.trans (h89.mono h58.size)
  have hk9 := World.rowIs.of_block hk5 (h59.block _ hkl)
  have hb9 := hb5.trans (h59.mono hb5.size)
  have hr9l := World.rowIs.lt hr9
  have k2 := fun b W => all_run (P := Tryd.prog) 93 5 32 Tryd.underlying93 (by kernel_rfl) b 0 W
  have k3 : ∀ W, (Instr.sliceAt 28 (.slice (some ⟨sb, so, none⟩) m d) (some (.int .i64 ((m : Int) - 32))) none none).run Tryd.prog W = .ok (.slice (some ⟨sb, so + (m - 32), none⟩) 32 (d - (m - 32))) W := fun W => by
    obtain ⟨A3, hA3, hrun⟩ := cut_run (P := Tryd.prog) 28 5 Tryd.underlying28 (by kernel_rfl) sb so m d (m - 32) (by omega) hmd
    have := hrun .i64 W
    rw [hA3 (by omega), show m - (m - 32) = 32 by omega] at this
    rwa [show ((m - 32 : Nat) : Int) = (m : Int) - 32 by omega] at this
  have hcall : ∀ W, Below w9.heap.size w9 W → Calls Tryd.prog 14 #[.slice (some ⟨w8.heap.size, 0, none⟩) 32 32, .slice (some ⟨sb, so + (m - 32), none⟩) 32 (d - (m - 32))] W fun x w' => x = .returned (.bool (okB (keysB key s) e m)) ∧ Below w9.heap.size w9 w' := fun W hW => by
    have hr := World.rowIs.of_block hr9 (hW.block _ hr9l)
    have h1 := SliceOf.congr (e' := D) (row_slice (t := 93) (f := D) hr 0 32 32 0 (fun _ => rfl) (by omega) (Nat.le_refl _)) (fun j _ => by rw [Nat.zero_add])
    have h2 := part_slice Hcell.out (hb9.trans (hW.mono hb9.size)) (m - 32) 32 (d - (m - 32)) (so + (m - 32)) (fun _ => rfl) (by omega) (by omega)
    refine (same_gen _ _ 32 32 32 (d - (m - 32)) _ _ _ _ W h1 h2 (by omega) (by omega)).mono ?_
    rw [← hok]
    rintro x w' ⟨rfl, q, rfl⟩
    exact ⟨rfl, below_drewN hW q⟩
  have Hcall := Lib.hid hcall
  have hC : Below w9.heap.size w9 w9.drew := (Below.refl _ _).drew
  have HC := Lib.hid hC
  clear hk5 hb5 hkl h58 ho9 h89 h59 hr9 hok hcall hC k1
  go_wp2_with fail
  refine region_held (fun W => Below w9.heap.size w9 W) (by kernel_rfl) (by kernel_rfl) HC.out ?_
  refine q_val (by rfl) (.slice (some ⟨w8.heap.size, 0, none⟩) 32 32) (fun W _ => by go_simp) ?_
  simp only [Act.put, List.setIfInBounds_toArray, List.set_cons_zero, List.set_cons_succ]
  refine q_val (by rfl) (.slice (some ⟨sb, so, none⟩) m d) (fun W _ => by go_simp) ?_
  simp only [Act.put, List.setIfInBounds_toArray, List.set_cons_zero, List.set_cons_succ]
  refine q_val (by rfl) (.slice (some ⟨sb, so, none⟩) m d) (fun W _ => by go_simp) ?_
  simp only [Act.put, List.setIfInBounds_toArray, List.set_cons_zero, List.set_cons_succ]
  refine q_val (by rfl) (.int .i64 (m : Int)) (fun W _ => by go_simp) ?_
  simp only [Act.put, List.setIfInBounds_toArray, List.set_cons_zero, List.set_cons_succ]
  refine q_val (by rfl) (.int .i64 ((m : Int) - 32)) (fun W _ => by go_simp) ?_
  simp only [Act.put, List.setIfInBounds_toArray, List.set_cons_zero, List.set_cons_succ]
  refine q_val (by rfl) (.slice (some ⟨sb, so + (m - 32), none⟩) 32 (d - (m - 32))) (fun W _ => by go_simp) ?_
  simp only [Act.put, List.setIfInBounds_toArray, List.set_cons_zero, List.set_cons_succ]
  refine q_call (by rfl) 14 #[.slice (some ⟨w8.heap.size, 0, none⟩) 32 32, .slice (some ⟨sb, so + (m - 32), none⟩) 32 (d - (m - 32))] (fun W => by go_simp) _ Hcall.out ?_
  simp only [Act.put, List.setIfInBounds_toArray, List.set_cons_zero, List.set_cons_succ]
  refine q_val (by rfl) (.bool (!(okB (keysB key s) e m))) (fun W _ => by go_simp) ?_
  simp only [Act.put, List.setIfInBounds_toArray, List.set_cons_zero, List.set_cons_succ]
  refine wpQuiet_nil ?_
  intro w10 h910
  have hk10 := World.rowIs.of_block hk9 (h910.block _ (World.rowIs.lt hk9))
  have hb10 := hb9.trans (h910.mono hb9.size)
  clear k2 k3 Hcall HC hk9 hb9 hr9l h910
  by_cases hy : okB (keysB key s) e m = true
  · rw [hy]
    go_wp2_with (refine store_whole (by rfl) 24 (.tmp 12) (.tmp 51) (by rfl) w10.heap.size _ 16 (fun _ => .int .u8 0) (fun _ => .int .u8 0) (by exact row_new w10 _ _ 16 _ (by rfl) (zeros16 _ (by rfl))) (by rfl) _ (by rfl) (by kernel_rfl) (by rfl) (zeros16 _ (by rfl)) (fun _ _ => rfl) ?_
                 intro w11 hr11 ho11)
    have h1011 : Below w10.heap.size w10 w11 := ho11.below ((Below.refl _ _).alloc (Nat.le_refl _) _) (Nat.le_refl _)
    have hcb : ∀ W, Below w10.heap.size w10 W → ∀ j, j < m → W.cell? ⟨sb, so + j, none⟩ = some (.int .u8 ((e j).toNat : Int)) := fun W hW j hj => ((hb10.trans (hW.mono hb10.size)).cell (p := ⟨sb, so + j, none⟩) hsb).trans (Hcell.out j hj)
    have Hcb := Lib.hid hcb
    have Hy := Lib.hid hy
    clear ho11 hcb hy
    go_loopw [13] (fun i wr => ∃ k : Nat, k ≤ 16 ∧ i = .int .i64 (k : Int) ∧ Hid (RowB wr w10.heap.size 24 16 (setTo (fun _ => 0) e k)) ∧ Hid (Below w10.heap.size w10 wr)) (fun i _ => 16 - (intOf i).toNat)
    case atStart => exact ⟨0, by omega, rfl, World.rowIs.congr hr11 (fun j _ => by unfold setTo; rw [if_neg (by omega)]; rfl), h1011⟩
    case round =>
      clear hr11 h1011
      obtain ⟨k, hk16, rfl, hr, hb⟩ := hrel
      by_cases hlt : k < 16
      · have q3 : (k : Int) < 16 := by omega
        have q4 : (k : Int) < (m : Int) := by omega
        have q5 : (0 : Int) ≤ (k : Int) := by omega
        have e2 : IntKind.i64.wrap ((k : Int) + 1) = (k : Int) + 1 := IntWalk.i64_in _ (by omega)
        have cb : wr.cell? ⟨sb, so + k, none⟩ = some (.int .u8 ((e k).toNat : Int)) := Hcb.out wr hb.out k (by omega)
        have f3 : wr.frozen? ⟨w10.heap.size, k, none⟩ = false := World.rowIs.frozen hr.out _
        obtain ⟨u3, c3⟩ : ∃ u, wr.cell? ⟨w10.heap.size, k, none⟩ = some (.int .u8 u) := ⟨_, World.rowIs.cell hr.out hlt⟩
        go_wp2
        exact ⟨⟨k + 1, by omega, by go_num, setTo_next hr.out _ rfl, hb.out.setCell (by simp) _⟩, by simp [intOf]; omega⟩
      · have q3 : ¬ (k : Int) < 16 := by omega
        have hf : RowB wr w10.heap.size 24 16 e := World.rowIs.congr hr.out (fun j hj => by unfold setTo; rw [if_pos (by omega)])
        have hk12 := World.rowIs.of_block hk10 (hb.out.block _ (World.rowIs.lt hk10))
        have hb12 := hb10.trans (hb.out.mono hb10.size)
        have hs12 := part_slice Hcell.out hb12.drew 16 (m - 48) (d - 16) (so + 16) (fun _ => rfl) (by omega) (by omega)
        have hkl := World.rowIs.lt hk12
        have hfl := World.rowIs.lt hf
        have hS : Below wr.heap.size wr wr.drew := (Below.refl _ _).drew
        have HS := Lib.hid hs12
        clear hk10 hb10 hr hb hs12 Hcb
        go_wp2_with fail
        refine region_mix (fun W => Below wr.heap.size wr W) [(0, true), (1, true), (2, true), (3, true), (4, false), (5, false), (6, false)] (by kernel_rfl) (by kernel_rfl) hS ?_
        refine m_load rfl (by rfl) 24 (.tmp 8) (by rfl) w2.heap.size 0 _ 16 16 _ (fun W hW => World.rowIs.of_block hk12 (hW.block _ hkl)) (by rfl) _ Tryd.underlying24 rfl (by kernel_rfl) (by omega) ?_
        simp only [Act.put, List.setIfInBounds_toArray, List.set_cons_zero, List.set_cons_succ, Nat.zero_add]
        refine m_load rfl (by rfl) 24 (.tmp 12) (by rfl) w10.heap.size 0 _ 16 16 _ (fun W hW => World.rowIs.of_block hf (hW.block _ hfl)) (by rfl) _ Tryd.underlying24 rfl (by kernel_rfl) (by omega) ?_
        simp only [Act.put, List.setIfInBounds_toArray, List.set_cons_zero, List.set_cons_succ, Nat.zero_add]
        refine m_val rfl (by rfl) (.slice (some ⟨sb, so, none⟩) (m - 32) d) (fun W _ => by go_simp) ?_
        simp only [Act.put, List.setIfInBounds_toArray, List.set_cons_zero, List.set_cons_succ]
        refine m_val rfl (by rfl) (.slice (some ⟨sb, so + 16, none⟩) (m - 48) (d - 16)) (fun W _ => by go_simp; rw [if_pos (by omega), if_neg (by omega), show m - 32 - 16 = m - 48 by omega]) ?_
        simp only [Act.put, List.setIfInBounds_toArray, List.set_cons_zero, List.set_cons_succ]
        refine m_go rfl ?_
        generalize wr.drew = w13 at *
        have hb13 := hb12.trans (hS.mono hb12.size)
        go_wp2_with fail
        refine (refFlip_any (keysB key s) e (fun j => e (16 + j)) _ _ (size_cellsOf _ _) (cellsOf_at _ _) (size_cellsOf _ _) (cellsOf_at _ _) _ (m - 48) (d - 16) w13 HS.out (by omega)).mono ?_
        rintro x w14 ⟨v14, rfl, hown14, hb14⟩
        have h14 := hS.trans (hb14.mono hS.size)
        have hb14' := hb13.trans (hb14.mono hb13.size)
        have hs14 := hown14.slice (g' := w14.heap.size) (.inr (Nat.le_refl _))
        obtain ⟨A14, c14, rfl⟩ := slice_shape hs14
        clear hown14 hb14 hb13 HS hS hk12 hf hb12 hkl hfl
        have Hs14 := Lib.hid hs14
        clear hs14
        go_wp2_with fail
        refine m_on h14 ?_
        refine m_go rfl ?_
        go_wp2_with fail
        refine m_on h14 ?_
        refine m_go rfl ?_
        go_wp2_with fail
        refine m_on h14 ?_
        refine m_end ?_
        go_wp2_with fail
        go_ret2
        exact .inl ⟨Hy.out, A14, c14, rfl, Hs14.out, hb14'⟩
  · have hn : okB (keysB key s) e m = false := by simpa using hy
    rw [hn]
    go_wp2
    go_ret2
    exact .inr ⟨hn, rfl, hb10⟩
end Go.Proofs.YtaakhldhmoaplaaDoor.Seal
namespace Go.Proofs.YtaakhldhmoaplaaDoor.Law05
open Go Go.RowKit Go.Proofs.YtaakhldhmoaplaaDoor.Aid Go.Proofs.YtaakhldhmoaplaaDoor.Sha Go.Proofs.YtaakhldhmoaplaaDoor.Mac Go.Proofs.YtaakhldhmoaplaaDoor.Aes Go.Proofs.YtaakhldhmoaplaaDoor.Ctr Go.Proofs.YtaakhldhmoaplaaDoor.Law01 Go.Proofs.YtaakhldhmoaplaaDoor.Seal

theorem refSeal_all (key first e : Nat → BitVec 8) (s : ByteArray) (C F : Array Value) (hC : C.size = 16) (hCi : ∀ i, i < 16 → C[i]? = some (.int .u8 ((key i).toNat : Int))) (hF : F.size = 16) (hFi : ∀ i, i < 16 → F[i]? = some (.int .u8 ((first i).toNat : Int))) (B : Option Addr) (n d : Nat) (w : World) (hp : SliceOf w w.heap.size n e (.slice B n d)) :
    Calls Tryd.prog 28 #[.agg C, .string s, .agg F, .slice B n d] w (SealPost key first e s n w) := by
  by_cases h1 : 1 ≤ s.size ∧ s.size ≤ 40
  · by_cases h2 : 1000 < n
    · exact (refSeal_full s h1 C F B n d h2 w).mono fun x w' h => post_err (k := 7) (by unfold sealCode; rw [if_pos h1, if_pos h2]) (by omega) h
    · refine (refSeal_ok key first e s h1 C F hC hCi hF hFi B n d w hp (by omega)).mono ?_
      rintro x w' ⟨v, hx, hs, hb⟩
      exact post_form (by unfold sealCode; rw [if_pos h1, if_neg h2]) v hx hs hb
  · exact (refSeal_arg s h1 C F B n d w).mono fun x w' h => post_err (k := 1) (by unfold sealCode; rw [if_neg h1]) (by omega) h

theorem refOpen_all (key e : Nat → BitVec 8) (s : ByteArray) (C : Array Value) (hC : C.size = 16) (hCi : ∀ i, i < 16 → C[i]? = some (.int .u8 ((key i).toNat : Int))) (B : Option Addr) (m d : Nat) (w : World) (hp : SliceOf w w.heap.size m e (.slice B m d)) :
    Calls Tryd.prog 31 #[.agg C, .string s, .slice B m d] w (OpenAll (keysB key s) e s m w) := by
  by_cases h1 : 1 ≤ s.size ∧ s.size ≤ 40
  · by_cases h2 : m < 48
    · exact (refOpen_short s h1 C B m d h2 w).mono fun x w' h => all_err (k := 2) (by unfold openCode; rw [if_pos h1, if_pos h2]) (by omega) h
    · by_cases h3 : 1048 < m
      · exact (refOpen_full s h1 C B m d h3 w).mono fun x w' h => all_err (k := 7) (by unfold openCode; rw [if_pos h1, if_neg h2, if_pos h3]) (by omega) h
      · exact (refOpen_ok key e s h1 C hC hCi B m d w hp (by omega) (by omega)).mono fun x w' h => all_post h1 h2 h3 h
  · exact (refOpen_arg s h1 C B m d w).mono fun x w' h => all_err (k := 1) (by unfold openCode; rw [if_neg h1]) (by omega) h

end Go.Proofs.YtaakhldhmoaplaaDoor.Law05
