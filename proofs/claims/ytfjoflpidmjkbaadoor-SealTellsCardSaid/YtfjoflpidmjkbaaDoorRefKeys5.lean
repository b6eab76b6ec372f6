/-
  What bartizanref05.keys does: the document's own two keys of a key and a label.
-/
import Derived.Test.YtfjoflpidmjkbaaDoorSealKeyed
import Derived.Test.YtfjoflpidmjkbaaDoorRefExpand
import Derived.Test.YtfjoflpidmjkbaaDoorMix
namespace Go.Proofs.YtfjoflpidmjkbaaDoor.Seal
open Go Go.RowKit Go.Proofs.YtfjoflpidmjkbaaDoor.Aid Go.Proofs.YtfjoflpidmjkbaaDoor.Sha Go.Proofs.YtfjoflpidmjkbaaDoor.Mac Go.Proofs.YtfjoflpidmjkbaaDoor.Aes Go.Proofs.YtfjoflpidmjkbaaDoor.Ctr

set_option maxRecDepth 100000 in
set_option maxHeartbeats 1000000 in
theorem refKeys5_any (key : Nat → BitVec 8) (s : ByteArray) (hs : s.size ≤ 100) (C : Array Value) (hC : C.size = 16) (hc : ∀ i, i < 16 → C[i]? = some (.int .u8 ((key i).toNat : Int))) (w : World) :
    Calls Tryd.prog 15 #[.agg C, .string s] w fun x w' => ∃ A c, x = .returned (.tuple #[.agg (byteRow 16 (keysB key s)), .slice A 32 c]) ∧ SliceOf w' w'.heap.size 32 (authB (keysB key s)) (.slice A 32 c) ∧ Below w.heap.size w w' := by
  have h1 : ∃ w1, w1 = (w.alloc (.cells C 23)).alloc (.cells (Array.replicate 16 (.int .u8 0)) 22) ∧ SliceOf w1 w1.heap.size 16 key (.slice (some ⟨w.heap.size, 0, none⟩) 16 16) ∧ RowB w1 (w.heap.size + 1) 22 16 (fun _ => 0) ∧ Below w.heap.size w w1 := by
    have hr := (row_new w C 23 16 (fun j => .int .u8 ((key j).toNat : Int)) hC hc).alloc (.cells (Array.replicate 16 (.int .u8 0)) 22)
    have hz := row_new (w.alloc (.cells C 23)) (Array.replicate 16 (.int .u8 0)) 22 16 (fun _ => .int .u8 0) (by simp) (zeros16 _ rfl)
    rw [World.size_alloc] at hz
    exact ⟨_, rfl, ⟨_, 16, rfl, by omega, fun _ => ⟨w.heap.size, 0, rfl, by simp; omega, fun j hj => by rw [Nat.zero_add]; exact hr.cell hj⟩⟩, hz, ((Below.refl _ _).alloc (Nat.le_refl _) _).alloc (by simp) _⟩
  obtain ⟨w1, hw1, hs1, hz1, hb1⟩ := h1
  have k1 := fun b W => all_run (P := Tryd.prog) 23 5 16 Tryd.underlying23 (by kernel_rfl) b 0 W
  have hps : (pre ++ s).size ≤ 200 := by rw [ByteArray.size_append]; show 9 + s.size ≤ _; omega
  clear hc hC
  go_enter Tryd.func15, Tryd.ntmps15
  go_wp2_with fail
  change Calls Tryd.prog _ _ ((w.alloc (.cells C 23)).alloc (.cells (Array.replicate 16 (.int .u8 0)) 22)) _
  rw [← hw1]
  refine (refExpand_any key (some ⟨w.heap.size, 0, none⟩) 16 16 (pre ++ s) 48 w1 hs1 (by omega) hps (by omega)).mono ?_
  rintro x w2 ⟨v2, rfl, hsl2', hb2⟩
  have hsl2 := hsl2' (w.heap.size + 1) (.inl (World.rowIs.lt hz1))
  clear hsl2'
  obtain ⟨ks, hks⟩ : ∃ ks, ks = keysB key s := ⟨_, rfl⟩
  rw [show output (padKey key 16) (strByte (pre ++ s)) (pre ++ s).size = ks from hks.symm] at hsl2
  have Hks := Lib.hid hks
  obtain ⟨A2, c2, rfl, hc2, hA2⟩ := hsl2
  obtain ⟨sb, so, rfl, hsb2, hcell⟩ := hA2 (by omega)
  have hsb : sb < w2.heap.size := block_lt_of_cell (hcell 0 (by omega))
  have hz2 := World.rowIs.of_block hz1 (hb2.block _ (World.rowIs.lt hz1))
  have hb2' := hb1.trans (hb2.mono hb1.size)
  obtain ⟨A3, hA3, k3⟩ := cut_run (P := Tryd.prog) 25 5 Tryd.underlying25 (by kernel_rfl) sb so 48 c2 16 (by omega) hc2
  obtain rfl := hA3 (by omega)
  have Hcell := Lib.hid hcell
  clear hs1 hz1 hb1 hw1 hb2 hA2 hks hA3 hps k1 hcell
  go_wp2_with (refine store_whole (by rfl) 22 (.tmp 8) (.tmp 17) (by rfl) w2.heap.size _ 16 (fun _ => .int .u8 0) (fun _ => .int .u8 0) (by exact row_new w2 _ _ 16 _ (by rfl) (zeros16 _ (by rfl))) (by rfl) _ (by rfl) (by kernel_rfl) (by rfl) (zeros16 _ (by rfl)) (fun _ _ => rfl) ?_
               intro w3 hr3 ho3)
  have h23 : Below w2.heap.size w2 w3 := ho3.below ((Below.refl _ _).alloc (Nat.le_refl _) _) (Nat.le_refl _)
  clear ho3
  go_loopw [9] (fun i wr => ∃ k : Nat, k ≤ 16 ∧ i = .int .i64 (k : Int) ∧ Hid (RowB wr w2.heap.size 22 16 (setTo (fun _ => 0) ks k)) ∧ Hid (Below w2.heap.size w2 wr)) (fun i _ => 16 - (intOf i).toNat)
  case atStart => exact ⟨0, by omega, rfl, World.rowIs.congr hr3 (fun j _ => by unfold setTo; rw [if_neg (by omega)]; rfl), h23⟩
  case round =>
    clear hr3 h23
    obtain ⟨k, hk16, rfl, hr, hb⟩ := hrel
    by_cases hlt : k < 16
    · have q3 : (k : Int) < 16 := by omega
      have q4 : (k : Int) < 48 := by omega
      have q5 : (0 : Int) ≤ (k : Int) := by omega
      have e1 : IntKind.i64.wrap ((k : Int) + 1) = (k : Int) + 1 := IntWalk.i64_in _ (by omega)
      have cb : wr.cell? ⟨sb, so + k, none⟩ = some (.int .u8 ((ks k).toNat : Int)) := (hb.out.cell (p := ⟨sb, so + k, none⟩) hsb).trans (Hcell.out k (by omega))
      have f3 : wr.frozen? ⟨w2.heap.size, k, none⟩ = false := World.rowIs.frozen hr.out _
      obtain ⟨u3, c3⟩ : ∃ u, wr.cell? ⟨w2.heap.size, k, none⟩ = some (.int .u8 u) := ⟨_, World.rowIs.cell hr.out hlt⟩
      clear k3
      go_wp2
      exact ⟨⟨k + 1, by omega, by go_num, setTo_next hr.out _ rfl, hb.out.setCell (by simp) _⟩, by simp [intOf]; omega⟩
    · have q3 : ¬ (k : Int) < 16 := by omega
      have hf : RowB wr w2.heap.size 22 16 ks := World.rowIs.congr hr.out (fun j hj => by unfold setTo; rw [if_pos (by omega)])
      have hz4 := World.rowIs.of_block hz2 (hb.out.block _ (World.rowIs.lt hz2))
      have hb4 := hb2'.trans (hb.out.mono hb2'.size)
      have hB4 : ∀ j, j < 48 → wr.cell? ⟨sb, so + j, none⟩ = some (.int .u8 ((ks j).toNat : Int)) := fun j hj => (hb.out.cell (p := ⟨sb, so + j, none⟩) hsb).trans (Hcell.out j hj)
      have hl2 : w2.heap.size ≠ w.heap.size + 1 := by have := World.rowIs.lt hz2; omega
      have hsb1 : sb < wr.heap.size := block_lt_of_cell (hB4 0 (by omega))
      have HB := Lib.hid hB4
      clear hz2 hb2' hr hb k3 Hcell hB4
      go_wp2
      refine region_mix (fun W => RowB W w2.heap.size 22 16 ks) [(0, true), (1, true), (2, true), (3, false), (4, false)] (by kernel_rfl) (by kernel_rfl) hf ?_
      refine m_load rfl (by rfl) 22 (.tmp 8) (by rfl) w2.heap.size 0 _ 16 16 _ (fun W hW => hW) (by rfl) _ Tryd.underlying22 rfl (by kernel_rfl) (by omega) ?_
      simp only [Act.put, List.setIfInBounds_toArray, List.set_cons_zero, List.set_cons_succ, Nat.zero_add]
      refine m_val rfl (by rfl) (.slice (some ⟨sb, so, none⟩) 48 c2) (fun W _ => by go_simp) ?_
      simp only [Act.put, List.setIfInBounds_toArray, List.set_cons_zero, List.set_cons_succ]
      refine m_val rfl (by rfl) (.slice (some ⟨sb, so + 16, none⟩) 32 (c2 - 16)) (fun W _ => by go_simp; omega) ?_
      simp only [Act.put, List.setIfInBounds_toArray, List.set_cons_zero, List.set_cons_succ]
      refine m_go rfl ?_
      go_wp2_with (refine store_whole (by rfl) 22 (.tmp 4) (.tmp 28) (by rfl) (w.heap.size + 1) _ 16 _ (fun j => .int .u8 ((ks j).toNat : Int)) hz4 (by rfl) _ (by rfl) (by kernel_rfl) (size_cellsOf _ _) (cellsOf_at _ _) (fun _ _ => rfl) ?_
                   intro w5 hr5 ho5)
      have hf5 : RowB w5 w2.heap.size 22 16 ks := ho5.row hf hl2
      have hb5 : Below w.heap.size w w5 := ho5.below hb4.drew (by omega)
      have hsl5 : SliceOf w5 w5.heap.size 32 (authB ks) (.slice (some ⟨sb, so + 16, none⟩) 32 (c2 - 16)) := by
        refine ⟨_, _, rfl, by omega, fun _ => ⟨sb, so + 16, rfl, by have := ho5.size; simp at this; omega, fun j hj => ?_⟩⟩
        rw [Nat.add_assoc, World.cell?_of_block (ho5.block sb hsb2)]
        exact HB.out (16 + j) (by omega)
      clear HB ho5 hb4 hz4 hf
      refine m_on hf5 ?_
      refine m_go rfl ?_
      go_wp2_with fail
      refine m_on hf5 ?_
      refine m_end ?_
      go_wp2_with fail
      exact bodyPost_ret (results_row_tmp rfl _ (w.heap.size + 1) _ _ _ _ (by rfl) hr5 Tryd.underlying22 rfl (by kernel_rfl)) rfl (by rw [← Hks.out]; exact ⟨_, _, rfl, hsl5, hb5⟩)
end Go.Proofs.YtfjoflpidmjkbaaDoor.Seal
