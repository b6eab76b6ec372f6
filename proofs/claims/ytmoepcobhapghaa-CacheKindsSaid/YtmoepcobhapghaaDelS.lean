/-
  What slices.Delete(s, i, i+1) does at []string.
-/
import Derived.Test.YtmoepcobhapghaaKeyList
import Derived.Test.YtmoepcobhapghaaOwnQ
import Derived.Test.YtmoepcobhapghaaMix
import Derived.Test.YtmoepcobhapghaaProg
namespace Go.Proofs.Ytmoepcobhapghaa.Cache
open Go Go.RowKit Go.Proofs.Ytmoepcobhapghaa.Aid

theorem info_strQd : (Try.prog.info? 9).map (fun i => (i.zero, i.size, i.bytes)) = some (some (.string ByteArray.empty), 1, 16) := by kernel_rfl
theorem zeroSd (w : World) : (zeroValue 9).run Try.prog w = .ok (.string ByteArray.empty) w := by kernel_rfl
set_option maxRecDepth 100000 in
set_option maxHeartbeats 2000000 in
theorem deleteS (base : Nat) (xs : List Value) (v : Value) (w : World) (hv : OwnQ w base 9 v xs) (hone : ∀ u ∈ xs, u.oneCell' = true) (i : Nat) (hi : i < xs.length) (hn : xs.length ≤ 1000000) :
    Calls Try.prog 33 #[v, .int .i64 (i : Int), .int .i64 ((i : Int) + 1)] w fun x w' => ∃ r, x = .returned r ∧ OwnQ w' base 9 r (xs.take i ++ xs.drop (i + 1)) ∧ w.grownBy w' v.ownBlock ∧ r.ownBlock = v.ownBlock := by
  obtain ⟨A, c, rfl, hcap, hsh⟩ := hv.shape
  obtain ⟨g, o, rfl, _, hg, _, hcell, _⟩ := hsh (by omega)
  obtain ⟨n, hnn⟩ : ∃ n, n = xs.length := ⟨_, rfl⟩
  have HT : Hid (OwnQ w base 9 (.slice (some ⟨g, o, none⟩) i c) (xs.take i)) := Lib.hid (hv.take rfl (Nat.le_of_lt hi))
  have HTL : Hid ((xs.take i).length = i) := Lib.hid (by rw [List.length_take]; omega)
  have HDL : Hid ((xs.drop (i + 1)).length = n - (i + 1)) := Lib.hid (by rw [List.length_drop, hnn])
  rw [← hnn] at hi hn hcap ⊢
  have k1 : ∀ V, (Instr.sliceAt 42 (.slice (some ⟨g, o, none⟩) n c) none (some (.int .i64 (i : Int))) none).run Try.prog V = _ := fun V => upto_run (P := Try.prog) 42 9 Try.underlying42 (by kernel_rfl) g o n c i (by omega) hcap (i : Int) .i64 V rfl
  have k2 := fun V => from_at (P := Try.prog) 42 9 Try.underlying42 (by kernel_rfl) g o n c (i + 1) (by omega) ((i : Int) + 1) .i64 V (by omega)
  obtain ⟨vf, hf⟩ := full_run (P := Try.prog) 42 9 Try.underlying42 (by kernel_rfl) (some ⟨g, o, none⟩) n c i (i + 1) n (by omega) (by omega) hcap
  have k3 := fun V => hf (i : Int) ((i : Int) + 1) (n : Int) .i64 .i64 .i64 V rfl (by omega) rfl
  have qe : ((i : Int) == (i : Int) + 1) = false := by simp; omega
  have HD : Hid (∀ j u, (xs.drop (i + 1))[j]? = some u → w.cell? ⟨g, (if c = i + 1 then o else o + (i + 1)) + j, none⟩ = some u) := Lib.hid (fun j u hj => by
    have hj' := (List.getElem?_eq_some_iff.1 hj).1
    rw [HDL.out] at hj'
    rw [if_neg (by omega)]
    rw [List.getElem?_drop] at hj
    rw [show o + (i + 1) + j = o + (i + 1 + j) by omega]
    exact hcell _ _ hj)
  have HO : Hid (∀ u, u ∈ xs.drop (i + 1) → u.oneCell' = true) := Lib.hid (fun u hu => hone u (List.mem_of_mem_drop hu))
  generalize (if c = i + 1 then o else o + (i + 1)) = o2 at *
  clear hf hcell hsh hv hone hnn
  go_enter Try.func33, Try.ntmps33
  go_wp2_with fail
  refine region_mix (fun _ => True) [(0, true), (1, true), (2, true), (3, true), (4, true), (5, true), (6, false), (7, false)] (by kernel_rfl) (by kernel_rfl) trivial ?_
  iterate 6
    refine m_val rfl (by rfl) _ (fun W hW => by go_simp; rfl) ?_
    simp only [Act.put, List.setIfInBounds_toArray, List.set_cons_zero, List.set_cons_succ]
  have HT1 : Hid (OwnQ w.drew base 9 (.slice (some ⟨g, o, none⟩) i c) (xs.take i)) := HT
  have HD1 : Hid (∀ j u, (xs.drop (i + 1))[j]? = some u → w.drew.cell? ⟨g, o2 + j, none⟩ = some u) := HD
  clear HT HD
  refine m_go rfl ?_
  go_wp2_with (at_builtin
               refine append_qroom (by rfl) (.tmp 22) (.tmp 25) 42 (by rfl) base 9 _ _ Try.underlying42 info_strQd (xs.take i) i (n - 1) HTL.out g o c (by rfl) HT1.out g o2 (c - (i + 1)) (n - (i + 1)) (xs.drop (i + 1)) (by rfl) HDL.out HD1.out HO.out (by omega) (by omega) ?_
               intro W2 hown2 hg2)
  have HO2 := Lib.hid hown2
  have HG2 := Lib.hid hg2
  have HLL : Hid ((xs.take i ++ xs.drop (i + 1)).length = n - 1) := Lib.hid (by have := HTL.out; have := HDL.out; rw [List.length_append]; omega)
  clear hown2 hg2 HT1 HD1
  refine m_on trivial ?_
  refine m_go rfl ?_
  go_wp2_with fail
  refine m_on trivial ?_
  refine m_end ?_
  have k5 := fun V => midc_at (P := Try.prog) 42 9 Try.underlying42 (by kernel_rfl) g o (n - 1) c (n - 1) n (by omega) (by omega) (by omega) ((n - 1 : Nat) : Int) (n : Int) .i64 .i64 V rfl rfl
  rw [show n - (n - 1) = 1 by omega] at k5
  have kc : ∀ ty, (Builtin.clear_ #[42] ty #[.slice (some ⟨g, o + (n - 1), none⟩) 1 (c - (n - 1))]).run Try.prog W2 = .ok (.tuple #[]) (W2.setCell ⟨g, o + (n - 1), none⟩ (.string ByteArray.empty)) := fun ty =>
    Lib.run_clear_slice (P := Try.prog) W2 42 9 ty (.string ByteArray.empty) Try.underlying42 zeroSd rfl rfl g (o + (n - 1)) 1 (c - (n - 1)) (by omega) (fun j hj => by rw [show o + (n - 1) + j = o + (n - 1 + j) by omega]; exact (HO2.out.there _ (by omega)).1) (fun j hj => by rw [show o + (n - 1) + j = o + (n - 1 + j) by omega]; exact (HO2.out.there _ (by omega)).2)
  have HO3 : Hid (OwnQ (W2.setCell ⟨g, o + (n - 1), none⟩ (.string ByteArray.empty)) base 9 (.slice (some ⟨g, o, none⟩) (n - 1) c) (xs.take i ++ xs.drop (i + 1))) := Lib.hid (by
    have h0 := HO2.out
    rw [← HLL.out] at h0 ⊢
    exact h0.beyond _ (by omega) _)
  have HG3 : Hid (w.grownBy (W2.setCell ⟨g, o + (n - 1), none⟩ (.string ByteArray.empty)) (some g)) := Lib.hid ⟨HG2.out.os, HG2.out.tape, HG2.out.output, by have := HG2.out.size; simpa [World.setCell] using this,
    fun k hk hne => (heap_setCell_other _ _ _ _ (by intro e; simp at e; exact hne (by rw [e]))).trans (HG2.out.block k hk hne)⟩
  clear HO2 HG2
  go_wp2
  go_ret
  exact ⟨_, rfl, HO3.out, HG3.out, rfl⟩
end Go.Proofs.Ytmoepcobhapghaa.Cache
