/-
  What field.Word does.
-/
import Derived.Test.YtihbcbkkggkcbaaRefWord
import Derived.WalkLawsBesides
namespace Go.Proofs.Ytihbcbkkggkcbaa.Field
open Go Go.RowKit Go.Proofs.Ytihbcbkkggkcbaa.Aid Go.Proofs.Ytihbcbkkggkcbaa.Law01

theorem range_run {w : World} {b o n : Nat} {e : Nat → BitVec 8} (h : ∀ j, j < n → w.cell? ⟨b, o + j, none⟩ = some (.int .u8 ((e j).toNat : Int))) : w.rangeAt b o ((List.range n).map fun j => Value.int .u8 ((e j).toNat : Int)) := by
  intro j v hj
  by_cases hjn : j < n
  · rw [List.getElem?_map, List.getElem?_range hjn] at hj
    simp only [Option.map_some, Option.some.injEq] at hj
    rw [← hj]
    exact h j hjn
  · rw [List.getElem?_eq_none (by simp; omega)] at hj
    cases hj
theorem load_run {P : Program} {w : World} {ops : Array Oper} {rest : List Oper} {op : Oper} {a : Act} {Q : Exit → Act → World → Prop} (hgd : op.guard = none) (ty : TypeId) (x : Operand) (ho : op.op = .load ty x) (sb so m : Nat) (e : Nat → BitVec 8) (hc : ∀ j, j < m → w.cell? ⟨sb, so + j, none⟩ = some (.int .u8 ((e j).toNat : Int)))
    (hx : a.eval x = .pointer (some ⟨sb, so, none⟩)) (d : TypeDesc) (hu : P.underlying ty = some d) (hd : d.isRow = true) (hi : (P.info? ty).map (·.size) = some m)
    (hK : wpList P ops Q rest (a.put op.dst (.agg (cellsOf m (fun j => .int .u8 ((e j).toNat : Int))))) w) : wpList P ops Q (op :: rest) a w :=
  wpList_load_mid hgd ty x ho sb so hx _ d (range_run hc) hu hd (by simpa using hi) hK
set_option maxRecDepth 100000 in
set_option maxHeartbeats 1000000 in
theorem word_own (A : Option Addr) (c n : Nat) (E : Nat → BitVec 8) (w : World) (hn : n ≤ 1000000) (h : SliceOf w w.heap.size n E (.slice A n c)) : Calls Try.prog 14 #[.slice A n c] w fun x w' => x = .returned (.tuple #[wordV (wordE n E), .int .i64 (wordC n)]) ∧ Below w.heap.size w w' := by
  have hal : Below w.heap.size w (w.alloc (.cells (Array.replicate 16 (.int .u8 0)) 36)) := (Below.refl _ _).alloc (Nat.le_refl _) _
  have hr0 := row_new w (Array.replicate 16 (.int .u8 0)) 36 16 (fun _ => .int .u8 0) (by simp) (zero16 _ rfl)
  by_cases h16 : n = 16
  · subst h16
    rw [show wordC 16 = 0 from by unfold wordC; rw [if_pos rfl], wordV_congr (F := E) (fun j hj => by unfold wordE; rw [if_pos rfl])]
    obtain ⟨A', c', he, hc, hr⟩ := slice_below h hal
    simp only [Value.slice.injEq, true_and] at he
    obtain ⟨rfl, rfl⟩ := he
    obtain ⟨sb, so, rfl, _, hcell⟩ := hr (by omega)
    have HC := Lib.hid hcell
    have HR0 := Lib.hid hr0
    have HAL := Lib.hid hal
    have qA : ∀ (w : World) (a : Option Addr) (cap : Nat), (Instr.arrayAt 36 (.slice a 16 cap)).run Try.prog w = .ok (.pointer a) w := fun w a cap => run_arrayAt w _ _ 16 a 16 cap Try.underlying36 (Nat.le_refl _)
    unfold wordV at *
    clear hcell hr h hr0 hal
    go_enter Try.func14, Try.ntmps14
    go_wp2_with (first
      | (refine load_run (by rfl) 36 (.tmp 9) (by rfl) sb so 16 E HC.out (by rfl) _ Try.underlying36 rfl (by kernel_rfl) ?_)
      | (refine store_whole (by rfl) 36 (.tmp 2) (.tmp 10) (by rfl) w.heap.size _ 16 (fun _ => .int .u8 0) (fun j => .int .u8 ((E j).toNat : Int)) HR0.out (by rfl) _ (by rfl) (by kernel_rfl) (size_cellsOf _ _) (cellsOf_at _ _) (fun _ _ => rfl) ?_
         intro w3 hr3 ho3
         have hb3 : Below w.heap.size w w3 := ho3.below HAL.out (Nat.le_refl _)
         clear ho3))
    exact bodyPost_ret (results_row_tmp rfl _ w.heap.size _ _ _ _ (by rfl) hr3 Try.underlying36 rfl (by kernel_rfl)) rfl ⟨rfl, hb3⟩
  · have h16' : ((n : Int) == 16) = false := by simp; omega
    rw [show wordC n = 3 from by unfold wordC; rw [if_neg h16], wordV_congr (F := fun _ => 0) (fun j hj => by unfold wordE; rw [if_neg h16])]
    have HR0 := Lib.hid hr0
    have HAL := Lib.hid hal
    clear h hr0 hal
    go_enter Try.func14, Try.ntmps14
    go_wp2_with (refine store_whole (by rfl) 36 (.tmp 2) (.tmp 7) (by rfl) w.heap.size _ 16 (fun _ => .int .u8 0) (fun _ => .int .u8 0) HR0.out (by rfl) _ (by rfl) (by kernel_rfl) (by rfl) (zero16 _ (by rfl)) (fun _ _ => rfl) ?_
                 intro w3 hr3 ho3
                 have hb3 : Below w.heap.size w w3 := ho3.below HAL.out (Nat.le_refl _)
                 clear ho3)
    exact bodyPost_ret (results_row_tmp rfl _ w.heap.size _ _ _ _ (by rfl) hr3 Try.underlying36 rfl (by kernel_rfl)) rfl ⟨rfl, hb3⟩
end Go.Proofs.Ytihbcbkkggkcbaa.Field
