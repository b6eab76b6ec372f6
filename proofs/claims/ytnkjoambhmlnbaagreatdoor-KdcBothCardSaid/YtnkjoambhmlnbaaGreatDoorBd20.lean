/-
  What field.Word does. What the program's Name does.
-/
import Derived.Test.YtnkjoambhmlnbaaGreatDoorBd08
import Derived.Test.YtnkjoambhmlnbaaGreatDoorBd19
import Derived.WalkLawsBesides
import Derived.Laws.BitsAllLaws
namespace Go.Proofs.YtnkjoambhmlnbaaGreatDoor.Field
open Go Go.RowKit Go.Proofs.YtnkjoambhmlnbaaGreatDoor.Aid Go.Proofs.YtnkjoambhmlnbaaGreatDoor.Law01

theorem range_run {w : World} {b o n : Nat} {e : Nat → BitVec 8} (h : ∀ j, j < n → w.cell? ⟨b, o + j, none⟩ = some (.int .u8 ((e j).toNat : Int))) : w.rangeAt b o ((List.range n).map fun j => Value.int .u8 ((e j).toNat : Int)) := by
  intro j v hj
  by_cases hjn : j < n
  · rw [List.getElem?_map, List.getElem?_range hjn] at hj
    simp only [Option.map_some, Option.some.injEq] at hj
    rw [← hj]
    exact h j hjn
  · rw [List.getElem?_eq_none (by simp; omega)] at hj
    cases hj
theorem load_run {P : Program} {w : World} {ops : Array Oper} {rest : List Oper} {op : Oper} {a : Act} {Q : Exit → Act → World → Prop} (hgd : op.guard = none) (ty : TypeId) (x : Operand) (ho : op.op = .load ty x) (sb so m : Nat) (e : Nat → BitVec 8) (hc : ∀ j, j < m → w.cell? ⟨sb, so + j, none⟩ = some (.int .u8 ((e j).toNat : Int)))
    (hx : a.eval x = .pointer (some ⟨sb, so, none⟩)) (d : TypeDesc) (hu : P.underlying ty = some d) (hd : d.isRow = true) (hi : (P.info? ty).map (·.size) = some m)
    (hK : wpList P ops Q rest (a.put op.dst (.agg (cellsOf m (fun j => .int .u8 ((e j).toNat : Int))))) w) : wpList P ops Q (op :: rest) a w :=
  wpList_load_mid hgd ty x ho sb so hx _ d (range_run hc) hu hd (by simpa using hi) hK
set_option maxRecDepth 100000 in
set_option maxHeartbeats 1000000 in
theorem word_own (A : Option Addr) (c n : Nat) (E : Nat → BitVec 8) (w : World) (hn : n ≤ 1000000) (h : SliceOf w w.heap.size n E (.slice A n c)) : Calls Tryz.prog 52 #[.slice A n c] w fun x w' => x = .returned (.tuple #[wordV (wordE n E), .int .i64 (wordC n)]) ∧ Below w.heap.size w w' := by
  have hal : Below w.heap.size w (w.alloc (.cells (Array.replicate 16 (.int .u8 0)) 25)) := (Below.refl _ _).alloc (Nat.le_refl _) _
  have hr0 := row_new w (Array.replicate 16 (.int .u8 0)) 25 16 (fun _ => .int .u8 0) (by simp) (zero16 _ rfl)
  by_cases h16 : n = 16
  · subst h16
    rw [show wordC 16 = 0 from by unfold wordC; rw [if_pos rfl], wordV_congr (F := E) (fun j hj => by unfold wordE; rw [if_pos rfl])]
    obtain ⟨A', c', he, hc, hr⟩ := slice_below h hal
    simp only [Value.slice.injEq, true_and] at he
    obtain ⟨rfl, rfl⟩ := he
    obtain ⟨sb, so, rfl, _, hcell⟩ := hr (by omega)
    have HC := Lib.hid hcell
    have HR0 := Lib.hid hr0
    have HAL := Lib.hid hal
    have qA : ∀ (w : World) (a : Option Addr) (cap : Nat), (Instr.arrayAt 25 (.slice a 16 cap)).run Tryz.prog w = .ok (.pointer a) w := fun w a cap => run_arrayAt w _ _ 16 a 16 cap Tryz.underlying25 (Nat.le_refl _)
    unfold wordV at *
    clear hcell hr h hr0 hal
    go_enter Tryz.func52, Tryz.ntmps52
    go_wp2_with (first
      | (refine load_run (by rfl) 25 (.tmp 9) (by rfl) sb so 16 E HC.out (by rfl) _ Tryz.underlying25 rfl (by kernel_rfl) ?_)
      | (refine store_whole (by rfl) 25 (.tmp 2) (.tmp 10) (by rfl) w.heap.size _ 16 (fun _ => .int .u8 0) (fun j => .int .u8 ((E j).toNat : Int)) HR0.out (by rfl) _ (by rfl) (by kernel_rfl) (size_cellsOf _ _) (cellsOf_at _ _) (fun _ _ => rfl) ?_
         intro w3 hr3 ho3
         have hb3 : Below w.heap.size w w3 := ho3.below HAL.out (Nat.le_refl _)
         clear ho3))
    exact bodyPost_ret (results_row_tmp rfl _ w.heap.size _ _ _ _ (by rfl) hr3 Tryz.underlying25 rfl (by kernel_rfl)) rfl ⟨rfl, hb3⟩
  · have h16' : ((n : Int) == 16) = false := by simp; omega
    rw [show wordC n = 3 from by unfold wordC; rw [if_neg h16], wordV_congr (F := fun _ => 0) (fun j hj => by unfold wordE; rw [if_neg h16])]
    have HR0 := Lib.hid hr0
    have HAL := Lib.hid hal
    clear h hr0 hal
    go_enter Tryz.func52, Tryz.ntmps52
    go_wp2_with (refine store_whole (by rfl) 25 (.tmp 2) (.tmp 7) (by rfl) w.heap.size _ 16 (fun _ => .int .u8 0) (fun _ => .int .u8 0) HR0.out (by rfl) _ (by rfl) (by kernel_rfl) (by rfl) (zero16 _ (by rfl)) (fun _ _ => rfl) ?_
                 intro w3 hr3 ho3
                 have hb3 : Below w.heap.size w w3 := ho3.below HAL.out (Nat.le_refl _)
                 clear ho3)
    exact bodyPost_ret (results_row_tmp rfl _ w.heap.size _ _ _ _ (by rfl) hr3 Tryz.underlying25 rfl (by kernel_rfl)) rfl ⟨rfl, hb3⟩
end Go.Proofs.YtnkjoambhmlnbaaGreatDoor.Field

namespace Go.Proofs.YtnkjoambhmlnbaaGreatDoor.Field
open Go Go.RowKit Go.Proofs.YtnkjoambhmlnbaaGreatDoor.Aid Go.Proofs.YtnkjoambhmlnbaaGreatDoor.Law01

theorem of_name (x : Nat) (hx : x < 256) (w : World) : Calls Tryz.prog 78 #[.int .u8 (x : Int)] w fun y w' => y = .returned (.bool (charB x)) ∧ w = w' := by
  rcases (show x < 48 ∨ (48 ≤ x ∧ x ≤ 57) ∨ (57 < x ∧ x < 97) ∨ (97 ≤ x ∧ x ≤ 122) ∨ 122 < x by omega) with h | h | h | h | h
  · rw [char_no (.inl h)]
    have r1 : (x : Int) < 48 := by omega
    clear h
    go_enter Tryz.func78, Tryz.ntmps78
    go_wp2
    all_goals first
      | (exfalso; simp at *; omega)
      | (go_ret; exact ⟨by congr 2 <;> (simp <;> omega), rfl⟩)
  · rw [char_yes (.inl h)]
    have r1 : (48 : Int) ≤ (x : Int) := by omega
    have r2 : (x : Int) ≤ 57 := by omega
    clear h
    go_enter Tryz.func78, Tryz.ntmps78
    go_wp2
    all_goals first
      | (exfalso; simp at *; omega)
      | (go_ret; exact ⟨by congr 2 <;> (simp <;> omega), rfl⟩)
  · rw [char_no (.inr (.inl h))]
    have r1 : (57 : Int) < (x : Int) := by omega
    have r2 : (x : Int) < 97 := by omega
    clear h
    go_enter Tryz.func78, Tryz.ntmps78
    go_wp2
    all_goals first
      | (exfalso; simp at *; omega)
      | (go_ret; exact ⟨by congr 2 <;> (simp <;> omega), rfl⟩)
  · rw [char_yes (.inr h)]
    have r1 : (97 : Int) ≤ (x : Int) := by omega
    have r2 : (x : Int) ≤ 122 := by omega
    clear h
    go_enter Tryz.func78, Tryz.ntmps78
    go_wp2
    all_goals first
      | (exfalso; simp at *; omega)
      | (go_ret; exact ⟨by congr 2 <;> (simp <;> omega), rfl⟩)
  · rw [char_no (.inr (.inr h))]
    have r1 : (122 : Int) < (x : Int) := by omega
    clear h
    go_enter Tryz.func78, Tryz.ntmps78
    go_wp2
    all_goals first
      | (exfalso; simp at *; omega)
      | (go_ret; exact ⟨by congr 2 <;> (simp <;> omega), rfl⟩)
set_option maxRecDepth 100000 in
set_option maxHeartbeats 1000000 in
theorem name_own (s : ByteArray) (w : World) (hs : s.size ≤ 9000000000000000000) : Calls Tryz.prog 54 #[.string s] w fun x w' => x = .returned (.bool (nameB s)) ∧ Below w.heap.size w w' := by
  by_cases hsz : 1 ≤ s.size ∧ s.size ≤ 20
  · have s1 : ¬ (s.size : Int) < 1 := by omega
    have s2 : ¬ (20 : Int) < (s.size : Int) := by omega
    go_enter Tryz.func54, Tryz.ntmps54
    go_wp2
    go_loopw [14] (fun i wr => ∃ k : Nat, k ≤ s.size ∧ i = .int .i64 (k : Int) ∧ wr = w ∧ Hid (∀ j, j < k → (h : j < s.size) → charB s[j].toNat = true)) (fun i _ => s.size - (intOf i).toNat)
    case atStart => exact ⟨0, by omega, rfl, rfl, fun j hj => by omega⟩
    case round =>
      obtain ⟨k, hk, rfl, rfl, hc⟩ := hrel
      by_cases hlt : k < s.size
      · have q0 : (0 : Int) ≤ (k : Int) := by omega
        have q1 : (k : Int) < (s.size : Int) := by omega
        have hx := s[k].toNat_lt
        have H := Lib.hid (of_name s[k].toNat (by omega) wr)
        cases hb : charB s[k].toNat with
        | false =>
          have r := Lib.hid (name_no k hlt hb)
          rw [hb] at H
          clear hc hb
          go_wp2_with (go_at_call 78; refine H.out.mono ?_; rintro _ w1 ⟨rfl, rfl⟩)
          go_ret
          exact ⟨by rw [r.out] <;> rfl, Below.refl _ _⟩
        | true =>
          have hyes : Hid (∀ j, j < k + 1 → (h : j < s.size) → charB s[j].toNat = true) := Lib.hid (fun j hj hs => by
            by_cases e : j = k
            · subst e; exact hb
            · exact hc.out j (by omega) hs)
          rw [hb] at H
          clear hc hb
          go_wp2_with (go_at_call 78; refine H.out.mono ?_; rintro _ w1 ⟨rfl, rfl⟩)
          exact ⟨⟨k + 1, by omega, congrArg (Value.int .i64) (by omega), trivial, hyes⟩, by simp [intOf]; omega⟩
      · obtain rfl : k = s.size := by omega
        have hn : Hid (nameB s = true) := Lib.hid (by
          unfold nameB
          exact decide_eq_true ⟨hsz.1, hsz.2, fun j hj => hc.out j hj hj⟩)
        clear hc
        go_wp2
        go_ret
        exact ⟨by rw [hn.out] <;> rfl, Below.refl _ _⟩
  · have hn : Hid (nameB s = false) := Lib.hid (by
      unfold nameB
      exact decide_eq_false (fun h => hsz ⟨h.1, h.2.1⟩))
    by_cases h1 : s.size < 1
    · have s1 : (s.size : Int) < 1 := by omega
      clear h1 hsz
      go_enter Tryz.func54, Tryz.ntmps54
      go_wp2
      go_ret
      exact ⟨by rw [hn.out] <;> rfl, Below.refl _ _⟩
    · have s1 : ¬ (s.size : Int) < 1 := by omega
      have s2 : (20 : Int) < (s.size : Int) := by omega
      clear h1 hsz
      go_enter Tryz.func54, Tryz.ntmps54
      go_wp2
      go_ret
      exact ⟨by rw [hn.out] <;> rfl, Below.refl _ _⟩
end Go.Proofs.YtnkjoambhmlnbaaGreatDoor.Field
