/-
  What bartizanref02.xored and Mac do: the document's own code. What bartizanref02.Expand does: the document's own output for a key and a purpose, or why not.
-/
import Derived.Test.YtaakhldhmoaplaaDoorBd18
import Derived.Test.YtaakhldhmoaplaaDoorBd17
import Derived.Test.YtaakhldhmoaplaaDoorBd01
import Derived.Test.YtaakhldhmoaplaaDoorBd06
import Derived.Deep.DeepCutAuto
import Derived.Deep.DrawnRows
import Derived.Deep.RegionHeld3
import Derived.Lib.AppendStr
namespace Go.Proofs.YtaakhldhmoaplaaDoor.Mac
open Go Go.RowKit Go.Proofs.YtaakhldhmoaplaaDoor.Aid Go.Proofs.YtaakhldhmoaplaaDoor.Sha Go.Proofs.YtaakhldhmoaplaaDoor.Law01

/-- 'x[:]' of an array. -/
theorem arr_all {P : Program} (t e N : TypeId) (hu : P.underlying t = some (.array N e)) (hsz : (P.info? e).map (·.size) = some 1) (b o : Nat) (W : World) :
    (Instr.sliceAt t (.pointer (some ⟨b, o, none⟩)) none none none).run P W = .ok (.slice (some ⟨b, o, none⟩) N N) W := by
  cases hq : P.info? e with
  | none => simp [hq] at hsz
  | some i =>
    simp [Instr.sliceAt, Instr.sliceBounds, Instr.sureAddr, Sem.run_bind, run_underlying hu W, Result.andThen, sizeOf, typeInfo, hq, Addr.add]
/-- The key, or its digest, as xored goes on with it. -/
def KeyRel (K : Nat → BitVec 8) (m : Nat) (w : World) (v : Value) (wr : World) : Prop :=
  ∃ (A : Option Addr) (l c : Nat) (K' : Nat → BitVec 8), v = .slice A l c ∧ l ≤ 64 ∧ SliceOf wr wr.heap.size l K' v ∧ (∀ j, (if j < l then K' j else 0) = padKey K m j) ∧ Below w.heap.size w wr

set_option maxRecDepth 100000 in
set_option maxHeartbeats 1000000 in
theorem xored_any (K : Nat → BitVec 8) (A : Option Addr) (m c : Nat) (x : BitVec 8) (w : World) (hv : SliceOf w w.heap.size m K (.slice A m c)) (hm : m ≤ 400) :
    Calls Tryd.prog 64 #[.slice A m c, .int .u8 (x.toNat : Int)] w fun r w' => ∃ v, r = .returned v ∧ Own w' w.heap.size 64 (xorBy (padKey K m) x) v ∧ Below w.heap.size w w' := by
  go_enter Tryd.func64, Tryd.ntmps64
  go_upto_if 10 with fail
  go_cut [0] (fun v wx => KeyRel K m w v wx)
  case first =>
    by_cases h64 : 64 < m
    · have e0 : decide ((64 : Int) < (m : Int)) = true := by simp; omega
      go_wp2_with (first
        | (go_at_call 63
           refine (refSum_any K A m c w hv (by omega)).mono ?_
           rintro e1 w1 ⟨rfl, hb1⟩)
        | (refine store_whole (by rfl) 93 (.tmp 5) (.tmp 12) (by rfl) w1.heap.size _ 32 (fun _ => .int .u8 0) (fun j => .int .u8 ((digest K m j).toNat : Int)) (by exact row_new w1 _ _ 32 _ (by rfl) (zeros32 _ (by rfl))) (by rfl) _ (by rfl) (by kernel_rfl) (size_cellsOf _ _) (cellsOf_at _ _) (fun _ _ => rfl) ?_
           intro w2 hr2 ho2
           have hb2 := ho2.below (hb1.alloc hb1.size _) hb1.size
           clear ho2))
      go_meet
      have hlt2 := hr2.lt
      refine ⟨_, 32, 32, digest K m, rfl, by omega, ⟨_, _, rfl, by omega, fun _ => ⟨w1.heap.size, 0, rfl, by omega, fun j hj => by rw [Nat.zero_add, hr2.cell hj]⟩⟩, fun j => ?_, hb2⟩
      unfold padKey
      rw [if_pos h64]
    · have e0 : decide ((64 : Int) < (m : Int)) = false := by simp; omega
      go_wp2
      go_meet
      refine ⟨_, m, c, K, rfl, by omega, hv, fun j => ?_, Below.refl _ _⟩
      unfold padKey
      rw [if_neg h64]
  case rest =>
    obtain ⟨A', l, c', K', rfl, hl, hk, hpad, hb1⟩ := hcut
    clear hv
    have Hpad := Lib.hid hpad
    clear hpad
    go_wp2
    go_loopw [6, 7] (fun o i wr => ∃ k : Nat, k ≤ 64 ∧ i = .int .i64 k ∧ Own wr wc.heap.size k (xorBy (padKey K m) x) o ∧ Below wc.heap.size wc wr) (fun _ i _ => 64 - (intOf i).toNat)
    case atStart => exact ⟨0, by omega, rfl, World.ownsRow_nil _ _ _ _, Below.refl _ _⟩
    case round =>
      obtain ⟨k, hk64, rfl, hown, hb⟩ := hrel
      have hBs := hb.size
      obtain ⟨v0b, hv0⟩ : ∃ y, Hid (u6.ownBlock = y) := ⟨_, rfl⟩
      by_cases hlt : k < 64
      · have q0 : (0 : Int) ≤ (k : Int) := by omega
        have q1 : (k : Int) < 64 := by omega
        by_cases hkl : k < l
        · have q2 : (k : Int) < (l : Int) := by omega
          obtain ⟨A'', c'', e1, _, r1⟩ := hk
          simp only [Value.slice.injEq, true_and] at e1
          obtain ⟨rfl, rfl⟩ := e1
          obtain ⟨sb, so, rfl, _, hc⟩ := r1 (by omega)
          have cu0 := hc k hkl
          have hsb : sb < wc.heap.size := block_lt_of_cell cu0
          have cu := (hb.cell (p := ⟨sb, so + k, none⟩) hsb).trans cu0
          have hx : Hid (xorBy (padKey K m) x k = K' k ^^^ x) := by
            have := Hpad.out k
            rw [if_pos hkl] at this
            show padKey K m k ^^^ x = _
            rw [← this]
          have hone := slice_one wr (wr.heap.size + 1) (by omega) (K' k ^^^ x) (bits .xor .u8 ((K' k).toNat : Int) (x.toNat : Int)) (xor8 _ _)
          have ho1 := hown.below ((Below.refl _ wr).alloc (Nat.le_refl _) (.cells #[.int .u8 (bits .xor .u8 ((K' k).toNat : Int) (x.toNat : Int))] 5))
          clear hc cu0 r1
          go_wp2_with (at_builtin
                       refine append_bytes (by rfl) (.tmp 22) (.tmp 29) (by rfl) wc.heap.size k (xorBy (padKey K m) x) _ (by rfl) ho1 (wr.heap.size + 1) 1 (fun _ => K' k ^^^ x) _ (by rfl) hone (by omega) (by simp; omega) ?_
                       intro v3 w3 hown3 hg3 hat3)
          have h3 : Own w3 wc.heap.size (k + 1) (xorBy (padKey K m) x) v3 := own_next hown3 hx.out
          have hb3 : Below wc.heap.size wc w3 := (hb.alloc hb.size _).grown hg3 (by simp; omega) (fun b hb => (ho1.lt hb).1)
          clear hown3 hg3 hat3 hown hb ho1 hone
          go_roundw
          case rel => exact ⟨k + 1, by omega, by go_num, h3, hb3⟩
          case measure => simp [intOf]; omega
        · have q2 : ¬ (k : Int) < (l : Int) := by omega
          have hx : Hid (xorBy (padKey K m) x k = x) := by
            have := Hpad.out k
            rw [if_neg hkl] at this
            show padKey K m k ^^^ x = _
            rw [← this]
            simp
          have hone := slice_one wr (wr.heap.size + 1) (by omega) x (x.toNat : Int) rfl
          have ho1 := hown.below ((Below.refl _ wr).alloc (Nat.le_refl _) (.cells #[.int .u8 (x.toNat : Int)] 5))
          go_wp2_with (at_builtin
                       refine append_bytes (by rfl) (.tmp 31) (.tmp 33) (by rfl) wc.heap.size k (xorBy (padKey K m) x) _ (by rfl) ho1 (wr.heap.size + 1) 1 (fun _ => x) _ (by rfl) hone (by omega) (by simp; omega) ?_
                       intro v3 w3 hown3 hg3 hat3)
          have h3 : Own w3 wc.heap.size (k + 1) (xorBy (padKey K m) x) v3 := own_next hown3 hx.out
          have hb3 : Below wc.heap.size wc w3 := (hb.alloc hb.size _).grown hg3 (by simp; omega) (fun b hb => (ho1.lt hb).1)
          clear hown3 hg3 hat3 hown hb ho1 hone
          go_roundw
          case rel => exact ⟨k + 1, by omega, by go_num, h3, hb3⟩
          case measure => simp [intOf]; omega
      · obtain rfl : k = 64 := by omega
        have hw := hb1.trans (hb.mono hb1.size)
        have ho := own_base hown hb1.size
        clear hown hb hk
        go_wp2
        go_ret
        exact ⟨_, rfl, ho, hw⟩

set_option maxRecDepth 100000 in
set_option maxHeartbeats 1000000 in
theorem refMac_any (K D : Nat → BitVec 8) (A B : Option Addr) (m c n d : Nat) (w : World) (hkey : SliceOf w w.heap.size m K (.slice A m c)) (hm : m ≤ 300) (hs : SliceOf w w.heap.size n D (.slice B n d)) (hn : n ≤ 1500) :
    Calls Tryd.prog 47 #[.slice A m c, .slice B n d] w fun x w' => x = .returned (.agg (byteCells 32 (code K m D n))) ∧ Below w.heap.size w w' := by
  have hr0 := row_new w (Array.replicate 32 (.int .u8 0)) 93 32 _ (by simp) (zeros32 _ rfl)
  have hb0 := (Below.refl w.heap.size w).alloc (Nat.le_refl _) (.cells (Array.replicate 32 (.int .u8 0)) 93)
  have hk0 := slice_any (slice_below hkey hb0) (Nat.le_refl _)
  have hs0 := slice_any (slice_below hs hb0) (Nat.le_refl _)
  obtain ⟨P, hP⟩ : ∃ P, P = padKey K m := ⟨_, rfl⟩
  have HP := Lib.hid hP
  clear hkey hs
  go_enter Tryd.func47, Tryd.ntmps47
  go_wp2_with fail
  change Calls Tryd.prog 64 _ (w.alloc (.cells (Array.replicate 32 (.int .u8 0)) 93)) _
  generalize w.alloc (.cells (Array.replicate 32 (.int .u8 0)) 93) = w0 at *
  refine (xored_any K A m c 54 w0 hk0 (by omega)).mono ?_
  rw [← hP]
  rintro x w1 ⟨v1, rfl, hown1, hb1⟩
  obtain ⟨g1, cap1, rfl⟩ : ∃ g1 cap1, v1 = .slice (some ⟨g1, 0, none⟩) 64 cap1 := by
    rcases hown1.form with ⟨_, h0⟩ | ⟨g, cap, cur, rfl, _⟩
    · omega
    · exact ⟨_, _, rfl⟩
  have hs1 := slice_any (slice_below hs0 hb1) (Nat.le_refl _)
  have hBB := hb1.size
  have hlt0 : w.heap.size < w0.heap.size := hr0.lt
  clear hP hs0
  go_wp2_with (at_builtin
               refine append_bytes (by rfl) (.tmp 7) (.tmp 8) (by rfl) w0.heap.size 64 (xorBy P 54) _ (by rfl) hown1 w1.heap.size n D _ (by rfl) hs1 (by omega) hBB ?_
               intro v2 w2 hown2 hg2 hat2)
  obtain ⟨g2, cap2, rfl⟩ : ∃ g2 cap2, v2 = .slice (some ⟨g2, 0, none⟩) (64 + n) cap2 := by
    rcases hown2.form with ⟨_, h0⟩ | ⟨g, cap, cur, rfl, _⟩
    · omega
    · exact ⟨_, _, rfl⟩
  have hne1 : ∀ b, b < w0.heap.size → some b ≠ (Value.slice (some ⟨g1, 0, none⟩) 64 cap1).ownBlock := fun b hb e1 => by have := (hown1.lt e1.symm).1; omega
  have h02 : Below w0.heap.size w0 w2 := hb1.trans ⟨hg2.os, hg2.tape, hg2.output, hg2.size, fun b hb => hg2.block b (by omega) (hne1 b hb)⟩
  have hs2 := hown2.slice (g' := w2.heap.size) (.inr (Nat.le_refl _))
  clear hown1 hown2 hg2 hat2 hne1 hb1 hs1 hBB
  refine (refSum_any _ _ (64 + n) cap2 w2 hs2 (by omega)).mono ?_
  obtain ⟨I, hI⟩ : ∃ I, I = inner P D n := ⟨_, rfl⟩
  rw [show digest (cat (xorBy P 54) 64 D) (64 + n) = I by rw [hI]; rfl]
  have HI := Lib.hid hI
  rintro x w3 ⟨rfl, hb3⟩
  have h03 := h02.trans (hb3.mono h02.size)
  clear hI hs2 hb3 h02
  go_wp2_with (refine store_whole (by rfl) 93 (.tmp 5) (.tmp 10) (by rfl) w3.heap.size _ 32 (fun _ => .int .u8 0) (fun j => .int .u8 ((I j).toNat : Int)) (by exact row_new w3 _ _ 32 _ (by rfl) (zeros32 _ (by rfl))) (by rfl) _ (by rfl) (by kernel_rfl) (size_cellsOf _ _) (cellsOf_at _ _) (fun _ _ => rfl) ?_
               intro w4 hr4 ho4
               have h04 := ho4.below (h03.alloc h03.size _) h03.size
               have hlt4 : w3.heap.size < w4.heap.size := hr4.lt
               clear ho4 h03)
  have hk4 := slice_any (slice_below hk0 h04) (Nat.le_refl w4.heap.size)
  have hsz0 := h04.size
  have hk4' : SliceOf w4.drew w4.drew.heap.size m K (.slice A m c) := hk4
  refine wp_region_noPanic ?_
  refine region_02 (.slice A m c) (.slice (some ⟨w3.heap.size, 0, none⟩) 32 32) (by kernel_rfl) (by kernel_rfl) (fun _ _ _ h => h) (fun _ _ _ h => h) (.inl ⟨rfl, fun _ => rfl⟩) (.inl ⟨rfl, fun W => ?_⟩) ?_
  · simp [execOp, Act.put]
    show ((Instr.sliceAt 93 (.pointer (some ⟨w3.heap.size, 0, none⟩)) none none none).run Tryd.prog W).andThen _ = _
    rw [arr_all 93 5 32 Tryd.underlying93 (by kernel_rfl)]
    rfl
  simp only [Act.put]
  go_wp2_with fail
  refine (xored_any K A m c 92 w4.drew hk4' (by omega)).mono ?_
  rw [← HP.out]
  rintro x w5 ⟨v5, rfl, hown5, hb5⟩
  obtain ⟨g5, cap5, rfl⟩ : ∃ g5 cap5, v5 = .slice (some ⟨g5, 0, none⟩) 64 cap5 := by
    rcases hown5.form with ⟨_, h0⟩ | ⟨g, cap, cur, rfl, _⟩
    · omega
    · exact ⟨_, _, rfl⟩
  have h45 : Below w4.heap.size w4 w5 := (Below.refl _ w4).drew.trans hb5
  have hr5 := hr4.of_block (h45.block _ hlt4)
  have hlt5 : w4.heap.size ≤ w5.heap.size := h45.size
  have hsl5 : SliceOf w5 w5.heap.size 32 I (.slice (some ⟨w3.heap.size, 0, none⟩) 32 32) := ⟨_, _, rfl, by omega, fun _ => ⟨w3.heap.size, 0, rfl, by omega, fun j hj => by rw [Nat.zero_add, hr5.cell hj]⟩⟩
  have h05 := h04.trans (h45.mono h04.size)
  clear hk4 hk4' hr4 h04 h45 hb5 hr5
  go_wp2_with (at_builtin
               refine append_bytes (by rfl) (.tmp 12) (.tmp 13) (by rfl) w4.heap.size 64 (xorBy P 92) _ (by rfl) hown5 w5.heap.size 32 I _ (by rfl) hsl5 (by omega) hlt5 ?_
               intro v6 w6 hown6 hg6 hat6)
  obtain ⟨g6, cap6, rfl⟩ : ∃ g6 cap6, v6 = .slice (some ⟨g6, 0, none⟩) 96 cap6 := by
    rcases hown6.form with ⟨_, h0⟩ | ⟨g, cap, cur, rfl, _⟩
    · omega
    · exact ⟨_, _, rfl⟩
  have hne5 : ∀ b, b < w4.heap.size → some b ≠ (Value.slice (some ⟨g5, 0, none⟩) 64 cap5).ownBlock := fun b hb e1 => by have := (hown5.lt e1.symm).1; simp at this; omega
  have h06 : Below w0.heap.size w0 w6 := h05.trans ⟨hg6.os, hg6.tape, hg6.output, hg6.size, fun b hb => hg6.block b (by omega) (hne5 b (by omega))⟩
  have hs6 := hown6.slice (g' := w6.heap.size) (.inr (Nat.le_refl _))
  have hr6 := hr0.of_block (h06.block _ hlt0)
  clear hown5 hown6 hg6 hat6 hne5 h05 hsl5
  refine (refSum_any _ _ 96 cap6 w6 hs6 (by omega)).mono ?_
  rw [show digest (cat (xorBy P 92) 64 I) 96 = code K m D n by unfold code; rw [← HP.out]; unfold codeP; rw [← HI.out]]
  rintro x w7 ⟨rfl, hb7⟩
  have hr7 := hr6.of_block (hb7.block _ hr6.lt)
  have h07 := h06.trans (hb7.mono h06.size)
  have hw7 := hb0.trans (h07.mono hb0.size)
  clear hs6 hr6 hb7 h06 h07 hb0 hr0 hk0 HP HI
  go_wp2_with (refine store_whole (by rfl) 93 (.tmp 4) (.tmp 15) (by rfl) w.heap.size _ 32 _ (fun t => .int .u8 ((code K m D n t).toNat : Int)) hr7 (by rfl) _ (by rfl) (by kernel_rfl) (size_cellsOf _ _) (cellsOf_at _ _) (fun _ _ => rfl) ?_
               intro w8 hr8 ho8)
  refine NoPanic.normal ?_
  go_wp2
  exact bodyPost_ret (results_row rfl _ w.heap.size _ _ _ _ (by rfl) hr8 Tryd.underlying93 rfl (by kernel_rfl)) rfl ⟨rfl, ho8.below hw7 (Nat.le_refl _)⟩
end Go.Proofs.YtaakhldhmoaplaaDoor.Mac

namespace Go.Proofs.YtaakhldhmoaplaaDoor.Mac
open Go Go.RowKit Go.Proofs.YtaakhldhmoaplaaDoor.Aid Go.Proofs.YtaakhldhmoaplaaDoor.Sha Go.Proofs.YtaakhldhmoaplaaDoor.Law01

section
variable {w : World} {ops : Array Oper} {rest : List Oper} {op : Oper} {a : Act} {Q : Exit → Act → World → Prop}
theorem strCells_map (s : ByteArray) : Lib.strCells s = (List.range s.size).map fun i => Value.int .u8 ((strByte s i).toNat : Int) := by
  apply List.ext_getElem?
  intro j
  by_cases h : j < s.size
  · have hl : j < s.data.toList.length := by simpa using h
    simp only [Lib.strCells, List.getElem?_map, List.getElem?_range h, Option.map_some, List.getElem?_eq_getElem hl]
    rw [← strByte_cell, List.getD_eq_getElem?_getD, List.getElem?_eq_getElem hl]
    rfl
  · rw [List.getElem?_eq_none (by simp [Lib.strCells]; omega), List.getElem?_eq_none (by simp; omega)]
/-- 'append(v, s...)', v the call's own, s a string. -/
theorem append_str (hgd : op.guard = none) (s x : Operand) (ho : op.op = .call { callee := .builtin .append, args := #[s, x], argTypes := #[28, 9] })
    (base n : Nat) (e : Nat → BitVec 8) (v : Value) (hs : a.eval s = v) (hown : Own w base n e v) (t : ByteArray) (hx : a.eval x = .string t) (hnm : n + t.size ≤ 1000000000) (hbase : base ≤ w.heap.size)
    (hK : ∀ v' w', Own w' base (n + t.size) (cat e n (strByte t)) v' → w.grownBy w' v.ownBlock → wpList Tryd.prog ops Q rest (a.put op.dst v') w') : wpList Tryd.prog ops Q (op :: rest) a w := by
  obtain ⟨i, hi, hz⟩ := Option.map_eq_some_iff.1 info_u8
  simp only [Prod.mk.injEq] at hz
  refine Lib.wpList_append_own_string (P := Tryd.prog) w hgd s x 28 9 ho base 5 i Tryd.underlying28 Tryd.underlying9 hi hz.1 hz.2.1 hz.2.2 v n _ hs hown t hx (by simp only [maxLen]; omega) (by omega) hbase ?_
  intro v' w' h1 h2 _
  rw [strCells_map, map_cat] at h1
  exact hK v' w' h1 h2
end

/-- The message of a block, gathered part by part. -/
theorem msg_code (K prev S : Nat → BitVec 8) (x : BitVec 8) (l p n : Nat) :
    code K l (cat (cat (cat (fun _ => 0) 0 prev) (0 + p) S) (0 + p + n) (fun _ => x)) (0 + p + n + 1) = codeP (padKey K l) (cat prev p (cat S n (fun _ => x))) (p + (n + 1)) := by
  rw [show 0 + p + n + 1 = p + (n + 1) by omega, Nat.zero_add]
  refine codeP_congr _ _ _ _ _ (fun _ _ => rfl) (fun j hj => ?_)
  by_cases h1 : j < p
  · rw [cat_lt _ _ _ _ (by omega), cat_lt _ _ _ _ h1, cat_ge _ _ _ _ (by omega), cat_lt _ _ _ _ h1, Nat.sub_zero]
  · by_cases h2 : j < p + n
    · rw [cat_lt _ _ _ _ h2, cat_ge _ _ _ _ (by omega), cat_ge _ _ _ _ (by omega), cat_lt _ _ _ _ (by omega)]
    · rw [cat_ge _ _ _ _ (by omega), cat_ge _ _ _ _ (by omega), cat_ge _ _ _ _ (by omega)]

set_option maxRecDepth 100000 in
set_option maxHeartbeats 1000000 in
theorem refExpand_err (v : Value) (s : ByteArray) (many : Int) (w : World) (hm : many < 0 ∨ 8160 < many) :
    Calls Tryd.prog 60 #[v, .string s, .int .i64 many] w fun x w' => x = .returned (.tuple #[.slice none 0 0, .int .i64 1]) ∧ w' = w := by
  by_cases h0 : many < 0
  · have e0 : decide (many < 0) = true := decide_eq_true h0
    go_enter Tryd.func60, Tryd.ntmps60
    go_wp2
    go_ret2
    exact ⟨rfl, rfl⟩
  · have h1 : 8160 < many := by omega
    have e0 : decide (many < 0) = false := decide_eq_false h0
    go_enter Tryd.func60, Tryd.ntmps60
    go_wp2
    go_ret2
    exact ⟨rfl, rfl⟩

/-- What the reference's Expand holds at its loop's head: k blocks are out. -/
structure RefRel (P S : Nat → BitVec 8) (s many k : Nat) (out last : Value) (w wr : World) : Prop where
  hk : 32 * k ≤ many + 31
  ho : Own wr w.heap.size (32 * k) (output P S s) out
  hp : SliceOf wr wr.heap.size (prevLen k) (outBlock P S s k) last
  hb : Below w.heap.size w wr

set_option maxRecDepth 100000 in
set_option maxHeartbeats 2000000 in
theorem refExpand_any (K : Nat → BitVec 8) (A : Option Addr) (l c : Nat) (s : ByteArray) (many : Nat) (w : World) (hkey : SliceOf w w.heap.size l K (.slice A l c)) (hl : l ≤ 200) (hs : s.size ≤ 200) (hm : many ≤ 300) :
    Calls Tryd.prog 60 #[.slice A l c, .string s, .int .i64 (many : Int)] w fun x w' => ∃ v, x = .returned (.tuple #[v, .int .i64 0]) ∧ (∀ g, g < w.heap.size ∨ w'.heap.size ≤ g → SliceOf w' g many (output (padKey K l) (strByte s) s.size) v) ∧ Below w.heap.size w w' := by
  have q0 : ¬ (many : Int) < 0 := by omega
  have q1 : ¬ (8160 : Int) < (many : Int) := by omega
  obtain ⟨P, hP⟩ : ∃ P, P = padKey K l := ⟨_, rfl⟩
  rw [← hP]
  have HP := Lib.hid hP
  clear hP
  go_enter Tryd.func60, Tryd.ntmps60
  go_wp2
  go_loopw [8, 9, 10, 11] (fun out last n _ wr => ∃ k : Nat, n = .int .i64 ((k : Int) + 1) ∧ RefRel P (strByte s) s.size many k out last w wr) (fun out _ _ _ _ => many - lenOfSlice out)
  case atStart => exact ⟨0, rfl, by omega, World.ownsRow_nil _ _ _ _, SliceOf.nil _ _ _, Below.refl _ _⟩
  case round =>
    obtain ⟨k, rfl, h⟩ := hrel
    have hk' := h.hk
    obtain ⟨B, cap, rfl, hcap, hBs⟩ := own_shape h.ho
    obtain ⟨L, hL⟩ : ∃ L, L = 32 * k := ⟨_, rfl⟩
    rw [← hL] at hcap ⊢
    by_cases hlt : L < many
    · have q2 : (L : Int) < (many : Int) := by omega
      obtain ⟨pA, pc, hpv, _⟩ := id h.hp
      subst hpv
      have ho0 := own_empty8 wr (fun _ => 0)
      have hw0 : Below wr.heap.size wr (wr.alloc (.cells #[] 5)) := (Below.refl _ _).alloc (Nat.le_refl _) _
      have hp0 := slice_below h.hp hw0
      have hprev : prevLen k ≤ 32 := by unfold prevLen; split <;> omega
      have hbyte : Hid ((k : Int) + 1 = ((BitVec.ofNat 8 (k + 1)).toNat : Int)) := by show _ = _; rw [BitVec.toNat_ofNat]; omega
      have hout6 : Hid (∀ w6, Below wr.heap.size wr w6 → Own w6 w.heap.size L (output P (strByte s) s.size) (.slice B L cap)) := fun w6 hb => by rw [hL]; rw [hL] at *; exact h.ho.below hb
      have hzr := h.hb.size
      have HR := Lib.hid h
      have HL := Lib.hid hL
      clear h hL hBs
      go_wp2_with (first
        | (at_builtin
           refine append_bytes (by rfl) (.tmp 25) (.tmp 26) (by rfl) wr.heap.size 0 (fun _ => 0) _ (by rfl) ho0 wr.heap.size (prevLen k) (outBlock P (strByte s) s.size k) _ (by rfl) hp0 (by omega) (by simp) ?_
           intro v1 w1 hown1 hg1 hat1
           have hb1 : Below wr.heap.size wr w1 := hw0.grown hg1 (by simp) (fun b hb => by simp [Value.ownBlock] at hb; omega)
           have hz1 := hb1.size)
        | (at_builtin
           refine append_str (by rfl) (.tmp 27) (.tmp 28) (by rfl) wr.heap.size (0 + prevLen k) _ _ (by rfl) hown1 s (by rfl) (by omega) hz1 ?_
           intro v2 w2 hown2 hg2
           have hb2 : Below wr.heap.size wr w2 := hb1.grown hg2 hz1 (fun b hb => (hown1.lt hb).1)
           have hz2 := hb2.size
           have hbb := (Below.refl w2.heap.size w2).alloc (Nat.le_refl _) (.cells #[.int .u8 ((k : Int) + 1)] 5)
           clear hown1 hg1 hg2 hat1 hb1 hz1)
        | (at_builtin
           refine append_bytes (by rfl) (.tmp 29) (.tmp 32) (by rfl) wr.heap.size (0 + prevLen k + s.size) _ _ (by rfl) (hown2.below hbb) (w2.heap.size + 1) 1 (fun _ => BitVec.ofNat 8 (k + 1)) _ (by rfl) (slice_one w2 (w2.heap.size + 1) (by omega) _ _ hbyte.out) (by omega) (by simp; omega) ?_
           intro v3 w3 hown3 hg3 hat3
           have hb3 : Below wr.heap.size wr w3 := (hb2.trans (hbb.mono hz2)).grown hg3 (by simp; omega) (fun b hb => (hown2.lt hb).1)
           have hz3 := hb3.size
           clear hown2 hg3 hat3 hb2 hbb hz2))
      obtain ⟨B3, c3, rfl, _, _⟩ := own_shape hown3
      have hw3 := HR.out.hb.trans (hb3.mono HR.out.hb.size)
      have hkey3 := slice_any (slice_below hkey hw3) (Nat.le_refl _)
      have hmac := refMac_any K _ A B3 l c _ c3 w3 hkey3 (by omega) (hown3.slice (.inr (Nat.le_refl _))) (by omega)
      rw [msg_code, ← HP.out, show codeP P (cat (outBlock P (strByte s) s.size k) (prevLen k) (cat (strByte s) s.size (fun _ => BitVec.ofNat 8 (k + 1)))) (prevLen k + (s.size + 1)) = outBlock P (strByte s) s.size (k + 1) from rfl] at hmac
      refine hmac.mono ?_
      obtain ⟨E, hE⟩ : ∃ E, E = outBlock P (strByte s) s.size (k + 1) := ⟨_, rfl⟩
      rw [← hE]
      have HE := Lib.hid hE
      rintro x w4 ⟨rfl, hb4⟩
      have hb4' := hb3.trans (hb4.mono hz3)
      have hz4 := hb4'.size
      clear hE hmac hkey3 hown3 hw3 hb3 hb4 hz3 hp0 ho0 hw0
      go_wp2_with (first
        | (refine store_whole (by rfl) 93 (.tmp 11) (.tmp 34) (by rfl) w4.heap.size _ 32 (fun _ => .int .u8 0) (fun t => .int .u8 ((E t).toNat : Int)) (by exact row_new w4 _ _ 32 _ (by rfl) (zeros32 _ (by rfl))) (by rfl) _ (by rfl) (by kernel_rfl) (size_cellsOf _ _) (cellsOf_at _ _) (fun _ _ => rfl) ?_
           intro w5 hr5 ho5
           have hb5 := ho5.below (hb4'.alloc hz4 _) hz4
           have hz5 := hb5.size
           have hlt5 := hr5.lt
           have hoe := own_empty8 w5 (fun _ => 0)
           have hsl5 : SliceOf (w5.alloc (.cells #[] 5)) w5.heap.size 32 E (.slice (some ⟨w4.heap.size, 0, none⟩) 32 32) := ⟨_, _, rfl, by omega, fun _ => ⟨w4.heap.size, 0, rfl, by omega, fun j hj => by rw [Nat.zero_add, (hr5.alloc _).cell hj]⟩⟩
           clear ho5 hb4' hr5)
        | (at_builtin
           refine append_bytes (by rfl) (.tmp 35) (.tmp 36) (by rfl) w5.heap.size 0 (fun _ => 0) _ (by rfl) hoe w5.heap.size 32 E _ (by rfl) hsl5 (by omega) (by simp) ?_
           intro v6 w6 hown6 hg6 hat6
           have hb56 : Below w5.heap.size w5 w6 := ((Below.refl w5.heap.size w5).alloc (Nat.le_refl _) _).grown hg6 (by simp) (fun b hb => by simp [Value.ownBlock] at hb; omega)
           have hb6 := hb5.trans (hb56.mono hz5)
           have hz6 := hb6.size
           clear hoe hsl5 hg6 hat6)
        | (at_builtin
           refine append_bytes (by rfl) (.tmp 38) (.tmp 39) (by rfl) w.heap.size L (output P (strByte s) s.size) _ (by rfl) (hout6.out w6 hb6) w6.heap.size (0 + 32) _ _ (by rfl) (hown6.slice (.inr (Nat.le_refl _))) (by omega) (by omega) ?_
           intro v7 w7 hown7 hg7 hat7))
      have hzz : wr.heap.size ≤ w5.heap.size := hz5
      have hob : ∀ b, (Value.slice B L cap).ownBlock = some b → w.heap.size ≤ b ∧ b < wr.heap.size := fun b hb => (hout6.out wr (Below.refl _ _)).lt hb
      have hown6' : Own w7 w5.heap.size (0 + 32) (cat (fun _ => 0) 0 E) v6 := hown6.keep (fun b hb => hg7.block b (hown6.lt hb).2 (fun e1 => by have h1 := hob b e1.symm; have h2 := (hown6.lt hb).1; omega))
      have h7 : RefRel P (strByte s) s.size many (k + 1) v7 v6 w w7 := by
        have hLk := HL.out
        refine ⟨by omega, ?_, ?_, HR.out.hb.trans ((hb6.mono hzr).grown hg7 (by omega) (fun b hb => (hob b hb).1))⟩
        · rw [show L + (0 + 32) = 32 * (k + 1) by omega] at hown7
          refine Own.congr' hown7 (fun j hj => ?_)
          by_cases h1 : j < L
          · rw [cat_lt _ _ _ _ h1]
          · rw [cat_ge _ _ _ _ (by omega), cat_ge _ _ _ _ (by omega), Nat.sub_zero, HE.out, ← output_block P (strByte s) s.size k (j - L) (by omega), show 32 * k + (j - L) = j by omega]
        · have := hown6'.slice (g' := w7.heap.size) (.inr (Nat.le_refl _))
          rw [show 0 + 32 = prevLen (k + 1) by unfold prevLen; rw [if_neg (by omega)]] at this
          exact this.congr (fun j _ => by rw [cat_ge _ _ _ _ (by omega), Nat.sub_zero, HE.out])
      refine ⟨⟨k + 1, int_of (by omega), h7⟩, ?_⟩
      have hv7 : lenOfSlice v7 = L + (0 + 32) := by
        rcases hown7.form with ⟨rfl, h0⟩ | ⟨g, cap', cur, rfl, _⟩
        · omega
        · rfl
      rw [hv7]
      show many - (L + (0 + 32)) < many - L
      omega
    · have hge : many ≤ L := by omega
      have hcut := fun W => head_run (P := Tryd.prog) 28 5 Tryd.underlying28 (by kernel_rfl) B hBs L cap many (by omega) .i64 W
      have hsl : ∀ g, g < w.heap.size ∨ wr.heap.size ≤ g → SliceOf wr g many (output P (strByte s) s.size) (.slice B many cap) := fun g hg => by
        have hsl := h.ho.slice (g' := g) hg
        rw [← hL] at hsl
        exact slice_head hsl hge
      have hb := h.hb
      have HS := Lib.hid hsl
      clear h hL hBs hsl
      go_wp2
      go_ret2
      exact ⟨_, rfl, HS.out, hb⟩
end Go.Proofs.YtaakhldhmoaplaaDoor.Mac
