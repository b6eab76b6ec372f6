/-
  What bartizanref02.Expand does: the document's own output for a key and a purpose, or why not.
-/
import Derived.Test.YthdfbkfoljfbhaaDoorRefMac
import Derived.Lib.AppendStr
import Derived.Test.YthdfbkfoljfbhaaDoorLaw02First
namespace Go.Proofs.YthdfbkfoljfbhaaDoor.Mac
open Go Go.RowKit Go.Proofs.YthdfbkfoljfbhaaDoor.Aid Go.Proofs.YthdfbkfoljfbhaaDoor.Sha Go.Proofs.YthdfbkfoljfbhaaDoor.Law01

section
variable {w : World} {ops : Array Oper} {rest : List Oper} {op : Oper} {a : Act} {Q : Exit → Act → World → Prop}
theorem strCells_map (s : ByteArray) : Lib.strCells s = (List.range s.size).map fun i => Value.int .u8 ((strByte s i).toNat : Int) := by
  apply List.ext_getElem?
  intro j
  by_cases h : j < s.size
  · have hl : j < s.data.toList.length := by simpa using h
    simp only [Lib.strCells, List.getElem?_map, List.getElem?_range h, Option.map_some, List.getElem?_eq_getElem hl]
    rw [← strByte_cell, List.getD_eq_getElem?_getD, List.getElem?_eq_getElem hl]
    rfl
  · rw [List.getElem?_eq_none (by simp [Lib.strCells]; omega), List.getElem?_eq_none (by simp; omega)]
/-- 'append(v, s...)', v the call's own, s a string. -/
theorem append_str (hgd : op.guard = none) (s x : Operand) (ho : op.op = .call { callee := .builtin .append, args := #[s, x], argTypes := #[22, 9] })
    (base n : Nat) (e : Nat → BitVec 8) (v : Value) (hs : a.eval s = v) (hown : Own w base n e v) (t : ByteArray) (hx : a.eval x = .string t) (hnm : n + t.size ≤ 1000000000) (hbase : base ≤ w.heap.size)
    (hK : ∀ v' w', Own w' base (n + t.size) (cat e n (strByte t)) v' → w.grownBy w' v.ownBlock → wpList Tryd.prog ops Q rest (a.put op.dst v') w') : wpList Tryd.prog ops Q (op :: rest) a w := by
  obtain ⟨i, hi, hz⟩ := Option.map_eq_some_iff.1 info_u8
  simp only [Prod.mk.injEq] at hz
  refine Lib.wpList_append_own_string (P := Tryd.prog) w hgd s x 22 9 ho base 5 i Tryd.underlying22 Tryd.underlying9 hi hz.1 hz.2.1 hz.2.2 v n _ hs hown t hx (by simp only [maxLen]; omega) (by omega) hbase ?_
  intro v' w' h1 h2 _
  rw [strCells_map, map_cat] at h1
  exact hK v' w' h1 h2
end

/-- The message of a block, gathered part by part. -/
theorem msg_code (K prev S : Nat → BitVec 8) (x : BitVec 8) (l p n : Nat) :
    code K l (cat (cat (cat (fun _ => 0) 0 prev) (0 + p) S) (0 + p + n) (fun _ => x)) (0 + p + n + 1) = codeP (padKey K l) (cat prev p (cat S n (fun _ => x))) (p + (n + 1)) := by
  rw [show 0 + p + n + 1 = p + (n + 1) by omega, Nat.zero_add]
  refine codeP_congr _ _ _ _ _ (fun _ _ => rfl) (fun j hj => ?_)
  by_cases h1 : j < p
  · rw [cat_lt _ _ _ _ (by omega), cat_lt _ _ _ _ h1, cat_ge _ _ _ _ (by omega), cat_lt _ _ _ _ h1, Nat.sub_zero]
  · by_cases h2 : j < p + n
    · rw [cat_lt _ _ _ _ h2, cat_ge _ _ _ _ (by omega), cat_ge _ _ _ _ (by omega), cat_lt _ _ _ _ (by omega)]
    · rw [cat_ge _ _ _ _ (by omega), cat_ge _ _ _ _ (by omega), cat_ge _ _ _ _ (by omega)]

set_option maxRecDepth 100000 in
set_option maxHeartbeats 1000000 in
theorem refExpand_err (v : Value) (s : ByteArray) (many : Int) (w : World) (hm : many < 0 ∨ 8160 < many) :
    Calls Tryd.prog 19 #[v, .string s, .int .i64 many] w fun x w' => x = .returned (.tuple #[.slice none 0 0, .int .i64 1]) ∧ w' = w := by
  by_cases h0 : many < 0
  · have e0 : decide (many < 0) = true := decide_eq_true h0
    go_enter Tryd.func19, Tryd.ntmps19
    go_wp2
    go_ret2
    exact ⟨rfl, rfl⟩
  · have h1 : 8160 < many := by omega
    have e0 : decide (many < 0) = false := decide_eq_false h0
    go_enter Tryd.func19, Tryd.ntmps19
    go_wp2
    go_ret2
    exact ⟨rfl, rfl⟩

/-- What the reference's Expand holds at its loop's head: k blocks are out. -/
structure RefRel (P S : Nat → BitVec 8) (s many k : Nat) (out last : Value) (w wr : World) : Prop where
  hk : 32 * k ≤ many + 31
  ho : Own wr w.heap.size (32 * k) (output P S s) out
  hp : SliceOf wr wr.heap.size (prevLen k) (outBlock P S s k) last
  hb : Below w.heap.size w wr

set_option maxRecDepth 100000 in
set_option maxHeartbeats 2000000 in
theorem refExpand_any (K : Nat → BitVec 8) (A : Option Addr) (l c : Nat) (s : ByteArray) (many : Nat) (w : World) (hkey : SliceOf w w.heap.size l K (.slice A l c)) (hl : l ≤ 200) (hs : s.size ≤ 200) (hm : many ≤ 300) :
    Calls Tryd.prog 19 #[.slice A l c, .string s, .int .i64 (many : Int)] w fun x w' => ∃ v g, x = .returned (.tuple #[v, .int .i64 0]) ∧ SliceOf w' g many (output (padKey K l) (strByte s) s.size) v ∧ Below w.heap.size w w' := by
  have q0 : ¬ (many : Int) < 0 := by omega
  have q1 : ¬ (8160 : Int) < (many : Int) := by omega
  obtain ⟨P, hP⟩ : ∃ P, P = padKey K l := ⟨_, rfl⟩
  rw [← hP]
  have HP := Lib.hid hP
  clear hP
  go_enter Tryd.func19, Tryd.ntmps19
  go_wp2
  go_loopw [8, 9, 10, 11] (fun out last n _ wr => ∃ k : Nat, n = .int .i64 ((k : Int) + 1) ∧ RefRel P (strByte s) s.size many k out last w wr) (fun out _ _ _ _ => many - lenOfSlice out)
  case atStart => exact ⟨0, rfl, by omega, World.ownsRow_nil _ _ _ _, SliceOf.nil _ _ _, Below.refl _ _⟩
  case round =>
    obtain ⟨k, rfl, h⟩ := hrel
    have hk' := h.hk
    obtain ⟨B, cap, rfl, hcap, hBs⟩ := Law02.own_shape h.ho
    obtain ⟨L, hL⟩ : ∃ L, L = 32 * k := ⟨_, rfl⟩
    rw [← hL] at hcap ⊢
    by_cases hlt : L < many
    · have q2 : (L : Int) < (many : Int) := by omega
      obtain ⟨pA, pc, hpv, _⟩ := id h.hp
      subst hpv
      have ho0 := own_empty8 wr (fun _ => 0)
      have hw0 : Below wr.heap.size wr (wr.alloc (.cells #[] 5)) := (Below.refl _ _).alloc (Nat.le_refl _) _
      have hp0 := slice_below h.hp hw0
      have hprev : prevLen k ≤ 32 := by unfold prevLen; split <;> omega
      have hbyte : Hid ((k : Int) + 1 = ((BitVec.ofNat 8 (k + 1)).toNat : Int)) := by show _ = _; rw [BitVec.toNat_ofNat]; omega
      have hout6 : Hid (∀ w6, Below wr.heap.size wr w6 → Own w6 w.heap.size L (output P (strByte s) s.size) (.slice B L cap)) := fun w6 hb => by rw [hL]; rw [hL] at *; exact h.ho.below hb
      have hzr := h.hb.size
      have HR := Lib.hid h
      have HL := Lib.hid hL
      clear h hL hBs
      go_wp2_with (first
        | (at_builtin
           refine append_bytes (by rfl) (.tmp 25) (.tmp 26) (by rfl) wr.heap.size 0 (fun _ => 0) _ (by rfl) ho0 wr.heap.size (prevLen k) (outBlock P (strByte s) s.size k) _ (by rfl) hp0 (by omega) (by simp) ?_
           intro v1 w1 hown1 hg1 hat1
           have hb1 : Below wr.heap.size wr w1 := hw0.grown hg1 (by simp) (fun b hb => by simp [Value.ownBlock] at hb; omega)
           have hz1 := hb1.size)
        | (at_builtin
           refine append_str (by rfl) (.tmp 27) (.tmp 28) (by rfl) wr.heap.size (0 + prevLen k) _ _ (by rfl) hown1 s (by rfl) (by omega) hz1 ?_
           intro v2 w2 hown2 hg2
           have hb2 : Below wr.heap.size wr w2 := hb1.grown hg2 hz1 (fun b hb => (hown1.lt hb).1)
           have hz2 := hb2.size
           have hbb := (Below.refl w2.heap.size w2).alloc (Nat.le_refl _) (.cells #[.int .u8 ((k : Int) + 1)] 5)
           clear hown1 hg1 hg2 hat1 hb1 hz1)
        | (at_builtin
           refine append_bytes (by rfl) (.tmp 29) (.tmp 32) (by rfl) wr.heap.size (0 + prevLen k + s.size) _ _ (by rfl) (hown2.below hbb) (w2.heap.size + 1) 1 (fun _ => BitVec.ofNat 8 (k + 1)) _ (by rfl) (slice_one w2 (w2.heap.size + 1) (by omega) _ _ hbyte.out) (by omega) (by simp; omega) ?_
           intro v3 w3 hown3 hg3 hat3
           have hb3 : Below wr.heap.size wr w3 := (hb2.trans (hbb.mono hz2)).grown hg3 (by simp; omega) (fun b hb => (hown2.lt hb).1)
           have hz3 := hb3.size
           clear hown2 hg3 hat3 hb2 hbb hz2))
      obtain ⟨B3, c3, rfl, _, _⟩ := Law02.own_shape hown3
      have hw3 := HR.out.hb.trans (hb3.mono HR.out.hb.size)
      have hkey3 := slice_any (slice_below hkey hw3) (Nat.le_refl _)
      have hmac := refMac_any K _ A B3 l c _ c3 w3 hkey3 (by omega) (hown3.slice (.inr (Nat.le_refl _))) (by omega)
      rw [msg_code, ← HP.out, show codeP P (cat (outBlock P (strByte s) s.size k) (prevLen k) (cat (strByte s) s.size (fun _ => BitVec.ofNat 8 (k + 1)))) (prevLen k + (s.size + 1)) = outBlock P (strByte s) s.size (k + 1) from rfl] at hmac
      refine hmac.mono ?_
      obtain ⟨E, hE⟩ : ∃ E, E = outBlock P (strByte s) s.size (k + 1) := ⟨_, rfl⟩
      rw [← hE]
      have HE := Lib.hid hE
      rintro x w4 ⟨rfl, hb4⟩
      have hb4' := hb3.trans (hb4.mono hz3)
      have hz4 := hb4'.size
      clear hE hmac hkey3 hown3 hw3 hb3 hb4 hz3 hp0 ho0 hw0
      go_wp2_with (first
        | (refine store_whole (by rfl) 24 (.tmp 11) (.tmp 34) (by rfl) w4.heap.size _ 32 (fun _ => .int .u8 0) (fun t => .int .u8 ((E t).toNat : Int)) (by exact row_new w4 _ _ 32 _ (by rfl) (zeros32 _ (by rfl))) (by rfl) _ (by rfl) (by kernel_rfl) (size_cellsOf _ _) (cellsOf_at _ _) (fun _ _ => rfl) ?_
           intro w5 hr5 ho5
           have hb5 := ho5.below (hb4'.alloc hz4 _) hz4
           have hz5 := hb5.size
           have hlt5 := hr5.lt
           have hoe := own_empty8 w5 (fun _ => 0)
           have hsl5 : SliceOf (w5.alloc (.cells #[] 5)) w5.heap.size 32 E (.slice (some ⟨w4.heap.size, 0, none⟩) 32 32) := ⟨_, _, rfl, by omega, fun _ => ⟨w4.heap.size, 0, rfl, by omega, fun j hj => by rw [Nat.zero_add, (hr5.alloc _).cell hj]⟩⟩
           clear ho5 hb4' hr5)
        | (at_builtin
           refine append_bytes (by rfl) (.tmp 35) (.tmp 36) (by rfl) w5.heap.size 0 (fun _ => 0) _ (by rfl) hoe w5.heap.size 32 E _ (by rfl) hsl5 (by omega) (by simp) ?_
           intro v6 w6 hown6 hg6 hat6
           have hb56 : Below w5.heap.size w5 w6 := ((Below.refl w5.heap.size w5).alloc (Nat.le_refl _) _).grown hg6 (by simp) (fun b hb => by simp [Value.ownBlock] at hb; omega)
           have hb6 := hb5.trans (hb56.mono hz5)
           have hz6 := hb6.size
           clear hoe hsl5 hg6 hat6)
        | (at_builtin
           refine append_bytes (by rfl) (.tmp 38) (.tmp 39) (by rfl) w.heap.size L (output P (strByte s) s.size) _ (by rfl) (hout6.out w6 hb6) w6.heap.size (0 + 32) _ _ (by rfl) (hown6.slice (.inr (Nat.le_refl _))) (by omega) (by omega) ?_
           intro v7 w7 hown7 hg7 hat7))
      have hzz : wr.heap.size ≤ w5.heap.size := hz5
      have hob : ∀ b, (Value.slice B L cap).ownBlock = some b → w.heap.size ≤ b ∧ b < wr.heap.size := fun b hb => (hout6.out wr (Below.refl _ _)).lt hb
      have hown6' : Own w7 w5.heap.size (0 + 32) (cat (fun _ => 0) 0 E) v6 := hown6.keep (fun b hb => hg7.block b (hown6.lt hb).2 (fun e1 => by have h1 := hob b e1.symm; have h2 := (hown6.lt hb).1; omega))
      have h7 : RefRel P (strByte s) s.size many (k + 1) v7 v6 w w7 := by
        have hLk := HL.out
        refine ⟨by omega, ?_, ?_, HR.out.hb.trans ((hb6.mono hzr).grown hg7 (by omega) (fun b hb => (hob b hb).1))⟩
        · rw [show L + (0 + 32) = 32 * (k + 1) by omega] at hown7
          refine Own.congr' hown7 (fun j hj => ?_)
          by_cases h1 : j < L
          · rw [cat_lt _ _ _ _ h1]
          · rw [cat_ge _ _ _ _ (by omega), cat_ge _ _ _ _ (by omega), Nat.sub_zero, HE.out, ← output_block P (strByte s) s.size k (j - L) (by omega), show 32 * k + (j - L) = j by omega]
        · have := hown6'.slice (g' := w7.heap.size) (.inr (Nat.le_refl _))
          rw [show 0 + 32 = prevLen (k + 1) by unfold prevLen; rw [if_neg (by omega)]] at this
          exact this.congr (fun j _ => by rw [cat_ge _ _ _ _ (by omega), Nat.sub_zero, HE.out])
      refine ⟨⟨k + 1, int_of (by omega), h7⟩, ?_⟩
      have hv7 : lenOfSlice v7 = L + (0 + 32) := by
        rcases hown7.form with ⟨rfl, h0⟩ | ⟨g, cap', cur, rfl, _⟩
        · omega
        · rfl
      rw [hv7]
      show many - (L + (0 + 32)) < many - L
      omega
    · have hge : many ≤ L := by omega
      have hcut := fun W => Law02.head_run (P := Tryd.prog) 22 5 Tryd.underlying22 (by kernel_rfl) B hBs L cap many (by omega) .i64 W
      have hsl := h.ho.slice (g' := wr.heap.size) (.inr (Nat.le_refl _))
      rw [← hL] at hsl
      have hsl' := Law02.slice_head hsl hge
      have hb := h.hb
      clear h hL hBs hsl
      go_wp2
      go_ret2
      exact ⟨_, _, rfl, hsl', hb⟩
end Go.Proofs.YthdfbkfoljfbhaaDoor.Mac
