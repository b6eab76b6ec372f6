/-
  The walk of bartizanlaw02.MacTells: for every key, bytes and number it returns true, and writes nothing that was there.
-/
import Derived.Test.YthdfbkfoljfbhaaDoorRefExpand
import Derived.Test.YthdfbkfoljfbhaaDoorLaw02Parts
import Derived.Laws.BytesArg
namespace Go.Proofs.YthdfbkfoljfbhaaDoor.Law02
open Go Go.RowKit Go.Proofs.YthdfbkfoljfbhaaDoor.Aid Go.Proofs.YthdfbkfoljfbhaaDoor.Sha Go.Proofs.YthdfbkfoljfbhaaDoor.Law01 Go.Proofs.YthdfbkfoljfbhaaDoor.Mac

/-- The string of n bytes. -/
def strOf (e : Nat → BitVec 8) (n : Nat) : ByteArray := strOfNums ((List.range n).map fun i => ((e i).toNat : Int))
theorem strOf_size (e : Nat → BitVec 8) (n : Nat) : (strOf e n).size = n := by unfold strOf; rw [strOfNums_size]; simp
/-- 'string(b)'. -/
theorem conv_str {w : World} {g n c : Nat} {e : Nat → BitVec 8} {A : Option Addr} (h : SliceOf w g n e (.slice A n c)) : (convert 22 9 (.slice A n c)).run Tryd.prog w = .ok (.string (strOf e n)) w := by
  obtain ⟨A', c', hv, hc, hr⟩ := h
  simp only [Value.slice.injEq, true_and] at hv
  obtain ⟨rfl, rfl⟩ := hv
  by_cases hn : 0 < n
  · obtain ⟨sb, so, rfl, _, hcell⟩ := hr hn
    exact run_convert_bytes_arg (P := Tryd.prog) w 22 5 Tryd.underlying22 Tryd.underlying5 sb so n c ((List.range n).map fun i => ((e i).toNat : Int)) (by simp) (fun i hi => by rw [hcell i hi]; simp [hi]) 9 Tryd.underlying9
  · obtain rfl : n = 0 := by omega
    cases A with
    | none => exact run_convert_bytes_nil (P := Tryd.prog) w 22 5 Tryd.underlying22 Tryd.underlying5 0 c 9 Tryd.underlying9
    | some x =>
      rw [run_convert_bytes_string w 22 9 5 _ 0 c Tryd.underlying22 Tryd.underlying5 Tryd.underlying9]
      exact run_bytesToString w x 0 c [] (run_loadCells_list (P := Tryd.prog) w x [] (fun j v hj => by simp at hj))

set_option maxRecDepth 100000 in
set_option maxHeartbeats 1000000 in
theorem tells_out (A B : Option Addr) (l c n d : Nat) (many : Int) (w : World) (hk : Consts w) (h : (200 : Int) < (l : Int) ∨ (200 : Int) < (n : Int) ∨ 300 < many) :
    Calls Tryd.prog 6 #[.slice A l c, .slice B n d, .int .i64 many] w fun e w' => e = .returned (.bool true) ∧ Below w.heap.size w w' := by
  go_enter Tryd.func6, Tryd.ntmps6
  go_wp2_with fail
  refine (awake_any w hk).mono ?_
  rintro x w1 ⟨rfl, hb1⟩
  by_cases h1 : (200 : Int) < (l : Int)
  · clear h
    go_wp2
    go_ret
    exact ⟨rfl, hb1⟩
  · by_cases h2 : (200 : Int) < (n : Int)
    · clear h
      go_wp2
      go_ret
      exact ⟨rfl, hb1⟩
    · have h3 : 300 < many := by omega
      clear h
      go_wp2
      go_ret
      exact ⟨rfl, hb1⟩

def manyOf (many : Int) : Nat := if many < 0 then 0 else many.toNat
def errOf (many : Int) : Int := if many < 0 then 1 else 0
theorem expand_all (K : Nat → BitVec 8) (A : Option Addr) (l c : Nat) (s : ByteArray) (many : Int) (w : World) (hk : Consts w) (hkey : SliceOf w w.heap.size l K (.slice A l c)) (hl : l ≤ 200) (hs : s.size ≤ 200) (hm : many ≤ 300) :
    Calls Tryd.prog 18 #[.slice A l c, .string s, .int .i64 many] w fun x w' => ∃ A' c', x = .returned (.tuple #[.slice A' (manyOf many) c', .int .i64 (errOf many)]) ∧ SliceOf w' w'.heap.size (manyOf many) (output (padKey K l) (strByte s) s.size) (.slice A' (manyOf many) c') ∧ Below w.heap.size w w' := by
  by_cases h0 : many < 0
  · refine (expand_err _ s many w (.inl h0)).mono ?_
    rintro x w' ⟨rfl, rfl⟩
    unfold manyOf errOf
    rw [if_pos h0, if_pos h0]
    exact ⟨none, 0, rfl, SliceOf.nil _ _ _, Below.refl _ _⟩
  · obtain ⟨k, rfl⟩ := Int.eq_ofNat_of_zero_le (show 0 ≤ many by omega)
    refine (expand_any K A l c s k w hk hkey (by omega) (by omega) (by omega)).mono ?_
    rintro x w' ⟨v, rfl, hown, hb⟩
    obtain ⟨A', c', rfl, _, _⟩ := own_shape hown
    unfold manyOf errOf
    rw [if_neg h0, if_neg h0]
    exact ⟨A', c', rfl, hown.slice (.inr (Nat.le_refl _)), hb⟩
theorem slice_shape {w : World} {g m : Nat} {e : Nat → BitVec 8} {v : Value} (h : SliceOf w g m e v) : ∃ A c, v = .slice A m c := by
  obtain ⟨A, c, rfl, _⟩ := h
  exact ⟨A, c, rfl⟩
theorem refExpand_all (K : Nat → BitVec 8) (A : Option Addr) (l c : Nat) (s : ByteArray) (many : Int) (w : World) (hkey : SliceOf w w.heap.size l K (.slice A l c)) (hl : l ≤ 200) (hs : s.size ≤ 200) (hm : many ≤ 300) :
    Calls Tryd.prog 19 #[.slice A l c, .string s, .int .i64 many] w fun x w' => ∃ A' c', x = .returned (.tuple #[.slice A' (manyOf many) c', .int .i64 (errOf many)]) ∧ SliceOf w' w'.heap.size (manyOf many) (output (padKey K l) (strByte s) s.size) (.slice A' (manyOf many) c') ∧ Below w.heap.size w w' := by
  by_cases h0 : many < 0
  · refine (refExpand_err _ s many w (.inl h0)).mono ?_
    rintro x w' ⟨rfl, rfl⟩
    unfold manyOf errOf
    rw [if_pos h0, if_pos h0]
    exact ⟨none, 0, rfl, SliceOf.nil _ _ _, Below.refl _ _⟩
  · obtain ⟨k, rfl⟩ := Int.eq_ofNat_of_zero_le (show 0 ≤ many by omega)
    refine (refExpand_any K A l c s k w hkey (by omega) (by omega) (by omega)).mono ?_
    rintro x w' ⟨v, g, rfl, hsl, hb⟩
    obtain ⟨A', c', rfl⟩ := slice_shape hsl
    unfold manyOf errOf
    rw [if_neg h0, if_neg h0]
    exact ⟨A', c', rfl, slice_any hsl (Nat.le_refl _), hb⟩

set_option maxRecDepth 100000 in
set_option maxHeartbeats 4000000 in
theorem tells_in (A B : Option Addr) (l c n d : Nat) (K D : Nat → BitVec 8) (many : Int) (w : World) (hk : Consts w) (hkey : SliceOf w w.heap.size l K (.slice A l c)) (hs : SliceOf w w.heap.size n D (.slice B n d)) (hl : l ≤ 200) (hn : n ≤ 200) (hm : many ≤ 300) :
    Calls Tryd.prog 6 #[.slice A l c, .slice B n d, .int .i64 many] w fun e w' => e = .returned (.bool true) ∧ Below w.heap.size w w' := by
  go_enter Tryd.func6, Tryd.ntmps6
  go_wp2_with fail
  refine (awake_any w hk).mono ?_
  rintro x w1 ⟨rfl, hb1⟩
  have q1 : ¬ (200 : Int) < (l : Int) := by omega
  have q2 : ¬ (200 : Int) < (n : Int) := by omega
  have q3 : ¬ (300 : Int) < many := by omega
  have hk1 := slice_any (slice_below hkey hb1) (Nat.le_refl _)
  have hs1 := slice_any (slice_below hs hb1) (Nat.le_refl _)
  have kc1 := conv_str hs1
  have hc1 := hk.below hb1 (Nat.le_refl _)
  obtain ⟨s, hs'⟩ : ∃ s, s = strOf D n := ⟨_, rfl⟩
  have hsz : s.size ≤ 200 := by rw [hs', strOf_size]; exact hn
  rw [← hs'] at kc1
  have Hs := Lib.hid hs'
  obtain ⟨M, hM⟩ : ∃ M, M = manyOf many := ⟨_, rfl⟩
  obtain ⟨R, hR⟩ : ∃ R, R = errOf many := ⟨_, rfl⟩
  have hM3 : M ≤ 300 := by rw [hM]; unfold manyOf; split <;> omega
  have e1 := expand_all K A l c s many w1 hc1 hk1 hl hsz hm
  rw [← hM, ← hR] at e1
  obtain ⟨E, hE⟩ : ∃ E, E = output (padKey K l) (strByte s) s.size := ⟨_, rfl⟩
  rw [← hE] at e1
  have HM := Lib.hid hM
  have HR := Lib.hid hR
  have HE := Lib.hid hE
  have He1 := Lib.hid e1
  clear hs' hkey hs hM hR hE e1
  go_wp2_with fail
  refine He1.out.mono ?_
  rintro x w2 ⟨A2, c2, rfl, hx2, hb2⟩
  have hk2 := slice_any (slice_below hk1 hb2) (Nat.le_refl _)
  have hs2 := slice_any (slice_below hs1 hb2) (Nat.le_refl _)
  have kc2 := conv_str hs2
  rw [← Hs.out] at kc2
  have hb2' := hb1.trans (hb2.mono hb1.size)
  have e2 := refExpand_all K A l c s many w2 hk2 hl hsz hm
  rw [← HM.out, ← HR.out, ← HE.out] at e2
  have He2 := Lib.hid e2
  clear hk1 hs1 kc1 hc1 hb1 hb2 e2 He1 HM HR HE
  go_wp2_with fail
  refine He2.out.mono ?_
  rintro x w3 ⟨A3, c3, rfl, hy3, hb3⟩
  have hk3 := slice_any (slice_below hk2 hb3) (Nat.le_refl _)
  have hs3 := slice_any (slice_below hs2 hb3) (Nat.le_refl _)
  have hx3 := slice_below hx2 hb3
  have hb3' := hb2'.trans (hb3.mono hb2'.size)
  have e3 := same_gen A2 A3 M M c2 c3 E E _ _ w3 hx3 hy3 (by omega) (by omega)
  rw [same_refl E E M (fun _ _ => rfl)] at e3
  have He3 := Lib.hid e3
  clear hk2 hs2 kc2 hb2' hb3 hx2 hx3 hy3 e3 He2 Hs hsz
  go_wp2_with fail
  refine He3.out.mono ?_
  rintro x w4 ⟨rfl, q, rfl⟩
  have hk4 : SliceOf (w3.drewN q) w3.heap.size l K (.slice A l c) := hk3
  have hs4 : SliceOf (w3.drewN q) w3.heap.size n D (.slice B n d) := hs3
  have hb4 := below_drewN hb3' q
  have hz4 : (w3.drewN q).heap.size = w3.heap.size := rfl
  clear hk3 hs3 hb3' He3
  generalize w3.drewN q = w4 at *
  rw [← hz4] at hk4 hs4
  clear hz4
  obtain ⟨X, hX⟩ : ∃ X, X = code K l D n := ⟨_, rfl⟩
  have HX := Lib.hid hX
  have heq := run_eq32 X
  have hp5 := parts_one w4 n D (.slice B n d) hs4
  have hb5 := alloc_below w4 (.cells #[.slice B n d] 22)
  have hk5 := slice_any (slice_below hk4 hb5) (Nat.le_refl _)
  have hs5 := slice_any (slice_below hs4 hb5) (Nat.le_refl _)
  have hb5' := hb4.trans (hb5.mono hb4.size)
  have e5 := mac_any K A l c _ 1 _ _ _ _ (hk.below hb5' (Nat.le_refl _)) hk5 (by omega) hp5 (show 0 + n ≤ _ by omega) (by omega)
  rw [code_one, ← hX] at e5
  have He5 := Lib.hid e5
  clear hX hp5 hk4 hs4 hb4 hb5 e5
  go_wp2_with fail
  generalize w4.alloc (.cells #[.slice B n d] 22) = w5 at *
  refine He5.out.mono ?_
  rintro x w6 ⟨rfl, hb6⟩
  have hk6 := slice_any (slice_below hk5 hb6) (Nat.le_refl _)
  have hs6 := slice_any (slice_below hs5 hb6) (Nat.le_refl _)
  have hb6' := hb5'.trans (hb6.mono hb5'.size)
  have e6 := refMac_any K D A B l c n d w6 hk6 (by omega) hs6 (by omega)
  rw [← HX.out] at e6
  have He6 := Lib.hid e6
  clear hk5 hs5 hb5' hb6 e6 He5
  go_wp2_with fail
  refine He6.out.mono ?_
  rintro x w7 ⟨rfl, hb7⟩
  have hk7 := slice_any (slice_below hk6 hb7) (Nat.le_refl _)
  have hs7 := slice_any (slice_below hs6 hb7) (Nat.le_refl _)
  have hb7' := hb6'.trans (hb7.mono hb6'.size)
  have e7 := extract_any K D A B l c n d w7 (hk.below hb7' (Nat.le_refl _)) hk7 (by omega) hs7 (by omega)
  rw [← HX.out] at e7
  have He7 := Lib.hid e7
  clear hk6 hs6 hb6' hb7 e7 He6
  go_wp2_with fail
  refine He7.out.mono ?_
  rintro x w8 ⟨rfl, hb8⟩
  have hk8 := slice_any (slice_below hk7 hb8) (Nat.le_refl _)
  have hs8 := slice_any (slice_below hs7 hb8) (Nat.le_refl _)
  have hb8' := hb7'.trans (hb8.mono hb7'.size)
  have e8 := refMac_any K D A B l c n d w8 hk8 (by omega) hs8 (by omega)
  rw [← HX.out] at e8
  have He8 := Lib.hid e8
  clear hk7 hs7 hb7' hb8 e8 He7
  go_wp2_with fail
  refine He8.out.mono ?_
  rintro x w9 ⟨rfl, hb9⟩
  have hk9 := slice_any (slice_below hk8 hb9) (Nat.le_refl _)
  have hs9 := slice_any (slice_below hs8 hb9) (Nat.le_refl _)
  have hb9' := hb8'.trans (hb9.mono hb8'.size)
  have e9 := equal_any A B l n c d K D _ _ w9 hk9 hs9 (by omega) (by omega)
  obtain ⟨t, ht⟩ : ∃ t, t = sameBytes l n K D := ⟨_, rfl⟩
  rw [← ht] at e9
  have Ht := Lib.hid ht
  have He9 := Lib.hid e9
  clear hk8 hs8 hb8' hb9 e9 He8 ht
  go_wp2_with fail
  refine He9.out.mono ?_
  rintro x w10 ⟨rfl, q', rfl⟩
  have e10 := same_gen A B l n c d K D _ _ (w9.drewN q') hk9 hs9 (by omega) (by omega)
  rw [← Ht.out] at e10
  have He10 := Lib.hid e10
  clear hk9 hs9 He9 e10
  go_wp2_with fail
  refine He10.out.mono ?_
  rintro x w11 ⟨rfl, q'', rfl⟩
  clear He10
  cases t
  · go_wp2
    go_ret
    exact ⟨rfl, below_drewN hb9' _⟩
  · go_wp2
    go_ret
    exact ⟨rfl, below_drewN hb9' _⟩

/-- THE WALK, for every input. -/
theorem tells_any (A B : Option Addr) (l c n d : Nat) (K D : Nat → BitVec 8) (many : Int) (w : World) (hk : Consts w) (hkey : SliceOf w w.heap.size l K (.slice A l c)) (hs : SliceOf w w.heap.size n D (.slice B n d)) :
    Calls Tryd.prog 6 #[.slice A l c, .slice B n d, .int .i64 many] w fun e w' => e = .returned (.bool true) ∧ Below w.heap.size w w' := by
  by_cases h : (200 : Int) < (l : Int) ∨ (200 : Int) < (n : Int) ∨ 300 < many
  · exact tells_out A B l c n d many w hk h
  · exact tells_in A B l c n d K D many w hk hkey hs (by omega) (by omega) (by omega)
end Go.Proofs.YthdfbkfoljfbhaaDoor.Law02
