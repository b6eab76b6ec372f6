/-
  The walk of bartizanlaw05.SealBack: for every key, counter, label and bytes it returns true, and writes nothing that was there.
-/
import Derived.Test.YtfjoflpidmjkbaaDoorLaw05Awake
import Derived.Test.YtfjoflpidmjkbaaDoorHeld
namespace Go.Proofs.YtfjoflpidmjkbaaDoor.Law05
open Go Go.RowKit Go.Proofs.YtfjoflpidmjkbaaDoor.Aid Go.Proofs.YtfjoflpidmjkbaaDoor.Sha Go.Proofs.YtfjoflpidmjkbaaDoor.Mac Go.Proofs.YtfjoflpidmjkbaaDoor.Aes Go.Proofs.YtfjoflpidmjkbaaDoor.Ctr Go.Proofs.YtfjoflpidmjkbaaDoor.Law01 Go.Proofs.YtfjoflpidmjkbaaDoor.Seal

theorem str_empty (s : ByteArray) : s.toList = [] ↔ s.size = 0 := by
  rw [ByteArray.toList_eq]
  constructor
  · intro h
    have := congrArg List.length h
    simpa using this
  · intro h
    exact List.eq_nil_of_length_eq_zero (by simpa using h)
/-- Two words, one behind the other, in a new block. -/
theorem two_words (key first : Nat → BitVec 8) (L : Array Value) (hL : L.size = 32) (hLi : ∀ i, i < 32 → L[i]? = some (.int .u8 ((if i < 16 then key i else first (i - 16)).toNat : Int))) (w : World) :
    ∃ W, W = w.alloc (.cells L 24) ∧ RowB W w.heap.size 24 32 (fun i => if i < 16 then key i else first (i - 16)) ∧ Below w.heap.size w W :=
  ⟨_, rfl, row_new w L 24 32 (fun i => .int .u8 ((if i < 16 then key i else first (i - 16)).toNat : Int)) hL hLi, (Below.refl _ _).alloc (Nat.le_refl _) _⟩
theorem fst_word {key first : Nat → BitVec 8} {w : World} {b t : Nat} (h : RowB w b t 32 (fun i => if i < 16 then key i else first (i - 16))) : ∀ j, j < 16 → w.cell? ⟨b, 0 + j, none⟩ = some (.int .u8 ((key j).toNat : Int)) := fun j hj => by
  have := World.rowIs.cell h (i := 0 + j) (by omega)
  rw [this]
  simp only [Nat.zero_add, if_pos hj]
theorem snd_word {key first : Nat → BitVec 8} {w : World} {b t : Nat} (h : RowB w b t 32 (fun i => if i < 16 then key i else first (i - 16))) : ∀ j, j < 16 → w.cell? ⟨b, 16 + j, none⟩ = some (.int .u8 ((first j).toNat : Int)) := fun j hj => by
  have := World.rowIs.cell h (i := 16 + j) (by omega)
  rw [this]
  simp only [if_neg (show ¬ 16 + j < 16 by omega), Nat.add_sub_cancel_left]

set_option maxRecDepth 100000 in
set_option maxHeartbeats 1000000 in
theorem back_out (L : Array Value) (s : ByteArray) (B : Option Addr) (n d : Nat) (w : World) (hk : Consts w) (h : (100 : Int) < (s.size : Int) ∨ (1100 : Int) < (n : Int)) :
    Calls Tryd.prog 4 #[.agg L, .string s, .slice B n d] w fun x w' => x = .returned (.bool true) ∧ Below w.heap.size w w' := by
  have hb0 := Law02.alloc_below w (.cells L 24)
  go_enter Tryd.func4, Tryd.ntmps4
  go_wp2_with fail
  refine (awake_any _ (hk.below hb0 (Nat.le_refl _))).mono ?_
  rintro x w1 ⟨rfl, hb1⟩
  have hb2 := hb0.trans (hb1.mono hb0.size)
  clear hb0 hb1
  by_cases h1 : (100 : Int) < (s.size : Int)
  · clear h
    go_wp2
    go_ret
    exact ⟨rfl, hb2⟩
  · have h2 : (1100 : Int) < (n : Int) := by omega
    clear h
    go_wp2
    go_ret
    exact ⟨rfl, hb2⟩

set_option maxRecDepth 100000 in
set_option maxHeartbeats 2000000 in
/-- Where Seal refuses. -/
theorem back_err (key first : Nat → BitVec 8) (L : Array Value) (hL : L.size = 32) (hLi : ∀ i, i < 32 → L[i]? = some (.int .u8 ((if i < 16 then key i else first (i - 16)).toNat : Int))) (s : ByteArray) (B : Option Addr) (n d : Nat) (w : World) (hk : Consts w)
    (h1 : s.size ≤ 100) (h2 : n ≤ 1100) (hbad : ¬ (1 ≤ s.size ∧ s.size ≤ 40)) :
    Calls Tryd.prog 4 #[.agg L, .string s, .slice B n d] w fun x w' => x = .returned (.bool true) ∧ Below w.heap.size w w' := by
  obtain ⟨W, hW, hr0, hb0⟩ := two_words key first L hL hLi w
  have q1 : ¬ (100 : Int) < (s.size : Int) := by omega
  have q2 : ¬ (1100 : Int) < (n : Int) := by omega
  clear hLi hL
  go_enter Tryd.func4, Tryd.ntmps4
  go_wp2_with fail
  rw [← hW]
  clear hW
  refine (awake_any _ (hk.below hb0 (Nat.le_refl _))).mono ?_
  rintro x w1 ⟨rfl, hb1⟩
  have hr1 := World.rowIs.of_block hr0 (hb1.block _ (World.rowIs.lt hr0))
  have hb1' := hb0.trans (hb1.mono hb0.size)
  have hx := Lib.hid (fst_word (t := 24) hr1)
  have hy := Lib.hid (snd_word (t := 24) hr1)
  clear hr0 hb0 hb1 hr1
  go_wp2_with (first
    | (refine load_bytes (by rfl) 23 (.tmp 25) (by rfl) w.heap.size 0 16 key hx.out (by rfl) _ Tryd.underlying23 rfl (by kernel_rfl) ?_)
    | (refine load_bytes (by rfl) 23 (.tmp 28) (by rfl) w.heap.size 16 16 first hy.out (by rfl) _ Tryd.underlying23 rfl (by kernel_rfl) ?_))
  refine (seal_arg s hbad _ _ B n d w1).mono ?_
  rintro x w2 ⟨rfl, hb2⟩
  have hb3 := hb1'.trans (hb2.mono hb1'.size)
  clear hx hy hb1' hb2
  by_cases hz : s.size = 0
  · have hE : s.toList = [] := (str_empty s).2 hz
    go_wp2
    go_ret
    exact ⟨rfl, hb3⟩
  · have hE : ¬ s.toList = [] := fun h => hz ((str_empty s).1 h)
    have hg : (40 : Int) < (s.size : Int) := by omega
    go_wp2
    go_ret
    exact ⟨rfl, hb3⟩
set_option maxRecDepth 100000 in
set_option maxHeartbeats 2000000 in
/-- Where there are too many bytes. -/
theorem back_full (key first : Nat → BitVec 8) (L : Array Value) (hL : L.size = 32) (hLi : ∀ i, i < 32 → L[i]? = some (.int .u8 ((if i < 16 then key i else first (i - 16)).toNat : Int))) (s : ByteArray) (B : Option Addr) (n d : Nat) (w : World) (hk : Consts w)
    (h1 : s.size ≤ 100) (h2 : n ≤ 1100) (hgood : 1 ≤ s.size ∧ s.size ≤ 40) (hn : 1000 < n) :
    Calls Tryd.prog 4 #[.agg L, .string s, .slice B n d] w fun x w' => x = .returned (.bool true) ∧ Below w.heap.size w w' := by
  obtain ⟨W, hW, hr0, hb0⟩ := two_words key first L hL hLi w
  have q1 : ¬ (100 : Int) < (s.size : Int) := by omega
  have q2 : ¬ (1100 : Int) < (n : Int) := by omega
  clear hLi hL
  go_enter Tryd.func4, Tryd.ntmps4
  go_wp2_with fail
  rw [← hW]
  clear hW
  refine (awake_any _ (hk.below hb0 (Nat.le_refl _))).mono ?_
  rintro x w1 ⟨rfl, hb1⟩
  have hr1 := World.rowIs.of_block hr0 (hb1.block _ (World.rowIs.lt hr0))
  have hb1' := hb0.trans (hb1.mono hb0.size)
  have hx := Lib.hid (fst_word (t := 24) hr1)
  have hy := Lib.hid (snd_word (t := 24) hr1)
  clear hr0 hb0 hb1 hr1
  go_wp2_with (first
    | (refine load_bytes (by rfl) 23 (.tmp 25) (by rfl) w.heap.size 0 16 key hx.out (by rfl) _ Tryd.underlying23 rfl (by kernel_rfl) ?_)
    | (refine load_bytes (by rfl) 23 (.tmp 28) (by rfl) w.heap.size 16 16 first hy.out (by rfl) _ Tryd.underlying23 rfl (by kernel_rfl) ?_))
  refine (seal_full s hgood _ _ B n d hn w1).mono ?_
  rintro x w2 ⟨rfl, hb2⟩
  have hb3 := hb1'.trans (hb2.mono hb1'.size)
  clear hx hy hb1' hb2
  have hE : ¬ s.toList = [] := fun h => by have := (str_empty s).1 h; omega
  have hg : ¬ (40 : Int) < (s.size : Int) := by omega
  have hx : (1000 : Int) < (n : Int) := by omega
  go_wp2
  go_ret
  exact ⟨rfl, hb3⟩

set_option maxRecDepth 100000 in
set_option maxHeartbeats 2000000 in
/-- Where it seals. -/
theorem back_ok (key first : Nat → BitVec 8) (L : Array Value) (hL : L.size = 32) (hLi : ∀ i, i < 32 → L[i]? = some (.int .u8 ((if i < 16 then key i else first (i - 16)).toNat : Int))) (s : ByteArray) (B : Option Addr) (n d : Nat) (w : World) (hk : Consts w)
    (e : Nat → BitVec 8) (hp : SliceOf w w.heap.size n e (.slice B n d)) (hgood : 1 ≤ s.size ∧ s.size ≤ 40) (hn : n ≤ 1000) :
    Calls Tryd.prog 4 #[.agg L, .string s, .slice B n d] w fun x w' => x = .returned (.bool true) ∧ Below w.heap.size w w' := by
  obtain ⟨W, hW, hr0, hb0⟩ := two_words key first L hL hLi w
  have q1 : ¬ (100 : Int) < (s.size : Int) := by omega
  have q2 : ¬ (1100 : Int) < (n : Int) := by omega
  clear hLi hL
  go_enter Tryd.func4, Tryd.ntmps4
  go_wp2_with fail
  rw [← hW]
  clear hW
  refine (awake_any _ (hk.below hb0 (Nat.le_refl _))).mono ?_
  rintro x w1 ⟨rfl, hb1⟩
  have hr1 := World.rowIs.of_block hr0 (hb1.block _ (World.rowIs.lt hr0))
  have hb1' := hb0.trans (hb1.mono hb0.size)
  have hx := Lib.hid (fst_word (t := 24) hr1)
  have hy := Lib.hid (snd_word (t := 24) hr1)
  have hp1 := slice_any (slice_below hp hb1') (Nat.le_refl _)
  have hk1 := hk.below hb1' (Nat.le_refl _)
  clear hr0 hb0 hb1 hp hk
  go_wp2_with (first
    | (refine load_bytes (by rfl) 23 (.tmp 25) (by rfl) w.heap.size 0 16 key hx.out (by rfl) _ Tryd.underlying23 rfl (by kernel_rfl) ?_)
    | (refine load_bytes (by rfl) 23 (.tmp 28) (by rfl) w.heap.size 16 16 first hy.out (by rfl) _ Tryd.underlying23 rfl (by kernel_rfl) ?_))
  refine (seal_ok key first e s hgood _ _ (size_cellsOf _ _) (cellsOf_at _ _) (size_cellsOf _ _) (cellsOf_at _ _) B n d w1 hk1 hp1 hn).mono ?_
  rintro x w2 ⟨g, rfl, hr2, hg, hb2⟩
  have hw2 := World.rowIs.of_block hr1 (hb2.block _ (World.rowIs.lt hr1))
  have hb2' := hb1'.trans (hb2.mono hb1'.size)
  have hx2 := Lib.hid (fst_word (t := 24) hw2)
  have hp2 := slice_any (slice_below hp1 hb2) (Nat.le_refl _)
  have hk2 := hk1.below hb2 (Nat.le_refl _)
  obtain ⟨S, hS⟩ : ∃ S, S = formB (keysB key s) first e n := ⟨_, rfl⟩
  rw [← hS] at hr2
  have hok : okB (keysB key s) S (48 + n) = true := by rw [hS]; exact ok_form _ _ _ n
  have hop : ∀ j, j < n → openB (keysB key s) S j = e j := fun j hj => by rw [hS]; exact open_form _ _ _ n j hj
  have hfst : ∀ j, j < 16 → S j = first j := fun j hj => by rw [hS]; exact form_first _ _ _ n j hj
  have hs2 : SliceOf w2 w2.heap.size (48 + n) S (.slice (some ⟨g, 0, none⟩) (48 + n) (48 + n)) := SliceOf.congr (row_slice hr2 0 (48 + n) (48 + n) 0 (fun _ => rfl) (by omega) (Nat.le_refl _)) (fun j _ => by rw [Nat.zero_add])
  have HOP := Lib.hid hop
  have HF := Lib.hid hfst
  clear hS hx hy hb1' hp1 hk1 hr1 hb2 hg hop hfst
  go_wp2_with (refine load_bytes (by rfl) 23 (.tmp 57) (by rfl) w.heap.size 0 16 key hx2.out (by rfl) _ Tryd.underlying23 rfl (by kernel_rfl) ?_)
  refine (open_ok key S s hgood _ (size_cellsOf _ _) (cellsOf_at _ _) _ (48 + n) (48 + n) w2 hk2 hs2 (by omega) (by omega)).mono ?_
  rintro x w3 (⟨_, A3, d3, rfl, hs3, hb3⟩ | ⟨hno, _⟩)
  case inr => rw [hok] at hno; cases hno
  rw [Nat.add_sub_cancel_left] at hs3 ⊢
  have hw3 := World.rowIs.of_block hw2 (hb3.block _ (World.rowIs.lt hw2))
  have hr3 := World.rowIs.of_block hr2 (hb3.block _ (World.rowIs.lt hr2))
  have hb3' := hb2'.trans (hb3.mono hb2'.size)
  have hp3 := slice_any (slice_below hp2 hb3) (Nat.le_refl _)
  clear hx2 hb2' hp2 hk2 hok hs2 hb3 hr2 hw2
  go_wp2_with fail
  refine (same_gen A3 B n n d3 d _ e _ _ w3 hs3 hp3 (by omega) (by omega)).mono ?_
  rw [same_refl _ _ n HOP.out]
  rintro x w4 ⟨rfl, q, rfl⟩
  have hb4 := below_drewN hb3' q
  have hr4 : RowB (w3.drewN q) g 5 (48 + n) S := hr3
  have hw4 : RowB (w3.drewN q) w.heap.size 24 32 (fun i => if i < 16 then key i else first (i - 16)) := hw3
  generalize w3.drewN q = w4 at *
  clear hs3 hp3 hb3' hr3 hw3 HOP
  have e1 : IntKind.i64.wrap ((n : Int) + 48) = (n : Int) + 48 := IntWalk.i64_in _ (by omega)
  have k2 := fun W => all_run (P := Tryd.prog) 23 5 16 Tryd.underlying23 (by kernel_rfl) w.heap.size 16 W
  have hcall : ∀ W, (RowB W g 5 (48 + n) S ∧ RowB W w.heap.size 24 32 (fun i => if i < 16 then key i else first (i - 16)) ∧ Below w.heap.size w W) → Calls Tryd.prog 11 #[.slice (some ⟨g, 0, none⟩) 16 (48 + n), .slice (some ⟨w.heap.size, 16, none⟩) 16 16] W fun x w' => x = .returned (.bool true) ∧ (RowB w' g 5 (48 + n) S ∧ RowB w' w.heap.size 24 32 (fun i => if i < 16 then key i else first (i - 16)) ∧ Below w.heap.size w w') := fun W hW => by
    have h1 := row_slice hW.1 0 16 (48 + n) 0 (fun _ => rfl) (by omega) (by omega)
    have h2 := row_slice hW.2.1 16 16 16 16 (fun _ => rfl) (by omega) (Nat.le_refl _)
    refine (same_gen _ _ 16 16 (48 + n) 16 _ _ _ _ W h1 h2 (by omega) (by omega)).mono ?_
    rw [same_refl _ _ 16 (fun j hj => by rw [Nat.zero_add, HF.out j hj, if_neg (by omega), Nat.add_sub_cancel_left])]
    rintro x w' ⟨rfl, q, rfl⟩
    exact ⟨rfl, hW.1, hW.2.1, below_drewN hW.2.2 q⟩
  have hC : RowB w4.drew g 5 (48 + n) S ∧ RowB w4.drew w.heap.size 24 32 (fun i => if i < 16 then key i else first (i - 16)) ∧ Below w.heap.size w w4.drew := ⟨hr4, hw4, hb4.drew⟩
  have Hcall := Lib.hid hcall
  have HC := Lib.hid hC
  clear hcall hC hr4 hw4 hb4 HF
  go_wp2_with fail
  refine region_held (fun W => RowB W g 5 (48 + n) S ∧ RowB W w.heap.size 24 32 (fun i => if i < 16 then key i else first (i - 16)) ∧ Below w.heap.size w W) (by kernel_rfl) (by kernel_rfl) HC.out ?_
  refine q_val (by rfl) (.slice (some ⟨g, 0, none⟩) (48 + n) (48 + n)) (fun W _ => by go_simp) ?_
  simp only [Act.put, List.setIfInBounds_toArray, List.set_cons_zero, List.set_cons_succ]
  refine q_val (by rfl) (.int .i64 ((48 + n : Nat) : Int)) (fun W _ => by go_simp) ?_
  simp only [Act.put, List.setIfInBounds_toArray, List.set_cons_zero, List.set_cons_succ]
  refine q_val (by rfl) (.slice B n d) (fun W _ => by go_simp) ?_
  simp only [Act.put, List.setIfInBounds_toArray, List.set_cons_zero, List.set_cons_succ]
  refine q_val (by rfl) (.int .i64 (n : Int)) (fun W _ => by go_simp) ?_
  simp only [Act.put, List.setIfInBounds_toArray, List.set_cons_zero, List.set_cons_succ]
  refine q_val (by rfl) (.int .i64 ((n : Int) + 48)) (fun W _ => by go_simp) ?_
  simp only [Act.put, List.setIfInBounds_toArray, List.set_cons_zero, List.set_cons_succ]
  refine q_val (by rfl) (.bool true) (fun W _ => by go_simp; omega) ?_
  simp only [Act.put, List.setIfInBounds_toArray, List.set_cons_zero, List.set_cons_succ]
  refine q_val (by rfl) (.bool true) (fun W _ => by go_simp) ?_
  simp only [Act.put, List.setIfInBounds_toArray, List.set_cons_zero, List.set_cons_succ]
  refine q_val (by rfl) (.slice (some ⟨g, 0, none⟩) (48 + n) (48 + n)) (fun W _ => by go_simp) ?_
  simp only [Act.put, List.setIfInBounds_toArray, List.set_cons_zero, List.set_cons_succ]
  refine q_val (by rfl) (.slice (some ⟨g, 0, none⟩) 16 (48 + n)) (fun W _ => by go_simp; intro h; omega) ?_
  simp only [Act.put, List.setIfInBounds_toArray, List.set_cons_zero, List.set_cons_succ]
  refine q_val (by rfl) (.pointer (some ⟨w.heap.size, 16, none⟩)) (fun W _ => by go_simp) ?_
  simp only [Act.put, List.setIfInBounds_toArray, List.set_cons_zero, List.set_cons_succ]
  refine q_val (by rfl) (.slice (some ⟨w.heap.size, 16, none⟩) 16 16) (fun W _ => by go_simp) ?_
  simp only [Act.put, List.setIfInBounds_toArray, List.set_cons_zero, List.set_cons_succ]
  refine q_call (by rfl) 11 #[.slice (some ⟨g, 0, none⟩) 16 (48 + n), .slice (some ⟨w.heap.size, 16, none⟩) 16 16] (fun W => by go_simp) _ Hcall.out ?_
  simp only [Act.put, List.setIfInBounds_toArray, List.set_cons_zero, List.set_cons_succ]
  refine q_val (by rfl) (.bool true) (fun W _ => by go_simp) ?_
  simp only [Act.put, List.setIfInBounds_toArray, List.set_cons_zero, List.set_cons_succ]
  refine q_val (by rfl) (.bool true) (fun W _ => by go_simp) ?_
  simp only [Act.put, List.setIfInBounds_toArray, List.set_cons_zero, List.set_cons_succ]
  refine wpQuiet_nil ?_
  intro w9 hw9
  clear k2 e1 Hcall HC
  go_wp2
  go_ret
  exact ⟨rfl, hw9.2.2⟩

/-- THE WALK, for every input. -/
theorem back_any (key first e : Nat → BitVec 8) (L : Array Value) (hL : L.size = 32) (hLi : ∀ i, i < 32 → L[i]? = some (.int .u8 ((if i < 16 then key i else first (i - 16)).toNat : Int))) (s : ByteArray) (B : Option Addr) (n d : Nat) (w : World) (hk : Consts w)
    (hp : SliceOf w w.heap.size n e (.slice B n d)) :
    Calls Tryd.prog 4 #[.agg L, .string s, .slice B n d] w fun x w' => x = .returned (.bool true) ∧ Below w.heap.size w w' := by
  by_cases h : (100 : Int) < (s.size : Int) ∨ (1100 : Int) < (n : Int)
  · exact back_out L s B n d w hk h
  · by_cases h1 : 1 ≤ s.size ∧ s.size ≤ 40
    · by_cases h2 : 1000 < n
      · exact back_full key first L hL hLi s B n d w hk (by omega) (by omega) h1 h2
      · exact back_ok key first L hL hLi s B n d w hk e hp h1 (by omega)
    · exact back_err key first L hL hLi s B n d w hk (by omega) (by omega) h1
end Go.Proofs.YtfjoflpidmjkbaaDoor.Law05
