/-
  A Hash in memory: what has been written to it, and what it holds of that. What (*sha.Hash).Write does: the bytes are behind those that had been written; nothing else that was there has turned.
-/
import Derived.Test.YtnkjoambhmlnbaaGreatDoorBd05
import Derived.Test.YtnkjoambhmlnbaaGreatDoorBd03
import Derived.Test.YtnkjoambhmlnbaaGreatDoorBd01
import Derived.Deep.RegionHeld3
import Derived.Deep.DeepCutAuto
import Derived.Deep.DrawnRows
namespace Go.Proofs.YtnkjoambhmlnbaaGreatDoor.Sha
open Go Go.RowKit Go.Proofs.YtnkjoambhmlnbaaGreatDoor.Aid

def hashCell (s : St) (bl : Nat → BitVec 8) (n : Nat) (j : Nat) : Value :=
  if j < 8 then .int .u32 ((s.get j).toNat : Int) else if j < 72 then .int .u8 ((bl (j - 8)).toNat : Int) else .int .u64 (n : Int)
/-- Block g is a Hash with this state, these bytes in wait, and so many written. -/
def HashRow (w : World) (g : Nat) (s : St) (bl : Nat → BitVec 8) (n : Nat) : Prop := w.rowIs g 141 73 (hashCell s bl n)
/-- The first n bytes of D have been written to the Hash in block g (the state counts from the first byte on). -/
def HashIs (w : World) (g : Nat) (D : Nat → BitVec 8) (n : Nat) : Prop :=
  ∃ s bl, HashRow w g s bl n ∧ (0 < n → s = after D (n / 64)) ∧ ∀ j, j < n % 64 → bl j = D (64 * (n / 64) + j)
/-- The same, the state set. -/
def HashSet (w : World) (g : Nat) (D : Nat → BitVec 8) (n : Nat) : Prop :=
  ∃ bl, HashRow w g (after D (n / 64)) bl n ∧ ∀ j, j < n % 64 → bl j = D (64 * (n / 64) + j)
theorem HashSet.is {w : World} {g : Nat} {D : Nat → BitVec 8} {n : Nat} (h : HashSet w g D n) : HashIs w g D n := by
  obtain ⟨bl, h1, h2⟩ := h
  exact ⟨_, bl, h1, fun _ => rfl, h2⟩
theorem mix_congr (s : St) (b b' : Nat → BitVec 8) (h : ∀ j, j < 64 → b j = b' j) : mixOf s b = mixOf s b' := by
  have hw : ∀ i, i < 16 → word b i = word b' i := fun i hi => by
    unfold word
    rw [h (4 * i) (by omega), h (4 * i + 1) (by omega), h (4 * i + 2) (by omega), h (4 * i + 3) (by omega)]
  have hl : ∀ n, words b n = words b' n := by
    intro n
    induction n with
    | zero => rfl
    | succ n ih =>
      simp only [words, ih]
      unfold nextWord
      by_cases hn : n < 16
      · rw [if_pos hn, if_pos hn, hw n hn]
      · rw [if_neg hn, if_neg hn]
  have hs : sched b = sched b' := by
    funext i
    unfold sched
    rw [hl]
  unfold mixOf
  rw [hs]
theorem after_congr (D D' : Nat → BitVec 8) (k : Nat) (h : ∀ j, j < 64 * k → D j = D' j) : after D k = after D' k := by
  induction k with
  | zero => rfl
  | succ k ih =>
    unfold after
    rw [ih (fun j hj => h j (by omega))]
    exact mix_congr _ _ _ (fun j hj => h _ (by omega))
theorem HashIs.congr {w : World} {g : Nat} {D D' : Nat → BitVec 8} {n : Nat} (h : HashIs w g D n) (e : ∀ j, j < n → D j = D' j) : HashIs w g D' n := by
  obtain ⟨s, bl, h1, h2, h3⟩ := h
  refine ⟨s, bl, h1, fun hn => (h2 hn).trans (after_congr D D' _ (fun j hj => e j (by omega))), fun j hj => (h3 j hj).trans (e _ (by omega))⟩
theorem HashIs.keep {w w' : World} {g : Nat} {D : Nat → BitVec 8} {n : Nat} (h : HashIs w g D n) (e : w'.heap[g]? = w.heap[g]?) : HashIs w' g D n := by
  obtain ⟨s, bl, h1, h2, h3⟩ := h
  exact ⟨s, bl, World.rowIs.of_block h1 e, h2, h3⟩
theorem HashIs.lt {w : World} {g : Nat} {D : Nat → BitVec 8} {n : Nat} (h : HashIs w g D n) : g < w.heap.size := by
  obtain ⟨s, bl, h1, _⟩ := h
  exact World.rowIs.lt h1

theorem cell_len {w : World} {g : Nat} {s : St} {bl : Nat → BitVec 8} {n : Nat} (h : HashRow w g s bl n) : w.cell? ⟨g, 72, none⟩ = some (.int .u64 (n : Int)) := by
  have := World.rowIs.cell h (i := 72) (by omega)
  simpa [hashCell] using this
/-- The state is set. -/
theorem hash_state {w : World} {g : Nat} {s s' : St} {bl : Nat → BitVec 8} {n : Nat}
    (h : w.rowIs g 141 73 (fun j => if 0 ≤ j ∧ j < 0 + 8 then .int .u32 ((s'.get (j - 0)).toNat : Int) else hashCell s bl n j)) : HashRow w g s' bl n := by
  refine World.rowIs.congr h (fun i hi => ?_)
  unfold hashCell
  by_cases h8 : i < 8
  · rw [if_pos ⟨Nat.zero_le _, by omega⟩, if_pos h8, Nat.sub_zero]
  · rw [if_neg (by omega), if_neg h8, if_neg h8]
def blTo (bl e : Nat → BitVec 8) (r c : Nat) (j : Nat) : BitVec 8 := if r ≤ j ∧ j < r + c then e (j - r) else bl j
/-- Bytes come in. -/
theorem hash_bytes {w : World} {g : Nat} {s : St} {bl e : Nat → BitVec 8} {n r c : Nat} (hc : r + c ≤ 64)
    (h : w.rowIs g 141 73 (fun j => if 8 + r ≤ j ∧ j < 8 + r + c then .int .u8 ((e (j - (8 + r))).toNat : Int) else hashCell s bl n j)) : HashRow w g s (blTo bl e r c) n := by
  refine World.rowIs.congr h (fun i hi => ?_)
  unfold hashCell blTo
  by_cases h8 : i < 8
  · rw [if_neg (by omega), if_pos h8, if_pos h8]
  · rw [if_neg h8, if_neg h8]
    by_cases h72 : i < 72
    · rw [if_pos h72, if_pos h72]
      by_cases hr : 8 + r ≤ i ∧ i < 8 + r + c
      · rw [if_pos hr, if_pos (by omega), show i - (8 + r) = i - 8 - r by omega]
      · rw [if_neg hr, if_neg (by omega)]
    · rw [if_neg (by omega), if_neg h72, if_neg h72]
/-- The length is set. -/
theorem hash_len {w : World} {g : Nat} {s : St} {bl : Nat → BitVec 8} {n n' : Nat} (h : HashRow w g s bl n) : HashRow (w.setCell ⟨g, 72, none⟩ (.int .u64 (n' : Int))) g s bl n' := by
  refine World.rowIs.congr (World.rowIs.set h 72 _) (fun i hi => ?_)
  unfold hashCell
  by_cases h72 : i = 72
  · subst h72; rw [if_pos rfl, if_neg (by omega), if_neg (by omega)]
  · rw [if_neg h72]
    by_cases h8 : i < 8
    · rw [if_pos h8, if_pos h8]
    · rw [if_neg h8, if_neg h8, if_pos (by omega), if_pos (by omega)]
theorem hash_st_at (s : St) (bl : Nat → BitVec 8) (n i : Nat) (h : i < 8) : hashCell s bl n (0 + i) = .int .u32 ((s.get i).toNat : Int) := by
  unfold hashCell; rw [Nat.zero_add, if_pos h]
theorem hash_bl_at (s : St) (bl : Nat → BitVec 8) (n i : Nat) (h : i < 64) : hashCell s bl n (8 + i) = .int .u8 ((bl i).toNat : Int) := by
  unfold hashCell; rw [if_neg (by omega), if_pos (by omega), Nat.add_sub_cancel_left]
end Go.Proofs.YtnkjoambhmlnbaaGreatDoor.Sha

namespace Go.Proofs.YtnkjoambhmlnbaaGreatDoor.Sha
open Go Go.RowKit Go.Proofs.YtnkjoambhmlnbaaGreatDoor.Aid
attribute [local go_sem ↓] Go.wp_at_zero Go.wp_at_succ

def sliceLen : Value → Nat
  | .slice _ l _ => l
  | _ => 0
/-- What Write holds at its loop's head: k bytes have gone in. -/
structure WriteRel (D : Nat → BitVec 8) (g n m k : Nat) (v : Value) (w wr : World) : Prop where
  hk : k ≤ m
  hs : HashSet wr g D (n + k)
  hv : SliceOf wr g (m - k) (fun i => D (n + k + i)) v
  hb : w.grownBy wr (some g)
  ks : Consts wr

theorem store_state {P : Program} {W : World} {g : Nat} {s : St} {bl : Nat → BitVec 8} {n : Nat} (h : HashRow W g s bl n) (f : St) :
    ∃ w5, (storeCells ⟨g, 0, none⟩ (wordCells 8 f.get).toList).run P W = .ok () w5 ∧ HashRow w5 g f bl n ∧ Only g W w5 := by
  have hlen : (wordCells 8 f.get).toList.length = 8 := by simp [size_wordCells]
  have hat : ∀ i, i < 8 → (wordCells 8 f.get).toList[i]? = some (.int .u32 ((f.get i).toNat : Int)) := fun i hi => by
    rw [Array.getElem?_toList]; exact wordCells_at 8 f.get i hi
  have hrun := run_storeCells_cells (P := P) g 0 (wordCells 8 f.get).toList 0 W (fun j hj => by rw [h.cell (by omega)]; rfl) (fun j _ => h.frozen _)
    (fun v hv => by
      obtain ⟨i, hi, rfl⟩ := List.mem_iff_getElem.1 hv
      have := hat i (by omega)
      rw [List.getElem?_eq_getElem hi] at this
      rw [Option.some.inj this]
      rfl)
  refine ⟨_, hrun, ?_, only_setCells g _ _ W⟩
  have := row_setCells (g := g) (t := 141) (n := 73) (wordCells 8 f.get).toList 0 W _ (fun i => .int .u32 ((f.get i).toNat : Int)) h (fun i hi => hat i (by omega))
  rw [hlen] at this
  exact hash_state this

theorem blTo_at {D bl : Nat → BitVec 8} {N r C : Nat} (hbl : ∀ j, j < N % 64 → bl j = D (64 * (N / 64) + j)) (hr : r = N % 64) {i : Nat} (hi : i < r + C) :
    blTo bl (fun i => D (N + i)) r C i = D (64 * (N / 64) + i) := by
  unfold blTo
  by_cases h : r ≤ i ∧ i < r + C
  · rw [if_pos h]
    show D (N + (i - r)) = _
    rw [show N + (i - r) = 64 * (N / 64) + i by omega]
  · rw [if_neg h]
    exact hbl i (by omega)

theorem grown_only {g : Nat} {w w' : World} (h : Only g w w') : w.grownBy w' (some g) :=
  ⟨h.os, h.tape, h.output, by rw [h.size]; exact Nat.le_refl _, fun b _ hne => h.block b (fun e => hne (by rw [e]))⟩
theorem grown_below {g : Nat} {w w' : World} (h : Below w.heap.size w w') : w.grownBy w' (some g) := ⟨h.os, h.tape, h.output, h.size, fun b hb _ => h.block b hb⟩
theorem grown_drew (g : Nat) (w : World) : w.grownBy w.drew (some g) := ⟨rfl, rfl, rfl, Nat.le_refl _, fun _ _ _ => rfl⟩
theorem grown_trans {g : Nat} {a b c : World} (h : a.grownBy b (some g)) (h' : b.grownBy c (some g)) : a.grownBy c (some g) :=
  ⟨h'.os.trans h.os, h'.tape.trans h.tape, h'.output.trans h.output, Nat.le_trans h.size h'.size, fun k hk hne => (h'.block k (Nat.lt_of_lt_of_le hk h.size) hne).trans (h.block k hk hne)⟩
theorem Consts.grown {g : Nat} {w w' : World} (h : Consts w) (hb : w.grownBy w' (some g)) (hg0 : 3 ≠ g ∧ 2 ≠ g) : Consts w' := by
  have hl := h.lt
  refine ⟨fun i hi => ?_, fun i hi => ?_⟩
  · rw [World.cell?_of_block (hb.block _ hl.1 (fun e => hg0.1 (Option.some.inj e)))]; exact h.k i hi
  · rw [World.cell?_of_block (hb.block _ hl.2 (fun e => hg0.2 (Option.some.inj e)))]; exact h.s i hi
theorem write_next {D : Nat → BitVec 8} {g n m k C c sb so : Nat} {A' : Option Addr} {w wr w' : World} (hk : k < m) (hC : C ≤ m - k) (hc : m - k ≤ c)
    (hcell : ∀ j, j < m - k → wr.cell? ⟨sb, so + j, none⟩ = some (.int .u8 ((D (n + k + j)).toNat : Int))) (hne : sb ≠ g) (hA : 0 < m - k - C → A' = some ⟨sb, so + C, none⟩)
    (hgr : w.grownBy wr (some g)) (hks : Consts wr) (hg0 : 3 ≠ g ∧ 2 ≠ g) (hgr' : wr.grownBy w' (some g)) (hs : HashSet w' g D (n + k + C)) :
    WriteRel D g n m (k + C) (.slice A' (m - k - C) (c - C)) w w' := by
  refine ⟨by omega, by rw [← Nat.add_assoc]; exact hs, ?_, grown_trans hgr hgr', hks.grown hgr' hg0⟩
  refine ⟨A', c - C, by rw [Nat.sub_sub], by omega, fun h0 => ⟨sb, so + C, hA (by omega), hne, fun j hj => ?_⟩⟩
  have h1 := hcell (C + j) (by omega)
  rw [World.cell?_of_block (hgr'.block sb (block_lt_of_cell h1) (fun e => hne (Option.some.inj e)))]
  rw [show so + C + j = so + (C + j) by omega, h1]
  simp only [Nat.add_assoc]

set_option maxRecDepth 100000 in
set_option maxHeartbeats 2000000 in
theorem write_any (D : Nat → BitVec 8) (g n m : Nat) (v : Value) (w : World) (hk : Consts w) (hg : HashIs w g D n) (hv : SliceOf w g m (fun i => D (n + i)) v) (hl : n + m < 1000000000)
    (hg0 : 3 ≠ g ∧ 2 ≠ g) :
    Calls Tryz.prog 84 #[.pointer (some ⟨g, 0, none⟩), v] w fun e w' => e = .returned (.tuple #[]) ∧ HashIs w' g D (n + m) ∧ w.grownBy w' (some g) := by
  obtain ⟨s, bl, hrow, hst, hbl⟩ := hg
  have c72 := cell_len hrow
  have Hbl := Lib.hid hbl
  have Hst := Lib.hid hst
  clear hbl hst
  go_enter Tryz.func84, Tryz.ntmps84
  go_upto_if 11 with fail
  go_cut [] (fun wx => WriteRel D g n m 0 v w wx)
  case first =>
    by_cases hn : n = 0
    · have e0 : ((n : Int) == 0) = true := by simp [hn]
      have rs : w.rangeAt 2 0 ((List.range 8).map fun j => Value.int .u32 ((start.get j).toNat : Int)) := by
        intro j x hx
        have hj : j < 8 := by have := (List.getElem?_eq_some_iff.1 hx).1; simpa using this
        rw [Nat.zero_add, hk.s j hj, ← hx]
        simp [hj]
      have Hn := Lib.hid hn
      clear hn
      go_wp2_with (first
        | (refine wpList_load_mid (by rfl) 139 (.global 2) (by rfl) 2 0 (by rfl) _ _ rs Tryz.underlying139 rfl (by kernel_rfl) ?_)
        | (refine store_row (by rfl) 139 (.tmp 15) (.tmp 13) (by rfl) g 0 _ 73 8 _ (fun j => .int .u32 ((start.get j).toNat : Int)) hrow (by rfl) _ (by rfl) (by kernel_rfl) (by omega) (by rfl) (by exact stCells_at start) (fun _ _ => rfl) ?_
           intro w1 hr1 ho1))
      go_meet
      have hg1 := grown_only ho1
      refine ⟨by omega, ⟨bl, ?_, ?_⟩, ?_, hg1, hk.grown hg1 hg0⟩
      · have := hash_state hr1
        rw [Nat.add_zero, Hn.out]
        rw [Hn.out] at this
        exact this
      · rw [Nat.add_zero]; exact Hbl.out
      · rw [Nat.sub_zero, Nat.add_zero]
        exact hv.keep (fun b hb hne => hg1.block b hb (fun e => hne (Option.some.inj e)))
    · have e0 : ((n : Int) == 0) = false := by simp; omega
      have Hn := Lib.hid hn
      clear hn
      go_wp2
      go_meet
      refine ⟨by omega, ⟨bl, ?_, ?_⟩, ?_, World.grownBy.refl w _, hk⟩
      · rw [Nat.add_zero, ← Hst.out (Nat.pos_of_ne_zero Hn.out)]; exact hrow
      · rw [Nat.add_zero]; exact Hbl.out
      · rw [Nat.sub_zero, Nat.add_zero]; exact hv
  case rest =>
  clear c72 hrow
  have hr0 := hcut
  go_wp2
  go_loopw [1, 4] (fun b _ wr => ∃ k, WriteRel D g n m k b w wr) (fun b _ _ => sliceLen b)
  case atStart => exact ⟨0, hr0⟩
  case round =>
    clear hr0
    obtain ⟨k, hk, ⟨bl, hrow, hbl⟩, ⟨A, c, rfl, hc, hrd⟩, hgr, hks⟩ := hrel
    by_cases hlt : k < m
    · obtain ⟨sb, so, rfl, hne, hcell⟩ := hrd (by omega)
      have c72 := cell_len hrow
      obtain ⟨M, hM⟩ : ∃ M, M = m - k := ⟨_, rfl⟩
      obtain ⟨N, hN⟩ : ∃ N, N = n + k := ⟨_, rfl⟩
      rw [← hM] at hcell hc ⊢
      rw [← hN] at hcell hbl hrow c72
      have HM := Lib.hid hM
      have HN := Lib.hid hN
      have hM0 : 0 < M := by omega
      have hN0 : N + M < 1000000000 := by omega
      clear hM hN hrd
      have Hbl := Lib.hid hbl
      have Hcell := Lib.hid hcell
      clear hbl hcell
      have q0 : (0 : Int) < (M : Int) := by omega
      obtain ⟨r, hr⟩ : ∃ r, r = N % 64 := ⟨_, rfl⟩
      have hr64 : r < 64 := by omega
      have Hr := Lib.hid hr
      have e1 : (N : Int).tmod 64 = (r : Int) := by rw [Int.tmod_eq_emod_of_nonneg (by omega)]; omega
      have e2 : (N : Int) % 64 = (r : Int) := by omega
      clear hr
      have q1 : (0 : Int) ≤ (r : Int) := by omega
      have q2 : (r : Int) ≤ 64 := by omega
      have q3 : ¬ 64 = r := by omega
      go_wp2
      refine region_tail 10 (by kernel_rfl) (by kernel_rfl) ?_
      simp only [List.take_succ_cons, List.take_zero, List.drop_succ_cons, List.drop_zero]
      repeat still_step
      refine wpStill_nil ?_
      obtain ⟨C, hC⟩ : ∃ C, C = Nat.min M (64 - r) := ⟨_, rfl⟩
      have HC := Lib.hid hC
      have hC0 : 0 < C := by rw [hC]; exact Nat.lt_min.2 ⟨by omega, by omega⟩
      have hCM : C ≤ M := by rw [hC]; exact Nat.min_le_left _ _
      have hCr' : C ≤ 64 - r := by rw [hC]; exact Nat.min_le_right _ _
      have hCr : r + C ≤ 64 := by omega
      clear hC
      obtain ⟨A', hA', hcut⟩ := cut_run (P := Tryz.prog) 28 5 Tryz.underlying28 (by kernel_rfl) sb so M c C hCM hc
      have HA' := Lib.hid hA'
      clear hA'
      have hrow' : wr.drew.rowIs g _ 73 _ := hrow
      refine copy_row (by rfl) (.tmp 27) (.tmp 28) _ _ (by rfl) 5 Tryz.underlying28 (by kernel_rfl) g (8 + r) _ 73 _ hrow' (64 - r) (64 - r) (by rfl) (by omega) sb so M c (by rfl) (fun i => .int .u8 ((D (N + i)).toNat : Int)) (by exact Hcell.out) (fun _ _ => rfl) C HC.out ?_
      intro w1 hr1 ho1
      have hrow1 := hash_bytes (e := fun i => D (N + i)) hCr hr1
      clear hr1 hrow hrow' c72
      have c72 := cell_len hrow1
      have f72 : w1.frozen? ⟨g, 72, none⟩ = false := World.rowIs.frozen hrow1 72
      have hrow2 := hash_len (n' := N + C) hrow1
      have ho2 : Only g wr.drew (w1.setCell ⟨g, 72, none⟩ (.int .u64 ((N : Int) + (C : Int)))) := ⟨ho1.os, ho1.tape, ho1.output, by rw [← ho1.size]; simp [World.setCell], fun b hb => (Below.heap_setCell w1 ⟨g, 72, none⟩ _ b hb).trans (ho1.block b hb)⟩
      rw [show ((N + C : Nat) : Int) = (N : Int) + (C : Int) by omega] at hrow2
      have Hr2 := Lib.hid hrow2
      have Ho2 := Lib.hid ho2
      clear hrow1 ho1 hrow2 ho2
      by_cases h64 : r + C = 64
      · have e3 : (((N : Int) + (C : Int)) % 64 == 0) = true := by simp; omega
        clear e1 e2
        go_wp2
        have hrow2 := Hr2.out
        have ho2 := Ho2.out
        clear Hr2 Ho2 c72 f72 hcut
        generalize w1.setCell ⟨g, 72, none⟩ (.int .u64 ((N : Int) + (C : Int))) = w2 at *
        obtain ⟨s, hs⟩ : ∃ s, s = after D (N / 64) := ⟨_, rfl⟩
        obtain ⟨bl', hbl'⟩ : ∃ bl', bl' = blTo bl (fun i => D (N + i)) r C := ⟨_, rfl⟩
        rw [← hs, ← hbl'] at hrow2
        have Hs := Lib.hid hs
        have Hbl' := Lib.hid hbl'
        clear hs hbl'
        have hks2 : Consts w2 := by
          refine ⟨fun i hi => ?_, fun i hi => ?_⟩
          · rw [World.cell?_of_block (ho2.block _ hg0.1)]; exact hks.k i hi
          · rw [World.cell?_of_block (ho2.block _ hg0.2)]; exact hks.s i hi
        have hgl : g < w2.heap.size := World.rowIs.lt hrow2
        have hd : w2.drew.rowIs g _ 73 _ := hrow2
        have HB : Hid (∀ i, i < 64 → (cellsOf 64 fun j => hashCell s bl' (N + C) (8 + j))[i]? = some (.int .u8 ((D (64 * (N / 64) + i)).toNat : Int))) := by
          intro i hi
          rw [cellsOf_at _ _ _ hi, hash_bl_at _ _ _ _ hi, Hbl'.out, blTo_at Hbl.out Hr.out (by omega : i < r + C)]
        refine wp_region_noPanic ?_
        refine region_first (v := .pointer (some ⟨g, 0, none⟩)) 9 (by kernel_rfl) (by kernel_rfl) (fun _ _ _ h => h) (.inl ⟨rfl, fun _ => rfl⟩) ?_
        simp only [List.take_succ_cons, List.take_zero, List.drop_succ_cons, List.drop_zero, Act.put]
        repeat (first
          | (refine still_row (by rfl) 139 (.tmp 51) (by rfl) g 0 _ 73 8 _ hd (by rfl) _ Tryz.underlying139 rfl (by kernel_rfl) (by omega) ?_)
          | (refine still_row (by rfl) 117 (.tmp 55) (by rfl) g 8 _ 73 64 _ hd (by rfl) _ Tryz.underlying117 rfl (by kernel_rfl) (by omega) ?_)
          | still_step)
        refine wpStill_nil ?_
        go_wp2_with fail
        refine (mix_any s (fun j => D (64 * (N / 64) + j)) _ _ (size_cellsOf _ _) (fun i hi => by rw [cellsOf_at _ _ _ hi, ← hash_st_at s bl' (N + C) i hi, Nat.zero_add]) (size_cellsOf _ _) HB.out w2.drew hks2.drew).mono ?_
        rintro e w4 ⟨rfl, hb4⟩
        have h4 : w4.rowIs g _ 73 _ := World.rowIs.of_block hd (hb4.block g hgl)
        go_wp2_with (refine store_row (by rfl) 139 (.tmp 59) (.tmp 57) (by rfl) g 0 _ 73 8 _ (fun j => .int .u32 (((mixOf s fun j => D (64 * (N / 64) + j)).get j).toNat : Int)) h4 (by rfl) _ (by rfl) (by kernel_rfl) (by omega) (size_wordCells _ _) (wordCells_at _ _) (fun _ _ => rfl) ?_
                     intro w5 hr5 ho5)
        have hset : HashSet w5 g D (N + C) := by
          refine ⟨bl', ?_, fun j hj => by have := Hr.out; omega⟩
          have := hash_state hr5
          rw [Hs.out, show mixOf (after D (N / 64)) (fun j => D (64 * (N / 64) + j)) = after D (N / 64 + 1) from rfl, show N / 64 + 1 = (N + C) / 64 by have := Hr.out; omega] at this
          exact this
        have hgr5 : wr.grownBy w5 (some g) := grown_trans (grown_drew g wr) (grown_trans (grown_only ho2) (grown_trans (grown_drew g w2) (grown_trans (grown_below hb4) (grown_only ho5))))
        have HF : Hid (WriteRel D g n m (k + C) (.slice A' (M - C) (c - C)) w w5) := by
          have e1 := HM.out
          have e2 := HN.out
          subst e1 e2
          exact write_next hlt hCM hc Hcell.out hne HA'.out hgr hks hg0 hgr5 hset
        clear hset hgr5 hr5 ho5 h4 hb4 HB hd hks2 ho2 hrow2
        refine NoPanic.normal ?_
        go_wp2
        go_roundw
        case rel => exact ⟨k + C, HF.out⟩
        case measure => simp [sliceLen]; omega
      · have e3 : (((N : Int) + (C : Int)) % 64 == 0) = false := by simp; omega
        clear e1 e2
        go_wp2
        go_roundw
        case rel =>
          have hgr5 := grown_trans (grown_drew g wr) (grown_only Ho2.out)
          have hset : HashSet (w1.setCell ⟨g, 72, none⟩ (.int .u64 ((N : Int) + (C : Int)))) g D (N + C) := by
            have e64 : (N + C) / 64 = N / 64 := by have := Hr.out; omega
            refine ⟨_, by rw [e64]; exact Hr2.out, fun j hj => ?_⟩
            rw [e64]
            exact blTo_at Hbl.out Hr.out (by have := Hr.out; omega)
          have e1 := HM.out
          have e2 := HN.out
          subst e1 e2
          exact ⟨k + C, write_next hlt hCM hc Hcell.out hne HA'.out hgr hks hg0 hgr5 hset⟩
        case measure => simp [sliceLen]; omega
    · have hm0 : m - k = 0 := by omega
      have hset : HashIs wr g D (n + m) := by
        have := HashSet.is ⟨bl, hrow, hbl⟩
        rw [show n + k = n + m by omega] at this
        exact this
      have Hset := Lib.hid hset
      rw [hm0]
      clear hset hrow hbl hrd hm0
      go_wp2
      go_end0
      exact ⟨rfl, Hset.out, hgr⟩
end Go.Proofs.YtnkjoambhmlnbaaGreatDoor.Sha
