/-
  What the document's in does; which letters a kind has. What the document's has and in do. 'make([]byte, n)': the call's own bytes; a byte of them set. What a word is, as a value. A list of slices of bytes: behind calls; one part's place. What field.Take does.
-/
import Derived.Test.YtnkjoambhmlnbaaGreatDoorBd07
import Derived.WalkMore
import Derived.WalkSmall
import Derived.Laws.OwnMore
import Derived.Laws.BitsAllLaws
namespace Go.Proofs.YtnkjoambhmlnbaaGreatDoor.Note
open Go Go.RowKit Go.Proofs.YtnkjoambhmlnbaaGreatDoor.Aid Go.Proofs.YtnkjoambhmlnbaaGreatDoor.Law01 Go.Proofs.YtnkjoambhmlnbaaGreatDoor.Field

def inS (s : ByteArray) (c : Nat) : Bool := decide (∃ j, ∃ h : j < s.size, s[j].toNat = c)
set_option maxRecDepth 100000 in
theorem in_any (s : ByteArray) (hs : s.size ≤ 9000000000000000000) (c : Nat) (w : World) : Calls Tryz.prog 27 #[.string s, .int .u8 (c : Int)] w fun x w' => x = .returned (.bool (inS s c)) ∧ w = w' := by
  go_enter Tryz.func27, Tryz.ntmps27
  go_wp2
  go_loopw [5] (fun i wr => ∃ k : Nat, k ≤ s.size ∧ i = .int .i64 (k : Int) ∧ wr = w ∧ Hid (∀ j, j < k → (h : j < s.size) → s[j].toNat ≠ c)) (fun i _ => s.size - (intOf i).toNat)
  case atStart => exact ⟨0, by omega, rfl, rfl, fun j hj => by omega⟩
  case round =>
    obtain ⟨k, hk, rfl, rfl, hc⟩ := hrel
    by_cases hlt : k < s.size
    · have q0 : (0 : Int) ≤ (k : Int) := by omega
      have q1 : (k : Int) < (s.size : Int) := by omega
      by_cases hx : s[k].toNat = c
      · have hy : Hid (inS s c = true) := Lib.hid (decide_eq_true ⟨k, hlt, hx⟩)
        have e1 : (((s[k].toNat : Nat) : Int) == (c : Int)) = true := by simp; omega
        clear hc hx
        go_wp2
        all_goals first
          | (go_ret; exact ⟨by rw [hy.out] <;> rfl, rfl⟩)
          | (exfalso; simp at *; omega)
      · have e1 : (((s[k].toNat : Nat) : Int) == (c : Int)) = false := by simp; omega
        have hn : Hid (∀ j, j < k + 1 → (h : j < s.size) → s[j].toNat ≠ c) := Lib.hid (fun j hj hs => by
          by_cases e : j = k
          · subst e; exact hx
          · exact hc.out j (by omega) hs)
        clear hc hx
        go_wp2
        all_goals first
          | exact ⟨⟨k + 1, by omega, congrArg (Value.int .i64) (by omega), trivial, hn⟩, by simp [intOf]; omega⟩
          | (exfalso; simp at *; omega)
    · obtain rfl : k = s.size := by omega
      have hn : Hid (inS s c = false) := Lib.hid (decide_eq_false (fun ⟨j, hj, hx⟩ => hc.out j hj hj hx))
      clear hc
      go_wp2
      go_ret
      exact ⟨by rw [hn.out] <;> rfl, rfl⟩
theorem inS_strL (l : List Nat) (hl : ∀ x ∈ l, x < 256) (c : Nat) : inS (strL l) c = l.contains c := by
  have hsz : (strL l).size = l.length := by simp [strL, ByteArray.size]
  have hat : ∀ j (h : j < (strL l).size), (strL l)[j].toNat = l[j]'(by rw [hsz] at h; exact h) := fun j h => by
    have hj : j < l.length := by rw [hsz] at h; exact h
    show (((l.map UInt8.ofNat).toArray)[j]'(by simpa using hj)).toNat = _
    have := hl _ (List.getElem_mem hj)
    simp
    omega
  unfold inS
  by_cases h : c ∈ l
  · rw [List.contains_iff_mem.2 h]
    obtain ⟨j, hj, he⟩ := List.mem_iff_getElem.1 h
    exact decide_eq_true ⟨j, by rw [hsz]; exact hj, by rw [hat]; exact he⟩
  · have : l.contains c = false := by rw [Bool.eq_false_iff]; exact fun h' => h (List.contains_iff_mem.1 h')
    rw [this]
    exact decide_eq_false (fun ⟨j, hj, hx⟩ => h (by rw [hat] at hx; rw [← hx]; exact List.getElem_mem _))
theorem table_small : ∀ l ∈ table, ∀ x ∈ l, x < 256 := by decide
theorem hasL_small (k : Int) : ∀ x ∈ hasL k, x < 256 := by
  unfold hasL
  split
  · intro x hx; cases hx
  · intro x hx
    rw [List.getD_eq_getElem?_getD] at hx
    cases h : table[k.toNat]? with
    | none => rw [h] at hx; cases hx
    | some l => rw [h] at hx; exact table_small l (List.mem_of_getElem? h) x hx
theorem inS_has (k : Int) (c : Nat) : inS (strL (hasL k)) c = inL k c := inS_strL _ (hasL_small k) c
theorem has_len (k : Int) : (hasL k).length ≤ 4 := by
  unfold hasL
  split
  · exact Nat.zero_le _
  · rw [List.getD_eq_getElem?_getD]
    cases h : table[k.toNat]? with
    | none => exact Nat.zero_le _
    | some l => exact (show ∀ l ∈ table, l.length ≤ 4 by decide) l (List.mem_of_getElem? h)
theorem size_has (k : Int) : (strL (hasL k)).size = (hasL k).length := by simp [strL, ByteArray.size]
end Go.Proofs.YtnkjoambhmlnbaaGreatDoor.Note

namespace Go.Proofs.YtnkjoambhmlnbaaGreatDoor.Note
open Go Go.RowKit Go.Proofs.YtnkjoambhmlnbaaGreatDoor.Aid Go.Proofs.YtnkjoambhmlnbaaGreatDoor.Law01 Go.Proofs.YtnkjoambhmlnbaaGreatDoor.Field

set_option maxRecDepth 100000 in
set_option maxHeartbeats 2000000 in
theorem has_any (k : Int) (w : World) : Calls Tryz.prog 26 #[.int .i64 k] w fun x w' => x = .returned (.string (strL (hasL k))) ∧ Below w.heap.size w w' := by
  by_cases h1 : k < 1
  · have e : hasL k = [] := by unfold hasL; rw [if_pos (.inl h1)]
    rw [e]
    go_enter Tryz.func26, Tryz.ntmps26
    go_wp2
    go_ret
    exact ⟨rfl, (Below.refl _ _).alloc (Nat.le_refl _) _⟩
  · by_cases h2 : 17 ≤ k
    · have e : hasL k = [] := by unfold hasL; rw [if_pos (.inr h2)]
      rw [e]
      go_enter Tryz.func26, Tryz.ntmps26
      go_wp2
      go_ret
      exact ⟨rfl, (Below.refl _ _).alloc (Nat.le_refl _) _⟩
    · obtain ⟨n, rfl⟩ : ∃ n : Nat, k = (n : Int) := ⟨k.toNat, by omega⟩
      have h3 : n < 17 := by omega
      have h4 : 1 ≤ n := by omega
      clear h1 h2
      rcases (show n = 1 ∨ n = 2 ∨ n = 3 ∨ n = 4 ∨ n = 5 ∨ n = 6 ∨ n = 7 ∨ n = 8 ∨ n = 9 ∨ n = 10 ∨ n = 11 ∨ n = 12 ∨ n = 13 ∨ n = 14 ∨ n = 15 ∨ n = 16 by omega) with rfl | rfl | rfl | rfl | rfl | rfl | rfl | rfl | rfl | rfl | rfl | rfl | rfl | rfl | rfl | rfl
      all_goals
        go_enter Tryz.func26, Tryz.ntmps26
        go_wp2
        go_ret
        exact ⟨rfl, (Below.refl _ _).alloc (Nat.le_refl _) _⟩
end Go.Proofs.YtnkjoambhmlnbaaGreatDoor.Note
namespace Go.Proofs.YtnkjoambhmlnbaaGreatDoor.Aid
open Go Go.RowKit

theorem own_of_row {w : World} {g base n : Nat} {f : Nat → BitVec 8} (h : w.rowIs g 5 n (fun j => .int .u8 ((f j).toNat : Int))) (hb : base ≤ g) (hn : n ≤ 1099511627776) : Own w base n f (.slice (some ⟨g, 0, none⟩) n n) :=
  ⟨by simp, .inr ⟨g, n, cellsOf n (fun j => .int .u8 ((f j).toNat : Int)), rfl, hb, row_heap h, Nat.le_refl _, by simp only [maxLen]; omega, by simp [size_cellsOf], by simp only [cellsOf, Nat.mul_one]; exact List.take_of_length_le (by simp)⟩⟩
theorem own_put {w : World} {base m g cap : Nat} {e : Nat → BitVec 8} (h : Own w base m e (.slice (some ⟨g, 0, none⟩) m cap)) (k : Nat) (hk : k < m) (x : BitVec 8) (z : Int) (hz : z = (x.toNat : Int)) :
    Own (w.setCell ⟨g, k, none⟩ (.int .u8 z)) base m (setAt e k x) (.slice (some ⟨g, 0, none⟩) m cap) := by
  have := (World.ownsRow.stored h k (.int .u8 z)).1
  unfold Own
  have he : (List.range m).map (fun i => Value.int .u8 ((setAt e k x i).toNat : Int)) = ((List.range m).map fun i => Value.int .u8 ((e i).toNat : Int)).set k (.int .u8 z) := by
    refine List.ext_getElem? fun j => ?_
    rw [List.getElem?_set]
    simp only [List.length_map, List.length_range, List.getElem?_map]
    by_cases h1 : k = j
    · subst h1
      rw [if_pos rfl, if_pos hk, List.getElem?_range hk]
      simp [setAt, hz]
    · rw [if_neg h1]
      by_cases h2 : j < m
      · rw [List.getElem?_range h2]
        simp [setAt, show ¬ j = k from fun h => h1 h.symm]
      · rw [List.getElem?_eq_none (by simp; omega)]
        rfl
  rw [he]
  exact this
theorem own_at {w : World} {base m g cap : Nat} {e : Nat → BitVec 8} (h : Own w base m e (.slice (some ⟨g, 0, none⟩) m cap)) (k : Nat) (hk : k < m) :
    w.cell? ⟨g, k, none⟩ = some (.int .u8 ((e k).toNat : Int)) ∧ w.frozen? ⟨g, k, none⟩ = false := by
  refine ⟨?_, World.ownsRow.frozenAt h _⟩
  rw [World.ownsRow.cellAt h k (by omega)]
  simp [hk]
section
variable {w : World} {ops : Array Oper} {rest : List Oper} {op : Oper} {a : Act} {Q : Exit → Act → World → Prop}
/-- 'make([]byte, n)'. -/
theorem make_own (hgd : op.guard = none) (l c : Operand) (ho : op.op = .makeSlice 28 l c) (kl kc : IntKind) (n : Nat) (hl : a.eval l = .int kl (n : Int)) (hc : a.eval c = .int kc (n : Int)) (hn : n ≤ 1099511627776)
    (hK : ∀ w', Own w' w.heap.size n (fun _ => 0) (.slice (some ⟨w.heap.size, 0, none⟩) n n) → Below w.heap.size w w' → wpList Tryz.prog ops Q rest (a.put op.dst (.slice (some ⟨w.heap.size, 0, none⟩) n n)) w') : wpList Tryz.prog ops Q (op :: rest) a w := by
  obtain ⟨i5, hi5, hz5⟩ := Option.map_eq_some_iff.1 info_u8
  simp only [Prod.mk.injEq] at hz5
  refine wpList_make_row w hgd l c 28 ho 5 i5 (.int .u8 0) Tryz.underlying28 hi5 hz5.1 hz5.2.1 (by rfl) kl kc n hl hc (by rw [hz5.2.2]; omega) (by omega) ?_
  refine hK _ (own_of_row (f := fun _ => 0) (row_new w _ _ n _ (by simp [madeCells]) (fun j hj => ?_)) (Nat.le_refl _) hn) ((Below.refl _ _).alloc (Nat.le_refl _) _)
  simp [madeCells, hj, Nat.mod_one]
end
end Go.Proofs.YtnkjoambhmlnbaaGreatDoor.Aid
namespace Go.Proofs.YtnkjoambhmlnbaaGreatDoor.Field
open Go Go.RowKit Go.Proofs.YtnkjoambhmlnbaaGreatDoor.Aid Go.Proofs.YtnkjoambhmlnbaaGreatDoor.Law01

def wordE (n : Nat) (E : Nat → BitVec 8) (j : Nat) : BitVec 8 := if n = 16 then E j else 0
/-- A word's value. -/
def wordV (E : Nat → BitVec 8) : Value := .agg (cellsOf 16 (fun j => .int .u8 ((E j).toNat : Int)))
theorem zero16 (Z : Array Value) (hZ : Z = Array.replicate 16 (.int .u8 0)) (i : Nat) (hi : i < 16) : Z[i]? = some (Value.int .u8 0) := by
  subst hZ; simp [hi]
theorem wordV_congr {E F : Nat → BitVec 8} (h : ∀ j, j < 16 → E j = F j) : wordV E = wordV F := by
  unfold wordV
  rw [cellsOf_congr (fun j hj => by rw [h j hj])]
end Go.Proofs.YtnkjoambhmlnbaaGreatDoor.Field
namespace Go.Proofs.YtnkjoambhmlnbaaGreatDoor.Field
open Go Go.RowKit Go.Proofs.YtnkjoambhmlnbaaGreatDoor.Aid Go.Proofs.YtnkjoambhmlnbaaGreatDoor.Law01

theorem PartsOf.below {w w' : World} {len : Nat} {m : Nat → Nat} {e : Nat → Nat → BitVec 8} {v : Value} (h : PartsOf w len m e v) (hb : Below w.heap.size w w') : PartsOf w' len m e v := by
  obtain ⟨A, c, rfl, hr⟩ := h
  refine ⟨A, c, rfl, fun h0 => ?_⟩
  obtain ⟨sb, so, hA, hc⟩ := hr h0
  refine ⟨sb, so, hA, fun i hi => ?_⟩
  obtain ⟨u, hu, hs⟩ := hc i hi
  exact ⟨u, (hb.cell (p := ⟨sb, so + i, none⟩) (block_lt_of_cell hu)).trans hu, slice_any (slice_below hs hb) (Nat.le_refl _)⟩
theorem PartsOf.congr {w : World} {len : Nat} {m m' : Nat → Nat} {e e' : Nat → Nat → BitVec 8} {v : Value} (h : PartsOf w len m e v) (hm : ∀ i, i < len → m i = m' i ∧ ∀ j, j < m i → e i j = e' i j) : PartsOf w len m' e' v := by
  obtain ⟨A, c, rfl, hr⟩ := h
  refine ⟨A, c, rfl, fun h0 => ?_⟩
  obtain ⟨sb, so, hA, hc⟩ := hr h0
  refine ⟨sb, so, hA, fun i hi => ?_⟩
  obtain ⟨u, hu, hs⟩ := hc i hi
  refine ⟨u, hu, ?_⟩
  rw [← (hm i hi).1]
  exact hs.congr (hm i hi).2
/-- One part's place. -/
theorem PartsOf.at_ {w : World} {len : Nat} {m : Nat → Nat} {e : Nat → Nat → BitVec 8} {A : Option Addr} {c : Nat} (h : PartsOf w len m e (.slice A len c)) (i : Nat) (hi : i < len) :
    ∃ sb so A' c', A = some ⟨sb, so, none⟩ ∧ w.cell? ⟨sb, so + i, none⟩ = some (.slice A' (m i) c') ∧ SliceOf w w.heap.size (m i) (e i) (.slice A' (m i) c') := by
  obtain ⟨A1, c1, he, hr⟩ := h
  simp only [Value.slice.injEq, true_and] at he
  obtain ⟨rfl, rfl⟩ := he
  obtain ⟨sb, so, hA, hc⟩ := hr (by omega)
  obtain ⟨u, hu, hs⟩ := hc i hi
  obtain ⟨A', c', rfl, hx⟩ := hs
  exact ⟨sb, so, A', c', hA, hu, A', c', rfl, hx⟩
theorem SliceOf.at_ {w : World} {g n : Nat} {e : Nat → BitVec 8} {A : Option Addr} {c : Nat} (h : SliceOf w g n e (.slice A n c)) (hn : 0 < n) :
    ∃ sb so, A = some ⟨sb, so, none⟩ ∧ ∀ j, j < n → w.cell? ⟨sb, so + j, none⟩ = some (.int .u8 ((e j).toNat : Int)) := by
  obtain ⟨A1, c1, he, _, hr⟩ := h
  simp only [Value.slice.injEq, true_and] at he
  obtain ⟨rfl, rfl⟩ := he
  obtain ⟨sb, so, hA, _, hc⟩ := hr hn
  exact ⟨sb, so, hA, hc⟩
end Go.Proofs.YtnkjoambhmlnbaaGreatDoor.Field
namespace Go.Proofs.YtnkjoambhmlnbaaGreatDoor.Field
open Go Go.RowKit Go.Proofs.YtnkjoambhmlnbaaGreatDoor.Aid Go.Proofs.YtnkjoambhmlnbaaGreatDoor.Law01

theorem or_byte64 (x : Int) (b : Nat) (hb : b < 256) : bits .or .i64 (wrap64 (wrap64 x * 256)) (b : Int) = wrap64 (256 * x + (b : Int)) := by
  show IntKind.i64.wrap ((BitVec.ofInt 64 (wrap64 (wrap64 x * 256)) ||| BitVec.ofInt 64 (b : Int)).toNat : Int) = _
  obtain ⟨y, hy⟩ : ∃ y : Nat, (y : Int) = (256 * x) % 18446744073709551616 := ⟨((256 * x) % 18446744073709551616).toNat, by omega⟩
  have e1 : BitVec.ofInt 64 (wrap64 (wrap64 x * 256)) = BitVec.ofInt 64 (y : Int) := by
    apply BitVec.eq_of_toInt_eq
    simp only [BitVec.toInt_ofInt, Int.bmod_def]
    unfold wrap64
    omega
  rw [e1, BitVec.toNat_or, ofInt_u64 y (by omega), ofInt_u64 b (by omega), nat_join8 y b (by omega) hb, IntKind.wrap_i64]
  unfold wrap64
  omega

set_option maxRecDepth 100000 in
set_option maxHeartbeats 1000000 in
theorem take_own (A : Option Addr) (c n : Nat) (E : Nat → BitVec 8) (w : World) (hn : n ≤ 1000000) (h : SliceOf w w.heap.size n E (.slice A n c)) :
    Calls Tryz.prog 53 #[.slice A n c] w fun x w' => x = .returned (.tuple #[.int .i64 (takeV E n), .int .i64 (takeC n)]) ∧ Below w.heap.size w w' := by
  by_cases h8 : n = 8
  · subst h8
    obtain ⟨A', c', he, hc, hr⟩ := h
    simp only [Value.slice.injEq, true_and] at he
    obtain ⟨rfl, rfl⟩ := he
    obtain ⟨sb, so, rfl, _, hcell⟩ := hr (by omega)
    have HC := Lib.hid hcell
    clear hcell hr
    have e1 : takeV E 8 = wrap64 (tU E 8 : Int) := by unfold takeV; rw [if_pos rfl]
    have e2 : takeC 8 = 0 := by unfold takeC; rw [if_pos rfl]
    rw [e1, e2]
    go_enter Tryz.func53, Tryz.ntmps53
    go_wp2
    go_loopw [4, 12] (fun u i wr => ∃ k : Nat, k ≤ 8 ∧ i = .int .i64 (k : Int) ∧ u = .int .i64 (wrap64 (tU E k : Int)) ∧ wr = w) (fun _ i _ => 8 - (intOf i).toNat)
    case atStart => exact ⟨0, by omega, rfl, by rw [show (tU E 0 : Int) = 0 from rfl, show wrap64 0 = 0 from by unfold wrap64; omega], rfl⟩
    case round =>
      obtain ⟨k, hk, rfl, rfl, rfl⟩ := hrel
      by_cases hlt : k < 8
      · have c0 := HC.out k hlt
        have q0 : (0 : Int) ≤ (k : Int) := by omega
        have q1 : (k : Int) < 8 := by omega
        have e3 : bits .or .i64 (wrap64 (wrap64 (tU E k : Int) * 256)) ((E k).toNat : Int) = wrap64 (tU E (k + 1) : Int) := by
          rw [or_byte64 _ _ (E k).isLt]
          show wrap64 _ = wrap64 ((256 * tU E k + (E k).toNat : Nat) : Int)
          congr 1
        clear HC
        go_wp2
        exact ⟨⟨k + 1, by omega, congrArg (Value.int .i64) (by omega), rfl, trivial⟩, by simp [intOf]; omega⟩
      · obtain rfl : k = 8 := by omega
        clear HC
        go_wp2
        go_ret2
        exact ⟨rfl, Below.refl _ _⟩
  · have h8' : ((n : Int) == 8) = false := by simp; omega
    have e1 : takeV E n = 0 := by unfold takeV; rw [if_neg h8]
    have e2 : takeC n = 3 := by unfold takeC; rw [if_neg h8]
    rw [e1, e2]
    clear h e1 e2
    go_enter Tryz.func53, Tryz.ntmps53
    go_wp2
    go_ret2
    exact ⟨rfl, Below.refl _ _⟩

end Go.Proofs.YtnkjoambhmlnbaaGreatDoor.Field
