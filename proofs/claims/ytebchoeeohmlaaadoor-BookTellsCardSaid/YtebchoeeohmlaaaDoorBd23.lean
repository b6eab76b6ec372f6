/-
  'make([]byte, n)': the call's own bytes; a byte of them set. What the document's Word does. A list of slices of bytes: behind calls; one part's place. What the document's Take and Number do. What field.Take and field.Number do. 'c := make([]byte, n); copy(c, b)': as many bytes of the call's own. The program's own store: where it lies; burn. The program's own store: New, Sync, Fuse; copyOf, hold.
-/
import Derived.Test.YtebchoeeohmlaaaDoorBd09
import Derived.Test.YtebchoeeohmlaaaDoorProg
import Derived.Laws.OwnMore
import Derived.WalkMore
import Derived.WalkSmall
import Derived.Laws.BitsAllLaws
import Derived.OwnWalk
namespace Go.Proofs.YtebchoeeohmlaaaDoor.Aid
open Go Go.RowKit

theorem own_of_row {w : World} {g base n : Nat} {f : Nat → BitVec 8} (h : w.rowIs g 5 n (fun j => .int .u8 ((f j).toNat : Int))) (hb : base ≤ g) (hn : n ≤ 1099511627776) : Own w base n f (.slice (some ⟨g, 0, none⟩) n n) :=
  ⟨by simp, .inr ⟨g, n, cellsOf n (fun j => .int .u8 ((f j).toNat : Int)), rfl, hb, row_heap h, Nat.le_refl _, by simp only [maxLen]; omega, by simp [size_cellsOf], by simp only [cellsOf, Nat.mul_one]; exact List.take_of_length_le (by simp)⟩⟩
theorem own_put {w : World} {base m g cap : Nat} {e : Nat → BitVec 8} (h : Own w base m e (.slice (some ⟨g, 0, none⟩) m cap)) (k : Nat) (hk : k < m) (x : BitVec 8) (z : Int) (hz : z = (x.toNat : Int)) :
    Own (w.setCell ⟨g, k, none⟩ (.int .u8 z)) base m (setAt e k x) (.slice (some ⟨g, 0, none⟩) m cap) := by
  have := (World.ownsRow.stored h k (.int .u8 z)).1
  unfold Own
  have he : (List.range m).map (fun i => Value.int .u8 ((setAt e k x i).toNat : Int)) = ((List.range m).map fun i => Value.int .u8 ((e i).toNat : Int)).set k (.int .u8 z) := by
    refine List.ext_getElem? fun j => ?_
    rw [List.getElem?_set]
    simp only [List.length_map, List.length_range, List.getElem?_map]
    by_cases h1 : k = j
    · subst h1
      rw [if_pos rfl, if_pos hk, List.getElem?_range hk]
      simp [setAt, hz]
    · rw [if_neg h1]
      by_cases h2 : j < m
      · rw [List.getElem?_range h2]
        simp [setAt, show ¬ j = k from fun h => h1 h.symm]
      · rw [List.getElem?_eq_none (by simp; omega)]
        rfl
  rw [he]
  exact this
theorem own_at {w : World} {base m g cap : Nat} {e : Nat → BitVec 8} (h : Own w base m e (.slice (some ⟨g, 0, none⟩) m cap)) (k : Nat) (hk : k < m) :
    w.cell? ⟨g, k, none⟩ = some (.int .u8 ((e k).toNat : Int)) ∧ w.frozen? ⟨g, k, none⟩ = false := by
  refine ⟨?_, World.ownsRow.frozenAt h _⟩
  rw [World.ownsRow.cellAt h k (by omega)]
  simp [hk]
section
variable {w : World} {ops : Array Oper} {rest : List Oper} {op : Oper} {a : Act} {Q : Exit → Act → World → Prop}
/-- 'make([]byte, n)'. -/
theorem make_own (hgd : op.guard = none) (l c : Operand) (ho : op.op = .makeSlice 23 l c) (kl kc : IntKind) (n : Nat) (hl : a.eval l = .int kl (n : Int)) (hc : a.eval c = .int kc (n : Int)) (hn : n ≤ 1099511627776)
    (hK : ∀ w', Own w' w.heap.size n (fun _ => 0) (.slice (some ⟨w.heap.size, 0, none⟩) n n) → Below w.heap.size w w' → wpList Tryd.prog ops Q rest (a.put op.dst (.slice (some ⟨w.heap.size, 0, none⟩) n n)) w') : wpList Tryd.prog ops Q (op :: rest) a w := by
  obtain ⟨i5, hi5, hz5⟩ := Option.map_eq_some_iff.1 info_u8
  simp only [Prod.mk.injEq] at hz5
  refine wpList_make_row w hgd l c 23 ho 5 i5 (.int .u8 0) Tryd.underlying23 hi5 hz5.1 hz5.2.1 (by rfl) kl kc n hl hc (by rw [hz5.2.2]; omega) (by omega) ?_
  refine hK _ (own_of_row (f := fun _ => 0) (row_new w _ _ n _ (by simp [madeCells]) (fun j hj => ?_)) (Nat.le_refl _) hn) ((Below.refl _ _).alloc (Nat.le_refl _) _)
  simp [madeCells, hj, Nat.mod_one]
end
end Go.Proofs.YtebchoeeohmlaaaDoor.Aid
namespace Go.Proofs.YtebchoeeohmlaaaDoor.Field
open Go Go.RowKit Go.Proofs.YtebchoeeohmlaaaDoor.Aid Go.Proofs.YtebchoeeohmlaaaDoor.Law01

def wordE (n : Nat) (E : Nat → BitVec 8) (j : Nat) : BitVec 8 := if n = 16 then E j else 0
/-- A word's value. -/
def wordV (E : Nat → BitVec 8) : Value := .agg (cellsOf 16 (fun j => .int .u8 ((E j).toNat : Int)))
theorem zero16 (Z : Array Value) (hZ : Z = Array.replicate 16 (.int .u8 0)) (i : Nat) (hi : i < 16) : Z[i]? = some (Value.int .u8 0) := by
  subst hZ; simp [hi]
theorem wordV_congr {E F : Nat → BitVec 8} (h : ∀ j, j < 16 → E j = F j) : wordV E = wordV F := by
  unfold wordV
  rw [cellsOf_congr (fun j hj => by rw [h j hj])]
/-- The first k bytes are there. -/
def wordTo (E : Nat → BitVec 8) (k j : Nat) : BitVec 8 := if j < k then E j else 0
theorem word_next (E : Nat → BitVec 8) (k j : Nat) : (if j = k then Value.int .u8 ((E k).toNat : Int) else .int .u8 ((wordTo E k j).toNat : Int)) = .int .u8 ((wordTo E (k + 1) j).toNat : Int) := by
  unfold wordTo
  by_cases h : j = k
  · subst h; rw [if_pos rfl, if_pos (by omega)]
  · rw [if_neg h]
    by_cases h2 : j < k
    · rw [if_pos h2, if_pos (by omega)]
    · rw [if_neg h2, if_neg (by omega)]
set_option maxRecDepth 100000 in
set_option maxHeartbeats 1000000 in
theorem refWord_any (A : Option Addr) (c n : Nat) (E : Nat → BitVec 8) (g : Nat) (w : World) (hn : n ≤ 1000000) (h : SliceOf w g n E (.slice A n c)) :
    Calls Tryd.prog 36 #[.slice A n c] w fun x w' => x = .returned (.tuple #[wordV (wordE n E), .int .i64 (wordC n)]) ∧ Below w.heap.size w w' := by
  by_cases h16 : n = 16
  · subst h16
    rw [show wordC 16 = 0 from by unfold wordC; rw [if_pos rfl], wordV_congr (F := E) (fun j hj => by unfold wordE; rw [if_pos rfl])]
    obtain ⟨A', c', he, hc, hr⟩ := h
    simp only [Value.slice.injEq, true_and] at he
    obtain ⟨rfl, rfl⟩ := he
    obtain ⟨sb, so, rfl, _, hcell⟩ := hr (by omega)
    have HC := Lib.hid hcell
    clear hcell hr
    go_enter Tryd.func36, Tryd.ntmps36
    go_wp2_with (refine store_whole (by rfl) 26 (.tmp 4) (.tmp 6) (by rfl) (w.heap.size + 1) _ 16 (fun _ => .int .u8 0) (fun _ => .int .u8 0) (by have := row_new (w.alloc (.cells (Array.replicate 16 (.int .u8 0)) 26)) (Array.replicate 16 (.int .u8 0)) 26 16 (fun _ => .int .u8 0) (by simp) (zero16 _ rfl); rw [World.size_alloc] at this; exact this) (by rfl) _ (by rfl) (by kernel_rfl) (by rfl) (zero16 _ (by rfl)) (fun _ _ => rfl) ?_
                 intro w2 hr2 ho2
                 have hz2 := ho2.row ((row_new w (Array.replicate 16 (.int .u8 0)) 26 16 (fun _ => .int .u8 0) (by simp) (zero16 _ rfl)).alloc (.cells (Array.replicate 16 (.int .u8 0)) 26)) (by omega)
                 have hb2 : Below w.heap.size w w2 := ho2.below (((Below.refl _ w).alloc (Nat.le_refl _) (.cells (Array.replicate 16 (.int .u8 0)) 26)).alloc (by simp) (.cells (Array.replicate 16 (.int .u8 0)) 26)) (by omega))
    clear ho2
    have hw0 : w2.rowIs (w.heap.size + 1) 26 16 (fun j => .int .u8 ((wordTo E 0 j).toNat : Int)) := hr2.congr (fun j _ => by unfold wordTo; rw [if_neg (by omega)]; rfl)
    go_loopw [5] (fun i wr => ∃ k : Nat, k ≤ 16 ∧ i = .int .i64 (k : Int) ∧ Hid (wr.rowIs (w.heap.size + 1) 26 16 (fun j => .int .u8 ((wordTo E k j).toNat : Int))) ∧ Hid (wr.rowIs w.heap.size 26 16 (fun _ => .int .u8 0)) ∧ Hid (Below w.heap.size w wr)) (fun i _ => 16 - (intOf i).toNat)
    case atStart => exact ⟨0, by omega, rfl, hw0, hz2, hb2⟩
    case round =>
      clear hr2 hw0 hz2 hb2
      obtain ⟨k, hk, rfl, hr, hz, hb⟩ := hrel
      by_cases hlt : k < 16
      · have c0 := HC.out k hlt
        have hsb := block_lt_of_cell c0
        have c0' := (hb.out.cell (p := ⟨sb, so + k, none⟩) hsb).trans c0
        have q0 : (0 : Int) ≤ (k : Int) := by omega
        have q1 : (k : Int) < 16 := by omega
        have d0 := hr.out.cell hlt
        have f0 := hr.out.frozen k
        have hs := hr.out.set k (.int .u8 ((E k).toNat : Int))
        have hs' : (wr.setCell ⟨w.heap.size + 1, k, none⟩ (.int .u8 ((E k).toNat : Int))).rowIs (w.heap.size + 1) 26 16 (fun j => .int .u8 ((wordTo E (k + 1) j).toNat : Int)) := hs.congr (fun j _ => word_next E k j)
        have hz' : (wr.setCell ⟨w.heap.size + 1, k, none⟩ (.int .u8 ((E k).toNat : Int))).rowIs w.heap.size 26 16 (fun _ => .int .u8 0) := hz.out.of_block (heap_setCell_other _ _ _ _ (by simp))
        have hb' : Below w.heap.size w (wr.setCell ⟨w.heap.size + 1, k, none⟩ (.int .u8 ((E k).toNat : Int))) := hb.out.setCell (p := ⟨w.heap.size + 1, k, none⟩) (by simp) _
        have HS := Lib.hid hs'
        have HZ := Lib.hid hz'
        have HB := Lib.hid hb'
        clear hs hs' hz' hb' hr hz hb c0 HC hsb
        go_wp2
        exact ⟨⟨k + 1, by omega, congrArg (Value.int .i64) (by omega), HS, HZ, HB⟩, by simp [intOf]; omega⟩
      · obtain rfl : k = 16 := by omega
        clear HC
        have hr' := hr.out
        have hz' := hz.out
        have hb' := hb.out
        clear hr hz hb
        go_wp2_with (first
          | (refine load_whole (by rfl) 26 (.tmp 4) (by rfl) _ _ _ _ hr' (by rfl) _ Tryd.underlying26 rfl (by kernel_rfl) ?_)
          | (refine store_whole (by rfl) 26 (.tmp 2) (.tmp 21) (by rfl) w.heap.size _ 16 (fun _ => .int .u8 0) (fun j => .int .u8 ((E j).toNat : Int)) hz' (by rfl) _ (by rfl) (by kernel_rfl) (size_cellsOf _ _) (fun j hj => by rw [cellsOf_at _ _ j hj]; unfold wordTo; rw [if_pos hj]) (fun _ _ => rfl) ?_
             intro w3 hr3 ho3
             have hb3 : Below w.heap.size w w3 := ho3.below hb' (Nat.le_refl _)
             clear ho3))
        exact bodyPost_ret (results_row_tmp rfl _ w.heap.size _ _ _ _ (by rfl) hr3 Tryd.underlying26 rfl (by kernel_rfl)) rfl ⟨rfl, hb3⟩
  · have h16' : ((n : Int) == 16) = false := by simp; omega
    rw [show wordC n = 3 from by unfold wordC; rw [if_neg h16], wordV_congr (F := fun _ => 0) (fun j hj => by unfold wordE; rw [if_neg h16])]
    clear h
    go_enter Tryd.func36, Tryd.ntmps36
    go_wp2_with (first
      | (refine store_whole (by rfl) 26 (.tmp 4) (.tmp 6) (by rfl) (w.heap.size + 1) _ 16 (fun _ => .int .u8 0) (fun _ => .int .u8 0) (by have := row_new (w.alloc (.cells (Array.replicate 16 (.int .u8 0)) 26)) (Array.replicate 16 (.int .u8 0)) 26 16 (fun _ => .int .u8 0) (by simp) (zero16 _ rfl); rw [World.size_alloc] at this; exact this) (by rfl) _ (by rfl) (by kernel_rfl) (by rfl) (zero16 _ (by rfl)) (fun _ _ => rfl) ?_
         intro w2 hr2 ho2
         have hz2 := ho2.row ((row_new w (Array.replicate 16 (.int .u8 0)) 26 16 (fun _ => .int .u8 0) (by simp) (zero16 _ rfl)).alloc (.cells (Array.replicate 16 (.int .u8 0)) 26)) (by omega)
         have hb2 : Below w.heap.size w w2 := ho2.below (((Below.refl _ w).alloc (Nat.le_refl _) (.cells (Array.replicate 16 (.int .u8 0)) 26)).alloc (by simp) (.cells (Array.replicate 16 (.int .u8 0)) 26)) (by omega)
         clear ho2)
      | (refine load_whole (by rfl) 26 (.tmp 4) (by rfl) _ _ _ _ hr2 (by rfl) _ Tryd.underlying26 rfl (by kernel_rfl) ?_)
      | (refine store_whole (by rfl) 26 (.tmp 2) (.tmp 10) (by rfl) w.heap.size _ 16 (fun _ => .int .u8 0) (fun _ => .int .u8 0) hz2 (by rfl) _ (by rfl) (by kernel_rfl) (size_cellsOf _ _) (cellsOf_at _ _) (fun _ _ => rfl) ?_
         intro w3 hr3 ho3
         have hb3 : Below w.heap.size w w3 := ho3.below hb2 (Nat.le_refl _)
         clear ho3))
    exact bodyPost_ret (results_row_tmp rfl _ w.heap.size _ _ _ _ (by rfl) hr3 Tryd.underlying26 rfl (by kernel_rfl)) rfl ⟨rfl, hb3⟩
end Go.Proofs.YtebchoeeohmlaaaDoor.Field
namespace Go.Proofs.YtebchoeeohmlaaaDoor.Field
open Go Go.RowKit Go.Proofs.YtebchoeeohmlaaaDoor.Aid Go.Proofs.YtebchoeeohmlaaaDoor.Law01

theorem PartsOf.below {w w' : World} {len : Nat} {m : Nat → Nat} {e : Nat → Nat → BitVec 8} {v : Value} (h : PartsOf w len m e v) (hb : Below w.heap.size w w') : PartsOf w' len m e v := by
  obtain ⟨A, c, rfl, hr⟩ := h
  refine ⟨A, c, rfl, fun h0 => ?_⟩
  obtain ⟨sb, so, hA, hc⟩ := hr h0
  refine ⟨sb, so, hA, fun i hi => ?_⟩
  obtain ⟨u, hu, hs⟩ := hc i hi
  exact ⟨u, (hb.cell (p := ⟨sb, so + i, none⟩) (block_lt_of_cell hu)).trans hu, slice_any (slice_below hs hb) (Nat.le_refl _)⟩
theorem PartsOf.congr {w : World} {len : Nat} {m m' : Nat → Nat} {e e' : Nat → Nat → BitVec 8} {v : Value} (h : PartsOf w len m e v) (hm : ∀ i, i < len → m i = m' i ∧ ∀ j, j < m i → e i j = e' i j) : PartsOf w len m' e' v := by
  obtain ⟨A, c, rfl, hr⟩ := h
  refine ⟨A, c, rfl, fun h0 => ?_⟩
  obtain ⟨sb, so, hA, hc⟩ := hr h0
  refine ⟨sb, so, hA, fun i hi => ?_⟩
  obtain ⟨u, hu, hs⟩ := hc i hi
  refine ⟨u, hu, ?_⟩
  rw [← (hm i hi).1]
  exact hs.congr (hm i hi).2
/-- One part's place. -/
theorem PartsOf.at_ {w : World} {len : Nat} {m : Nat → Nat} {e : Nat → Nat → BitVec 8} {A : Option Addr} {c : Nat} (h : PartsOf w len m e (.slice A len c)) (i : Nat) (hi : i < len) :
    ∃ sb so A' c', A = some ⟨sb, so, none⟩ ∧ w.cell? ⟨sb, so + i, none⟩ = some (.slice A' (m i) c') ∧ SliceOf w w.heap.size (m i) (e i) (.slice A' (m i) c') := by
  obtain ⟨A1, c1, he, hr⟩ := h
  simp only [Value.slice.injEq, true_and] at he
  obtain ⟨rfl, rfl⟩ := he
  obtain ⟨sb, so, hA, hc⟩ := hr (by omega)
  obtain ⟨u, hu, hs⟩ := hc i hi
  obtain ⟨A', c', rfl, hx⟩ := hs
  exact ⟨sb, so, A', c', hA, hu, A', c', rfl, hx⟩
theorem SliceOf.at_ {w : World} {g n : Nat} {e : Nat → BitVec 8} {A : Option Addr} {c : Nat} (h : SliceOf w g n e (.slice A n c)) (hn : 0 < n) :
    ∃ sb so, A = some ⟨sb, so, none⟩ ∧ ∀ j, j < n → w.cell? ⟨sb, so + j, none⟩ = some (.int .u8 ((e j).toNat : Int)) := by
  obtain ⟨A1, c1, he, _, hr⟩ := h
  simp only [Value.slice.injEq, true_and] at he
  obtain ⟨rfl, rfl⟩ := he
  obtain ⟨sb, so, hA, _, hc⟩ := hr hn
  exact ⟨sb, so, hA, hc⟩
end Go.Proofs.YtebchoeeohmlaaaDoor.Field
namespace Go.Proofs.YtebchoeeohmlaaaDoor.Field
open Go Go.RowKit Go.Proofs.YtebchoeeohmlaaaDoor.Aid Go.Proofs.YtebchoeeohmlaaaDoor.Law01

theorem tU_lt (E : Nat → BitVec 8) : ∀ k, tU E k < 256 ^ k
  | 0 => by show 0 < 1; omega
  | k + 1 => by
    have h := tU_lt E k
    have hb := (E k).isLt
    show 256 * tU E k + (E k).toNat < 256 ^ (k + 1)
    rw [Nat.pow_succ]
    omega
theorem tU_small (E : Nat → BitVec 8) (k : Nat) (hk : k < 8) : (tU E k : Int) < 72057594037927936 := by
  have h := tU_lt E k
  have : 256 ^ k ≤ 256 ^ 7 := Nat.pow_le_pow_right (by omega) (by omega)
  have h7 : (256 : Nat) ^ 7 = 72057594037927936 := by decide
  omega
theorem u64_in (z : Int) (h : 0 ≤ z ∧ z < 18446744073709551616) : IntKind.u64.wrap z = z := by
  unfold IntKind.wrap
  simp [IntKind.bits, IntKind.signed]
  omega
set_option maxRecDepth 100000 in
set_option maxHeartbeats 1000000 in
theorem refTake_any (A : Option Addr) (c n : Nat) (E : Nat → BitVec 8) (g : Nat) (w : World) (hn : n ≤ 1000000) (h : SliceOf w g n E (.slice A n c)) :
    Calls Tryd.prog 37 #[.slice A n c] w fun x w' => x = .returned (.tuple #[.int .i64 (takeV E n), .int .i64 (takeC n)]) ∧ w = w' := by
  by_cases h8 : n = 8
  · subst h8
    obtain ⟨A', c', he, hc, hr⟩ := h
    simp only [Value.slice.injEq, true_and] at he
    obtain ⟨rfl, rfl⟩ := he
    obtain ⟨sb, so, rfl, _, hcell⟩ := hr (by omega)
    have HC := Lib.hid hcell
    clear hcell hr
    have e1 : takeV E 8 = wrap64 (tU E 8 : Int) := by unfold takeV; rw [if_pos rfl]
    have e2 : takeC 8 = 0 := by unfold takeC; rw [if_pos rfl]
    rw [e1, e2]
    have f0 : tU E 0 = 0 := rfl
    have fs : ∀ k, tU E (k + 1) = 256 * tU E k + (E k).toNat := fun _ => rfl
    have fl : ∀ k, k < 8 → (tU E k : Int) < 72057594037927936 := tU_small E
    generalize tU E = f at *
    have FS := Lib.hid fs
    have FL := Lib.hid fl
    clear e1 e2 fs fl
    go_enter Tryd.func37, Tryd.ntmps37
    go_wp2
    go_loopw [4, 5] (fun u i wr => ∃ k : Nat, k ≤ 8 ∧ i = .int .i64 (k : Int) ∧ u = .int .u64 (f k : Int) ∧ wr = w) (fun _ i _ => 8 - (intOf i).toNat)
    case atStart => exact ⟨0, by omega, rfl, by rw [f0]; rfl, rfl⟩
    case round =>
      obtain ⟨k, hk, rfl, rfl, rfl⟩ := hrel
      by_cases hlt : k < 8
      · have c0 := HC.out k hlt
        have q0 : (0 : Int) ≤ (k : Int) := by omega
        have q1 : (k : Int) < 8 := by omega
        have hs := FL.out k hlt
        have hb := (E k).isLt
        have e1 : IntKind.u64.wrap (256 * (f k : Int)) = 256 * (f k : Int) := u64_in _ (by omega)
        have e3 : IntKind.u64.wrap ((E k).toNat : Int) = ((E k).toNat : Int) := u64_in _ (by omega)
        have e2 : IntKind.u64.wrap (256 * (f k : Int) + ((E k).toNat : Int)) = 256 * (f k : Int) + ((E k).toNat : Int) := u64_in _ (by omega)
        have HN : Hid ((f (k + 1) : Int) = 256 * (f k : Int) + ((E k).toNat : Int)) := Lib.hid (by have := FS.out k; omega)
        clear HC
        go_wp2
        exact ⟨⟨k + 1, by omega, congrArg (Value.int .i64) (by omega), congrArg (Value.int .u64) HN.out.symm, trivial⟩, by simp [intOf]; omega⟩
      · obtain rfl : k = 8 := by omega
        clear HC
        go_wp2
        go_ret2
        exact ⟨rfl, rfl⟩
  · have h8' : ((n : Int) == 8) = false := by simp; omega
    have e1 : takeV E n = 0 := by unfold takeV; rw [if_neg h8]
    have e2 : takeC n = 3 := by unfold takeC; rw [if_neg h8]
    rw [e1, e2]
    clear h e1 e2
    go_enter Tryd.func37, Tryd.ntmps37
    go_wp2
    go_ret2
    exact ⟨rfl, rfl⟩

/-- The i last bytes are there. -/
def numTo (n : Int) (k j : Nat) : BitVec 8 := if k ≤ j then numB n j else 0
theorem num_next (n : Int) (k j : Nat) (hk : k < 8) : setAt (numTo n (k + 1)) k (numB n k) j = numTo n k j := by
  unfold setAt numTo
  by_cases h : j = k
  · subst h; rw [if_pos rfl, if_pos (Nat.le_refl _)]
  · rw [if_neg h]
    by_cases h2 : k ≤ j
    · rw [if_pos h2, if_pos (by omega)]
    · rw [if_neg h2, if_neg (by omega)]
theorem numU_lt (n : Int) : numU n < 18446744073709551616 := by unfold numU; omega
theorem u64_num (n : Int) : IntKind.u64.wrap n = (numU n : Int) := by
  unfold numU IntKind.wrap
  simp [IntKind.bits, IntKind.signed]
  omega
set_option maxRecDepth 100000 in
set_option maxHeartbeats 1000000 in
theorem refNumber_any (n : Int) (w : World) : Calls Tryd.prog 41 #[.int .i64 n] w fun x w' => ∃ v, x = .returned v ∧ Own w' w.heap.size 8 (numB n) v ∧ Below w.heap.size w w' := by
  have e0 := u64_num n
  go_enter Tryd.func41, Tryd.ntmps41
  go_wp2_with (at_make
               refine make_own (by rfl) (.const (.int .i64 8)) (.const (.int .i64 8)) (by rfl) .i64 .i64 8 (by rfl) (by rfl) (by omega) ?_
               intro w1 hown hb1)
  have hown : Own w1 w.heap.size 8 (numTo n 8) (.slice (some ⟨w.heap.size, 0, none⟩) 8 8) := Own.congr' hown (fun j hj => by unfold numTo; rw [if_neg (by omega)])
  go_loopw [3, 5] (fun u i wr => ∃ k : Nat, k ≤ 8 ∧ i = .int .i64 ((k : Int) - 1) ∧ u = .int .u64 ((numU n / 256 ^ (8 - k) : Nat) : Int) ∧ Hid (Own wr w.heap.size 8 (numTo n k) (.slice (some ⟨w.heap.size, 0, none⟩) 8 8)) ∧ Hid (Below w.heap.size w wr)) (fun _ i _ => (intOf i + 1).toNat)
  case atStart => exact ⟨8, by omega, rfl, by simp, hown, hb1⟩
  case round =>
    clear hown hb1
    obtain ⟨k, hk, rfl, rfl, ho, hb⟩ := hrel
    by_cases hlt : 0 < k
    · obtain ⟨j, rfl⟩ : ∃ j, k = j + 1 := ⟨k - 1, by omega⟩
      have hx := own_at ho.out j (by omega)
      obtain ⟨c0, f0⟩ := hx
      have q0 : (0 : Int) ≤ (j : Int) := by omega
      have q1 : (j : Int) < 8 := by omega
      have hi : (((j + 1 : Nat) : Int) - 1) = (j : Int) := by omega
      rw [hi]
      have hU : numU n / 256 ^ (8 - (j + 1)) = numU n / 256 ^ (7 - j) := by rw [show 8 - (j + 1) = 7 - j by omega]
      have hD : numU n / 256 ^ (8 - j) = numU n / 256 ^ (7 - j) / 256 := by rw [show 8 - j = (7 - j) + 1 by omega, Nat.pow_succ, ← Nat.div_div_eq_div_mul]
      have hB : numB n j = bt (numU n / 256 ^ (7 - j) % 256) := rfl
      have hlt : numU n / 256 ^ (7 - j) < 18446744073709551616 := Nat.lt_of_le_of_lt (Nat.div_le_self _ _) (numU_lt n)
      have hput := own_put ho.out j (by omega) (numB n j)
      rw [hU]
      generalize numU n / 256 ^ (7 - j) = z at *
      have hv : (numB n j).toNat = z % 256 := by rw [hB, bt_toNat (Nat.mod_lt _ (by omega))]
      have hput' := hput ((z : Int) % 256) (by rw [hv]; omega)
      have hown' : Own (wr.setCell ⟨w.heap.size, j, none⟩ (.int .u8 ((z : Int) % 256))) w.heap.size 8 (numTo n j) (.slice (some ⟨w.heap.size, 0, none⟩) 8 8) := Own.congr' hput' (fun i _ => num_next n j i (by omega))
      have hb' : Below w.heap.size w (wr.setCell ⟨w.heap.size, j, none⟩ (.int .u8 ((z : Int) % 256))) := hb.out.setCell (p := ⟨w.heap.size, j, none⟩) (Nat.le_refl _) _
      have HO := Lib.hid hown'
      have HB := Lib.hid hb'
      have HD := Lib.hid hD
      clear hput hput' hown' hb' ho hb hU hD hB hv hi
      go_wp2
      exact ⟨⟨j, by omega, rfl, congrArg (Value.int .u64) (by rw [HD.out] <;> omega), HO, HB⟩, by simp [intOf] <;> omega⟩
    · obtain rfl : k = 0 := by omega
      have ho' := Lib.hid (Own.congr' ho.out (fun j hj => by unfold numTo; rw [if_pos (Nat.zero_le _)]) : Own wr w.heap.size 8 (numB n) _)
      clear ho
      go_wp2
      go_ret
      exact ⟨_, rfl, ho'.out, hb.out⟩

end Go.Proofs.YtebchoeeohmlaaaDoor.Field
namespace Go.Proofs.YtebchoeeohmlaaaDoor.Field
open Go Go.RowKit Go.Proofs.YtebchoeeohmlaaaDoor.Aid Go.Proofs.YtebchoeeohmlaaaDoor.Law01

theorem or_byte64 (x : Int) (b : Nat) (hb : b < 256) : bits .or .i64 (wrap64 (wrap64 x * 256)) (b : Int) = wrap64 (256 * x + (b : Int)) := by
  show IntKind.i64.wrap ((BitVec.ofInt 64 (wrap64 (wrap64 x * 256)) ||| BitVec.ofInt 64 (b : Int)).toNat : Int) = _
  obtain ⟨y, hy⟩ : ∃ y : Nat, (y : Int) = (256 * x) % 18446744073709551616 := ⟨((256 * x) % 18446744073709551616).toNat, by omega⟩
  have e1 : BitVec.ofInt 64 (wrap64 (wrap64 x * 256)) = BitVec.ofInt 64 (y : Int) := by
    apply BitVec.eq_of_toInt_eq
    simp only [BitVec.toInt_ofInt, Int.bmod_def]
    unfold wrap64
    omega
  rw [e1, BitVec.toNat_or, ofInt_u64 y (by omega), ofInt_u64 b (by omega), nat_join8 y b (by omega) hb, IntKind.wrap_i64]
  unfold wrap64
  omega

set_option maxRecDepth 100000 in
set_option maxHeartbeats 1000000 in
theorem take_own (A : Option Addr) (c n : Nat) (E : Nat → BitVec 8) (w : World) (hn : n ≤ 1000000) (h : SliceOf w w.heap.size n E (.slice A n c)) :
    Calls Tryd.prog 34 #[.slice A n c] w fun x w' => x = .returned (.tuple #[.int .i64 (takeV E n), .int .i64 (takeC n)]) ∧ Below w.heap.size w w' := by
  by_cases h8 : n = 8
  · subst h8
    obtain ⟨A', c', he, hc, hr⟩ := h
    simp only [Value.slice.injEq, true_and] at he
    obtain ⟨rfl, rfl⟩ := he
    obtain ⟨sb, so, rfl, _, hcell⟩ := hr (by omega)
    have HC := Lib.hid hcell
    clear hcell hr
    have e1 : takeV E 8 = wrap64 (tU E 8 : Int) := by unfold takeV; rw [if_pos rfl]
    have e2 : takeC 8 = 0 := by unfold takeC; rw [if_pos rfl]
    rw [e1, e2]
    go_enter Tryd.func34, Tryd.ntmps34
    go_wp2
    go_loopw [4, 12] (fun u i wr => ∃ k : Nat, k ≤ 8 ∧ i = .int .i64 (k : Int) ∧ u = .int .i64 (wrap64 (tU E k : Int)) ∧ wr = w) (fun _ i _ => 8 - (intOf i).toNat)
    case atStart => exact ⟨0, by omega, rfl, by rw [show (tU E 0 : Int) = 0 from rfl, show wrap64 0 = 0 from by unfold wrap64; omega], rfl⟩
    case round =>
      obtain ⟨k, hk, rfl, rfl, rfl⟩ := hrel
      by_cases hlt : k < 8
      · have c0 := HC.out k hlt
        have q0 : (0 : Int) ≤ (k : Int) := by omega
        have q1 : (k : Int) < 8 := by omega
        have e3 : bits .or .i64 (wrap64 (wrap64 (tU E k : Int) * 256)) ((E k).toNat : Int) = wrap64 (tU E (k + 1) : Int) := by
          rw [or_byte64 _ _ (E k).isLt]
          show wrap64 _ = wrap64 ((256 * tU E k + (E k).toNat : Nat) : Int)
          congr 1
        clear HC
        go_wp2
        exact ⟨⟨k + 1, by omega, congrArg (Value.int .i64) (by omega), rfl, trivial⟩, by simp [intOf]; omega⟩
      · obtain rfl : k = 8 := by omega
        clear HC
        go_wp2
        go_ret2
        exact ⟨rfl, Below.refl _ _⟩
  · have h8' : ((n : Int) == 8) = false := by simp; omega
    have e1 : takeV E n = 0 := by unfold takeV; rw [if_neg h8]
    have e2 : takeC n = 3 := by unfold takeC; rw [if_neg h8]
    rw [e1, e2]
    clear h e1 e2
    go_enter Tryd.func34, Tryd.ntmps34
    go_wp2
    go_ret2
    exact ⟨rfl, Below.refl _ _⟩

theorem num_shr (n : Int) (i : Nat) (hi : i < 8) : IntKind.u8.wrap (n / 2 ^ (8 * i)) = ((numB n (7 - i)).toNat : Int) := by
  unfold numB
  rw [bt_toNat (Nat.mod_lt _ (by omega)), IntKind.wrap_u8]
  unfold numU
  have : i = 0 ∨ i = 1 ∨ i = 2 ∨ i = 3 ∨ i = 4 ∨ i = 5 ∨ i = 6 ∨ i = 7 := by omega
  rcases this with rfl | rfl | rfl | rfl | rfl | rfl | rfl | rfl <;> simp <;> omega
set_option maxRecDepth 100000 in
set_option maxHeartbeats 1000000 in
theorem number_own (n : Int) (w : World) : Calls Tryd.prog 39 #[.int .i64 n] w fun x w' => ∃ v, x = .returned v ∧ Own w' w.heap.size 8 (numB n) v ∧ Below w.heap.size w w' := by
  go_enter Tryd.func39, Tryd.ntmps39
  go_wp2_with (at_make
               refine make_own (by rfl) (.const (.int .i64 8)) (.const (.int .i64 8)) (by rfl) .i64 .i64 8 (by rfl) (by rfl) (by omega) ?_
               intro w1 hown hb1)
  have hown : Own w1 w.heap.size 8 (numTo n 8) (.slice (some ⟨w.heap.size, 0, none⟩) 8 8) := Own.congr' hown (fun j hj => by unfold numTo; rw [if_neg (by omega)])
  go_loopw [8] (fun i wr => ∃ k : Nat, k ≤ 8 ∧ i = .int .i64 (k : Int) ∧ Hid (Own wr w.heap.size 8 (numTo n (8 - k)) (.slice (some ⟨w.heap.size, 0, none⟩) 8 8)) ∧ Hid (Below w.heap.size w wr)) (fun i _ => 8 - (intOf i).toNat)
  case atStart => exact ⟨0, by omega, rfl, hown, hb1⟩
  case round =>
    clear hown hb1
    obtain ⟨k, hk, rfl, ho, hb⟩ := hrel
    by_cases hlt : k < 8
    · have hx := own_at ho.out (7 - k) (by omega)
      obtain ⟨c0, f0⟩ := hx
      have q0 : (0 : Int) ≤ (k : Int) := by omega
      have q1 : (k : Int) < 8 := by omega
      have hz : (n / 2 ^ (8 * k) % 256 : Int) = ((numB n (7 - k)).toNat : Int) := by rw [← num_shr n k hlt, IntKind.wrap_u8]
      have hput := own_put ho.out (7 - k) (by omega) (numB n (7 - k)) (n / 2 ^ (8 * k) % 256) hz
      have hown' : Own (wr.setCell ⟨w.heap.size, 7 - k, none⟩ (.int .u8 (n / 2 ^ (8 * k) % 256))) w.heap.size 8 (numTo n (8 - (k + 1))) (.slice (some ⟨w.heap.size, 0, none⟩) 8 8) := Own.congr' hput (fun i _ => by
        rw [show 8 - k = (7 - k) + 1 by omega, show 8 - (k + 1) = 7 - k by omega]
        exact num_next n (7 - k) i (by omega))
      have hb' : Below w.heap.size w (wr.setCell ⟨w.heap.size, 7 - k, none⟩ (.int .u8 (n / 2 ^ (8 * k) % 256))) := hb.out.setCell (p := ⟨w.heap.size, 7 - k, none⟩) (Nat.le_refl _) _
      have HO := Lib.hid hown'
      have HB := Lib.hid hb'
      clear hz hput hown' hb' ho hb
      go_wp2
      exact ⟨⟨k + 1, by omega, congrArg (Value.int .i64) (by omega), HO, HB⟩, by simp [intOf]; omega⟩
    · obtain rfl : k = 8 := by omega
      have ho' := Lib.hid (Own.congr' ho.out (fun j hj => by unfold numTo; rw [if_pos (by omega)]) : Own wr w.heap.size 8 (numB n) _)
      clear ho
      go_wp2
      go_ret
      exact ⟨_, rfl, ho'.out, hb.out⟩
end Go.Proofs.YtebchoeeohmlaaaDoor.Field
namespace Go.Proofs.YtebchoeeohmlaaaDoor.Aid
open Go Go.RowKit

theorem row_of_own {w : World} {base n g : Nat} {f : Nat → BitVec 8} (h : Own w base n f (.slice (some ⟨g, 0, none⟩) n n)) : w.rowIs g 5 n (fun j => .int .u8 ((f j).toNat : Int)) ∧ base ≤ g := by
  rcases h.form with ⟨h0, _⟩ | ⟨g', cap, cur, h0, hb, _, _, hh, hs, hc⟩
  · cases h0
  · simp only [Value.slice.injEq, Option.some.injEq, Addr.mk.injEq, true_and, and_true] at h0
    obtain ⟨rfl, rfl⟩ := h0
    refine ⟨row_mk ?_, hb⟩
    rw [hh]
    congr 2
    exact eq_cellsOf hs (fun i hi => hc i hi)
section
variable {w : World} {ops : Array Oper} {rest : List Oper} {op : Oper} {a : Act} {Q : Exit → Act → World → Prop}
/-- 'copy(c, b)', c of the call's own and as long as b. -/
theorem copy_all (hgd : op.guard = none) (d s : Operand) (ho : op.op = .call { callee := .builtin .copy, args := #[d, s], argTypes := #[23, 23] })
    (base n g gs : Nat) (f e : Nat → BitVec 8) (h : Own w base n f (.slice (some ⟨g, 0, none⟩) n n)) (hd : a.eval d = .slice (some ⟨g, 0, none⟩) n n) (hn : n ≤ 1099511627776) (v : Value) (hs : a.eval s = v) (hv : SliceOf w gs n e v)
    (hK : ∀ w', Own w' base n e (.slice (some ⟨g, 0, none⟩) n n) → Only g w w' → wpList Tryd.prog ops Q rest (a.put op.dst (.int .i64 (n : Int))) w') : wpList Tryd.prog ops Q (op :: rest) a w := by
  obtain ⟨hr0, hb⟩ := row_of_own h
  obtain ⟨A, c, rfl, hc, hr⟩ := hv
  by_cases h0 : 0 < n
  · obtain ⟨sb, so, rfl, _, hcell⟩ := hr h0
    refine copy_row hgd d s _ _ ho 5 Tryd.underlying23 (by kernel_rfl) g 0 _ n _ hr0 n n hd (by omega) sb so n c hs (fun j => .int .u8 ((e j).toNat : Int)) hcell (fun _ _ => rfl) n (Nat.min_self n).symm ?_
    intro w' hr' ho'
    refine hK w' (own_of_row (hr'.congr (fun i hi => ?_)) hb hn) ho'
    rw [if_pos ⟨Nat.zero_le _, by omega⟩, Nat.sub_zero]
  · obtain rfl : n = 0 := by omega
    refine wpList_copy_nothing hgd d s _ _ ho 5 Tryd.underlying23 (by kernel_rfl) _ A 0 0 0 c hd hs (by rfl) ?_
    exact hK w (h.congr' (fun j hj => absurd hj (by omega))) ⟨rfl, rfl, rfl, rfl, fun _ _ => rfl⟩
end
end Go.Proofs.YtebchoeeohmlaaaDoor.Aid
namespace Go.Proofs.YtebchoeeohmlaaaDoor.Store
open Go Go.RowKit Go.Proofs.YtebchoeeohmlaaaDoor.Aid Go.Proofs.YtebchoeeohmlaaaDoor.Cache

def stP (Bv : Value) (z : Int) (m : Nat) (s : St) (j : Nat) : Value := if j = 0 then .int .i64 (m : Int) else if j = 1 then Bv else if j = 2 then .int .i64 (s.sure : Int) else if j = 3 then .bool s.down else .int .i64 z
theorem stP0 (Bv : Value) (z : Int) (m : Nat) (s : St) : stP Bv z m s 0 = .int .i64 (m : Int) := rfl
theorem stP1 (Bv : Value) (z : Int) (m : Nat) (s : St) : stP Bv z m s 1 = Bv := rfl
theorem stP2 (Bv : Value) (z : Int) (m : Nat) (s : St) : stP Bv z m s 2 = .int .i64 (s.sure : Int) := rfl
theorem stP3 (Bv : Value) (z : Int) (m : Nat) (s : St) : stP Bv z m s 3 = .bool s.down := rfl
theorem stP4 (Bv : Value) (z : Int) (m : Nat) (s : St) : stP Bv z m s 4 = .int .i64 z := rfl
structure OwnStIn (W : World) (F : Nat → Prop) (g : Nat) (Bv : Value) (z : Int) (m : Nat) (s : St) : Prop where
  row : W.rowIs g 101 5 (stP Bv z m s)
  fg : F g
  lt : ∀ b, F b → b < W.heap.size
  own : Own W 0 s.n s.e Bv
  inF : ∀ b, Bv.ownBlock = some b → F b ∧ b ≠ g
  ok : s.ok m
  burn : s.burn = max z (-1)
  lo : -9223372036854775808 ≤ z
def RepOwn (W : World) (F : Nat → Prop) (v : Value) (m : Nat) (s : St) : Prop := ∃ g Bv z, v = .pointer (some ⟨g, 0, none⟩) ∧ OwnStIn W F g Bv z m s
section
variable {W W' : World} {F : Nat → Prop} {g m : Nat} {Bv : Value} {z : Int} {s s' : St}
theorem OwnStIn.kept (h : OwnStIn W F g Bv z m s) (hk : ∀ b, F b → W'.heap[b]? = W.heap[b]?) : OwnStIn W' F g Bv z m s :=
  ⟨h.row.of_block (hk g h.fg), h.fg, fun b hb => by
    have h1 := hk b hb
    rw [Array.getElem?_eq_getElem (h.lt b hb)] at h1
    exact (Array.getElem?_eq_some_iff.1 h1).1, h.own.keep (fun b hb => hk b (h.inF b hb).1), h.inF, h.ok, h.burn, h.lo⟩
theorem OwnStIn.below (h : OwnStIn W F g Bv z m s) (hb : Below W.heap.size W W') : OwnStIn W' F g Bv z m s := h.kept (fun b hf => hb.block b (h.lt b hf))
/-- A cell of it set. -/
theorem OwnStIn.put (h : OwnStIn W F g Bv z m s) {z' : Int} (j : Nat) (u : Value) (hu : ∀ i, i < 5 → (if i = j then u else stP Bv z m s i) = stP Bv z' m s' i) (hn : s'.n = s.n) (he : s'.e = s.e) (hok : s'.ok m) (hz : s'.burn = max z' (-1)) (hlo : -9223372036854775808 ≤ z') :
    OwnStIn (W.setCell ⟨g, j, none⟩ u) F g Bv z' m s' ∧ Cache.Leaves F W (W.setCell ⟨g, j, none⟩ u) := by
  have oth : ∀ b, b ≠ g → (W.setCell ⟨g, j, none⟩ u).heap[b]? = W.heap[b]? := fun b hb => heap_setCell_other _ _ _ _ (by simpa using hb)
  have hsz : (W.setCell ⟨g, j, none⟩ u).heap.size = W.heap.size := by simp [World.setCell]
  refine ⟨⟨(h.row.set j u).congr (fun i hi => hu i hi), h.fg, fun b hb => by rw [hsz]; exact h.lt b hb, ?_, h.inF, hok, hz, hlo⟩, ⟨rfl, rfl, rfl, by rw [hsz]; exact Nat.le_refl _, fun b _ hn => oth b (fun e => hn (e ▸ h.fg))⟩⟩
  rw [hn, he]
  exact h.own.keep (fun b hb => oth b (h.inF b hb).2)
theorem moved_own {w : World} (h : OwnStIn W F g Bv z m s) (hl : Cache.Leaves F w W) : Moved RepOwn F w W (.pointer (some ⟨g, 0, none⟩)) m s := ⟨F, ⟨g, Bv, z, rfl, h⟩, hl, fun _ hb => .inl hb⟩
end
theorem Own.behind {F : Nat → Prop} {w w1 W : World} {v : Value} {m : Nat} {s : St} (h : Moved RepOwn F w1 W v m s) (hl : Cache.Leaves F w w1) : Moved RepOwn F w W v m s := by
  obtain ⟨F', h1, h2, h3⟩ := h
  exact ⟨F', h1, hl.trans h2 (fun x hx _ => hx), fun b hb => (h3 b hb).imp_right (fun h => Nat.le_trans hl.size h)⟩
/-- What burning leaves, and what it answers. -/
theorem burn_any {w : World} {F : Nat → Prop} {g : Nat} {Bv : Value} {z : Int} {m : Nat} {s : St} (h : OwnStIn w F g Bv z m s) :
    Calls Tryd.prog 85 #[.pointer (some ⟨g, 0, none⟩)] w fun e w' => e = .returned (.int .i64 (if power s = true then 0 else 8)) ∧ (∃ z', OwnStIn w' F g Bv z' m (burnS s)) ∧ Cache.Leaves F w w' := by
  have c3 := h.row.cell (i := 3) (by omega)
  have c4 := h.row.cell (i := 4) (by omega)
  have f3 := h.row.frozen 3
  have f4 := h.row.frozen 4
  rw [stP3] at c3
  rw [stP4] at c4
  have hok := h.ok
  have hbu := h.burn
  have hlo := h.lo
  have H0 := Lib.hid h
  cases hd : s.down with
  | true =>
    rw [hd] at c3
    have hs : burnS s = { s with down := true } := by unfold burnS; rw [if_pos (.inl hd)]
    have hp : power s = false := by unfold power; rw [hd]; rfl
    have HP := Lib.hid (h.put 3 (.bool true) (s' := burnS s) (fun i hi => by rw [hs]; match i, hi with | 0, _ => rfl | 1, _ => rfl | 2, _ => rfl | 3, _ => rfl | 4, _ => rfl) (burn_n s).1 (burn_n s).2.1 (burn_ok h.ok) (by rw [hs]; exact hbu) hlo)
    rw [hp]
    clear h hok hs hp hbu hlo
    go_enter Tryd.func85, Tryd.ntmps85
    go_wp2
    go_ret
    exact ⟨rfl, ⟨_, HP.out.1⟩, HP.out.2⟩
  | false =>
    rw [hd] at c3
    by_cases hz0 : z = 0
    · have hb0 : s.burn = 0 := by rw [hbu, hz0]; rfl
      have hs : burnS s = { s with down := true } := by unfold burnS; rw [if_pos (.inr hb0)]
      have hp : power s = false := by unfold power; rw [hd, hb0]; rfl
      have HP := Lib.hid (h.put 3 (.bool true) (s' := burnS s) (fun i hi => by rw [hs]; match i, hi with | 0, _ => rfl | 1, _ => rfl | 2, _ => rfl | 3, _ => rfl | 4, _ => rfl) (burn_n s).1 (burn_n s).2.1 (burn_ok h.ok) (by rw [hs]; exact hbu) hlo)
      rw [hp]
      rw [hz0] at c4
      clear h hok hs hp hb0 hbu hlo
      go_enter Tryd.func85, Tryd.ntmps85
      go_wp2
      go_ret
      exact ⟨rfl, ⟨_, HP.out.1⟩, HP.out.2⟩
    · have hb0 : ¬ s.burn = 0 := by rw [hbu]; omega
      have hp : power s = true := by unfold power; rw [hd, decide_eq_false hb0]; rfl
      rw [hp]
      have q0 : (z == 0) = false := by simp [hz0]
      by_cases hz1 : 0 < z
      · have hs : burnS s = { s with burn := s.burn - 1 } := by unfold burnS; rw [if_neg (by rw [hd]; simp [hb0]), if_pos (by rw [hbu]; omega)]
        have HP := Lib.hid (h.put 4 (.int .i64 (z - 1)) (s' := burnS s) (z' := z - 1) (fun i hi => by rw [hs]; match i, hi with | 0, _ => rfl | 1, _ => rfl | 2, _ => rfl | 3, _ => rfl | 4, _ => rfl) (burn_n s).1 (burn_n s).2.1 (burn_ok h.ok) (by rw [hs]; show s.burn - 1 = _; omega) (by omega))
        have hw : wrap64 (z - 1) = z - 1 := by unfold wrap64; have := hok.hi; omega
        clear h hok hs hp hbu hlo hb0
        go_enter Tryd.func85, Tryd.ntmps85
        go_wp2
        try rw [hw]
        go_ret
        exact ⟨rfl, ⟨_, HP.out.1⟩, HP.out.2⟩
      · have hs : burnS s = s := by unfold burnS; rw [if_neg (by rw [hd]; simp [hb0]), if_neg (by rw [hbu]; omega)]
        rw [hs]
        clear h hok hs hp hbu hlo hb0
        go_enter Tryd.func85, Tryd.ntmps85
        go_wp2
        go_ret
        exact ⟨rfl, ⟨_, H0.out⟩, Cache.Leaves.refl _ _⟩
end Go.Proofs.YtebchoeeohmlaaaDoor.Store
namespace Go.Proofs.YtebchoeeohmlaaaDoor.Store
open Go Go.RowKit Go.Proofs.YtebchoeeohmlaaaDoor.Aid Go.Proofs.YtebchoeeohmlaaaDoor.Cache

theorem newP_at (m : Nat) (i : Nat) (hi : i < 5) : (#[Value.int .i64 (m : Int), .slice none 0 0, .int .i64 0, .bool false, .int .i64 (-1)] : Array Value)[i]? = some (stP (.slice none 0 0) (-1) m st0 i) := by
  match i, hi with
  | 0, _ => rfl
  | 1, _ => rfl
  | 2, _ => rfl
  | 3, _ => rfl
  | 4, _ => rfl
theorem new_no (room : Int) (w : World) (h : ¬ (0 ≤ room ∧ room ≤ 1048576)) : Calls Tryd.prog 25 #[.int .i64 room] w fun x w' => x = .returned (.tuple #[.pointer none, .int .i64 1]) ∧ Below w.heap.size w w' := by
  by_cases h1 : room < 0
  · clear h
    go_enter Tryd.func25, Tryd.ntmps25
    go_wp2
    go_ret2
    exact ⟨rfl, Below.refl _ _⟩
  · have h2 : (1048576 : Int) < room := by omega
    clear h
    go_enter Tryd.func25, Tryd.ntmps25
    go_wp2
    go_ret2
    exact ⟨rfl, Below.refl _ _⟩
theorem new_ok (room : Nat) (w : World) (h : room ≤ 1048576) : Calls Tryd.prog 25 #[.int .i64 (room : Int)] w fun x w' =>
    ∃ v F, x = .returned (.tuple #[v, .int .i64 0]) ∧ RepOwn w' F v room st0 ∧ (∀ b, F b → w.heap.size ≤ b) ∧ Below w.heap.size w w' := by
  have h1 : ¬ (room : Int) < 0 := by omega
  have h2 : ¬ (1048576 : Int) < (room : Int) := by omega
  have hr : RepOwn (w.alloc (.cells #[.int .i64 (room : Int), .slice none 0 0, .int .i64 0, .bool false, .int .i64 (-1)] 101)) (fun b => b = w.heap.size) (.pointer (some ⟨w.heap.size, 0, none⟩)) room st0 :=
    ⟨w.heap.size, .slice none 0 0, -1, rfl, row_new w _ _ 5 _ rfl (fun i hi => newP_at room i hi), rfl, fun b hb => by rw [hb]; simp, ⟨by simp [st0], .inl ⟨rfl, rfl⟩⟩, (fun b hb => by cases hb), ⟨Nat.le_refl _, Nat.zero_le _, h, by show (-1 : Int) ≤ -1; omega, by show (-1 : Int) ≤ _; omega⟩, rfl, by omega⟩
  have HR := Lib.hid hr
  have HB := Lib.hid ((Below.refl w.heap.size w).alloc (Nat.le_refl _) (.cells #[.int .i64 (room : Int), .slice none 0 0, .int .i64 0, .bool false, .int .i64 (-1)] 101))
  clear h hr
  go_enter Tryd.func25, Tryd.ntmps25
  go_wp2
  go_ret2
  first
    | exact ⟨_, rfl, _, HR.out, fun b hb => Nat.le_of_eq hb.symm, HB.out⟩
    | exact ⟨_, _, rfl, HR.out, fun b hb => Nat.le_of_eq hb.symm, HB.out⟩
theorem sync_any {w : World} {F : Nat → Prop} {v : Value} {m : Nat} {s : St} (h : RepOwn w F v m s) :
    Calls Tryd.prog 78 #[v] w fun e w' => e = .returned (.int .i64 (syncC s)) ∧ Moved RepOwn F w w' v m (syncS s) := by
  obtain ⟨g, Bv, z, rfl, h⟩ := h
  have HP := Lib.hid (burn_any h)
  have hok := Lib.hid h.ok
  clear h
  cases hp : power s with
  | false =>
    have hs : syncS s = burnS s := by unfold syncS; rw [if_neg (by rw [hp]; decide)]
    have hc : syncC s = 8 := by unfold syncC; rw [if_neg (by rw [hp]; decide)]
    have HS := Lib.hid hs
    have HC := Lib.hid hc
    rw [hp, if_neg (by decide)] at HP
    clear hs hc
    go_enter Tryd.func78, Tryd.ntmps78
    go_wp2_with fail
    refine HP.out.mono ?_
    rintro _ w1 ⟨rfl, ⟨z1, h1⟩, hl1⟩
    have HM := Lib.hid (moved_own h1 hl1)
    clear h1 hl1
    go_wp2
    go_ret
    exact ⟨by rw [HC.out]; rfl, by rw [HS.out]; exact HM.out⟩
  | true =>
    have hs : syncS s = { burnS s with sure := s.n } := by unfold syncS; rw [if_pos hp]
    have hc : syncC s = 0 := by unfold syncC; rw [if_pos hp]
    rw [hp, if_pos rfl] at HP
    go_enter Tryd.func78, Tryd.ntmps78
    go_wp2_with fail
    refine HP.out.mono ?_
    rintro _ w1 ⟨rfl, ⟨z1, h1⟩, hl1⟩
    have c1 := h1.row.cell (i := 1) (by omega)
    have c2 := h1.row.cell (i := 2) (by omega)
    have f2 := h1.row.frozen 2
    obtain ⟨A, c, hB, _, _⟩ := own_shape h1.own
    rw [stP1, hB, (burn_n s).1] at c1
    rw [stP2] at c2
    have HM := Lib.hid (h1.put 2 (.int .i64 (s.n : Int)) (s' := syncS s) (fun i hi => by rw [hs]; match i, hi with | 0, _ => rfl | 1, _ => rfl | 2, _ => rfl | 3, _ => rfl | 4, _ => rfl) (by rw [hs]) (by rw [hs]) (sync_ok hok.out) (by rw [hs]; exact h1.burn) h1.lo)
    have HL := Lib.hid hl1
    have HC := Lib.hid hc
    clear h1 hl1 hs hc
    go_wp2
    go_ret
    exact ⟨by rw [HC.out]; rfl, moved_own HM.out.1 (HL.out.trans HM.out.2 (fun x hx _ => hx))⟩
theorem fuse_any {w : World} {F : Nat → Prop} {v : Value} {m : Nat} {s : St} (h : RepOwn w F v m s) (k : Int) (hk0 : -9223372036854775808 ≤ k) (hk : k ≤ 9223372036854775807) :
    Calls Tryd.prog 27 #[v, .int .i64 k] w fun e w' => e = .returned (.tuple #[]) ∧ Moved RepOwn F w w' v m (fuseS s k) := by
  obtain ⟨g, Bv, z, rfl, h⟩ := h
  have c4 := h.row.cell (i := 4) (by omega)
  have f4 := h.row.frozen 4
  rw [stP4] at c4
  have HM := Lib.hid (h.put 4 (.int .i64 k) (s' := fuseS s k) (fun i hi => by match i, hi with | 0, _ => rfl | 1, _ => rfl | 2, _ => rfl | 3, _ => rfl | 4, _ => rfl) rfl rfl (fuse_ok h.ok k hk) rfl hk0)
  clear h hk0 hk
  go_enter Tryd.func27, Tryd.ntmps27
  go_wp2
  exact bodyPost_end (results_none rfl _ _ _) rfl ⟨rfl, moved_own HM.out.1 HM.out.2⟩
/-- copyOf: as many bytes of the call's own. -/
theorem copy_of {w : World} {gs n : Nat} {e : Nat → BitVec 8} {bv : Value} (hb : SliceOf w gs n e bv) (hn : n ≤ 1099511627776) :
    Calls Tryd.prog 80 #[bv] w fun x w' => ∃ g, x = .returned (.slice (some ⟨g, 0, none⟩) n n) ∧ Own w' w.heap.size n e (.slice (some ⟨g, 0, none⟩) n n) ∧ Below w.heap.size w w' := by
  have HB := Lib.hid hb
  have HN := Lib.hid hn
  obtain ⟨A, c, rfl, -, -⟩ := hb
  clear hn
  go_enter Tryd.func80, Tryd.ntmps80
  go_wp2_with (first
    | (refine make_own (by rfl) (.tmp 5) (.tmp 5) (by rfl) .i64 .i64 n (by rfl) (by rfl) HN.out ?_
       intro w1 ho1 hb1
       have HO1 := Lib.hid ho1
       have HB1 := Lib.hid hb1
       have HS1 := Lib.hid (slice_below HB.out hb1)
       clear ho1 hb1)
    | (refine copy_all (by rfl) (.tmp 7) (.tmp 8) (by rfl) w.heap.size n w.heap.size gs _ e HO1.out (by rfl) HN.out _ (by rfl) HS1.out ?_
       intro w2 ho2 hon
       have HO2 := Lib.hid ho2
       have HB2 : Hid (Below w.heap.size w w2) := Lib.hid ⟨hon.os.trans HB1.out.os, hon.tape.trans HB1.out.tape, hon.output.trans HB1.out.output, by rw [hon.size]; exact HB1.out.size, fun b hlt => (hon.block b (Nat.ne_of_lt hlt)).trans (HB1.out.block b hlt)⟩
       clear ho2 hon))
  go_ret
  exact ⟨_, rfl, HO2.out, HB2.out⟩
end Go.Proofs.YtebchoeeohmlaaaDoor.Store
