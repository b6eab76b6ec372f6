/-
  The document's table: where it lies; what its New and At do.
-/
import Derived.Test.YtmoepcobhapghaaCachePlain
import Derived.Test.YtmoepcobhapghaaLeaves
import Derived.Test.YtmoepcobhapghaaProg
import Derived.WalkSmall
import Derived.WalkMore
namespace Go.Proofs.Ytmoepcobhapghaa.Cache
open Go Go.RowKit Go.Proofs.Ytmoepcobhapghaa.Aid

def tabF (m : Nat) (Kv Vv : Value) (j : Nat) : Value := if j = 0 then .int .i64 (m : Int) else if j = 1 then Kv else Vv
def ints (l : List (Int × ByteArray)) : List Value := l.map fun p => .int .i64 p.1
def strs (l : List (Int × ByteArray)) : List Value := l.map fun p => .string p.2
structure RefTab (W : World) (B g : Nat) (Kv Vv : Value) (m : Nat) (l : List (Int × ByteArray)) : Prop where
  row : W.rowIs g 44 3 (tabF m Kv Vv)
  keys : OwnV W B 3 Kv (ints l)
  vals : OwnV W B 9 Vv (strs l)
  gB : B ≤ g
  kg : Kv.ownBlock ≠ some g
  vg : Vv.ownBlock ≠ some g
  kv : ∀ b, Kv.ownBlock = some b → Vv.ownBlock ≠ some b
  nodup : (keysL l).Nodup
  len : l.length ≤ m
  most : 1 ≤ m ∧ m ≤ 1000
/-- Its blocks. -/
def refF (g : Nat) (Kv Vv : Value) (b : Nat) : Prop := b = g ∨ Kv.ownBlock = some b ∨ Vv.ownBlock = some b
theorem RefTab.leaves {W W' : World} {B g : Nat} {Kv Vv : Value} {m : Nat} {l : List (Int × ByteArray)} {F : Nat → Prop} (h : RefTab W B g Kv Vv m l) (hl : Leaves F W W') (hF : ∀ b, refF g Kv Vv b → ¬ F b) : RefTab W' B g Kv Vv m l :=
  ⟨h.row.of_block (hl.block g (World.rowIs.lt h.row) (hF g (.inl rfl))), h.keys.leaves hl (fun b hb => hF b (.inr (.inl hb))), h.vals.leaves hl (fun b hb => hF b (.inr (.inr hb))), h.gB, h.kg, h.vg, h.kv, h.nodup, h.len, h.most⟩
theorem RefTab.lt {W : World} {B g : Nat} {Kv Vv : Value} {m : Nat} {l : List (Int × ByteArray)} (h : RefTab W B g Kv Vv m l) : ∀ b, refF g Kv Vv b → B ≤ b ∧ b < W.heap.size := fun b hb => by
  rcases hb with rfl | hb | hb
  · exact ⟨h.gB, World.rowIs.lt h.row⟩
  · exact h.keys.lt b hb
  · exact h.vals.lt b hb
theorem RefTab.below {W W' : World} {B g : Nat} {Kv Vv : Value} {m : Nat} {l : List (Int × ByteArray)} (h : RefTab W B g Kv Vv m l) (hb : Below W.heap.size W W') : RefTab W' B g Kv Vv m l :=
  h.leaves (F := fun _ => False) (Leaves.of_below hb) (fun _ _ h => h)
theorem ints_len (l : List (Int × ByteArray)) : (ints l).length = l.length := List.length_map _
theorem strs_len (l : List (Int × ByteArray)) : (strs l).length = l.length := List.length_map _
theorem ints_at {l : List (Int × ByteArray)} {i : Nat} (h : i < l.length) : (ints l)[i]? = some (.int .i64 l[i].1) := by unfold ints; simp [h]
theorem strs_at {l : List (Int × ByteArray)} {i : Nat} (h : i < l.length) : (strs l)[i]? = some (.string l[i].2) := by unfold strs; simp [h]
/-- Where a key stands, as the document's At tells it. -/
def atI (l : List (Int × ByteArray)) (k : Int) : Int := if hasK (keysL l) k then (atN (keysL l) k : Int) else -1

theorem refNew_no (most : Int) (h : ¬ (1 ≤ most ∧ most ≤ 1000)) (w : World) : Calls Try.prog 8 #[.int .i64 most] w fun x w' => x = .returned (.tuple #[.pointer none, .int .i64 1]) ∧ w = w' := by
  by_cases h1 : most < 1
  · clear h
    go_enter Try.func8, Try.ntmps8
    go_wp2
    go_ret2
    exact ⟨rfl, rfl⟩
  · have h2 : (1000 : Int) < most := by omega
    clear h
    go_enter Try.func8, Try.ntmps8
    go_wp2
    go_ret2
    exact ⟨rfl, rfl⟩
theorem tab_at (m : Nat) (Kv Vv : Value) (i : Nat) (hi : i < 3) : (#[Value.int .i64 (m : Int), Kv, Vv] : Array Value)[i]? = some (tabF m Kv Vv i) := by
  match i, hi with
  | 0, _ => rfl
  | 1, _ => rfl
  | 2, _ => rfl
theorem refNew_ok (B m : Nat) (h : 1 ≤ m ∧ m ≤ 1000) (w : World) (hB : B ≤ w.heap.size) : Calls Try.prog 8 #[.int .i64 (m : Int)] w fun x w' =>
    x = .returned (.tuple #[.pointer (some ⟨w.heap.size, 0, none⟩), .int .i64 0]) ∧ RefTab w' B w.heap.size (.slice none 0 0) (.slice none 0 0) m [] ∧ Below w.heap.size w w' := by
  have h1 : ¬ (m : Int) < 1 := by omega
  have h2 : ¬ (1000 : Int) < (m : Int) := by omega
  have hr : RefTab (w.alloc (.cells #[.int .i64 (m : Int), .slice none 0 0, .slice none 0 0] 44)) B w.heap.size (.slice none 0 0) (.slice none 0 0) m [] :=
    ⟨row_new w _ _ 3 _ rfl (fun i hi => tab_at (m : Nat) _ _ i hi), OwnV.nil _ _ _, OwnV.nil _ _ _, hB, by simp [Value.ownBlock], by simp [Value.ownBlock], (fun b hb => by cases hb), List.nodup_nil, Nat.zero_le _, h⟩
  have HR := Lib.hid hr
  have HB := Lib.hid ((Below.refl w.heap.size w).alloc (Nat.le_refl _) (.cells #[.int .i64 (m : Int), .slice none 0 0, .slice none 0 0] 44))
  clear h hr hB
  go_enter Try.func8, Try.ntmps8
  go_wp2
  go_ret2
  exact ⟨rfl, HR.out, HB.out⟩

theorem at_not {l : List (Int × ByteArray)} {k : Int} (h : ∀ j, (hj : j < l.length) → l[j].1 ≠ k) : atI l k = -1 := by
  unfold atI
  have : hasK (keysL l) k = false := by
    unfold hasK keysL
    refine decide_eq_false fun hm => ?_
    obtain ⟨p, hp, e⟩ := List.mem_map.1 hm
    obtain ⟨j, hj, e2⟩ := List.getElem_of_mem hp
    exact h j hj (by rw [e2]; exact e)
  rw [this]
  rfl
theorem at_found {l : List (Int × ByteArray)} {k : Int} {i : Nat} (hi : i < l.length) (he : l[i].1 = k) (h : ∀ j, j < i → (hj : j < l.length) → l[j].1 ≠ k) : atI l k = (i : Int) := by
  have hl : (keysL l).length = l.length := keys_len l
  have hat : atN (keysL l) k = i := by
    have h1 : ¬ atN (keysL l) k < i := fun hlt => by
      have := at_key (c := keysL l) (k := k) (by omega)
      rw [show (keysL l)[atN (keysL l) k]? = (l[atN (keysL l) k]?).map Prod.fst from List.getElem?_map .., List.getElem?_eq_getElem (by omega : atN (keysL l) k < l.length)] at this
      simp only [Option.map_some, Option.some.injEq] at this
      exact h _ hlt (by omega) this
    have h2 : ¬ i < atN (keysL l) k := fun hlt => at_before hlt (by unfold keysL; rw [List.getElem?_map, List.getElem?_eq_getElem hi, Option.map_some, he])
    omega
  unfold atI
  rw [at_has, hat, decide_eq_true (by omega)]
  rfl
set_option maxHeartbeats 1000000 in
theorem refAt_any {B g : Nat} {Kv Vv : Value} {m : Nat} {l : List (Int × ByteArray)} (k : Int) (w : World) (h : RefTab w B g Kv Vv m l) :
    Calls Try.prog 14 #[.pointer (some ⟨g, 0, none⟩), .int .i64 k] w fun x w' => x = .returned (.int .i64 (atI l k)) ∧ w = w' := by
  obtain ⟨A, c, hv, hcap, hc⟩ := h.keys.shape
  rw [ints_len] at hv hcap hc
  have c1 := h.row.cell (i := 1) (by omega)
  rw [show tabF m Kv Vv 1 = Kv from rfl, hv] at c1
  have HC := Lib.hid hc
  have hl1 := h.len
  have hl2 := h.most.2
  generalize hN : l.length = N at *
  have HN := Lib.hid hN
  clear hc h hv hN
  go_enter Try.func14, Try.ntmps14
  go_wp2
  go_loopw [5] (fun i wr => ∃ j : Nat, j ≤ N ∧ i = .int .i64 (j : Int) ∧ wr = w ∧ Hid (∀ t, t < j → (ht : t < l.length) → l[t].1 ≠ k)) (fun i _ => N - (intOf i).toNat)
  case atStart => exact ⟨0, by omega, rfl, rfl, fun t ht => by omega⟩
  case round =>
    obtain ⟨j, hj, rfl, rfl, hh⟩ := hrel
    by_cases hlt : j < N
    · obtain ⟨gk, rfl, _, _, _, hcell⟩ := HC.out (by omega)
      have hjl : j < l.length := by have := HN.out; omega
      have d0 := hcell j _ (ints_at hjl)
      obtain ⟨x, hx⟩ : ∃ x, x = l[j].1 := ⟨_, rfl⟩
      rw [← hx] at d0
      have HX := Lib.hid hx
      have q0 : (0 : Int) ≤ (j : Int) := by omega
      have q1 : (j : Int) < (N : Int) := by omega
      clear hcell HC hx
      by_cases he : x = k
      · have hr := Lib.hid (at_found hjl (by rw [← HX.out]; exact he) hh.out)
        have he' : (x == k) = true := by simp [he]
        clear hh he
        go_wp2
        go_ret
        exact ⟨by rw [hr.out] <;> rfl, rfl⟩
      · have hr : Hid (∀ t, t < j + 1 → (ht : t < l.length) → l[t].1 ≠ k) := Lib.hid (fun t ht htl => by
          by_cases e : t = j
          · subst e; rw [← HX.out]; exact he
          · exact hh.out t (by omega) htl)
        have he' : (x == k) = false := by simp [he]
        clear hh he
        go_wp2
        exact ⟨⟨j + 1, by omega, congrArg (Value.int .i64) (by omega), trivial, hr⟩, by simp [intOf]; omega⟩
    · obtain rfl : j = N := by omega
      have hr := Lib.hid (at_not (l := l) (k := k) (fun t ht => hh.out t (by have := HN.out; omega) ht))
      clear hh HC
      go_wp2
      go_ret
      exact ⟨by rw [hr.out] <;> rfl, rfl⟩
end Go.Proofs.Ytmoepcobhapghaa.Cache
