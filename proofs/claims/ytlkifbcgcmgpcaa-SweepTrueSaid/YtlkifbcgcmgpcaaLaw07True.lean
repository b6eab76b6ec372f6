/-
  The walk of bartizanlaw07.SweepTrue: for any spans, liars and time it returns true, and writes nothing that was there.
-/
import Derived.Test.YtlkifbcgcmgpcaaLaw07Awake
import Derived.Test.YtlkifbcgcmgpcaaSpanHas
import Derived.Test.YtlkifbcgcmgpcaaSpanHull
import Derived.Test.YtlkifbcgcmgpcaaSpanWidth
import Derived.Test.YtlkifbcgcmgpcaaSpanRefRight
import Derived.Test.YtlkifbcgcmgpcaaMix
import Derived.Test.YtlkifbcgcmgpcaaRefMay
import Derived.Deep.DeepCutAuto
namespace Go.Proofs.Ytlkifbcgcmgpcaa.Sweep
open Go Go.RowKit Go.Proofs.Ytlkifbcgcmgpcaa.Aid Go.Proofs.Ytlkifbcgcmgpcaa.Span

/-- What the loop knows behind k spans, all of them such that may be: their hull with t, and the two widest, of those that have t. -/
structure Wide (e : Nat → Int × Int) (n : Nat) (t : Int) (k : Nat) (h0 h1 w0 w1 : Int) : Prop where
  len : 1 ≤ k → n ≤ 64
  right : ∀ j, j < k → rightB (e j).1 (e j).2 = true
  lo : h0 ≤ t
  hi : t ≤ h1
  pos : 0 ≤ w1
  le : w1 ≤ w0
  most : w0 ≤ 2305843009213693952
  each : ∀ j, j < k → hasE e t j = true → h0 ≤ (e j).1 ∧ (e j).2 ≤ h1 ∧ (e j).2 - (e j).1 ≤ w0
  two : ∀ i j, i < k → j < k → i ≠ j → hasE e t i = true → hasE e t j = true → (e i).2 - (e i).1 + ((e j).2 - (e j).1) ≤ w0 + w1
theorem Wide.skip {e : Nat → Int × Int} {n : Nat} {t : Int} {k : Nat} {h0 h1 w0 w1 : Int} (h : Wide e n t k h0 h1 w0 w1) (hn : n ≤ 64) (hr : rightB (e k).1 (e k).2 = true) (hh : hasE e t k = false) : Wide e n t (k + 1) h0 h1 w0 w1 where
  len := fun _ => hn
  right := fun j hj => by
    by_cases e1 : j = k
    · subst e1; exact hr
    · exact h.right j (by omega)
  lo := h.lo
  hi := h.hi
  pos := h.pos
  le := h.le
  most := h.most
  each := fun j hj hx => by
    by_cases e1 : j = k
    · subst e1; rw [hh] at hx; cases hx
    · exact h.each j (by omega) hx
  two := fun i j hi hj hne hx hy => by
    by_cases e1 : i = k
    · subst e1; rw [hh] at hx; cases hx
    · by_cases e2 : j = k
      · subst e2; rw [hh] at hy; cases hy
      · exact h.two i j (by omega) (by omega) hne hx hy
theorem Wide.take {e : Nat → Int × Int} {n : Nat} {t : Int} {k : Nat} {h0 h1 w0 w1 : Int} (h : Wide e n t k h0 h1 w0 w1) (hn : n ≤ 64) (hr : rightB (e k).1 (e k).2 = true) (hh : hasE e t k = true) (w0' w1' : Int)
    (hp : (w0 < (e k).2 - (e k).1 ∧ w0' = (e k).2 - (e k).1 ∧ w1' = w0) ∨ (¬ w0 < (e k).2 - (e k).1 ∧ w1 < (e k).2 - (e k).1 ∧ w0' = w0 ∧ w1' = (e k).2 - (e k).1) ∨ (¬ w0 < (e k).2 - (e k).1 ∧ ¬ w1 < (e k).2 - (e k).1 ∧ w0' = w0 ∧ w1' = w1)) :
    Wide e n t (k + 1) (min h0 (e k).1) (max h1 (e k).2) w0' w1' := by
  have q := right_range _ _ hr
  have q1 := h.lo
  have q2 := h.hi
  have q3 := h.pos
  have q4 := h.le
  have q5 := h.most
  refine ⟨fun _ => hn, fun j hj => ?_, by omega, by omega, by omega, by omega, by omega, fun j hj hx => ?_, fun i j hi hj hne hx hy => ?_⟩
  · by_cases e1 : j = k
    · subst e1; exact hr
    · exact h.right j (by omega)
  · by_cases e1 : j = k
    · subst e1; omega
    · have := h.each j (by omega) hx; omega
  · by_cases e1 : i = k
    · subst e1
      have := h.each j (by omega) hy
      omega
    · by_cases e2 : j = k
      · subst e2
        have := h.each i (by omega) hx
        omega
      · have := h.two i j (by omega) (by omega) hne hx hy
        omega
/-- What the law asks at its end. -/
theorem wide_end {e : Nat → Int × Int} {n : Nat} {t L lo hi c h0 h1 w0 w1 : Int} (h : Wide e n t n h0 h1 w0 w1) (hf : FuseSpec e n L lo hi c) (hL0 : 0 ≤ L) (hL1 : L < n) (ht : enough e n L t) :
    c = 0 ∧ lo ≤ t ∧ t ≤ hi ∧ (2 * L < n → hi - lo ≤ w0 + w1 ∧ h0 ≤ lo ∧ hi ≤ h1) := by
  have hm : may e n L := ⟨valid_yes e n (by omega) (h.len (by omega)) h.right, hL0, hL1⟩
  obtain ⟨a, b, d⟩ := true_in hf hm ht
  refine ⟨a, b, d, fun h2 => ?_⟩
  obtain ⟨i, j, ki, kj, x1, x2, y1, y2⟩ := true_ends hf hm ht h2
  have u1 := h.each i ki x1
  have u2 := h.each j kj x2
  have v1 := hasE_iff.1 x1
  have v2 := hasE_iff.1 x2
  have q3 := h.pos
  by_cases hij : i = j
  · subst hij; omega
  · have := h.two i j ki kj hij x1 x2
    omega

def sp2 (a b : Int) (i : Nat) : Value := .int .i64 (if i = 0 then a else b)
/-- What the walk holds of memory: the hull's row, the widths' row, and one span of the list. -/
def TM (w : World) (gH gW : Nat) (h0 h1 w0 w1 : Int) (W : World) : Prop :=
  Below w.heap.size w W ∧ W.rowIs gH 25 2 (sp2 h0 h1) ∧ W.rowIs gW 33 2 (sp2 w0 w1)
theorem TM.step {w W W' : World} {gH gW : Nat} {h0 h1 w0 w1 : Int} (h : TM w gH gW h0 h1 w0 w1 W) (hb : Below W.heap.size W W') : TM w gH gW h0 h1 w0 w1 W' :=
  ⟨h.1.trans (hb.mono h.1.size), h.2.1.of_block (hb.block _ h.2.1.lt), h.2.2.of_block (hb.block _ h.2.2.lt)⟩
theorem TM.setH {w W : World} {gH gW : Nat} {h0 h1 w0 w1 : Int} (h : TM w gH gW h0 h1 w0 w1 W) (hg : w.heap.size ≤ gH) (hne : gW ≠ gH) (a b : Int) :
    TM w gH gW a b w0 w1 ((W.setCell ⟨gH, 0, none⟩ (.int .i64 a)).setCell ⟨gH, 1, none⟩ (.int .i64 b)) :=
  ⟨(h.1.setCell (p := ⟨gH, 0, none⟩) hg _).setCell (p := ⟨gH, 1, none⟩) hg _,
   ((h.2.1.set 0 (.int .i64 a)).set 1 (.int .i64 b)).congr (fun i hi => by match i, hi with | 0, _ => rfl | 1, _ => rfl),
   (h.2.2.of_block (Below.heap_setCell W ⟨gH, 0, none⟩ _ _ hne)).of_block (Below.heap_setCell _ ⟨gH, 1, none⟩ _ _ hne)⟩
theorem TM.setW0 {w W : World} {gH gW : Nat} {h0 h1 w0 w1 : Int} (h : TM w gH gW h0 h1 w0 w1 W) (hg : w.heap.size ≤ gW) (hne : gH ≠ gW) (a : Int) : TM w gH gW h0 h1 a w1 (W.setCell ⟨gW, 0, none⟩ (.int .i64 a)) :=
  ⟨h.1.setCell (p := ⟨gW, 0, none⟩) hg _, h.2.1.of_block (Below.heap_setCell W ⟨gW, 0, none⟩ _ _ hne),
   (h.2.2.set 0 (.int .i64 a)).congr (fun i hi => by match i, hi with | 0, _ => rfl | 1, _ => rfl)⟩
theorem TM.setW1 {w W : World} {gH gW : Nat} {h0 h1 w0 w1 : Int} (h : TM w gH gW h0 h1 w0 w1 W) (hg : w.heap.size ≤ gW) (hne : gH ≠ gW) (a : Int) : TM w gH gW h0 h1 w0 a (W.setCell ⟨gW, 1, none⟩ (.int .i64 a)) :=
  ⟨h.1.setCell (p := ⟨gW, 1, none⟩) hg _, h.2.1.of_block (Below.heap_setCell W ⟨gW, 1, none⟩ _ _ hne),
   (h.2.2.set 1 (.int .i64 a)).congr (fun i hi => by match i, hi with | 0, _ => rfl | 1, _ => rfl)⟩

set_option maxRecDepth 100000 in
theorem true_out (C : SweepHas) (N : Nat) (L t : Int) (h : 70 < N ∨ L < 0 ∨ (N : Int) ≤ L) (A : Option Addr) (c : Nat) (w : World) :
    Calls Try.prog 4 #[.slice A N c, .int .i64 L, .int .i64 t] w fun x w' => x = .returned (.bool true) ∧ Below w.heap.size w w' := by
  by_cases h1 : (70 : Int) < (N : Int) <;> by_cases h2 : L < 0 <;> by_cases h3 : (N : Int) ≤ L
  all_goals first
    | (exfalso; omega)
    | (go_enter Try.func4, Try.ntmps4
       go_wp2_with fail
       refine (awake_any C _).mono ?_
       rintro _ u0 ⟨rfl, hb⟩
       clear h
       go_wp2
       go_ret
       exact ⟨rfl, hb⟩)
end Go.Proofs.Ytlkifbcgcmgpcaa.Sweep
