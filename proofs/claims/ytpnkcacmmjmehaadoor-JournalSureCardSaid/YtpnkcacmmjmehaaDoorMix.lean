/-
  A region that draws its order, walked once by a plan: operations that yield the same in every world of a class are taken first, as they may come up; the others (calls, stores, appends) come up one by one, whatever is drawn, and each leaves a world of the class.
-/
import Derived.Test.YtpnkcacmmjmehaaDoorAid
import Derived.OrdersHeld
import Derived.Deep.RegionHeld3
namespace Go.Proofs.YtpnkcacmmjmehaaDoor.Aid
open Go Go.RowKit
variable {P : Program} {ops : Array Oper} {md : Region.Mode} {S : World → Prop} {Q : Exit → Act → World → Prop}

/-- The plan's check: who is taken first may come up and touches nobody's temporaries; who is not taken first comes up alone. -/
def planB (md : Region.Mode) (ops : Array Oper) : List (Nat × Bool) → Array Bool → Bool
  | [], listed => (Region.ready md ops listed).isEmpty
  | (i, true) :: l, listed => decide (i < ops.size) && Region.free md ops listed i && (Region.ready md ops listed).contains i && planB md ops l (listed.setIfInBounds i true)
  | (i, false) :: l, listed => decide (i < ops.size) && decide (Region.ready md ops listed = [i]) && planB md ops l (listed.setIfInBounds i true)

/-- What is to be shown behind an operation that was carried out: the world is of the class, and the plan goes on. -/
def mixPost (Q : Exit → Act → World → Prop) (S : World → Prop) (R : Act → World → Prop) : Exit → Act → World → Prop
  | .normal, a, w => S w ∧ R a w
  | e, a, w => Q e a w
def wpMix (P : Program) (ops : Array Oper) (Q : Exit → Act → World → Prop) (S : World → Prop) : List (Nat × Bool) → Act → World → Prop
  | [], a, w => Q .normal a w
  | (i, true) :: l, a, w => ∃ op v, ops[i]? = some op ∧ YieldsIf P ops S op v a ∧ wpMix P ops Q S l (a.put op.dst v) w
  | (i, false) :: l, a, w => ∃ op, ops[i]? = some op ∧ wpList P ops (mixPost Q S (wpMix P ops Q S l)) [op] a w

theorem wp_mix {o : Oper} {a : Act} {w : World} {K K' : Act → World → Prop} {Q' : Exit → Act → World → Prop} (h : ∀ a w, K a w → K' a w) (hq : ∀ c a w, Q' (.panic c) a w → Q (.panic c) a w) (ho : ∀ a w, Q' .outgrown a w → Q .outgrown a w)
    (hh : o.wp P a w K Q') : o.wp P a w K' Q := by
  unfold Oper.wp at *
  generalize (execOp a.eval o).run P w = r at *
  cases r with
  | ok n w' =>
    cases n <;> simp only [Oper.upon] at hh ⊢ <;>
      first
        | exact h _ _ hh
        | exact Calls.mono hh (fun e w'' he => by cases e <;> first | exact h _ _ he | exact hq _ _ _ he | exact Exists.imp (fun a hx => Exists.imp (fun w hy => ho a w hy) hx) he | exact he)
        | exact Rows.mono hh (fun _ _ he => h _ _ he)
  | halt x w' => cases x <;> simp only [Oper.upon] at hh ⊢ <;> first | exact hh | exact hq _ _ _ hh
theorem wpAnyH_of_plan (hs : Region.noSelect ops = true) (hQ : ∀ c a w, ¬ Q (.panic c) a w) : ∀ (l : List (Nat × Bool)) (listed : Array Bool) (a : Act) (w : World), planB md ops l listed = true → S w → wpMix P ops Q S l a w → wpAnyH P md ops Q S l.length listed a w
  | [], _, _, _, hB, _, h => ⟨by simpa [planB] using hB, h⟩
  | (i, true) :: l, listed, a, w, hB, hS, h => by
    simp only [planB, Bool.and_eq_true, decide_eq_true_eq] at hB
    obtain ⟨op, v, hi, hy, h⟩ := h
    exact wpAnyH_take hi hs hB.1.1.2 hB.1.2 (fun c a w hc => absurd hc (hQ c _ w)) hy hS (wpAnyH_of_plan hs hQ l _ _ w hB.2 hS h)
  | (i, false) :: l, listed, a, w, hB, hS, h => by
    simp only [planB, Bool.and_eq_true, decide_eq_true_eq] at hB
    obtain ⟨op, hi, h⟩ := h
    refine wpAnyH_all hB.1.2 (by simp) (fun j hj => ?_)
    have hij : j = i := by simpa using hj
    subst hij
    unfold wpOp
    simp only [hi]
    unfold wpList at h
    have hK : ∀ (a' : Act) (w' : World), wpList P ops (mixPost Q S (wpMix P ops Q S l)) [] a' w' → S w' ∧ wpAnyH P md ops Q S l.length (listed.setIfInBounds j true) a' w' := fun a' w' h' => ⟨h'.1, wpAnyH_of_plan hs hQ l _ a' w' hB.2 h'.1 h'.2⟩
    by_cases hw : Region.wanted op (yielded ops a.tmps) = true
    · rw [if_pos hw] at h ⊢
      exact h.imp (wp_mix hK (fun _ _ _ hp => hp) (fun _ _ hp => hp)) (fun hx => ⟨hx.1, hx.2⟩)
    · rw [if_neg hw] at h ⊢
      exact hK _ _ h

/-- The region, by a plan; S: a class that the world behind the draw is of. -/
theorem region_mix {id : Nat} {a : Act} {w : World} {ls : List Oper} (S : World → Prop) (plan : List (Nat × Bool)) (hm : P.follows .mixedOrders = true)
    (hB : (Region.noSelect ls.toArray && decide (ls.toArray.size = plan.length) && planB .any ls.toArray plan (Array.replicate ls.toArray.size false)) = true) (hS : S w.drew)
    (h : wpMix P ls.toArray (NoPanic Q) S plan a w.drew) : (Code.region id ls.toArray true).wp P Q a w := by
  simp only [Bool.and_eq_true, decide_eq_true_eq] at hB
  refine wp_region_noPanic (wp_region_held hm (S := S) ?_)
  rw [hB.1.2]
  exact wpAnyH_of_plan hB.1.1 (fun c a w hc => hc) plan _ a _ (by rw [← hB.1.2]; exact hB.2) hS h

section
variable {l : List (Nat × Bool)} {i : Nat} {op : Oper} {a : Act} {w : World}
/-- Taken first: it yields v in every world of the class. -/
theorem m_val (hi : ops.toList[i]? = some op) (hw : Region.wanted op (yielded ops a.tmps) = true) (v : Value) (hv : ∀ w, S w → (execOp a.eval op).run P w = .ok (.value v) w) (h : wpMix P ops Q S l (a.put op.dst v) w) : wpMix P ops Q S ((i, true) :: l) a w :=
  ⟨op, v, by simpa using hi, .inl ⟨hw, hv⟩, h⟩
/-- Passed over: its guard says no. -/
theorem m_skip (hi : ops.toList[i]? = some op) (hw : Region.wanted op (yielded ops a.tmps) = false) (h : wpMix P ops Q S l (a.put op.dst undef) w) : wpMix P ops Q S ((i, true) :: l) a w :=
  ⟨op, undef, by simpa using hi, .inr ⟨hw, rfl⟩, h⟩
/-- A piece of a row. -/
theorem m_load (hi : ops.toList[i]? = some op) (hw : Region.wanted op (yielded ops a.tmps) = true) (ty : TypeId) (x : Operand) (ho : op.op = .load ty x) (g o t n m : Nat) (f : Nat → Value) (hr : ∀ w, S w → w.rowIs g t n f)
    (hx : a.eval x = .pointer (some ⟨g, o, none⟩)) (d : TypeDesc) (hu : P.underlying ty = some d) (hd : d.isRow = true) (hi' : (P.info? ty).map (·.size) = some m) (hm : o + m ≤ n)
    (h : wpMix P ops Q S l (a.put op.dst (.agg (cellsOf m fun j => f (o + j)))) w) : wpMix P ops Q S ((i, true) :: l) a w :=
  m_val hi hw _ (fun w hC => by
    unfold execOp
    simp only [ho, hx, Instr.loadAt, Instr.sureAddr, Sem.run_bind, Sem.run_pure, Result.andThen_ok, run_loadVar_mid w g o ty _ d (row_range (hr w hC) o m hm) hu hd (by simpa using hi')]
    rfl) h
/-- It comes up alone: it is carried out where the walk stands. -/
theorem m_go (hi : ops.toList[i]? = some op) (h : wpList P ops (mixPost Q S (wpMix P ops Q S l)) [op] a w) : wpMix P ops Q S ((i, false) :: l) a w := ⟨op, by simpa using hi, h⟩
theorem m_on {R : Act → World → Prop} (hS : S w) (h : R a w) : mixPost Q S R .normal a w := ⟨hS, h⟩
theorem m_end (h : Q .normal a w) : wpMix P ops (NoPanic Q) S [] a w := h
end

end Go.Proofs.YtpnkcacmmjmehaaDoor.Aid
