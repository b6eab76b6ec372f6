/-
  A region that draws its order, walked once by a plan: operations that yield the same in every world of a class are taken first, as they may come up; the others (calls, stores, appends) come up one by one, whatever is drawn, and each leaves a world of the class. A region that draws its order and ends in a store that waits for all else: walked once by a plan, the class of worlds need not hold behind that store. A region that draws its order and ends in an operation that waits for all else, by others too (a call whose arguments are all that the others make): walked once by a plan, the class of worlds need not hold behind that operation. A region that draws its order, by what holds of each operation's value: whatever order is drawn, each operation finds what it waits for, and makes memory at most; so a region with many chains that make memory is walked once for each operation, not once for each order. A region that draws its order, in which two chains of operations that make memory stand side by side: walked by hand, step by step: what yields the same in every world of a class is taken first; where two may come up, both ways are walked.
-/
import Derived.Test.YtnkjoambhmlnbaaGreatDoorBd01
import Derived.OrdersHeld
import Derived.Deep.RegionHeld3
import Derived.StillTail
namespace Go.Proofs.YtnkjoambhmlnbaaGreatDoor.Aid
open Go Go.RowKit
variable {P : Program} {ops : Array Oper} {md : Region.Mode} {S : World → Prop} {Q : Exit → Act → World → Prop}

/-- The plan's check: who is taken first may come up and touches nobody's temporaries; who is not taken first comes up alone. -/
def planB (md : Region.Mode) (ops : Array Oper) : List (Nat × Bool) → Array Bool → Bool
  | [], listed => (Region.ready md ops listed).isEmpty
  | (i, true) :: l, listed => decide (i < ops.size) && Region.free md ops listed i && (Region.ready md ops listed).contains i && planB md ops l (listed.setIfInBounds i true)
  | (i, false) :: l, listed => decide (i < ops.size) && decide (Region.ready md ops listed = [i]) && planB md ops l (listed.setIfInBounds i true)

/-- What is to be shown behind an operation that was carried out: the world is of the class, and the plan goes on. -/
def mixPost (Q : Exit → Act → World → Prop) (S : World → Prop) (R : Act → World → Prop) : Exit → Act → World → Prop
  | .normal, a, w => S w ∧ R a w
  | e, a, w => Q e a w
def wpMix (P : Program) (ops : Array Oper) (Q : Exit → Act → World → Prop) (S : World → Prop) : List (Nat × Bool) → Act → World → Prop
  | [], a, w => Q .normal a w
  | (i, true) :: l, a, w => ∃ op v, ops[i]? = some op ∧ YieldsIf P ops S op v a ∧ wpMix P ops Q S l (a.put op.dst v) w
  | (i, false) :: l, a, w => ∃ op, ops[i]? = some op ∧ wpList P ops (mixPost Q S (wpMix P ops Q S l)) [op] a w

theorem wp_mix {o : Oper} {a : Act} {w : World} {K K' : Act → World → Prop} {Q' : Exit → Act → World → Prop} (h : ∀ a w, K a w → K' a w) (hq : ∀ c a w, Q' (.panic c) a w → Q (.panic c) a w) (ho : ∀ a w, Q' .outgrown a w → Q .outgrown a w)
    (hh : o.wp P a w K Q') : o.wp P a w K' Q := by
  unfold Oper.wp at *
  generalize (execOp a.eval o).run P w = r at *
  cases r with
  | ok n w' =>
    cases n <;> simp only [Oper.upon] at hh ⊢ <;>
      first
        | exact h _ _ hh
        | exact Calls.mono hh (fun e w'' he => by cases e <;> first | exact h _ _ he | exact hq _ _ _ he | exact Exists.imp (fun a hx => Exists.imp (fun w hy => ho a w hy) hx) he | exact he)
        | exact Rows.mono hh (fun _ _ he => h _ _ he)
  | halt x w' => cases x <;> simp only [Oper.upon] at hh ⊢ <;> first | exact hh | exact hq _ _ _ hh
theorem wpAnyH_of_plan (hs : Region.noSelect ops = true) (hQ : ∀ c a w, ¬ Q (.panic c) a w) : ∀ (l : List (Nat × Bool)) (listed : Array Bool) (a : Act) (w : World), planB md ops l listed = true → S w → wpMix P ops Q S l a w → wpAnyH P md ops Q S l.length listed a w
  | [], _, _, _, hB, _, h => ⟨by simpa [planB] using hB, h⟩
  | (i, true) :: l, listed, a, w, hB, hS, h => by
    simp only [planB, Bool.and_eq_true, decide_eq_true_eq] at hB
    obtain ⟨op, v, hi, hy, h⟩ := h
    exact wpAnyH_take hi hs hB.1.1.2 hB.1.2 (fun c a w hc => absurd hc (hQ c _ w)) hy hS (wpAnyH_of_plan hs hQ l _ _ w hB.2 hS h)
  | (i, false) :: l, listed, a, w, hB, hS, h => by
    simp only [planB, Bool.and_eq_true, decide_eq_true_eq] at hB
    obtain ⟨op, hi, h⟩ := h
    refine wpAnyH_all hB.1.2 (by simp) (fun j hj => ?_)
    have hij : j = i := by simpa using hj
    subst hij
    unfold wpOp
    simp only [hi]
    unfold wpList at h
    have hK : ∀ (a' : Act) (w' : World), wpList P ops (mixPost Q S (wpMix P ops Q S l)) [] a' w' → S w' ∧ wpAnyH P md ops Q S l.length (listed.setIfInBounds j true) a' w' := fun a' w' h' => ⟨h'.1, wpAnyH_of_plan hs hQ l _ a' w' hB.2 h'.1 h'.2⟩
    by_cases hw : Region.wanted op (yielded ops a.tmps) = true
    · rw [if_pos hw] at h ⊢
      exact h.imp (wp_mix hK (fun _ _ _ hp => hp) (fun _ _ hp => hp)) (fun hx => ⟨hx.1, hx.2⟩)
    · rw [if_neg hw] at h ⊢
      exact hK _ _ h

/-- The region, by a plan; S: a class that the world behind the draw is of. -/
theorem region_mix {id : Nat} {a : Act} {w : World} {ls : List Oper} (S : World → Prop) (plan : List (Nat × Bool)) (hm : P.follows .mixedOrders = true)
    (hB : (Region.noSelect ls.toArray && decide (ls.toArray.size = plan.length) && planB .any ls.toArray plan (Array.replicate ls.toArray.size false)) = true) (hS : S w.drew)
    (h : wpMix P ls.toArray (NoPanic Q) S plan a w.drew) : (Code.region id ls.toArray true).wp P Q a w := by
  simp only [Bool.and_eq_true, decide_eq_true_eq] at hB
  refine wp_region_noPanic (wp_region_held hm (S := S) ?_)
  rw [hB.1.2]
  exact wpAnyH_of_plan hB.1.1 (fun c a w hc => hc) plan _ a _ (by rw [← hB.1.2]; exact hB.2) hS h

section
variable {l : List (Nat × Bool)} {i : Nat} {op : Oper} {a : Act} {w : World}
/-- Taken first: it yields v in every world of the class. -/
theorem m_val (hi : ops.toList[i]? = some op) (hw : Region.wanted op (yielded ops a.tmps) = true) (v : Value) (hv : ∀ w, S w → (execOp a.eval op).run P w = .ok (.value v) w) (h : wpMix P ops Q S l (a.put op.dst v) w) : wpMix P ops Q S ((i, true) :: l) a w :=
  ⟨op, v, by simpa using hi, .inl ⟨hw, hv⟩, h⟩
/-- Passed over: its guard says no. -/
theorem m_skip (hi : ops.toList[i]? = some op) (hw : Region.wanted op (yielded ops a.tmps) = false) (h : wpMix P ops Q S l (a.put op.dst undef) w) : wpMix P ops Q S ((i, true) :: l) a w :=
  ⟨op, undef, by simpa using hi, .inr ⟨hw, rfl⟩, h⟩
/-- A piece of a row. -/
theorem m_load (hi : ops.toList[i]? = some op) (hw : Region.wanted op (yielded ops a.tmps) = true) (ty : TypeId) (x : Operand) (ho : op.op = .load ty x) (g o t n m : Nat) (f : Nat → Value) (hr : ∀ w, S w → w.rowIs g t n f)
    (hx : a.eval x = .pointer (some ⟨g, o, none⟩)) (d : TypeDesc) (hu : P.underlying ty = some d) (hd : d.isRow = true) (hi' : (P.info? ty).map (·.size) = some m) (hm : o + m ≤ n)
    (h : wpMix P ops Q S l (a.put op.dst (.agg (cellsOf m fun j => f (o + j)))) w) : wpMix P ops Q S ((i, true) :: l) a w :=
  m_val hi hw _ (fun w hC => by
    unfold execOp
    simp only [ho, hx, Instr.loadAt, Instr.sureAddr, Sem.run_bind, Sem.run_pure, Result.andThen_ok, run_loadVar_mid w g o ty _ d (row_range (hr w hC) o m hm) hu hd (by simpa using hi')]
    rfl) h
/-- It comes up alone: it is carried out where the walk stands. -/
theorem m_go (hi : ops.toList[i]? = some op) (h : wpList P ops (mixPost Q S (wpMix P ops Q S l)) [op] a w) : wpMix P ops Q S ((i, false) :: l) a w := ⟨op, by simpa using hi, h⟩
theorem m_on {R : Act → World → Prop} (hS : S w) (h : R a w) : mixPost Q S R .normal a w := ⟨hS, h⟩
theorem m_end (h : Q .normal a w) : wpMix P ops (NoPanic Q) S [] a w := h
end

end Go.Proofs.YtnkjoambhmlnbaaGreatDoor.Aid
namespace Go.Proofs.YtnkjoambhmlnbaaGreatDoor.Aid
open Go Go.RowKit
variable {P : Program} {ops : Array Oper} {md : Region.Mode} {S : World → Prop} {Q : Exit → Act → World → Prop} {L : Nat}

/-- Whatever comes up, until all is done; the world is of the class behind each operation but L. -/
def anyE (P : Program) (md : Region.Mode) (ops : Array Oper) (Q : Exit → Act → World → Prop) (S : World → Prop) (L : Nat) : Nat → Array Bool → Act → World → Prop
  | 0, done, a, w => Region.ready md ops done = [] ∧ Q .normal a w
  | k + 1, done, a, w => (Region.ready md ops done = [] → Q .normal a w) ∧
      ∀ j, j ∈ Region.ready md ops done → wpOp P ops Q j (fun a' w' => (j = L ∨ S w') ∧ anyE P md ops Q S L k (done.setIfInBounds j true) a' w') a w
theorem any_of_anyE : ∀ (k : Nat) (done : Array Bool) (a : Act) (w : World), anyE P md ops Q S L k done a w → wpAny P md ops Q k done a w
  | 0, _, _, _, h => h
  | k + 1, _, _, _, h => ⟨h.1, fun j hj => wpOp_mono (fun a' w' h' => any_of_anyE k _ a' w' h'.2) (h.2 j hj)⟩
/-- Who waits for one that has not come up may not come up. -/
theorem not_ready {i : Nat} {done : Array Bool} (hw : Region.waitsFor md ops L i = true) (hi : i ∈ Region.ready md ops done) : L ∉ Region.ready md ops done := fun hL => by
  obtain ⟨oL, hoL, e, he, hb, hei⟩ := Region.waitsFor_spec hw
  obtain ⟨_, o', ho', hall⟩ := mem_ready.1 hL
  rw [hoL] at ho'
  cases ho'
  have h1 := hall e he hb
  rw [hei, getD_both (mem_ready.1 hi).1] at h1
  cases h1
theorem anyE_ahead {i : Nat} {oi : Oper} {v : Value} (hi : ops[i]? = some oi) (hs : Region.noSelect ops = true) (hw : Region.waitsFor md ops L i = true) (hQ : ∀ c a w, ¬ Q (.panic c) a w) :
    ∀ (k : Nat) (done : Array Bool) (a : Act) (w : World),
      (∀ j oj, ops[j]? = some oj → j ≠ i → done.getD j true = false → (∀ e ∈ oj.after, Region.binds md e = true → e.on ≠ i) → oi.apart ops oj = true) →
      i ∈ Region.ready md ops done → YieldsIf P ops S oi v a → S w → anyE P md ops Q S L k (done.setIfInBounds i true) (a.put oi.dst v) w → anyE P md ops Q S L (k + 1) done a w := by
  intro k
  induction k with
  | zero =>
    intro done a w _ hr hy hS H
    refine ⟨fun h => (by rw [h] at hr; cases hr), fun j hj => ?_⟩
    by_cases e : j = i
    · subst e
      exact hy.wpOp hi hS ⟨.inr hS, H⟩
    · have := ready_mono hj e
      rw [H.1] at this
      cases this
  | succ k ih =>
    intro done a w hf hr hy hS H
    refine ⟨fun h => (by rw [h] at hr; cases hr), fun j hj => ?_⟩
    by_cases e : j = i
    · subst e
      exact hy.wpOp hi hS ⟨.inr hS, H⟩
    · obtain ⟨hun, oj, hoj, hall⟩ := mem_ready.1 hj
      have hno : ∀ x ∈ oj.after, Region.binds md x = true → x.on ≠ i := fun x hx hb hxi => by
        have h1 := hall x hx hb
        rw [hxi, getD_both (mem_ready.1 hr).1] at h1
        cases h1
      have hjL : j ≠ L := fun h => not_ready hw hr (h ▸ hj)
      have step := wpOp_putIf hoj (hf j oj hoj e hun hno) (fun cs b => Region.noSelect_spec hs i oi cs b hi) (fun cs b => Region.noSelect_spec hs j oj cs b hoj) (fun c a' w' h' => absurd h' (hQ _ _ _)) hy (H.2 j (ready_mono hj e))
      refine wpOp_mono (fun a' w' h' => ?_) step
      obtain ⟨hy', hS', H'⟩ := h'
      have hSw : S w' := hS'.resolve_left hjL
      refine ⟨.inr hSw, ih _ a' w' (fun m om hom hmi hmu hmn => hf m om hom hmi ?_ hmn) (ready_mono hr (fun h => e h.symm)) hy' hSw (by rw [Array.setIfInBounds_comm _ _ e]; exact H')⟩
      by_cases hjm : j = m
      · subst hjm; exact hun
      · rwa [getD_set_ne true hjm] at hmu

/-- The plan's check; L comes last, and all wait for nobody behind it. -/
def planE (md : Region.Mode) (ops : Array Oper) (L : Nat) : List (Nat × Bool) → Array Bool → Bool
  | [], done => decide (Region.ready md ops done = [L]) && (Region.ready md ops (done.setIfInBounds L true)).isEmpty
  | (i, true) :: l, done => decide (i < ops.size) && Region.waitsFor md ops L i && Region.free md ops done i && (Region.ready md ops done).contains i && planE md ops L l (done.setIfInBounds i true)
  | (i, false) :: l, done => decide (i < ops.size) && decide (i ≠ L) && decide (Region.ready md ops done = [i]) && planE md ops L l (done.setIfInBounds i true)
theorem anyE_of_plan {oL : Oper} (hL : ops[L]? = some oL) (hs : Region.noSelect ops = true) : ∀ (l : List (Nat × Bool)) (done : Array Bool) (a : Act) (w : World), planE md ops L l done = true → S w →
    wpMix P ops (NoPanic fun e a w => match e with | .normal => wpList P ops (NoPanic Q) [oL] a w | e => NoPanic Q e a w) S l a w → anyE P md ops (NoPanic Q) S L (l.length + 1) done a w
  | [], done, a, w, hB, hS, h => by
    simp only [planE, Bool.and_eq_true, decide_eq_true_eq] at hB
    refine ⟨fun h0 => (by rw [hB.1] at h0; cases h0), fun j hj => ?_⟩
    rw [hB.1] at hj
    obtain rfl : j = L := by simpa using hj
    have h' : wpList P ops (NoPanic Q) [oL] a w := h
    unfold wpOp
    simp only [hL]
    unfold wpList at h'
    have hK : ∀ (a' : Act) (w' : World), wpList P ops (NoPanic Q) [] a' w' → (True ∨ S w') ∧ anyE P md ops (NoPanic Q) S j 0 (done.setIfInBounds j true) a' w' := fun a' w' h2 => ⟨.inl trivial, by simpa using hB.2, h2⟩
    by_cases hw : Region.wanted oL (yielded ops a.tmps) = true
    · rw [if_pos hw] at h' ⊢
      exact h'.imp (wp_mix hK (fun _ _ _ hp => hp) (fun _ _ hp => hp)) (fun hx => ⟨hx.1, hx.2⟩)
    · rw [if_neg hw] at h' ⊢
      exact hK _ _ h'
  | (i, true) :: l, done, a, w, hB, hS, h => by
    simp only [planE, Bool.and_eq_true, decide_eq_true_eq] at hB
    obtain ⟨op, v, hi, hy, h⟩ := h
    refine anyE_ahead hi hs hB.1.1.1.2 (fun c a w hc => hc) _ done a w (Region.free_spec hi hB.1.1.2) (by simpa using hB.1.2) hy hS (anyE_of_plan hL hs l _ _ w hB.2 hS h)
  | (i, false) :: l, done, a, w, hB, hS, h => by
    simp only [planE, Bool.and_eq_true, decide_eq_true_eq] at hB
    obtain ⟨op, hi, h⟩ := h
    refine ⟨fun h0 => (by rw [hB.1.2] at h0; cases h0), fun j hj => ?_⟩
    rw [hB.1.2] at hj
    obtain rfl : j = i := by simpa using hj
    unfold wpOp
    simp only [hi]
    unfold wpList at h
    have hK := fun (a' : Act) (w' : World) (h2 : wpList P ops (mixPost (NoPanic fun e a w => match e with | .normal => wpList P ops (NoPanic Q) [oL] a w | e => NoPanic Q e a w) S (wpMix P ops (NoPanic fun e a w => match e with | .normal => wpList P ops (NoPanic Q) [oL] a w | e => NoPanic Q e a w) S l)) [] a' w') =>
      (show (j = L ∨ S w') ∧ anyE P md ops (NoPanic Q) S L (l.length + 1) (done.setIfInBounds j true) a' w' from ⟨.inr h2.1, anyE_of_plan hL hs l _ a' w' hB.2 h2.1 h2.2⟩)
    by_cases hw : Region.wanted op (yielded ops a.tmps) = true
    · rw [if_pos hw] at h ⊢
      exact h.imp (wp_mix hK (fun _ _ _ hp => hp.elim) (fun _ _ hp => hp)) (fun hx => ⟨hx.1, hx.2⟩)
    · rw [if_neg hw] at h ⊢
      exact hK _ _ h
/-- The region, by a plan of all operations but L, which waits for them all. -/
theorem region_mix_last {id : Nat} {a : Act} {w : World} {ls : List Oper} {oL : Oper} (S : World → Prop) (L : Nat) (plan : List (Nat × Bool)) (hm : P.follows .mixedOrders = true) (hL : ls.toArray[L]? = some oL)
    (hB : (Region.noSelect ls.toArray && decide (ls.toArray.size = plan.length + 1) && planE .any ls.toArray L plan (Array.replicate ls.toArray.size false)) = true) (hS : S w.drew)
    (h : wpMix P ls.toArray (NoPanic fun e a w => match e with | .normal => wpList P ls.toArray (NoPanic Q) [oL] a w | e => NoPanic Q e a w) S plan a w.drew) : (Code.region id ls.toArray true).wp P Q a w := by
  simp only [Bool.and_eq_true, decide_eq_true_eq] at hB
  refine wp_region_noPanic (wp_region_any hm (any_of_anyE (S := S) (L := L) _ _ _ _ ?_))
  rw [hB.1.2]
  exact anyE_of_plan hL hB.1.1 plan _ a _ (by rw [← hB.1.2]; exact hB.2) hS h
/-! ### The same by hand, step by step, where two may come up. -/
section
variable {ls : List Oper} {done : Array Bool} {op op' oL : Oper} {a : Act} {w : World} {n : Nat}
theorem region_e {id : Nat} (S : World → Prop) (L n : Nat) (hm : P.follows .mixedOrders = true) (hn : ls.toArray.size = n) (h : anyE P .any ls.toArray (NoPanic Q) S L n (Array.replicate n false) a w.drew) : (Code.region id ls.toArray true).wp P Q a w := by
  subst hn
  exact wp_region_noPanic (wp_region_any hm (any_of_anyE _ _ _ _ h))
theorem e_take (i : Nat) (hi : ls[i]? = some op) (hB : (Region.noSelect ls.toArray && (Region.waitsFor md ls.toArray L i && (Region.free md ls.toArray done i && (Region.ready md ls.toArray done).contains i))) = true)
    (hw : Region.wanted op (yielded ls.toArray a.tmps) = true) (v : Value) (hv : ∀ w, S w → (execOp a.eval op).run P w = .ok (.value v) w) (hS : S w)
    (h : anyE P md ls.toArray (NoPanic Q) S L n (done.setIfInBounds i true) (a.put op.dst v) w) : anyE P md ls.toArray (NoPanic Q) S L (n + 1) done a w := by
  simp only [Bool.and_eq_true] at hB
  have hi' : ls.toArray[i]? = some op := by simpa using hi
  exact anyE_ahead hi' hB.1 hB.2.1 (fun c a w hc => hc) n done a w (Region.free_spec hi' hB.2.2.1) (by simpa using hB.2.2.2) (.inl ⟨hw, hv⟩) hS h
theorem e_op {i : Nat} (hi : ls[i]? = some op) (h : wpList P ls.toArray (mixPost (NoPanic Q) S (anyE P md ls.toArray (NoPanic Q) S L n (done.setIfInBounds i true))) [op] a w) :
    wpOp P ls.toArray (NoPanic Q) i (fun a' w' => (i = L ∨ S w') ∧ anyE P md ls.toArray (NoPanic Q) S L n (done.setIfInBounds i true) a' w') a w := by
  have hi' : ls.toArray[i]? = some op := by simpa using hi
  unfold wpOp
  simp only [hi']
  unfold wpList at h
  have hK : ∀ (a' : Act) (w' : World), wpList P ls.toArray (mixPost (NoPanic Q) S (anyE P md ls.toArray (NoPanic Q) S L n (done.setIfInBounds i true))) [] a' w' → (i = L ∨ S w') ∧ anyE P md ls.toArray (NoPanic Q) S L n (done.setIfInBounds i true) a' w' := fun a' w' h' => ⟨.inr h'.1, h'.2⟩
  by_cases hw : Region.wanted op (yielded ls.toArray a.tmps) = true
  · rw [if_pos hw] at h ⊢
    exact h.imp (wp_mix hK (fun _ _ _ hp => hp) (fun _ _ hp => hp)) (fun hx => ⟨hx.1, hx.2⟩)
  · rw [if_neg hw] at h ⊢
    exact hK _ _ h
/-- It comes up alone. -/
theorem e_go (i : Nat) (hi : ls[i]? = some op) (hB : decide (Region.ready md ls.toArray done = [i]) = true)
    (h : wpList P ls.toArray (mixPost (NoPanic Q) S (anyE P md ls.toArray (NoPanic Q) S L n (done.setIfInBounds i true))) [op] a w) : anyE P md ls.toArray (NoPanic Q) S L (n + 1) done a w := by
  have hr := of_decide_eq_true hB
  refine ⟨fun h0 => (by rw [hr] at h0; cases h0), fun k hk => ?_⟩
  rw [hr] at hk
  obtain rfl : k = i := by simpa using hk
  exact e_op hi h
/-- Either may come up. -/
theorem e_two (i j : Nat) (hi : ls[i]? = some op) (hj : ls[j]? = some op') (hB : decide (Region.ready md ls.toArray done = [i, j]) = true)
    (h : wpList P ls.toArray (mixPost (NoPanic Q) S (anyE P md ls.toArray (NoPanic Q) S L n (done.setIfInBounds i true))) [op] a w)
    (h' : wpList P ls.toArray (mixPost (NoPanic Q) S (anyE P md ls.toArray (NoPanic Q) S L n (done.setIfInBounds j true))) [op'] a w) : anyE P md ls.toArray (NoPanic Q) S L (n + 1) done a w := by
  have hr := of_decide_eq_true hB
  refine ⟨fun h0 => (by rw [hr] at h0; cases h0), fun k hk => ?_⟩
  rw [hr] at hk
  simp only [List.mem_cons, List.not_mem_nil, or_false] at hk
  rcases hk with rfl | rfl
  · exact e_op hi h
  · exact e_op hj h'
/-- The last one. -/
theorem e_last (hL : ls[L]? = some oL) (hB : (decide (Region.ready md ls.toArray done = [L]) && (Region.ready md ls.toArray (done.setIfInBounds L true)).isEmpty) = true) (h : wpList P ls.toArray (NoPanic Q) [oL] a w) : anyE P md ls.toArray (NoPanic Q) S L 1 done a w := by
  simp only [Bool.and_eq_true, decide_eq_true_eq] at hB
  have hL' : ls.toArray[L]? = some oL := by simpa using hL
  refine ⟨fun h0 => (by rw [hB.1] at h0; cases h0), fun j hj => ?_⟩
  rw [hB.1] at hj
  obtain rfl : j = L := by simpa using hj
  unfold wpOp
  simp only [hL']
  unfold wpList at h
  have hK : ∀ (a' : Act) (w' : World), wpList P ls.toArray (NoPanic Q) [] a' w' → (True ∨ S w') ∧ anyE P md ls.toArray (NoPanic Q) S j 0 (done.setIfInBounds j true) a' w' := fun a' w' h2 => ⟨.inl trivial, by simpa using hB.2, h2⟩
  by_cases hw : Region.wanted oL (yielded ls.toArray a.tmps) = true
  · rw [if_pos hw] at h ⊢
    exact h.imp (wp_mix hK (fun _ _ _ hp => hp) (fun _ _ hp => hp)) (fun hx => ⟨hx.1, hx.2⟩)
  · rw [if_neg hw] at h ⊢
    exact hK _ _ h
end
end Go.Proofs.YtnkjoambhmlnbaaGreatDoor.Aid
namespace Go.Proofs.YtnkjoambhmlnbaaGreatDoor.Aid
open Go Go.RowKit
variable {P : Program} {ops : Array Oper} {md : Region.Mode} {S : World → Prop} {Q : Exit → Act → World → Prop} {L : Nat}

/-- What is done waits for nothing that is not. -/
def Closed (md : Region.Mode) (ops : Array Oper) (done : Array Bool) : Prop := ∀ j i, done.getD j true = true → j < done.size → Region.waitsFor md ops j i = true → done.getD i true = true
def reach (md : Region.Mode) (ops : Array Oper) : Nat → Nat → Nat → Bool
  | 0, _, _ => false
  | k + 1, j, i => Region.waitsFor md ops j i || (List.range ops.size).any fun m => Region.waitsFor md ops j m && reach md ops k m i
theorem closed_reach {done : Array Bool} (hc : Closed md ops done) (hsz : ops.size = done.size) : ∀ (k j i : Nat), (∀ m, Region.waitsFor md ops j m = true → done.getD m true = true) → reach md ops k j i = true → done.getD i true = true
  | 0, _, _, _, h => by cases h
  | k + 1, j, i, hj, h => by
    simp only [reach, Bool.or_eq_true, List.any_eq_true, List.mem_range, Bool.and_eq_true] at h
    rcases h with h | ⟨m, hm, h1, h2⟩
    · exact hj i h
    · exact closed_reach hc hsz k m i (fun x hx => hc m x (hj m h1) (by omega) hx) h2
theorem ready_all {j : Nat} {done : Array Bool} (hj : j ∈ Region.ready md ops done) : ∀ m, Region.waitsFor md ops j m = true → done.getD m true = true := fun m hm => by
  obtain ⟨oj, hoj, e, he, hb, hei⟩ := Region.waitsFor_spec hm
  obtain ⟨_, o', ho', hall⟩ := mem_ready.1 hj
  rw [hoj] at ho'
  cases ho'
  have := hall e he hb
  rw [hei] at this
  by_cases hlt : m < done.size
  · simpa [Array.getD, hlt] using this
  · simp [Array.getD, hlt]
theorem Closed.step {j : Nat} {done : Array Bool} (hc : Closed md ops done) (hj : j ∈ Region.ready md ops done) : Closed md ops (done.setIfInBounds j true) := fun k i hk hlt hw => by
  have hs : ∀ x, done.getD x true = true → (done.setIfInBounds j true).getD x true = true := fun x hx => by
    by_cases hxj : x = j
    · subst hxj
      by_cases hlt' : x < done.size
      · simp [Array.getD, hlt']
      · simp [Array.getD, hlt']
    · rw [getD_set_ne true (fun h => hxj h.symm)]; exact hx
  by_cases hkj : k = j
  · subst hkj
    exact hs i (ready_all hj i hw)
  · rw [getD_set_ne true (fun h => hkj h.symm)] at hk
    exact hs i (hc k i hk (by simpa using hlt) hw)
theorem not_ready' {i f : Nat} {done : Array Bool} (hc : Closed md ops done) (hsz : ops.size = done.size) (hw : reach md ops f L i = true) (hi : i ∈ Region.ready md ops done) : L ∉ Region.ready md ops done := fun hL => by
  have h1 := closed_reach hc hsz f L i (ready_all hL) hw
  have h2 := (mem_ready.1 hi).1
  rw [h1] at h2
  cases h2
theorem anyE_ahead' {i f : Nat} {oi : Oper} {v : Value} (hi : ops[i]? = some oi) (hs : Region.noSelect ops = true) (hw : reach md ops f L i = true) (hQ : ∀ c a w, ¬ Q (.panic c) a w) :
    ∀ (k : Nat) (done : Array Bool) (a : Act) (w : World), Closed md ops done → ops.size = done.size →
      (∀ j oj, ops[j]? = some oj → j ≠ i → done.getD j true = false → (∀ e ∈ oj.after, Region.binds md e = true → e.on ≠ i) → oi.apart ops oj = true) →
      i ∈ Region.ready md ops done → YieldsIf P ops S oi v a → S w → anyE P md ops Q S L k (done.setIfInBounds i true) (a.put oi.dst v) w → anyE P md ops Q S L (k + 1) done a w := by
  intro k
  induction k with
  | zero =>
    intro done a w _ _ _ hr hy hS H
    refine ⟨fun h => (by rw [h] at hr; cases hr), fun j hj => ?_⟩
    by_cases e : j = i
    · subst e
      exact hy.wpOp hi hS ⟨.inr hS, H⟩
    · have := ready_mono hj e
      rw [H.1] at this
      cases this
  | succ k ih =>
    intro done a w hcl hsz hf hr hy hS H
    refine ⟨fun h => (by rw [h] at hr; cases hr), fun j hj => ?_⟩
    by_cases e : j = i
    · subst e
      exact hy.wpOp hi hS ⟨.inr hS, H⟩
    · obtain ⟨hun, oj, hoj, hall⟩ := mem_ready.1 hj
      have hno : ∀ x ∈ oj.after, Region.binds md x = true → x.on ≠ i := fun x hx hb hxi => by
        have h1 := hall x hx hb
        rw [hxi, getD_both (mem_ready.1 hr).1] at h1
        cases h1
      have hjL : j ≠ L := fun h => not_ready' hcl hsz hw hr (h ▸ hj)
      have step := wpOp_putIf hoj (hf j oj hoj e hun hno) (fun cs b => Region.noSelect_spec hs i oi cs b hi) (fun cs b => Region.noSelect_spec hs j oj cs b hoj) (fun c a' w' h' => absurd h' (hQ _ _ _)) hy (H.2 j (ready_mono hj e))
      refine wpOp_mono (fun a' w' h' => ?_) step
      obtain ⟨hy', hS', H'⟩ := h'
      have hSw : S w' := hS'.resolve_left hjL
      refine ⟨.inr hSw, ih _ a' w' (hcl.step hj) (by simpa using hsz) (fun m om hom hmi hmu hmn => hf m om hom hmi ?_ hmn) (ready_mono hr (fun h => e h.symm)) hy' hSw (by rw [Array.setIfInBounds_comm _ _ e]; exact H')⟩
      by_cases hjm : j = m
      · subst hjm; exact hun
      · rwa [getD_set_ne true hjm] at hmu
/-- The plan's check; L comes last, and waits for all, by others too. -/
def planT (md : Region.Mode) (ops : Array Oper) (L : Nat) : List (Nat × Bool) → Array Bool → Bool
  | [], done => decide (Region.ready md ops done = [L]) && (Region.ready md ops (done.setIfInBounds L true)).isEmpty
  | (i, true) :: l, done => decide (i < ops.size) && reach md ops ops.size L i && Region.free md ops done i && (Region.ready md ops done).contains i && planT md ops L l (done.setIfInBounds i true)
  | (i, false) :: l, done => decide (i < ops.size) && decide (i ≠ L) && decide (Region.ready md ops done = [i]) && planT md ops L l (done.setIfInBounds i true)
theorem anyE_of_planT {oL : Oper} (hL : ops[L]? = some oL) (hs : Region.noSelect ops = true) : ∀ (l : List (Nat × Bool)) (done : Array Bool) (a : Act) (w : World), Closed md ops done → ops.size = done.size → planT md ops L l done = true → S w →
    wpMix P ops (NoPanic fun e a w => match e with | .normal => wpList P ops (NoPanic Q) [oL] a w | e => NoPanic Q e a w) S l a w → anyE P md ops (NoPanic Q) S L (l.length + 1) done a w
  | [], done, a, w, _, _, hB, hS, h => by
    simp only [planT, Bool.and_eq_true, decide_eq_true_eq] at hB
    refine ⟨fun h0 => (by rw [hB.1] at h0; cases h0), fun j hj => ?_⟩
    rw [hB.1] at hj
    obtain rfl : j = L := by simpa using hj
    have h' : wpList P ops (NoPanic Q) [oL] a w := h
    unfold wpOp
    simp only [hL]
    unfold wpList at h'
    have hK : ∀ (a' : Act) (w' : World), wpList P ops (NoPanic Q) [] a' w' → (True ∨ S w') ∧ anyE P md ops (NoPanic Q) S j 0 (done.setIfInBounds j true) a' w' := fun a' w' h2 => ⟨.inl trivial, by simpa using hB.2, h2⟩
    by_cases hw : Region.wanted oL (yielded ops a.tmps) = true
    · rw [if_pos hw] at h' ⊢
      exact h'.imp (wp_mix hK (fun _ _ _ hp => hp) (fun _ _ hp => hp)) (fun hx => ⟨hx.1, hx.2⟩)
    · rw [if_neg hw] at h' ⊢
      exact hK _ _ h'
  | (i, true) :: l, done, a, w, hcl, hsz, hB, hS, h => by
    simp only [planT, Bool.and_eq_true, decide_eq_true_eq] at hB
    obtain ⟨op, v, hi, hy, h⟩ := h
    have hr : i ∈ Region.ready md ops done := by simpa using hB.1.2
    refine anyE_ahead' hi hs hB.1.1.1.2 (fun c a w hc => hc) _ done a w hcl hsz (Region.free_spec hi hB.1.1.2) hr hy hS (anyE_of_planT hL hs l _ _ w (hcl.step hr) (by simpa using hsz) hB.2 hS h)
  | (i, false) :: l, done, a, w, hcl, hsz, hB, hS, h => by
    simp only [planT, Bool.and_eq_true, decide_eq_true_eq] at hB
    obtain ⟨op, hi, h⟩ := h
    have hr : i ∈ Region.ready md ops done := by rw [hB.1.2]; simp
    refine ⟨fun h0 => (by rw [hB.1.2] at h0; cases h0), fun j hj => ?_⟩
    rw [hB.1.2] at hj
    obtain rfl : j = i := by simpa using hj
    unfold wpOp
    simp only [hi]
    unfold wpList at h
    have hK := fun (a' : Act) (w' : World) (h2 : wpList P ops (mixPost (NoPanic fun e a w => match e with | .normal => wpList P ops (NoPanic Q) [oL] a w | e => NoPanic Q e a w) S (wpMix P ops (NoPanic fun e a w => match e with | .normal => wpList P ops (NoPanic Q) [oL] a w | e => NoPanic Q e a w) S l)) [] a' w') =>
      (show (j = L ∨ S w') ∧ anyE P md ops (NoPanic Q) S L (l.length + 1) (done.setIfInBounds j true) a' w' from ⟨.inr h2.1, anyE_of_planT hL hs l _ a' w' (hcl.step hr) (by simpa using hsz) hB.2 h2.1 h2.2⟩)
    by_cases hw : Region.wanted op (yielded ops a.tmps) = true
    · rw [if_pos hw] at h ⊢
      exact h.imp (wp_mix hK (fun _ _ _ hp => hp.elim) (fun _ _ hp => hp)) (fun hx => ⟨hx.1, hx.2⟩)
    · rw [if_neg hw] at h ⊢
      exact hK _ _ h
/-- The region, by a plan of all operations but L, which waits for them all. -/
theorem region_mix_tail {id : Nat} {a : Act} {w : World} {ls : List Oper} {oL : Oper} (S : World → Prop) (L : Nat) (plan : List (Nat × Bool)) (hm : P.follows .mixedOrders = true) (hL : ls.toArray[L]? = some oL)
    (hB : (Region.noSelect ls.toArray && decide (ls.toArray.size = plan.length + 1) && planT .any ls.toArray L plan (Array.replicate ls.toArray.size false)) = true) (hS : S w.drew)
    (h : wpMix P ls.toArray (NoPanic fun e a w => match e with | .normal => wpList P ls.toArray (NoPanic Q) [oL] a w | e => NoPanic Q e a w) S plan a w.drew) : (Code.region id ls.toArray true).wp P Q a w := by
  simp only [Bool.and_eq_true, decide_eq_true_eq] at hB
  refine wp_region_noPanic (wp_region_any hm (any_of_anyE (S := S) (L := L) _ _ _ _ ?_))
  rw [hB.1.2]
  refine anyE_of_planT hL hB.1.1 plan _ a _ (fun j i hj hlt _ => ?_) (by simp [hB.1.2]) (by rw [← hB.1.2]; exact hB.2) hS h
  exfalso
  simp at hlt
  simp [Array.getD, hlt] at hj
end Go.Proofs.YtnkjoambhmlnbaaGreatDoor.Aid
namespace Go.Proofs.YtnkjoambhmlnbaaGreatDoor.Aid
open Go Go.RowKit
variable {P : Program} {ops : Array Oper} {md : Region.Mode} {Q : Exit → Act → World → Prop}

def cntU (done : Array Bool) : Nat → Nat
  | 0 => 0
  | n + 1 => cntU done n + if done.getD n true = false then 1 else 0
theorem cntU_set {done : Array Bool} {i : Nat} (h : done.getD i true = false) : ∀ m, cntU (done.setIfInBounds i true) m + (if i < m then 1 else 0) = cntU done m
  | 0 => by simp [cntU]
  | m + 1 => by
    have ih := cntU_set h m
    have hlt : i < done.size := by
      rcases Nat.lt_or_ge i done.size with h' | h'
      · exact h'
      · simp [Array.getD, Nat.not_lt.2 h'] at h
    have e1 : cntU (done.setIfInBounds i true) (m + 1) = cntU (done.setIfInBounds i true) m + if (done.setIfInBounds i true).getD m true = false then 1 else 0 := rfl
    have e2 : cntU done (m + 1) = cntU done m + if done.getD m true = false then 1 else 0 := rfl
    rw [e1, e2]
    by_cases hm : m = i
    · subst hm
      rw [if_neg (Nat.lt_irrefl _)] at ih
      have h1 : (done.setIfInBounds m true).getD m true = true := by simp [Array.getD, hlt]
      rw [h1, h, if_neg (by decide), if_pos (Nat.lt_succ_self m), if_pos rfl]
      omega
    · rw [getD_set_ne true (fun e => hm e.symm)]
      generalize (if done.getD m true = false then 1 else 0) = z
      by_cases hlt' : i < m
      · rw [if_pos hlt'] at ih
        rw [if_pos (by omega)]
        omega
      · rw [if_neg hlt'] at ih
        rw [if_neg (by omega)]
        omega
theorem cntU_zero {done : Array Bool} : ∀ {m}, cntU done m = 0 → ∀ i, i < m → done.getD i true = true
  | 0, _, i, hi => by omega
  | m + 1, h, i, hi => by
    unfold cntU at h
    by_cases hm : i = m
    · subst hm
      cases hd : done.getD i true with
      | true => rfl
      | false => rw [hd, if_pos rfl] at h; omega
    · exact cntU_zero (m := m) (by omega) i (by omega)
theorem cntU_pos {done : Array Bool} : ∀ {m}, (∀ i, i < m → done.getD i true = true) → cntU done m = 0
  | 0, _ => rfl
  | m + 1, h => by
    unfold cntU
    rw [cntU_pos (fun i hi => h i (by omega)), h m (by omega)]
    rfl
/-- Who is not done, and the first such, may come up. -/
theorem ready_first {done : Array Bool} (hac : ∀ i o, ops[i]? = some o → ∀ e ∈ o.after, Region.binds md e = true → e.on < i) (hsz : ops.size = done.size) : ∀ m, m ≤ ops.size → cntU done m ≠ 0 → Region.ready md ops done ≠ []
  | 0, _, h => absurd rfl h
  | m + 1, hm, h => by
    by_cases h0 : cntU done m = 0
    · have hd : done.getD m true = false := by
        cases hd : done.getD m true with
        | false => rfl
        | true =>
          unfold cntU at h
          rw [h0, hd] at h
          exact absurd rfl h
      have hlt : m < ops.size := by omega
      intro hr
      have : m ∈ Region.ready md ops done := mem_ready.2 ⟨hd, ops[m], by simp [hlt], fun e he hb => by
        have h1 := hac m ops[m] (by simp [hlt]) e he hb
        have h2 := cntU_zero h0 e.on h1
        have h3 : e.on < done.size := by omega
        simpa [Array.getD, h3] using h2⟩
      rw [hr] at this
      cases this
    · exact ready_first hac hsz m (by omega) h0
def upd (xs : Nat → Value) (i : Nat) (v : Value) (j : Nat) : Value := if j = i then v else xs j
/-- What is to be shown of one operation. -/
def stepI (A0 : (Nat → Value) → Act) (Post : Nat → Value → World → Prop) (xs : Nat → Value) (i : Nat) (w : World) : Exit → Act → World → Prop
  | .normal, a', w' => ∃ v, a' = A0 (upd xs i v) ∧ Post i v w' ∧ Below w.heap.size w w'
  | _, _, _ => False
def wpOneI (P : Program) (ops : Array Oper) (A0 : (Nat → Value) → Act) (Post : Nat → Value → World → Prop) (w0 : World) (i : Nat) : Prop :=
  ∃ op, ops[i]? = some op ∧ ∀ xs w, Below w0.heap.size w0 w → (∀ j, Region.waitsFor .any ops i j = true → Post j (xs j) w) → wpList P ops (stepI A0 Post xs i w) [op] (A0 xs) w
def allI (p : Nat → Prop) : Nat → Prop
  | 0 => True
  | n + 1 => allI p n ∧ p n
theorem allI_at {p : Nat → Prop} : ∀ {n}, allI p n → ∀ i, i < n → p i
  | 0, _, i, hi => by omega
  | n + 1, h, i, hi => by
    by_cases e : i = n
    · subst e; exact h.2
    · exact allI_at h.1 i (by omega)
def checkI (ops : Array Oper) (L : Nat) : Bool := (ops.toList.zipIdx.all fun x => x.1.after.all fun e => !Region.binds .any e || decide (e.on < x.2)) && (decide (L = ops.size) || (decide (L + 1 = ops.size) && (List.range L).all fun i => reach .any ops ops.size L i))
theorem check_ac {L : Nat} (h : checkI ops L = true) : ∀ i o, ops[i]? = some o → ∀ e ∈ o.after, Region.binds .any e = true → e.on < i := fun i o ho e he hb => by
  unfold checkI at h
  simp only [Bool.and_eq_true, List.all_eq_true] at h
  have h1 := h.1 (o, i) (by rw [List.mem_zipIdx_iff_getElem?]; simpa using ho)
  have h2 := Array.all_eq_true.1 h1
  obtain ⟨k, hk, rfl⟩ := Array.mem_iff_getElem.1 he
  have h3 := h2 k hk
  rw [hb] at h3
  simpa using h3
/-- All operations below L, whatever order is drawn. -/
theorem wpAny_inv {A0 : (Nat → Value) → Act} {Post : Nat → Value → World → Prop} {w0 : World} {L : Nat} (hchk : checkI ops L = true)
    (mono : ∀ i v w w', Below w.heap.size w w' → Post i v w → Post i v w')
    (step : ∀ i, i < L → wpOneI P ops A0 Post w0 i)
    (fin : L = ops.size → ∀ xs w, Below w0.heap.size w0 w → (∀ j, j < L → Post j (xs j) w) → Q .normal (A0 xs) w)
    (tail : L + 1 = ops.size → ∃ oL, ops[L]? = some oL ∧ ∀ xs w, Below w0.heap.size w0 w → (∀ j, j < L → Post j (xs j) w) → wpList P ops (NoPanic Q) [oL] (A0 xs) w) :
    ∀ (k : Nat) (done : Array Bool) (xs : Nat → Value) (w : World), cntU done ops.size = k → Closed .any ops done → ops.size = done.size → done.getD L false = false → Below w0.heap.size w0 w → (∀ j, j < L → done.getD j false = true → Post j (xs j) w) → (k = 0 → L = ops.size) → wpAny P .any ops (NoPanic Q) k done (A0 xs) w
  | 0, done, xs, w, hk, _, hsz, _, hb, hp, h0 => by
    have hall := cntU_zero hk
    have hL := h0 rfl
    refine ⟨?_, NoPanic.normal (fin hL xs w hb (fun j hj => hp j hj ?_))⟩
    · cases hr : Region.ready .any ops done with
      | nil => rfl
      | cons x l =>
        have hx : x ∈ Region.ready .any ops done := by rw [hr]; exact List.mem_cons_self ..
        obtain ⟨h1, o, ho, _⟩ := mem_ready.1 hx
        rw [hall x (Array.getElem?_eq_some_iff.1 ho).1] at h1
        cases h1
    · have h1 := hall j (by omega)
      have h2 : j < done.size := by omega
      simpa [Array.getD, h2] using h1
  | k + 1, done, xs, w, hk, hcl, hsz, hL, hb, hp, _ => by
    refine ⟨fun hr => absurd hr (ready_first (check_ac hchk) hsz ops.size (Nat.le_refl _) (by omega)), fun i hi => ?_⟩
    obtain ⟨hun, o, ho, hall⟩ := mem_ready.1 hi
    have hin : i < ops.size := (Array.getElem?_eq_some_iff.1 ho).1
    have hcnt := cntU_set hun ops.size
    rw [if_pos hin] at hcnt
    by_cases hiL : i < L
    · obtain ⟨op, hop, hstep⟩ := step i hiL
      obtain rfl : op = o := Option.some.inj (hop.symm.trans ho)
      have hs := hstep xs w hb (fun j hj => by
        obtain ⟨o', ho', e, he, hbb, hei⟩ := Region.waitsFor_spec hj
        obtain rfl : op = o' := Option.some.inj (hop.symm.trans ho')
        have h1 := check_ac hchk i op hop e he hbb
        have h2 := hall e he hbb
        rw [hei] at h1 h2
        exact hp j (by omega) h2)
      have hset : ∀ x, x ≠ i → (done.setIfInBounds i true).getD x false = done.getD x false := fun x hx => getD_set_ne false (fun e => hx e.symm)
      have hK : ∀ (a' : Act) (w' : World), wpList P ops (stepI A0 Post xs i w) [] a' w' → wpAny P .any ops (NoPanic Q) k (done.setIfInBounds i true) a' w' := fun a' w' h => by
        obtain ⟨v, rfl, hpv, hbw⟩ := (h : stepI A0 Post xs i w .normal a' w')
        refine wpAny_inv hchk mono step fin tail k _ (upd xs i v) w' (by omega) (hcl.step hi) (by simpa using hsz) (by rw [hset L (by omega)]; exact hL) (hb.trans (hbw.mono hb.size)) (fun j hj hd => ?_) (fun hk0 => ?_)
        · unfold upd
          by_cases hji : j = i
          · subst hji; rw [if_pos rfl]; exact hpv
          · rw [if_neg hji]
            rw [hset j hji] at hd
            exact mono j _ w w' hbw (hp j hj hd)
        · subst hk0
          rcases Nat.lt_or_ge L ops.size with hlt | hge
          · have h1 := cntU_zero (show cntU (done.setIfInBounds i true) ops.size = 0 by omega) L hlt
            have h2 : L < done.size := by omega
            rw [getD_set_ne true (by omega)] at h1
            simp [Array.getD, h2] at h1 hL
            rw [hL] at h1
            cases h1
          · unfold checkI at hchk
            simp only [Bool.and_eq_true, Bool.or_eq_true, decide_eq_true_eq] at hchk
            rcases hchk.2 with h | h <;> omega
      unfold wpOp
      simp only [hop]
      unfold wpList at hs
      by_cases hw : Region.wanted op (yielded ops (A0 xs).tmps) = true
      · rw [if_pos hw] at hs ⊢
        exact hs.imp (wp_mix hK (fun _ _ _ hpp => hpp.elim) (fun _ _ hpp => hpp.elim)) (fun hx => ⟨hx.1, by
          obtain ⟨a', w', h'⟩ := hx.2
          exact (h' : False).elim⟩)
      · rw [if_neg hw] at hs ⊢
        exact hK _ _ hs
    · have hchk2 := hchk
      unfold checkI at hchk2
      simp only [Bool.and_eq_true, Bool.or_eq_true, decide_eq_true_eq] at hchk2
      have hL1 : L + 1 = ops.size := by
        rcases hchk2.2 with h | h
        · omega
        · exact h.1
      obtain rfl : i = L := by omega
      have hreach : ∀ j, j < i → reach .any ops ops.size i j = true := fun j hj => by
        rcases hchk2.2 with h | h
        · omega
        · exact List.all_eq_true.1 h.2 j (List.mem_range.2 hj)
      have hdone : ∀ j, j < i → done.getD j true = true := fun j hj => closed_reach hcl hsz ops.size i j (ready_all hi) (hreach j hj)
      have hk0 : k = 0 := by
        have h1 := cntU_pos hdone
        have h2 : cntU done ops.size = 1 := by
          rw [← hL1]
          show cntU done i + _ = 1
          rw [h1, hun]
          rfl
        omega
      subst hk0
      obtain ⟨oL, hoL, ht⟩ := tail hL1
      have hs := ht xs w hb (fun j hj => hp j hj (by
        have h1 := hdone j hj
        have h2 : j < done.size := by omega
        simpa [Array.getD, h2] using h1))
      have hend : Region.ready .any ops (done.setIfInBounds i true) = [] := by
        have hz : cntU (done.setIfInBounds i true) ops.size = 0 := by omega
        cases hr : Region.ready .any ops (done.setIfInBounds i true) with
        | nil => rfl
        | cons x l =>
          have hx : x ∈ Region.ready .any ops (done.setIfInBounds i true) := by rw [hr]; exact List.mem_cons_self ..
          obtain ⟨h1, o', ho', _⟩ := mem_ready.1 hx
          rw [cntU_zero hz x (Array.getElem?_eq_some_iff.1 ho').1] at h1
          cases h1
      have hK : ∀ (a' : Act) (w' : World), wpList P ops (NoPanic Q) [] a' w' → wpAny P .any ops (NoPanic Q) 0 (done.setIfInBounds i true) a' w' := fun a' w' h => ⟨hend, h⟩
      unfold wpOp
      simp only [hoL]
      unfold wpList at hs
      by_cases hw : Region.wanted oL (yielded ops (A0 xs).tmps) = true
      · rw [if_pos hw] at hs ⊢
        exact hs.imp (wp_mix hK (fun _ _ _ hpp => hpp) (fun _ _ hpp => hpp)) (fun hx => ⟨hx.1, hx.2⟩)
      · rw [if_neg hw] at hs ⊢
        exact hK _ _ hs
/-- The act with the values in their slots. -/
def fillI : List Oper → Nat → (Nat → Value) → Array Value → Array Value
  | [], _, _, t => t
  | o :: l, i, xs, t => fillI l (i + 1) xs (match o.dst with | some d => t.setIfInBounds d (xs i) | none => t)
def startI : List Oper → Nat → Array Value → Nat → Value
  | [], _, _ => fun _ => undef
  | o :: l, i, t => fun j => if j = i then (match o.dst with | some d => t.getD d undef | none => undef) else startI l (i + 1) t j
theorem set_self (t : Array Value) (d : Nat) : t.setIfInBounds d (t.getD d undef) = t := by
  apply Array.ext_getElem?
  intro i
  by_cases hd : d = i
  · subst hd
    by_cases hlt : d < t.size
    · simp [Array.getD, hlt]
    · simp [hlt]
  · rw [Array.getElem?_setIfInBounds_ne hd]
theorem fill_congr : ∀ (l : List Oper) (i : Nat) (xs ys : Nat → Value) (t : Array Value), (∀ j, i ≤ j → xs j = ys j) → fillI l i xs t = fillI l i ys t
  | [], _, _, _, _, _ => rfl
  | o :: l, i, xs, ys, t, h => by
    unfold fillI
    rw [h i (Nat.le_refl _)]
    exact fill_congr l (i + 1) xs ys _ (fun j hj => h j (by omega))
theorem fill_start : ∀ (l : List Oper) (i : Nat) (t : Array Value), fillI l i (startI l i t) t = t
  | [], _, _ => rfl
  | o :: l, i, t => by
    unfold fillI
    have h0 : startI (o :: l) i t i = (match o.dst with | some d => t.getD d undef | none => undef) := by unfold startI; rw [if_pos rfl]
    have h1 : (match o.dst with | some d => t.setIfInBounds d (startI (o :: l) i t i) | none => t) = t := by
      rw [h0]
      cases o.dst with
      | none => rfl
      | some d => exact set_self t d
    rw [h1]
    refine Eq.trans (fill_congr l (i + 1) _ (startI l (i + 1) t) t (fun j hj => ?_)) (fill_start l (i + 1) t)
    show (if j = i then _ else _) = _
    rw [if_neg (by omega)]
/-- The region: 'step' for each operation below L; then the last one, where there is one that waits for all. -/
theorem region_inv {id : Nat} {a : Act} {w : World} {ls : List Oper} (Post : Nat → Value → World → Prop) (L : Nat) (hm : P.follows .mixedOrders = true) (hchk : checkI ls.toArray L = true)
    (mono : ∀ i v w w', Below w.heap.size w w' → Post i v w → Post i v w')
    (step : allI (wpOneI P ls.toArray (fun xs => { a with tmps := fillI (ls.take L) 0 xs a.tmps }) Post w.drew) L)
    (tail : L + 1 = ls.length → ∃ oL, ls[L]? = some oL ∧ ∀ xs w', Below w.drew.heap.size w.drew w' → (∀ j, j < L → Post j (xs j) w') → wpList P ls.toArray (NoPanic Q) [oL] { a with tmps := fillI (ls.take L) 0 xs a.tmps } w')
    (fin : L = ls.length → ∀ xs w', Below w.drew.heap.size w.drew w' → (∀ j, j < L → Post j (xs j) w') → Q .normal { a with tmps := fillI (ls.take L) 0 xs a.tmps } w') : (Code.region id ls.toArray true).wp P Q a w := by
  refine wp_region_noPanic (wp_region_any hm ?_)
  have hst : a = (fun xs => ({ a with tmps := fillI (ls.take L) 0 xs a.tmps } : Act)) (startI (ls.take L) 0 a.tmps) := by
    show a = { a with tmps := fillI (ls.take L) 0 (startI (ls.take L) 0 a.tmps) a.tmps }
    rw [fill_start]
  have hfalse : ∀ j d, j < ls.toArray.size ∨ d = false → (Array.replicate ls.toArray.size false).getD j d = false := fun j d h => by
    have hz : ∀ n : Nat, (j < n ∨ d = false) → (Array.replicate n false).getD j d = false := fun n h => by
      by_cases hj : j < n
      · simp [Array.getD, hj]
      · rcases h with h | h
        · exact absurd h hj
        · subst h; simp [Array.getD]
    exact hz _ h
  have key := wpAny_inv (Q := Q) (w0 := w.drew) hchk mono (fun i hi => allI_at step i hi) (fun h xs w' h1 h2 => fin (by simpa using h) xs w' h1 h2) (fun h => by
    obtain ⟨oL, h1, h2⟩ := tail (by simpa using h)
    exact ⟨oL, by simpa using h1, h2⟩) (cntU (Array.replicate ls.toArray.size false) ls.toArray.size) (Array.replicate ls.toArray.size false) (startI (ls.take L) 0 a.tmps) w.drew rfl
    (fun j i hj hlt _ => by rw [hfalse j true (.inl (by simpa using hlt))] at hj; cases hj) (by simp) (hfalse L false (.inr rfl)) (Below.refl _ _) (fun j _ hd => by rw [hfalse j false (.inr rfl)] at hd; cases hd) (fun h0 => by
      have hz := cntU_zero h0
      rcases Nat.eq_zero_or_pos ls.toArray.size with h | h
      · unfold checkI at hchk
        simp only [Bool.and_eq_true, Bool.or_eq_true, decide_eq_true_eq] at hchk
        rcases hchk.2 with h' | h'
        · exact h'
        · omega
      · have := hz 0 h
        rw [hfalse 0 true (.inl h)] at this
        cases this)
  have hcnt : ∀ m, m ≤ ls.toArray.size → cntU (Array.replicate ls.toArray.size false) m = m := by
    intro m
    induction m with
    | zero => intro _; rfl
    | succ m ih =>
      intro hm'
      unfold cntU
      rw [ih (by omega), hfalse m true (.inl (by omega))]
      rfl
  rw [hcnt _ (Nat.le_refl _)] at key
  rw [hst]
  exact key
theorem region_inv_all {id : Nat} {a : Act} {w : World} {ls : List Oper} (Post : Nat → Value → World → Prop) (L : Nat) (hL : (L == ls.length) = true) (hm : P.follows .mixedOrders = true) (hchk : checkI ls.toArray L = true)
    (mono : ∀ i v w w', Below w.heap.size w w' → Post i v w → Post i v w')
    (step : allI (wpOneI P ls.toArray (fun xs => { a with tmps := fillI (ls.take L) 0 xs a.tmps }) Post w.drew) L)
    (fin : ∀ xs w', Below w.drew.heap.size w.drew w' → (∀ j, j < L → Post j (xs j) w') → Q .normal { a with tmps := fillI (ls.take L) 0 xs a.tmps } w') : (Code.region id ls.toArray true).wp P Q a w :=
  region_inv Post L hm hchk mono step (fun h => by have := eq_of_beq hL; omega) (fun _ => fin)
theorem region_inv_tail {id : Nat} {a : Act} {w : World} {ls : List Oper} {oL : Oper} (Post : Nat → Value → World → Prop) (L : Nat) (hL : (L + 1 == ls.length) = true) (hm : P.follows .mixedOrders = true) (hchk : checkI ls.toArray L = true) (ho : ls[L]? = some oL)
    (mono : ∀ i v w w', Below w.heap.size w w' → Post i v w → Post i v w')
    (step : allI (wpOneI P ls.toArray (fun xs => { a with tmps := fillI (ls.take L) 0 xs a.tmps }) Post w.drew) L)
    (tail : ∀ xs w', Below w.drew.heap.size w.drew w' → (∀ j, j < L → Post j (xs j) w') → wpList P ls.toArray (NoPanic Q) [oL] { a with tmps := fillI (ls.take L) 0 xs a.tmps } w') : (Code.region id ls.toArray true).wp P Q a w :=
  region_inv Post L hm hchk mono step (fun _ => ⟨oL, ho, tail⟩) (fun h => by have := eq_of_beq hL; omega)
theorem undrew {w W : World} (h : Below w.drew.heap.size w.drew W) : Below w.heap.size w W := ⟨h.os, h.tape, h.output, h.size, h.block⟩
theorem upd_self {xs : Nat → Value} {i : Nat} {v : Value} (h : xs i = v) : xs = upd xs i v := by
  funext j
  unfold upd
  split
  · rename_i e; rw [e]; exact h
  · rfl
end Go.Proofs.YtnkjoambhmlnbaaGreatDoor.Aid
namespace Go.Proofs.YtnkjoambhmlnbaaGreatDoor.Aid
open Go Go.RowKit
variable {P : Program} {ls : List Oper} {md : Region.Mode} {S : World → Prop} {Q : Exit → Act → World → Prop} {n i j : Nat} {listed : Array Bool} {op op' : Oper} {a : Act} {w : World}

theorem region_h {id : Nat} (S : World → Prop) (n : Nat) (hm : P.follows .mixedOrders = true) (hn : ls.toArray.size = n) (h : wpAnyH P .any ls.toArray (NoPanic Q) S n (Array.replicate n false) a w.drew) : (Code.region id ls.toArray true).wp P Q a w := by
  subst hn
  exact wp_region_noPanic (wp_region_held hm (S := S) h)
/-- What yields v in every world of the class is taken first. -/
theorem f_take (i : Nat) (hi : ls[i]? = some op) (hB : (Region.noSelect ls.toArray && (Region.free md ls.toArray listed i && (Region.ready md ls.toArray listed).contains i)) = true)
    (hw : Region.wanted op (yielded ls.toArray a.tmps) = true) (v : Value) (hv : ∀ w, S w → (execOp a.eval op).run P w = .ok (.value v) w) (hS : S w)
    (h : wpAnyH P md ls.toArray (NoPanic Q) S n (listed.setIfInBounds i true) (a.put op.dst v) w) : wpAnyH P md ls.toArray (NoPanic Q) S (n + 1) listed a w := by
  simp only [Bool.and_eq_true] at hB
  exact wpAnyH_take (by simpa using hi) hB.1 hB.2.1 hB.2.2 (fun c a w hc => hc) (.inl ⟨hw, hv⟩) hS h
theorem f_load (i : Nat) (hi : ls[i]? = some op) (hB : (Region.noSelect ls.toArray && (Region.free md ls.toArray listed i && (Region.ready md ls.toArray listed).contains i)) = true)
    (hw : Region.wanted op (yielded ls.toArray a.tmps) = true) (ty : TypeId) (x : Operand) (ho : op.op = .load ty x) (g o t N m : Nat) (f : Nat → Value) (hr : ∀ w, S w → w.rowIs g t N f)
    (hx : a.eval x = .pointer (some ⟨g, o, none⟩)) (d : TypeDesc) (hu : P.underlying ty = some d) (hd : d.isRow = true) (hi' : (P.info? ty).map (·.size) = some m) (hm : o + m ≤ N) (hS : S w)
    (h : wpAnyH P md ls.toArray (NoPanic Q) S n (listed.setIfInBounds i true) (a.put op.dst (.agg (cellsOf m fun j => f (o + j)))) w) : wpAnyH P md ls.toArray (NoPanic Q) S (n + 1) listed a w :=
  f_take i hi hB hw _ (fun w hC => by
    unfold execOp
    simp only [ho, hx, Instr.loadAt, Instr.sureAddr, Sem.run_bind, Sem.run_pure, Result.andThen_ok, run_loadVar_mid w g o ty _ d (row_range (hr w hC) o m hm) hu hd (by simpa using hi')]
    rfl) hS h
theorem op_go (hi : ls[i]? = some op) (h : wpList P ls.toArray (mixPost (NoPanic Q) S (wpAnyH P md ls.toArray (NoPanic Q) S n (listed.setIfInBounds i true))) [op] a w) :
    wpOp P ls.toArray (NoPanic Q) i (fun a' w' => S w' ∧ wpAnyH P md ls.toArray (NoPanic Q) S n (listed.setIfInBounds i true) a' w') a w := by
  have hi' : ls.toArray[i]? = some op := by simpa using hi
  unfold wpOp
  simp only [hi']
  unfold wpList at h
  have hK : ∀ (a' : Act) (w' : World), wpList P ls.toArray (mixPost (NoPanic Q) S (wpAnyH P md ls.toArray (NoPanic Q) S n (listed.setIfInBounds i true))) [] a' w' → S w' ∧ wpAnyH P md ls.toArray (NoPanic Q) S n (listed.setIfInBounds i true) a' w' := fun a' w' h' => h'
  by_cases hw : Region.wanted op (yielded ls.toArray a.tmps) = true
  · rw [if_pos hw] at h ⊢
    exact h.imp (wp_mix hK (fun _ _ _ hp => hp) (fun _ _ hp => hp)) (fun hx => ⟨hx.1, hx.2⟩)
  · rw [if_neg hw] at h ⊢
    exact hK _ _ h
/-- It comes up alone. -/
theorem f_go (i : Nat) (hi : ls[i]? = some op) (hB : decide (Region.ready md ls.toArray listed = [i]) = true)
    (h : wpList P ls.toArray (mixPost (NoPanic Q) S (wpAnyH P md ls.toArray (NoPanic Q) S n (listed.setIfInBounds i true))) [op] a w) : wpAnyH P md ls.toArray (NoPanic Q) S (n + 1) listed a w := by
  refine wpAnyH_all (of_decide_eq_true hB) (by simp) (fun k hk => ?_)
  obtain rfl : k = i := by simpa using hk
  exact op_go hi h
/-- Either may come up. -/
theorem f_two (i j : Nat) (hi : ls[i]? = some op) (hj : ls[j]? = some op') (hB : decide (Region.ready md ls.toArray listed = [i, j]) = true)
    (h : wpList P ls.toArray (mixPost (NoPanic Q) S (wpAnyH P md ls.toArray (NoPanic Q) S n (listed.setIfInBounds i true))) [op] a w)
    (h' : wpList P ls.toArray (mixPost (NoPanic Q) S (wpAnyH P md ls.toArray (NoPanic Q) S n (listed.setIfInBounds j true))) [op'] a w) : wpAnyH P md ls.toArray (NoPanic Q) S (n + 1) listed a w := by
  refine wpAnyH_all (of_decide_eq_true hB) (by simp) (fun k hk => ?_)
  simp only [List.mem_cons, List.not_mem_nil, or_false] at hk
  rcases hk with rfl | rfl
  · exact op_go hi h
  · exact op_go hj h'
theorem f_end (hB : decide (Region.ready md ls.toArray listed = []) = true) (h : Q .normal a w) : wpAnyH P md ls.toArray (NoPanic Q) S n listed a w := wpAnyH_done (of_decide_eq_true hB) (NoPanic.normal h) n
end Go.Proofs.YtnkjoambhmlnbaaGreatDoor.Aid
