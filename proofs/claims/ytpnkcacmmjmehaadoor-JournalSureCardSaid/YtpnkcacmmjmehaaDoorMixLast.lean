/-
  A region that draws its order and ends in a store that waits for all else: walked once by a plan, the class of worlds need not hold behind that store.
-/
import Derived.Test.YtpnkcacmmjmehaaDoorMix
import Derived.StillTail
namespace Go.Proofs.YtpnkcacmmjmehaaDoor.Aid
open Go Go.RowKit
variable {P : Program} {ops : Array Oper} {md : Region.Mode} {S : World → Prop} {Q : Exit → Act → World → Prop} {L : Nat}

/-- Whatever comes up, until all is done; the world is of the class behind each operation but L. -/
def anyE (P : Program) (md : Region.Mode) (ops : Array Oper) (Q : Exit → Act → World → Prop) (S : World → Prop) (L : Nat) : Nat → Array Bool → Act → World → Prop
  | 0, done, a, w => Region.ready md ops done = [] ∧ Q .normal a w
  | k + 1, done, a, w => (Region.ready md ops done = [] → Q .normal a w) ∧
      ∀ j, j ∈ Region.ready md ops done → wpOp P ops Q j (fun a' w' => (j = L ∨ S w') ∧ anyE P md ops Q S L k (done.setIfInBounds j true) a' w') a w
theorem any_of_anyE : ∀ (k : Nat) (done : Array Bool) (a : Act) (w : World), anyE P md ops Q S L k done a w → wpAny P md ops Q k done a w
  | 0, _, _, _, h => h
  | k + 1, _, _, _, h => ⟨h.1, fun j hj => wpOp_mono (fun a' w' h' => any_of_anyE k _ a' w' h'.2) (h.2 j hj)⟩
/-- Who waits for one that has not come up may not come up. -/
theorem not_ready {i : Nat} {done : Array Bool} (hw : Region.waitsFor md ops L i = true) (hi : i ∈ Region.ready md ops done) : L ∉ Region.ready md ops done := fun hL => by
  obtain ⟨oL, hoL, e, he, hb, hei⟩ := Region.waitsFor_spec hw
  obtain ⟨_, o', ho', hall⟩ := mem_ready.1 hL
  rw [hoL] at ho'
  cases ho'
  have h1 := hall e he hb
  rw [hei, getD_both (mem_ready.1 hi).1] at h1
  cases h1
theorem anyE_ahead {i : Nat} {oi : Oper} {v : Value} (hi : ops[i]? = some oi) (hs : Region.noSelect ops = true) (hw : Region.waitsFor md ops L i = true) (hQ : ∀ c a w, ¬ Q (.panic c) a w) :
    ∀ (k : Nat) (done : Array Bool) (a : Act) (w : World),
      (∀ j oj, ops[j]? = some oj → j ≠ i → done.getD j true = false → (∀ e ∈ oj.after, Region.binds md e = true → e.on ≠ i) → oi.apart ops oj = true) →
      i ∈ Region.ready md ops done → YieldsIf P ops S oi v a → S w → anyE P md ops Q S L k (done.setIfInBounds i true) (a.put oi.dst v) w → anyE P md ops Q S L (k + 1) done a w := by
  intro k
  induction k with
  | zero =>
    intro done a w _ hr hy hS H
    refine ⟨fun h => (by rw [h] at hr; cases hr), fun j hj => ?_⟩
    by_cases e : j = i
    · subst e
      exact hy.wpOp hi hS ⟨.inr hS, H⟩
    · have := ready_mono hj e
      rw [H.1] at this
      cases this
  | succ k ih =>
    intro done a w hf hr hy hS H
    refine ⟨fun h => (by rw [h] at hr; cases hr), fun j hj => ?_⟩
    by_cases e : j = i
    · subst e
      exact hy.wpOp hi hS ⟨.inr hS, H⟩
    · obtain ⟨hun, oj, hoj, hall⟩ := mem_ready.1 hj
      have hno : ∀ x ∈ oj.after, Region.binds md x = true → x.on ≠ i := fun x hx hb hxi => by
        have h1 := hall x hx hb
        rw [hxi, getD_both (mem_ready.1 hr).1] at h1
        cases h1
      have hjL : j ≠ L := fun h => not_ready hw hr (h ▸ hj)
      have step := wpOp_putIf hoj (hf j oj hoj e hun hno) (fun cs b => Region.noSelect_spec hs i oi cs b hi) (fun cs b => Region.noSelect_spec hs j oj cs b hoj) (fun c a' w' h' => absurd h' (hQ _ _ _)) hy (H.2 j (ready_mono hj e))
      refine wpOp_mono (fun a' w' h' => ?_) step
      obtain ⟨hy', hS', H'⟩ := h'
      have hSw : S w' := hS'.resolve_left hjL
      refine ⟨.inr hSw, ih _ a' w' (fun m om hom hmi hmu hmn => hf m om hom hmi ?_ hmn) (ready_mono hr (fun h => e h.symm)) hy' hSw (by rw [Array.setIfInBounds_comm _ _ e]; exact H')⟩
      by_cases hjm : j = m
      · subst hjm; exact hun
      · rwa [getD_set_ne true hjm] at hmu

/-- The plan's check; L comes last, and all wait for nobody behind it. -/
def planE (md : Region.Mode) (ops : Array Oper) (L : Nat) : List (Nat × Bool) → Array Bool → Bool
  | [], done => decide (Region.ready md ops done = [L]) && (Region.ready md ops (done.setIfInBounds L true)).isEmpty
  | (i, true) :: l, done => decide (i < ops.size) && Region.waitsFor md ops L i && Region.free md ops done i && (Region.ready md ops done).contains i && planE md ops L l (done.setIfInBounds i true)
  | (i, false) :: l, done => decide (i < ops.size) && decide (i ≠ L) && decide (Region.ready md ops done = [i]) && planE md ops L l (done.setIfInBounds i true)
theorem anyE_of_plan {oL : Oper} (hL : ops[L]? = some oL) (hs : Region.noSelect ops = true) : ∀ (l : List (Nat × Bool)) (done : Array Bool) (a : Act) (w : World), planE md ops L l done = true → S w →
    wpMix P ops (NoPanic fun e a w => match e with | .normal => wpList P ops (NoPanic Q) [oL] a w | e => NoPanic Q e a w) S l a w → anyE P md ops (NoPanic Q) S L (l.length + 1) done a w
  | [], done, a, w, hB, hS, h => by
    simp only [planE, Bool.and_eq_true, decide_eq_true_eq] at hB
    refine ⟨fun h0 => (by rw [hB.1] at h0; cases h0), fun j hj => ?_⟩
    rw [hB.1] at hj
    obtain rfl : j = L := by simpa using hj
    have h' : wpList P ops (NoPanic Q) [oL] a w := h
    unfold wpOp
    simp only [hL]
    unfold wpList at h'
    have hK : ∀ (a' : Act) (w' : World), wpList P ops (NoPanic Q) [] a' w' → (True ∨ S w') ∧ anyE P md ops (NoPanic Q) S j 0 (done.setIfInBounds j true) a' w' := fun a' w' h2 => ⟨.inl trivial, by simpa using hB.2, h2⟩
    by_cases hw : Region.wanted oL (yielded ops a.tmps) = true
    · rw [if_pos hw] at h' ⊢
      exact h'.imp (wp_mix hK (fun _ _ _ hp => hp) (fun _ _ hp => hp)) (fun hx => ⟨hx.1, hx.2⟩)
    · rw [if_neg hw] at h' ⊢
      exact hK _ _ h'
  | (i, true) :: l, done, a, w, hB, hS, h => by
    simp only [planE, Bool.and_eq_true, decide_eq_true_eq] at hB
    obtain ⟨op, v, hi, hy, h⟩ := h
    refine anyE_ahead hi hs hB.1.1.1.2 (fun c a w hc => hc) _ done a w (Region.free_spec hi hB.1.1.2) (by simpa using hB.1.2) hy hS (anyE_of_plan hL hs l _ _ w hB.2 hS h)
  | (i, false) :: l, done, a, w, hB, hS, h => by
    simp only [planE, Bool.and_eq_true, decide_eq_true_eq] at hB
    obtain ⟨op, hi, h⟩ := h
    refine ⟨fun h0 => (by rw [hB.1.2] at h0; cases h0), fun j hj => ?_⟩
    rw [hB.1.2] at hj
    obtain rfl : j = i := by simpa using hj
    unfold wpOp
    simp only [hi]
    unfold wpList at h
    have hK := fun (a' : Act) (w' : World) (h2 : wpList P ops (mixPost (NoPanic fun e a w => match e with | .normal => wpList P ops (NoPanic Q) [oL] a w | e => NoPanic Q e a w) S (wpMix P ops (NoPanic fun e a w => match e with | .normal => wpList P ops (NoPanic Q) [oL] a w | e => NoPanic Q e a w) S l)) [] a' w') =>
      (show (j = L ∨ S w') ∧ anyE P md ops (NoPanic Q) S L (l.length + 1) (done.setIfInBounds j true) a' w' from ⟨.inr h2.1, anyE_of_plan hL hs l _ a' w' hB.2 h2.1 h2.2⟩)
    by_cases hw : Region.wanted op (yielded ops a.tmps) = true
    · rw [if_pos hw] at h ⊢
      exact h.imp (wp_mix hK (fun _ _ _ hp => hp.elim) (fun _ _ hp => hp)) (fun hx => ⟨hx.1, hx.2⟩)
    · rw [if_neg hw] at h ⊢
      exact hK _ _ h
/-- The region, by a plan of all operations but L, which waits for them all. -/
theorem region_mix_last {id : Nat} {a : Act} {w : World} {ls : List Oper} {oL : Oper} (S : World → Prop) (L : Nat) (plan : List (Nat × Bool)) (hm : P.follows .mixedOrders = true) (hL : ls.toArray[L]? = some oL)
    (hB : (Region.noSelect ls.toArray && decide (ls.toArray.size = plan.length + 1) && planE .any ls.toArray L plan (Array.replicate ls.toArray.size false)) = true) (hS : S w.drew)
    (h : wpMix P ls.toArray (NoPanic fun e a w => match e with | .normal => wpList P ls.toArray (NoPanic Q) [oL] a w | e => NoPanic Q e a w) S plan a w.drew) : (Code.region id ls.toArray true).wp P Q a w := by
  simp only [Bool.and_eq_true, decide_eq_true_eq] at hB
  refine wp_region_noPanic (wp_region_any hm (any_of_anyE (S := S) (L := L) _ _ _ _ ?_))
  rw [hB.1.2]
  exact anyE_of_plan hL hB.1.1 plan _ a _ (by rw [← hB.1.2]; exact hB.2) hS h
/-! ### The same by hand, step by step, where two may come up. -/
section
variable {ls : List Oper} {done : Array Bool} {op op' oL : Oper} {a : Act} {w : World} {n : Nat}
theorem region_e {id : Nat} (S : World → Prop) (L n : Nat) (hm : P.follows .mixedOrders = true) (hn : ls.toArray.size = n) (h : anyE P .any ls.toArray (NoPanic Q) S L n (Array.replicate n false) a w.drew) : (Code.region id ls.toArray true).wp P Q a w := by
  subst hn
  exact wp_region_noPanic (wp_region_any hm (any_of_anyE _ _ _ _ h))
theorem e_take (i : Nat) (hi : ls[i]? = some op) (hB : (Region.noSelect ls.toArray && (Region.waitsFor md ls.toArray L i && (Region.free md ls.toArray done i && (Region.ready md ls.toArray done).contains i))) = true)
    (hw : Region.wanted op (yielded ls.toArray a.tmps) = true) (v : Value) (hv : ∀ w, S w → (execOp a.eval op).run P w = .ok (.value v) w) (hS : S w)
    (h : anyE P md ls.toArray (NoPanic Q) S L n (done.setIfInBounds i true) (a.put op.dst v) w) : anyE P md ls.toArray (NoPanic Q) S L (n + 1) done a w := by
  simp only [Bool.and_eq_true] at hB
  have hi' : ls.toArray[i]? = some op := by simpa using hi
  exact anyE_ahead hi' hB.1 hB.2.1 (fun c a w hc => hc) n done a w (Region.free_spec hi' hB.2.2.1) (by simpa using hB.2.2.2) (.inl ⟨hw, hv⟩) hS h
theorem e_op {i : Nat} (hi : ls[i]? = some op) (h : wpList P ls.toArray (mixPost (NoPanic Q) S (anyE P md ls.toArray (NoPanic Q) S L n (done.setIfInBounds i true))) [op] a w) :
    wpOp P ls.toArray (NoPanic Q) i (fun a' w' => (i = L ∨ S w') ∧ anyE P md ls.toArray (NoPanic Q) S L n (done.setIfInBounds i true) a' w') a w := by
  have hi' : ls.toArray[i]? = some op := by simpa using hi
  unfold wpOp
  simp only [hi']
  unfold wpList at h
  have hK : ∀ (a' : Act) (w' : World), wpList P ls.toArray (mixPost (NoPanic Q) S (anyE P md ls.toArray (NoPanic Q) S L n (done.setIfInBounds i true))) [] a' w' → (i = L ∨ S w') ∧ anyE P md ls.toArray (NoPanic Q) S L n (done.setIfInBounds i true) a' w' := fun a' w' h' => ⟨.inr h'.1, h'.2⟩
  by_cases hw : Region.wanted op (yielded ls.toArray a.tmps) = true
  · rw [if_pos hw] at h ⊢
    exact h.imp (wp_mix hK (fun _ _ _ hp => hp) (fun _ _ hp => hp)) (fun hx => ⟨hx.1, hx.2⟩)
  · rw [if_neg hw] at h ⊢
    exact hK _ _ h
/-- It comes up alone. -/
theorem e_go (i : Nat) (hi : ls[i]? = some op) (hB : decide (Region.ready md ls.toArray done = [i]) = true)
    (h : wpList P ls.toArray (mixPost (NoPanic Q) S (anyE P md ls.toArray (NoPanic Q) S L n (done.setIfInBounds i true))) [op] a w) : anyE P md ls.toArray (NoPanic Q) S L (n + 1) done a w := by
  have hr := of_decide_eq_true hB
  refine ⟨fun h0 => (by rw [hr] at h0; cases h0), fun k hk => ?_⟩
  rw [hr] at hk
  obtain rfl : k = i := by simpa using hk
  exact e_op hi h
/-- Either may come up. -/
theorem e_two (i j : Nat) (hi : ls[i]? = some op) (hj : ls[j]? = some op') (hB : decide (Region.ready md ls.toArray done = [i, j]) = true)
    (h : wpList P ls.toArray (mixPost (NoPanic Q) S (anyE P md ls.toArray (NoPanic Q) S L n (done.setIfInBounds i true))) [op] a w)
    (h' : wpList P ls.toArray (mixPost (NoPanic Q) S (anyE P md ls.toArray (NoPanic Q) S L n (done.setIfInBounds j true))) [op'] a w) : anyE P md ls.toArray (NoPanic Q) S L (n + 1) done a w := by
  have hr := of_decide_eq_true hB
  refine ⟨fun h0 => (by rw [hr] at h0; cases h0), fun k hk => ?_⟩
  rw [hr] at hk
  simp only [List.mem_cons, List.not_mem_nil, or_false] at hk
  rcases hk with rfl | rfl
  · exact e_op hi h
  · exact e_op hj h'
/-- The last one. -/
theorem e_last (hL : ls[L]? = some oL) (hB : (decide (Region.ready md ls.toArray done = [L]) && (Region.ready md ls.toArray (done.setIfInBounds L true)).isEmpty) = true) (h : wpList P ls.toArray (NoPanic Q) [oL] a w) : anyE P md ls.toArray (NoPanic Q) S L 1 done a w := by
  simp only [Bool.and_eq_true, decide_eq_true_eq] at hB
  have hL' : ls.toArray[L]? = some oL := by simpa using hL
  refine ⟨fun h0 => (by rw [hB.1] at h0; cases h0), fun j hj => ?_⟩
  rw [hB.1] at hj
  obtain rfl : j = L := by simpa using hj
  unfold wpOp
  simp only [hL']
  unfold wpList at h
  have hK : ∀ (a' : Act) (w' : World), wpList P ls.toArray (NoPanic Q) [] a' w' → (True ∨ S w') ∧ anyE P md ls.toArray (NoPanic Q) S j 0 (done.setIfInBounds j true) a' w' := fun a' w' h2 => ⟨.inl trivial, by simpa using hB.2, h2⟩
  by_cases hw : Region.wanted oL (yielded ls.toArray a.tmps) = true
  · rw [if_pos hw] at h ⊢
    exact h.imp (wp_mix hK (fun _ _ _ hp => hp) (fun _ _ hp => hp)) (fun hx => ⟨hx.1, hx.2⟩)
  · rw [if_neg hw] at h ⊢
    exact hK _ _ h
end
end Go.Proofs.YtpnkcacmmjmehaaDoor.Aid
