/-
  A region that draws its order and ends in an operation that waits for all else, by others too (a call whose arguments are all that the others make): walked once by a plan, the class of worlds need not hold behind that operation.
-/
import Derived.Test.YtpnkcacmmjmehaaDoorMixLast
namespace Go.Proofs.YtpnkcacmmjmehaaDoor.Aid
open Go Go.RowKit
variable {P : Program} {ops : Array Oper} {md : Region.Mode} {S : World → Prop} {Q : Exit → Act → World → Prop} {L : Nat}

/-- What is done waits for nothing that is not. -/
def Closed (md : Region.Mode) (ops : Array Oper) (done : Array Bool) : Prop := ∀ j i, done.getD j true = true → j < done.size → Region.waitsFor md ops j i = true → done.getD i true = true
def reach (md : Region.Mode) (ops : Array Oper) : Nat → Nat → Nat → Bool
  | 0, _, _ => false
  | k + 1, j, i => Region.waitsFor md ops j i || (List.range ops.size).any fun m => Region.waitsFor md ops j m && reach md ops k m i
theorem closed_reach {done : Array Bool} (hc : Closed md ops done) (hsz : ops.size = done.size) : ∀ (k j i : Nat), (∀ m, Region.waitsFor md ops j m = true → done.getD m true = true) → reach md ops k j i = true → done.getD i true = true
  | 0, _, _, _, h => by cases h
  | k + 1, j, i, hj, h => by
    simp only [reach, Bool.or_eq_true, List.any_eq_true, List.mem_range, Bool.and_eq_true] at h
    rcases h with h | ⟨m, hm, h1, h2⟩
    · exact hj i h
    · exact closed_reach hc hsz k m i (fun x hx => hc m x (hj m h1) (by omega) hx) h2
theorem ready_all {j : Nat} {done : Array Bool} (hj : j ∈ Region.ready md ops done) : ∀ m, Region.waitsFor md ops j m = true → done.getD m true = true := fun m hm => by
  obtain ⟨oj, hoj, e, he, hb, hei⟩ := Region.waitsFor_spec hm
  obtain ⟨_, o', ho', hall⟩ := mem_ready.1 hj
  rw [hoj] at ho'
  cases ho'
  have := hall e he hb
  rw [hei] at this
  by_cases hlt : m < done.size
  · simpa [Array.getD, hlt] using this
  · simp [Array.getD, hlt]
theorem Closed.step {j : Nat} {done : Array Bool} (hc : Closed md ops done) (hj : j ∈ Region.ready md ops done) : Closed md ops (done.setIfInBounds j true) := fun k i hk hlt hw => by
  have hs : ∀ x, done.getD x true = true → (done.setIfInBounds j true).getD x true = true := fun x hx => by
    by_cases hxj : x = j
    · subst hxj
      by_cases hlt' : x < done.size
      · simp [Array.getD, hlt']
      · simp [Array.getD, hlt']
    · rw [getD_set_ne true (fun h => hxj h.symm)]; exact hx
  by_cases hkj : k = j
  · subst hkj
    exact hs i (ready_all hj i hw)
  · rw [getD_set_ne true (fun h => hkj h.symm)] at hk
    exact hs i (hc k i hk (by simpa using hlt) hw)
theorem not_ready' {i f : Nat} {done : Array Bool} (hc : Closed md ops done) (hsz : ops.size = done.size) (hw : reach md ops f L i = true) (hi : i ∈ Region.ready md ops done) : L ∉ Region.ready md ops done := fun hL => by
  have h1 := closed_reach hc hsz f L i (ready_all hL) hw
  have h2 := (mem_ready.1 hi).1
  rw [h1] at h2
  cases h2
theorem anyE_ahead' {i f : Nat} {oi : Oper} {v : Value} (hi : ops[i]? = some oi) (hs : Region.noSelect ops = true) (hw : reach md ops f L i = true) (hQ : ∀ c a w, ¬ Q (.panic c) a w) :
    ∀ (k : Nat) (done : Array Bool) (a : Act) (w : World), Closed md ops done → ops.size = done.size →
      (∀ j oj, ops[j]? = some oj → j ≠ i → done.getD j true = false → (∀ e ∈ oj.after, Region.binds md e = true → e.on ≠ i) → oi.apart ops oj = true) →
      i ∈ Region.ready md ops done → YieldsIf P ops S oi v a → S w → anyE P md ops Q S L k (done.setIfInBounds i true) (a.put oi.dst v) w → anyE P md ops Q S L (k + 1) done a w := by
  intro k
  induction k with
  | zero =>
    intro done a w _ _ _ hr hy hS H
    refine ⟨fun h => (by rw [h] at hr; cases hr), fun j hj => ?_⟩
    by_cases e : j = i
    · subst e
      exact hy.wpOp hi hS ⟨.inr hS, H⟩
    · have := ready_mono hj e
      rw [H.1] at this
      cases this
  | succ k ih =>
    intro done a w hcl hsz hf hr hy hS H
    refine ⟨fun h => (by rw [h] at hr; cases hr), fun j hj => ?_⟩
    by_cases e : j = i
    · subst e
      exact hy.wpOp hi hS ⟨.inr hS, H⟩
    · obtain ⟨hun, oj, hoj, hall⟩ := mem_ready.1 hj
      have hno : ∀ x ∈ oj.after, Region.binds md x = true → x.on ≠ i := fun x hx hb hxi => by
        have h1 := hall x hx hb
        rw [hxi, getD_both (mem_ready.1 hr).1] at h1
        cases h1
      have hjL : j ≠ L := fun h => not_ready' hcl hsz hw hr (h ▸ hj)
      have step := wpOp_putIf hoj (hf j oj hoj e hun hno) (fun cs b => Region.noSelect_spec hs i oi cs b hi) (fun cs b => Region.noSelect_spec hs j oj cs b hoj) (fun c a' w' h' => absurd h' (hQ _ _ _)) hy (H.2 j (ready_mono hj e))
      refine wpOp_mono (fun a' w' h' => ?_) step
      obtain ⟨hy', hS', H'⟩ := h'
      have hSw : S w' := hS'.resolve_left hjL
      refine ⟨.inr hSw, ih _ a' w' (hcl.step hj) (by simpa using hsz) (fun m om hom hmi hmu hmn => hf m om hom hmi ?_ hmn) (ready_mono hr (fun h => e h.symm)) hy' hSw (by rw [Array.setIfInBounds_comm _ _ e]; exact H')⟩
      by_cases hjm : j = m
      · subst hjm; exact hun
      · rwa [getD_set_ne true hjm] at hmu
/-- The plan's check; L comes last, and waits for all, by others too. -/
def planT (md : Region.Mode) (ops : Array Oper) (L : Nat) : List (Nat × Bool) → Array Bool → Bool
  | [], done => decide (Region.ready md ops done = [L]) && (Region.ready md ops (done.setIfInBounds L true)).isEmpty
  | (i, true) :: l, done => decide (i < ops.size) && reach md ops ops.size L i && Region.free md ops done i && (Region.ready md ops done).contains i && planT md ops L l (done.setIfInBounds i true)
  | (i, false) :: l, done => decide (i < ops.size) && decide (i ≠ L) && decide (Region.ready md ops done = [i]) && planT md ops L l (done.setIfInBounds i true)
theorem anyE_of_planT {oL : Oper} (hL : ops[L]? = some oL) (hs : Region.noSelect ops = true) : ∀ (l : List (Nat × Bool)) (done : Array Bool) (a : Act) (w : World), Closed md ops done → ops.size = done.size → planT md ops L l done = true → S w →
    wpMix P ops (NoPanic fun e a w => match e with | .normal => wpList P ops (NoPanic Q) [oL] a w | e => NoPanic Q e a w) S l a w → anyE P md ops (NoPanic Q) S L (l.length + 1) done a w
  | [], done, a, w, _, _, hB, hS, h => by
    simp only [planT, Bool.and_eq_true, decide_eq_true_eq] at hB
    refine ⟨fun h0 => (by rw [hB.1] at h0; cases h0), fun j hj => ?_⟩
    rw [hB.1] at hj
    obtain rfl : j = L := by simpa using hj
    have h' : wpList P ops (NoPanic Q) [oL] a w := h
    unfold wpOp
    simp only [hL]
    unfold wpList at h'
    have hK : ∀ (a' : Act) (w' : World), wpList P ops (NoPanic Q) [] a' w' → (True ∨ S w') ∧ anyE P md ops (NoPanic Q) S j 0 (done.setIfInBounds j true) a' w' := fun a' w' h2 => ⟨.inl trivial, by simpa using hB.2, h2⟩
    by_cases hw : Region.wanted oL (yielded ops a.tmps) = true
    · rw [if_pos hw] at h' ⊢
      exact h'.imp (wp_mix hK (fun _ _ _ hp => hp) (fun _ _ hp => hp)) (fun hx => ⟨hx.1, hx.2⟩)
    · rw [if_neg hw] at h' ⊢
      exact hK _ _ h'
  | (i, true) :: l, done, a, w, hcl, hsz, hB, hS, h => by
    simp only [planT, Bool.and_eq_true, decide_eq_true_eq] at hB
    obtain ⟨op, v, hi, hy, h⟩ := h
    have hr : i ∈ Region.ready md ops done := by simpa using hB.1.2
    refine anyE_ahead' hi hs hB.1.1.1.2 (fun c a w hc => hc) _ done a w hcl hsz (Region.free_spec hi hB.1.1.2) hr hy hS (anyE_of_planT hL hs l _ _ w (hcl.step hr) (by simpa using hsz) hB.2 hS h)
  | (i, false) :: l, done, a, w, hcl, hsz, hB, hS, h => by
    simp only [planT, Bool.and_eq_true, decide_eq_true_eq] at hB
    obtain ⟨op, hi, h⟩ := h
    have hr : i ∈ Region.ready md ops done := by rw [hB.1.2]; simp
    refine ⟨fun h0 => (by rw [hB.1.2] at h0; cases h0), fun j hj => ?_⟩
    rw [hB.1.2] at hj
    obtain rfl : j = i := by simpa using hj
    unfold wpOp
    simp only [hi]
    unfold wpList at h
    have hK := fun (a' : Act) (w' : World) (h2 : wpList P ops (mixPost (NoPanic fun e a w => match e with | .normal => wpList P ops (NoPanic Q) [oL] a w | e => NoPanic Q e a w) S (wpMix P ops (NoPanic fun e a w => match e with | .normal => wpList P ops (NoPanic Q) [oL] a w | e => NoPanic Q e a w) S l)) [] a' w') =>
      (show (j = L ∨ S w') ∧ anyE P md ops (NoPanic Q) S L (l.length + 1) (done.setIfInBounds j true) a' w' from ⟨.inr h2.1, anyE_of_planT hL hs l _ a' w' (hcl.step hr) (by simpa using hsz) hB.2 h2.1 h2.2⟩)
    by_cases hw : Region.wanted op (yielded ops a.tmps) = true
    · rw [if_pos hw] at h ⊢
      exact h.imp (wp_mix hK (fun _ _ _ hp => hp.elim) (fun _ _ hp => hp)) (fun hx => ⟨hx.1, hx.2⟩)
    · rw [if_neg hw] at h ⊢
      exact hK _ _ h
/-- The region, by a plan of all operations but L, which waits for them all. -/
theorem region_mix_tail {id : Nat} {a : Act} {w : World} {ls : List Oper} {oL : Oper} (S : World → Prop) (L : Nat) (plan : List (Nat × Bool)) (hm : P.follows .mixedOrders = true) (hL : ls.toArray[L]? = some oL)
    (hB : (Region.noSelect ls.toArray && decide (ls.toArray.size = plan.length + 1) && planT .any ls.toArray L plan (Array.replicate ls.toArray.size false)) = true) (hS : S w.drew)
    (h : wpMix P ls.toArray (NoPanic fun e a w => match e with | .normal => wpList P ls.toArray (NoPanic Q) [oL] a w | e => NoPanic Q e a w) S plan a w.drew) : (Code.region id ls.toArray true).wp P Q a w := by
  simp only [Bool.and_eq_true, decide_eq_true_eq] at hB
  refine wp_region_noPanic (wp_region_any hm (any_of_anyE (S := S) (L := L) _ _ _ _ ?_))
  rw [hB.1.2]
  refine anyE_of_planT hL hB.1.1 plan _ a _ (fun j i hj hlt _ => ?_) (by simp [hB.1.2]) (by rw [← hB.1.2]; exact hB.2) hS h
  exfalso
  simp at hlt
  simp [Array.getD, hlt] at hj
end Go.Proofs.YtpnkcacmmjmehaaDoor.Aid
