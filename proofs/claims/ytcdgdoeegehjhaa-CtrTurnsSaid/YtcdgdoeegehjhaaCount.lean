/-
  'for x := range seq { .. }' over an iterator that keeps a state of its own in one block: a law for the statement, at the wide fence: the k-th value is known, the caller says what holds behind k rounds (I), what the iterator may lean on of it (V), at which k it yields (C), and where it ends (S).
-/
import Derived.Test.YtcdgdoeegehjhaaRound
namespace Go.Proofs.Ytcdgdoeegehjhaa.Aid
open Go Go.RowKit

/-- What an iterator does between two rounds: new blocks, and its own block B. -/
structure ItStep (B : Nat) (W W' : World) : Prop where
  os : W'.os = W.os
  tape : W'.tape = W.tape
  output : W'.output = W.output
  size : W.heap.size ≤ W'.heap.size
  block : ∀ k, k < W.heap.size → k ≠ B → W'.heap[k]? = W.heap[k]?
/-- A round leaves these blocks as they lay. -/
def KeepsAt (W W' : World) (b : Nat) : Prop := W'.heap[b]? = W.heap[b]?
/-- How a round's body may be left: h is where the loop's two blocks begin. -/
def countPost (B h : Nat) (I : Nat → World → Prop) (Ix : Code → Nat → World → Prop) (k : Nat) (W : World) : Exit → Act → World → Prop
  | .normal, _, W' => I k W' ∧ KeepsAt W W' h ∧ KeepsAt W W' (h + 1) ∧ KeepsAt W W' B
  | .ret, _, W' => Ix .ret k W' ∧ KeepsAt W W' h ∧ KeepsAt W W' (h + 1)
  | .exit id, _, W' => Ix (.exit id) k W' ∧ KeepsAt W W' h ∧ KeepsAt W W' (h + 1)
  | .goto t, _, W' => Ix (.goto t) k W' ∧ KeepsAt W W' h ∧ KeepsAt W W' (h + 1)
  | .panic _, _, _ => False
  | .outgrown, _, _ => False

variable {P : Program} {g : Operand} {ps : Array Tmp} {assign body : Code} {Q : Exit → Act → World → Prop} {a : Act} {w : World}
theorem range_count (n : Nat) {gf : Nat} {lb : Array Value} (hg : a.eval g = .func (.func gf) #[] lb) (eg : ∀ args w, (callFunc gf args).run P w = .ok (.enter gf args) w)
    (encs : Nat → Array Value) (hps : ∀ k, (encs k).size = ps.size) (B : Nat) (hB : B ≠ w.heap.size ∧ B ≠ w.heap.size + 1)
    (I : Nat → World → Prop) (Ix : Code → Nat → World → Prop) (Ax : Nat → Act → World → Prop) (S C : Nat → Prop) (V : Nat → World → Prop) (hV : ∀ k W, I k W → V k W)
    (hIl : ∀ k W r, I k W → I k (W.putObj (w.heap.size + 1) (.loop r))) (hXl : ∀ c k W r, Ix c k W → Ix c k (W.putObj (w.heap.size + 1) (.loop r))) (hAl : ∀ k a' W r, Ax k a' W → Ax k a' (W.putObj (w.heap.size + 1) (.loop r)))
    (hIB : ∀ k W W', I k W → ItStep B W W' → I k W') (hXB : ∀ c k W W', Ix c k W → ItStep B W W' → Ix c k W')
    (h0 : ∀ r, I 0 ((w.alloc (.deferred (some []))).alloc (.loop r)))
    (hseq : ∀ (J Jx : Nat → World → Prop), (∀ k W, J k W → V k W) → (∀ k W W', J k W → ItStep B W W' → J k W') → (∀ k W W', Jx k W → ItStep B W W' → Jx k W') →
      (∀ k W, C k → B < W.heap.size → J k W → YieldAt Fence.wide (n - 1 - 1) P (w.heap.size + 1) (encs k) W fun e W' => (e = .returned (.bool true) ∧ J (k + 1) W' ∧ KeepsAt W W' B) ∨ (e = .returned (.bool false) ∧ Jx (k + 1) W')) →
      ∀ W1, Below w.heap.size w W1 → W1.heap.size = w.heap.size + 2 → J 0 W1 →
      CallsIn Fence.wide (n - 1) P gf (#[.func (.yield (w.heap.size + 1)) #[] #[]] ++ lb) W1 fun e W' => (∃ v, e = .returned v) ∧ ((∃ k, S k ∧ J k W') ∨ ∃ k, Jx k W'))
    (hassign : ∀ (k : Nat) (W : World) (K : Act → World → Prop), C k → B < W.heap.size → I k W → (∀ a' W', I k W' → Ax k a' W' → KeepsAt W W' w.heap.size → KeepsAt W W' (w.heap.size + 1) → KeepsAt W W' B → K a' W') →
      assign.wpIn (Fence.wide.inRound (w.heap.size + 1)) (n - 1 - 1) P (Exit.then K (fun _ _ _ => False)) { tmps := (ps.zip (encs k)).foldl (fun t (p, v) => t.setIfInBounds p v) a.tmps, defers := [] } W)
    (hbody : ∀ (k : Nat) (a' : Act) (W : World), C k → I k W → Ax k a' W → w.heap.size + 1 < W.heap.size → body.wpIn (Fence.wide.inRound (w.heap.size + 1)) (n - 1 - 1) P (countPost B w.heap.size I Ix (k + 1) W) a' W)
    (hdone : ∀ k W, S k → I k W → W.heap[w.heap.size]? = some (.deferred (some [])) → Q .normal { a with defers := { target := .collected w.heap.size, args := #[] } :: a.defers } W)
    (hstop : ∀ c k W, Ix c k W → W.heap[w.heap.size]? = some (.deferred (some [])) → c.wpIn Fence.wide n P Q { a with defers := { target := .collected w.heap.size, args := #[] } :: a.defers } W) :
    (Code.rangeFunc g ps assign body).wpIn Fence.wide n P Q a w := by
  refine wpIn_rangeFunc (fun fn _ => ?_)
  generalize hrec : (fun st pe => ({ state := st, pending := pe, fn, tmps := a.tmps, params := ps, assign, body, defers := w.heap.size } : Loop)) = rec
  have eR : ∀ st pe, rec st pe = { state := st, pending := pe, fn, tmps := a.tmps, params := ps, assign, body, defers := w.heap.size } := fun st pe => by rw [← hrec]
  have e0 := eR .ready none
  obtain ⟨W1, hW1⟩ : ∃ W1, W1 = (w.alloc (.deferred (some []))).alloc (.loop (rec .ready none)) := ⟨_, rfl⟩
  have hs1 : W1.heap.size = w.heap.size + 2 := by rw [hW1]; simp
  have hL1 : W1.heap[w.heap.size + 1]? = some (.loop (rec .ready none)) := by
    have := World.alloc_heap_new (w.alloc (.deferred (some []))) (.loop (rec .ready none))
    rw [World.size_alloc] at this
    rw [hW1]; exact this
  have hK1 : W1.heap[w.heap.size]? = some (.deferred (some [])) := by
    rw [hW1]; exact (Below.heap_alloc _ _ _ (by simp)).trans (World.alloc_heap_new w _)
  have hb1 : Below w.heap.size w W1 := by rw [hW1]; exact ((Below.refl _ w).alloc (Nat.le_refl _) _).alloc (by simp) _
  have hI1 : I 0 W1 := by rw [hW1]; exact h0 _
  have keep : ∀ {W W' : World} {b : Nat} {o : Obj}, W.heap[b]? = some o → ItStep B W W' → b ≠ B → W'.heap[b]? = some o := fun {W W' b o} h hs hne => by
    rw [hs.block b (Array.getElem?_eq_some_iff.1 h).1 hne]; exact h
  refine ⟨w.heap.size + 1, [{ target := .collected w.heap.size, args := #[] }], W1, { target := .fn (.func gf) lb, args := #[.func (.yield (w.heap.size + 1)) #[] #[]] }, W1, gf, #[.func (.yield (w.heap.size + 1)) #[] #[]] ++ lb, W1, ?_, ?_, fun _ _ => trivial, ?_, fun hx => by simp [Fence.wide] at hx, ?_⟩
  · rw [hW1, e0]; exact run_enterLoop_outer _ _ _ _ _
  · simp only [resolve, hg]
    simp [go_sem]
  · simp [invoke, go_sem, eg]
  · refine (hseq (fun k W => I k W ∧ W.heap[w.heap.size + 1]? = some (.loop (rec .ready none)) ∧ W.heap[w.heap.size]? = some (.deferred (some [])))
      (fun k W => ∃ c, Ix c k W ∧ W.heap[w.heap.size + 1]? = some (.loop (rec .done (some c))) ∧ W.heap[w.heap.size]? = some (.deferred (some [])))
      (fun k W hj => hV k W hj.1)
      (fun k W W' hj hs => ⟨hIB k W W' hj.1 hs, keep hj.2.1 hs (fun h => hB.2 h.symm), keep hj.2.2 hs (fun h => hB.1 h.symm)⟩)
      (fun k W W' hj hs => by
        obtain ⟨c, hc, h1, h2⟩ := hj
        exact ⟨c, hXB c k W W' hc hs, keep h1 hs (fun h => hB.2 h.symm), keep h2 hs (fun h => hB.1 h.symm)⟩)
      ?_ W1 hb1 hs1 ⟨hI1, hL1, hK1⟩).mono ?_
    · rintro k W hC hBW ⟨hi, hl, hk⟩
      have hy := run_yield (P := P) (args := encs k) hl (by rw [eR]; exact hps k)
      rw [eR] at hy
      refine ⟨fn, _, assign, body, hy, roundIn_of_wpIn trivial (hassign k W _ hC hBW hi ?_)⟩
      intro a' Wa hia hax k1 k2 k3
      have hla : Wa.heap[w.heap.size + 1]? = some (.loop (rec .ready none)) := k2.trans hl
      have hka : Wa.heap[w.heap.size]? = some (.deferred (some [])) := k1.trans hk
      have hlt : w.heap.size + 1 < Wa.heap.size := (Array.getElem?_eq_some_iff.1 hla).1
      refine ⟨_, run_beginRound hla (by rw [eR]), ?_⟩
      obtain ⟨W2, hW2⟩ : ∃ W2, W2 = Wa.putObj (w.heap.size + 1) (.loop { rec .ready none with state := .busy }) := ⟨_, rfl⟩
      have hl2 : W2.heap[w.heap.size + 1]? = some (.loop { rec .ready none with state := .busy }) := by rw [hW2]; exact World.putObj_heap_same hlt
      have hk2 : W2.heap[w.heap.size]? = some (.deferred (some [])) := by rw [hW2]; exact (World.putObj_heap_other (by omega)).trans hka
      have hB2 : W2.heap[B]? = W.heap[B]? := by rw [hW2]; exact (World.putObj_heap_other hB.2).trans k3
      rw [← hW2]
      refine wpIn_mono (hbody k a' W2 hC (by rw [hW2]; exact hIl k Wa _ hia) (by rw [hW2]; exact hAl k a' Wa _ hax) (Array.getElem?_eq_some_iff.1 hl2).1) ?_
      have fin : ∀ (jump : Option Code) (W3 : World), KeepsAt W2 W3 w.heap.size → KeepsAt W2 W3 (w.heap.size + 1) →
          ∃ W4, W4 = W3.putObj (w.heap.size + 1) (.loop (rec (if jump.isNone then .ready else .done) jump)) ∧ (Instr.endRound (w.heap.size + 1) jump).run P W3 = .ok (.bool jump.isNone) W4 ∧
          W4.heap[w.heap.size + 1]? = some (.loop (rec (if jump.isNone then .ready else .done) jump)) ∧ W4.heap[w.heap.size]? = some (.deferred (some [])) ∧ W4.heap[B]? = W3.heap[B]? := fun jump W3 g1 g2 => by
        have hl3 : W3.heap[w.heap.size + 1]? = some (.loop { rec .ready none with state := .busy }) := g2.trans hl2
        have hr := run_endRound (P := P) jump hl3
        refine ⟨_, rfl, ?_, World.putObj_heap_same (Array.getElem?_eq_some_iff.1 hl3).1, (World.putObj_heap_other (by omega)).trans (g1.trans hk2), World.putObj_heap_other hB.2⟩
        rw [hr, eR, eR]
      rintro e a3 W3 hp
      cases e with
      | normal =>
        obtain ⟨h1, g1, g2, g3⟩ := hp
        obtain ⟨W4, hW4, hr, h4, h5, h6⟩ := fin none W3 g1 g2
        exact ⟨_, _, hr, .inl ⟨rfl, ⟨by rw [hW4]; exact hIl _ _ _ h1, h4, h5⟩, h6.trans (g3.trans hB2)⟩⟩
      | ret =>
        obtain ⟨h1, g1, g2⟩ := hp
        obtain ⟨W4, hW4, hr, h4, h5, h6⟩ := fin (some .ret) W3 g1 g2
        exact ⟨_, _, hr, .inr ⟨rfl, .ret, by rw [hW4]; exact hXl _ _ _ _ h1, h4, h5⟩⟩
      | exit id =>
        obtain ⟨h1, g1, g2⟩ := hp
        obtain ⟨W4, hW4, hr, h4, h5, h6⟩ := fin (some (.exit id)) W3 g1 g2
        exact ⟨_, _, hr, .inr ⟨rfl, .exit id, by rw [hW4]; exact hXl _ _ _ _ h1, h4, h5⟩⟩
      | goto t =>
        obtain ⟨h1, g1, g2⟩ := hp
        obtain ⟨W4, hW4, hr, h4, h5, h6⟩ := fin (some (.goto t)) W3 g1 g2
        exact ⟨_, _, hr, .inr ⟨rfl, .goto t, by rw [hW4]; exact hXl _ _ _ _ h1, h4, h5⟩⟩
      | panic c => exact hp.elim
      | outgrown => exact hp.elim
    · rintro e W2 ⟨⟨v, rfl⟩, (⟨k, hS, hi, hl, hk⟩ | ⟨k, c, hi, hl, hk⟩)⟩
      · have hr := run_endLoop (P := P) hl (by rw [eR]; simp)
        rw [eR] at hr
        exact ⟨none, _, hr, hdone k _ hS (hIl k W2 _ hi) ((World.putObj_heap_other (by omega)).trans hk)⟩
      · have hr := run_endLoop (P := P) hl (by rw [eR]; simp)
        rw [eR] at hr
        exact ⟨some c, _, hr, hstop c k _ (hXl c k W2 _ hi) ((World.putObj_heap_other (by omega)).trans hk)⟩
end Go.Proofs.Ytcdgdoeegehjhaa.Aid
