/-
  A region that draws its order, in which two chains of operations that make memory stand side by side: walked by hand, step by step: what yields the same in every world of a class is taken first; where two may come up, both ways are walked.
-/
import Derived.Test.YtpnkcacmmjmehaaDoorMix
namespace Go.Proofs.YtpnkcacmmjmehaaDoor.Aid
open Go Go.RowKit
variable {P : Program} {ls : List Oper} {md : Region.Mode} {S : World → Prop} {Q : Exit → Act → World → Prop} {n i j : Nat} {listed : Array Bool} {op op' : Oper} {a : Act} {w : World}

theorem region_h {id : Nat} (S : World → Prop) (n : Nat) (hm : P.follows .mixedOrders = true) (hn : ls.toArray.size = n) (h : wpAnyH P .any ls.toArray (NoPanic Q) S n (Array.replicate n false) a w.drew) : (Code.region id ls.toArray true).wp P Q a w := by
  subst hn
  exact wp_region_noPanic (wp_region_held hm (S := S) h)
/-- What yields v in every world of the class is taken first. -/
theorem f_take (i : Nat) (hi : ls[i]? = some op) (hB : (Region.noSelect ls.toArray && (Region.free md ls.toArray listed i && (Region.ready md ls.toArray listed).contains i)) = true)
    (hw : Region.wanted op (yielded ls.toArray a.tmps) = true) (v : Value) (hv : ∀ w, S w → (execOp a.eval op).run P w = .ok (.value v) w) (hS : S w)
    (h : wpAnyH P md ls.toArray (NoPanic Q) S n (listed.setIfInBounds i true) (a.put op.dst v) w) : wpAnyH P md ls.toArray (NoPanic Q) S (n + 1) listed a w := by
  simp only [Bool.and_eq_true] at hB
  exact wpAnyH_take (by simpa using hi) hB.1 hB.2.1 hB.2.2 (fun c a w hc => hc) (.inl ⟨hw, hv⟩) hS h
theorem f_load (i : Nat) (hi : ls[i]? = some op) (hB : (Region.noSelect ls.toArray && (Region.free md ls.toArray listed i && (Region.ready md ls.toArray listed).contains i)) = true)
    (hw : Region.wanted op (yielded ls.toArray a.tmps) = true) (ty : TypeId) (x : Operand) (ho : op.op = .load ty x) (g o t N m : Nat) (f : Nat → Value) (hr : ∀ w, S w → w.rowIs g t N f)
    (hx : a.eval x = .pointer (some ⟨g, o, none⟩)) (d : TypeDesc) (hu : P.underlying ty = some d) (hd : d.isRow = true) (hi' : (P.info? ty).map (·.size) = some m) (hm : o + m ≤ N) (hS : S w)
    (h : wpAnyH P md ls.toArray (NoPanic Q) S n (listed.setIfInBounds i true) (a.put op.dst (.agg (cellsOf m fun j => f (o + j)))) w) : wpAnyH P md ls.toArray (NoPanic Q) S (n + 1) listed a w :=
  f_take i hi hB hw _ (fun w hC => by
    unfold execOp
    simp only [ho, hx, Instr.loadAt, Instr.sureAddr, Sem.run_bind, Sem.run_pure, Result.andThen_ok, run_loadVar_mid w g o ty _ d (row_range (hr w hC) o m hm) hu hd (by simpa using hi')]
    rfl) hS h
theorem op_go (hi : ls[i]? = some op) (h : wpList P ls.toArray (mixPost (NoPanic Q) S (wpAnyH P md ls.toArray (NoPanic Q) S n (listed.setIfInBounds i true))) [op] a w) :
    wpOp P ls.toArray (NoPanic Q) i (fun a' w' => S w' ∧ wpAnyH P md ls.toArray (NoPanic Q) S n (listed.setIfInBounds i true) a' w') a w := by
  have hi' : ls.toArray[i]? = some op := by simpa using hi
  unfold wpOp
  simp only [hi']
  unfold wpList at h
  have hK : ∀ (a' : Act) (w' : World), wpList P ls.toArray (mixPost (NoPanic Q) S (wpAnyH P md ls.toArray (NoPanic Q) S n (listed.setIfInBounds i true))) [] a' w' → S w' ∧ wpAnyH P md ls.toArray (NoPanic Q) S n (listed.setIfInBounds i true) a' w' := fun a' w' h' => h'
  by_cases hw : Region.wanted op (yielded ls.toArray a.tmps) = true
  · rw [if_pos hw] at h ⊢
    exact h.imp (wp_mix hK (fun _ _ _ hp => hp) (fun _ _ hp => hp)) (fun hx => ⟨hx.1, hx.2⟩)
  · rw [if_neg hw] at h ⊢
    exact hK _ _ h
/-- It comes up alone. -/
theorem f_go (i : Nat) (hi : ls[i]? = some op) (hB : decide (Region.ready md ls.toArray listed = [i]) = true)
    (h : wpList P ls.toArray (mixPost (NoPanic Q) S (wpAnyH P md ls.toArray (NoPanic Q) S n (listed.setIfInBounds i true))) [op] a w) : wpAnyH P md ls.toArray (NoPanic Q) S (n + 1) listed a w := by
  refine wpAnyH_all (of_decide_eq_true hB) (by simp) (fun k hk => ?_)
  obtain rfl : k = i := by simpa using hk
  exact op_go hi h
/-- Either may come up. -/
theorem f_two (i j : Nat) (hi : ls[i]? = some op) (hj : ls[j]? = some op') (hB : decide (Region.ready md ls.toArray listed = [i, j]) = true)
    (h : wpList P ls.toArray (mixPost (NoPanic Q) S (wpAnyH P md ls.toArray (NoPanic Q) S n (listed.setIfInBounds i true))) [op] a w)
    (h' : wpList P ls.toArray (mixPost (NoPanic Q) S (wpAnyH P md ls.toArray (NoPanic Q) S n (listed.setIfInBounds j true))) [op'] a w) : wpAnyH P md ls.toArray (NoPanic Q) S (n + 1) listed a w := by
  refine wpAnyH_all (of_decide_eq_true hB) (by simp) (fun k hk => ?_)
  simp only [List.mem_cons, List.not_mem_nil, or_false] at hk
  rcases hk with rfl | rfl
  · exact op_go hi h
  · exact op_go hj h'
theorem f_end (hB : decide (Region.ready md ls.toArray listed = []) = true) (h : Q .normal a w) : wpAnyH P md ls.toArray (NoPanic Q) S n listed a w := wpAnyH_done (of_decide_eq_true hB) (NoPanic.normal h) n
end Go.Proofs.YtpnkcacmmjmehaaDoor.Aid
