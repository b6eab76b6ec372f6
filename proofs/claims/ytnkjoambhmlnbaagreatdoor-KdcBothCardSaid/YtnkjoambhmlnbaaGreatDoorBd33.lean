/-
  A round of a range over a function: an operation does there what it does anywhere, at the wide fence, if it defers nothing; the laws of rows, of appending and of regions that draw their order, for a round. 'for x := range seq { .. }' over an iterator that keeps a state of its own in one block: a law for the statement, at the wide fence: the k-th value is known, the caller says what holds behind k rounds (I), what the iterator may lean on of it (V), at which k it yields (C), and where it ends (S).
-/
import Derived.Test.YtnkjoambhmlnbaaGreatDoorBd13
import Derived.Test.YtnkjoambhmlnbaaGreatDoorBd07
import Derived.RangeFuncNested
import Derived.RangeFuncCalls
import Derived.OrdersIn
import Derived.TacticsIn
import Derived.Maps.OwnIn
import Derived.Laws.MakeOwn
namespace Go.Proofs.YtnkjoambhmlnbaaGreatDoor.Aid
open Go Go.RowKit
section
variable {P : Program} {ops : Array Oper} {Q : Exit → Act → World → Prop} {n : Nat} {F : Fence}

/-- The wide fence, or a round at it. -/
def WideF (F : Fence) : Prop := F = Fence.wide ∨ ∃ l0, F = Fence.wide.inRound l0

/-- It defers nothing. -/
def roundly (o : Oper) : Bool := match o.op with
  | .defer _ => false
  | _ => true
theorem op_in {o : Oper} {a : Act} {w : World} {K K' : Act → World → Prop} (hF : WideF F) (hd : roundly o = true) (hK : ∀ a w, K a w → K' a w)
    (h : o.wp P a w K Q) : o.wpIn F n P a w K' Q := by
  have hfn : ∀ f, F.fn f := by rcases hF with rfl | ⟨l0, rfl⟩ <;> exact fun _ => trivial
  have hdep : F.depth = none := by rcases hF with rfl | ⟨l0, rfl⟩ <;> rfl
  have hcall : ∀ {f args w R}, Calls P f args w R → CallsIn F (n - 1) P f args w R := by rcases hF with rfl | ⟨l0, rfl⟩ <;> exact fun h => callsIn_wide.2 h
  have hrow : ∀ {row args w R}, Rows P row args w R → RowsIn F (n - 1) P row args w R := by
    rcases hF with rfl | ⟨l0, rfl⟩ <;> exact fun h c cs _ => let ⟨v, w2, hv, hs⟩ := h c cs; ⟨v, w2, hv, stepsIn_wide.2 hs⟩
  refine ⟨fun f _ => hfn f, ?_⟩
  have hs : o.semAt F.round a.eval = execOp a.eval o := Oper.semAt_eq _ _ _ (fun c hc => by simp [roundly, hc] at hd)
  rw [hs]
  unfold Oper.wp at h
  generalize (execOp a.eval o).run P w = r at *
  cases r with
  | ok nx w' =>
    cases nx <;> simp only [Oper.upon, Oper.uponIn] at h ⊢
    case value v => exact hK _ _ h
    case skip => exact hK _ _ h
    case defer d => exact hK _ _ h
    case enter f args =>
      refine ⟨fun hx => by simp [hdep] at hx, hcall (Calls.mono h fun e w'' he => ?_)⟩
      cases e with
      | returned u => exact hK _ _ he
      | panicked c => exact he
      | outgrown => exact he
    case row row args => exact ⟨fun hx => by simp [hdep] at hx, hrow (Rows.mono h fun v w2 hv => hK _ _ hv)⟩
  | halt x w' => cases x <;> simp only [Oper.upon, Oper.uponIn] at h ⊢ <;> exact h
theorem fn_in (hF : WideF F) (f : FuncId) : F.fn f := by rcases hF with rfl | ⟨l0, rfl⟩ <;> trivial

/-- Q, but nothing at a panic or at memory's end. -/
def OnlyGoes (Q : Exit → Act → World → Prop) : Exit → Act → World → Prop
  | .panic _, _, _ => False
  | .outgrown, _, _ => False
  | e, a, w => Q e a w
theorem OnlyGoes.imp : ∀ (e : Exit) (a : Act) (w : World), OnlyGoes Q e a w → Q e a w := fun e a w h => by
  cases e <;> first | exact h | exact (h : False).elim
theorem any_in {md : Region.Mode} (hF : WideF F) (hd : ops.all roundly = true) : ∀ (fuel : Nat) (listed : Array Bool) (a : Act) (w : World), wpAny P md ops (OnlyGoes Q) fuel listed a w → wpAnyIn F n P md ops (OnlyGoes Q) fuel listed a w
  | 0, _, _, _, h => h
  | fuel + 1, listed, a, w, h => by
    refine ⟨h.1, fun i hi => ?_⟩
    have h2 := h.2 i hi
    unfold wpOp at h2
    unfold wpOpIn
    cases ho : ops[i]? with
    | none => simp only [ho] at h2; exact any_in hF hd fuel _ a w h2
    | some o =>
      simp only [ho] at h2
      have hr : roundly o = true := by
        have hm := Array.mem_of_getElem? ho
        exact Array.all_eq_true_iff_forall_mem.1 hd o hm
      by_cases hw : Region.wanted o (yielded ops a.tmps) = true
      · rw [if_pos hw] at h2
        simp only [if_pos hw]
        rcases h2 with h2 | ⟨_, _, _, hx⟩
        · exact op_in hF hr (fun a' w' => any_in hF hd fuel _ a' w') h2
        · exact (hx : False).elim
      · rw [if_neg hw] at h2
        simp only [if_neg hw]
        exact ⟨fun f _ => fn_in hF f, any_in hF hd fuel _ _ w h2⟩
/-- A region that draws its order, in a round, by a plan. -/
theorem round_mix {id : Nat} {a : Act} {w : World} {ls : List Oper} (hF : WideF F) (S : World → Prop) (plan : List (Nat × Bool)) (hm : P.follows .mixedOrders = true) (hd : ls.toArray.all roundly = true)
    (hB : (Region.noSelect ls.toArray && decide (ls.toArray.size = plan.length) && planB .any ls.toArray plan (Array.replicate ls.toArray.size false)) = true) (hS : S w.drew)
    (h : wpMix P ls.toArray (OnlyGoes Q) S plan a w.drew) : (Code.region id ls.toArray true).wpIn F n P Q a w := by
  simp only [Bool.and_eq_true, decide_eq_true_eq] at hB
  refine wpIn_mono (wpIn_region_any hm ?_) OnlyGoes.imp
  refine any_in hF hd _ _ _ _ (wpAny_of_held _ _ _ _ (S := S) ?_)
  rw [hB.1.2]
  exact wpAnyH_of_plan hB.1.1 (fun c a w hc => hc) plan _ a _ (by rw [← hB.1.2]; exact hB.2) hS h
theorem list_in (hF : WideF F) (l : List Oper) : l.all roundly = true → ∀ (a : Act) (w : World), wpList P ops (OnlyGoes Q) l a w → wpListIn F n P ops Q l a w := by
  induction l with
  | nil => intro _ a w h; exact OnlyGoes.imp _ _ _ h
  | cons o l ih =>
    intro hd a w h
    simp only [List.all_cons, Bool.and_eq_true] at hd
    unfold wpList at h
    unfold wpListIn
    by_cases hw : Region.wanted o (yielded ops a.tmps) = true
    · rw [if_pos hw] at h ⊢
      rcases h with h | ⟨_, _, _, hx⟩
      · have h1 := op_in (n := n) hF hd.1 (fun a' w' => ih hd.2 a' w') h
        refine ⟨h1.1, ?_⟩
        have h2 := h1.2
        generalize (o.semAt F.round a.eval).run P w = r at *
        cases r with
        | ok nx w' =>
          cases nx <;> simp only [Oper.uponIn] at h2 ⊢ <;> first | exact h2 | skip
          case enter f args =>
            refine ⟨h2.1, h2.2.mono fun e w'' he => ?_⟩
            cases e with
            | returned u => exact he
            | panicked c => exact (he : False).elim
            | outgrown => obtain ⟨_, _, hx⟩ := he; exact (hx : False).elim
          case round l1 f tmps asg bd =>
            refine ⟨h2.1, h2.2.mono fun e w'' he => ?_⟩
            cases e with
            | returned u => exact he
            | panicked c => exact (he : False).elim
            | outgrown => obtain ⟨_, _, hx⟩ := he; exact (hx : False).elim
        | halt x w' => cases x <;> simp only [Oper.uponIn] at h2 ⊢ <;> exact (h2 : False).elim
      · exact (hx : False).elim
    · rw [if_neg hw] at h ⊢
      exact ⟨fun f _ => fn_in hF f, ih hd.2 _ w h⟩
/-- A region that draws nothing, in a round, walked as anywhere. -/
theorem round_region {id : Nat} {a : Act} {w : World} {ls : List Oper} (hF : WideF F) (hd : ls.all roundly = true) (h : wpList P ls.toArray (OnlyGoes Q) ls a w) : (Code.region id ls.toArray false).wpIn F n P Q a w :=
  wpIn_region_lit (list_in hF ls hd a w h)
theorem goes {a : Act} {w : World} (h : Q .normal a w) : OnlyGoes Q .normal a w := h
theorem m_out {S : World → Prop} {a : Act} {w : World} (h : Q .normal a w) : wpMix P ops (OnlyGoes Q) S [] a w := h
end

section
variable {P : Program} {w : World} {ops : Array Oper} {rest : List Oper} {op : Oper} {a : Act} {Q : Exit → Act → World → Prop} {k0 : Nat} {F : Fence}
theorem loadIn_row (hF : WideF F) (hgd : op.guard = none) (ty : TypeId) (x : Operand) (ho : op.op = .load ty x) (g o t n m : Nat) (f : Nat → Value) (h : w.rowIs g t n f)
    (hx : a.eval x = .pointer (some ⟨g, o, none⟩)) (d : TypeDesc) (hu : P.underlying ty = some d) (hd : d.isRow = true) (hi : (P.info? ty).map (·.size) = some m) (hm : o + m ≤ n)
    (hK : wpListIn F k0 P ops Q rest (a.put op.dst (.agg (cellsOf m fun j => f (o + j)))) w) : wpListIn F k0 P ops Q (op :: rest) a w :=
  wpListIn_plain hgd fun K hK' => op_in hF (by simp [roundly, ho]) (fun _ _ h => h) (wp_load_mid ty x ho g o hx _ d (row_range h o m hm) hu hd (by simpa using hi) (hK' _ _ hK))
theorem loadIn_whole (hF : WideF F) (hgd : op.guard = none) (ty : TypeId) (x : Operand) (ho : op.op = .load ty x) (g t n : Nat) (f : Nat → Value) (h : w.rowIs g t n f)
    (hx : a.eval x = .pointer (some ⟨g, 0, none⟩)) (d : TypeDesc) (hu : P.underlying ty = some d) (hd : d.isRow = true) (hi : (P.info? ty).map (·.size) = some n)
    (hK : wpListIn F k0 P ops Q rest (a.put op.dst (.agg (cellsOf n f))) w) : wpListIn F k0 P ops Q (op :: rest) a w := by
  refine loadIn_row hF hgd ty x ho g 0 t n n f h hx d hu hd hi (by omega) ?_
  simpa only [Nat.zero_add] using hK
/-- The same, of an operation with a guard that is met. -/
theorem loadIn_whole_if (hF : WideF F) (hw : Region.wanted op (yielded ops a.tmps) = true) (ty : TypeId) (x : Operand) (ho : op.op = .load ty x) (g t n : Nat) (f : Nat → Value) (h : w.rowIs g t n f)
    (hx : a.eval x = .pointer (some ⟨g, 0, none⟩)) (d : TypeDesc) (hu : P.underlying ty = some d) (hd : d.isRow = true) (hi : (P.info? ty).map (·.size) = some n)
    (hK : wpListIn F k0 P ops Q rest (a.put op.dst (.agg (cellsOf n f))) w) : wpListIn F k0 P ops Q (op :: rest) a w :=
  wpListIn_step fun K hK' => by
    rw [if_pos hw]
    exact op_in hF (by simp [roundly, ho]) (fun _ _ h => h) (wp_load_mid ty x ho g 0 hx _ d (row_range h 0 n (by omega)) hu hd (by simpa using hi) (hK' _ _ (by
      rw [show f = fun j => f (0 + j) by simp only [Nat.zero_add]] at hK
      exact hK)))
/-- An operation whose guard is not met. -/
theorem skipIn (hF : WideF F) (hw : Region.wanted op (yielded ops a.tmps) = false) (hK : wpListIn F k0 P ops Q rest (a.put op.dst undef) w) : wpListIn F k0 P ops Q (op :: rest) a w :=
  wpListIn_step fun K hK' => by
    rw [if_neg (by simp [hw])]
    exact ⟨fun f _ => fn_in hF f, hK' _ _ hK⟩
theorem storeIn_row (hF : WideF F) (hgd : op.guard = none) (ty : TypeId) (x y : Operand) (ho : op.op = .store ty x y) (g o t n m : Nat) (f c : Nat → Value) (h : w.rowIs g t n f)
    (hx : a.eval x = .pointer (some ⟨g, o, none⟩)) (cells : Array Value) (hy : a.eval y = .agg cells) (hi : (P.info? ty).map (·.size) = some m) (hm : o + m ≤ n)
    (hs : cells.size = m) (hc : ∀ i, i < m → cells[i]? = some (c i)) (h1 : ∀ i, i < m → (c i).oneCell' = true)
    (hK : ∀ w', w'.rowIs g t n (fun j => if o ≤ j ∧ j < o + m then c (j - o) else f j) → Only g w w' → wpListIn F k0 P ops Q rest (a.put op.dst undef) w') : wpListIn F k0 P ops Q (op :: rest) a w := by
  refine wpListIn_plain hgd fun K hK' => op_in hF (by simp [roundly, ho]) (fun _ _ h => h) (wp_store_mid ty x y ho g o cells hx hy (fun j hj => ?_) (by rw [hs]; exact hi) ?_ (hK' _ _ (hK _ ?_ (only_setCells g _ o w))))
  · rw [h.cell (by omega)]; exact ⟨rfl, h.frozen _⟩
  · refine Array.all_eq_true_iff_forall_mem.2 (fun v hv => ?_)
    obtain ⟨i, hi', rfl⟩ := Array.mem_iff_getElem.1 hv
    have := hc i (by omega)
    rw [Array.getElem?_eq_getElem hi'] at this
    rw [Option.some.inj this]
    exact h1 i (by omega)
  · have := row_setCells (g := g) (t := t) (n := n) cells.toList o w f c h (fun i hi' => by
      have := hc i (by simp at hi'; omega)
      simpa using this)
    simpa [hs] using this
theorem storeIn_whole (hF : WideF F) (hgd : op.guard = none) (ty : TypeId) (x y : Operand) (ho : op.op = .store ty x y) (g t n : Nat) (f c : Nat → Value) (h : w.rowIs g t n f)
    (hx : a.eval x = .pointer (some ⟨g, 0, none⟩)) (cells : Array Value) (hy : a.eval y = .agg cells) (hi : (P.info? ty).map (·.size) = some n)
    (hs : cells.size = n) (hc : ∀ i, i < n → cells[i]? = some (c i)) (h1 : ∀ i, i < n → (c i).oneCell' = true)
    (hK : ∀ w', w'.rowIs g t n c → Only g w w' → wpListIn F k0 P ops Q rest (a.put op.dst undef) w') : wpListIn F k0 P ops Q (op :: rest) a w := by
  refine storeIn_row hF hgd ty x y ho g 0 t n n f c h hx cells hy hi (by omega) hs hc h1 (fun w' hr ho' => hK w' (hr.congr (fun i hi' => ?_)) ho')
  rw [if_pos (by omega)]; rfl
/-- 'make([]byte, n)': a new row of n bytes 0. -/
theorem make_bytesIn (hF : WideF F) (hgd : op.guard = none) (t e : TypeId) (l c : Operand) (ho : op.op = .makeSlice t l c) (i : TypeInfo) (hu : P.underlying t = some (.slice e)) (hi : P.info? e = some i) (hz : i.zero = some (.int .u8 0))
    (hs : i.size = 1) (hb : i.bytes = 1) (kl kc : IntKind) (n : Nat) (hl : a.eval l = .int kl (n : Int)) (hc : a.eval c = .int kc (n : Int)) (hn : n ≤ 1099511627776)
    (hK : ∀ Z : Array Value, Z.size = n → (∀ j, j < n → Z[j]? = some (.int .u8 0)) → wpListIn F k0 P ops Q rest (a.put op.dst (.slice (some ⟨w.heap.size, 0, none⟩) n n)) (w.alloc (.cells Z e))) : wpListIn F k0 P ops Q (op :: rest) a w := by
  refine wpListIn_plain hgd fun K hK' => op_in hF (by simp [roundly, ho]) (fun _ _ h => h) ?_
  have hrun := run_make (P := P) w t e i (.int .u8 0) hu hi hz kl kc (n : Int) (n : Int) (by omega) (by omega) (by rw [hb]; omega) (by omega)
  simp only [Int.toNat_natCast] at hrun
  unfold Oper.wp
  simp only [execOp, ho, hl, hc, Sem.run_bind, hrun, Result.andThen]
  refine hK' _ _ (hK _ (by simp [madeCells, hs]) (fun j hj => ?_))
  simp [madeCells, Value.cells, hs, hj, Nat.mod_one]
end
end Go.Proofs.YtnkjoambhmlnbaaGreatDoor.Aid

namespace Go.Proofs.YtnkjoambhmlnbaaGreatDoor.Aid
open Go Go.RowKit

/-- What an iterator does between two rounds: new blocks, and its own block B. -/
structure ItStep (B : Nat) (W W' : World) : Prop where
  os : W'.os = W.os
  tape : W'.tape = W.tape
  output : W'.output = W.output
  size : W.heap.size ≤ W'.heap.size
  block : ∀ k, k < W.heap.size → k ≠ B → W'.heap[k]? = W.heap[k]?
/-- A round leaves these blocks as they lay. -/
def KeepsAt (W W' : World) (b : Nat) : Prop := W'.heap[b]? = W.heap[b]?
/-- How a round's body may be left: h is where the loop's two blocks begin. -/
def countPost (B h : Nat) (I : Nat → World → Prop) (Ix : Code → Nat → World → Prop) (k : Nat) (W : World) : Exit → Act → World → Prop
  | .normal, _, W' => I k W' ∧ KeepsAt W W' h ∧ KeepsAt W W' (h + 1) ∧ KeepsAt W W' B
  | .ret, _, W' => Ix .ret k W' ∧ KeepsAt W W' h ∧ KeepsAt W W' (h + 1)
  | .exit id, _, W' => Ix (.exit id) k W' ∧ KeepsAt W W' h ∧ KeepsAt W W' (h + 1)
  | .goto t, _, W' => Ix (.goto t) k W' ∧ KeepsAt W W' h ∧ KeepsAt W W' (h + 1)
  | .panic _, _, _ => False
  | .outgrown, _, _ => False

variable {P : Program} {g : Operand} {ps : Array Tmp} {assign body : Code} {Q : Exit → Act → World → Prop} {a : Act} {w : World}
theorem range_count (n : Nat) {gf : Nat} {lb : Array Value} (hg : a.eval g = .func (.func gf) #[] lb) (eg : ∀ args w, (callFunc gf args).run P w = .ok (.enter gf args) w)
    (encs : Nat → Array Value) (hps : ∀ k, (encs k).size = ps.size) (B : Nat) (hB : B ≠ w.heap.size ∧ B ≠ w.heap.size + 1)
    (I : Nat → World → Prop) (Ix : Code → Nat → World → Prop) (Ax : Nat → Act → World → Prop) (S C : Nat → Prop) (V : Nat → World → Prop) (hV : ∀ k W, I k W → V k W)
    (hIl : ∀ k W r, I k W → I k (W.putObj (w.heap.size + 1) (.loop r))) (hXl : ∀ c k W r, Ix c k W → Ix c k (W.putObj (w.heap.size + 1) (.loop r))) (hAl : ∀ k a' W r, Ax k a' W → Ax k a' (W.putObj (w.heap.size + 1) (.loop r)))
    (hIB : ∀ k W W', I k W → ItStep B W W' → I k W') (hXB : ∀ c k W W', Ix c k W → ItStep B W W' → Ix c k W')
    (h0 : ∀ r, I 0 ((w.alloc (.deferred (some []))).alloc (.loop r)))
    (hseq : ∀ (J Jx : Nat → World → Prop), (∀ k W, J k W → V k W) → (∀ k W W', J k W → ItStep B W W' → J k W') → (∀ k W W', Jx k W → ItStep B W W' → Jx k W') →
      (∀ k W, C k → B < W.heap.size → J k W → YieldAt Fence.wide (n - 1 - 1) P (w.heap.size + 1) (encs k) W fun e W' => (e = .returned (.bool true) ∧ J (k + 1) W' ∧ KeepsAt W W' B) ∨ (e = .returned (.bool false) ∧ Jx (k + 1) W')) →
      ∀ W1, Below w.heap.size w W1 → W1.heap.size = w.heap.size + 2 → J 0 W1 →
      CallsIn Fence.wide (n - 1) P gf (#[.func (.yield (w.heap.size + 1)) #[] #[]] ++ lb) W1 fun e W' => (∃ v, e = .returned v) ∧ ((∃ k, S k ∧ J k W') ∨ ∃ k, Jx k W'))
    (hassign : ∀ (k : Nat) (W : World) (K : Act → World → Prop), C k → B < W.heap.size → I k W → (∀ a' W', I k W' → Ax k a' W' → KeepsAt W W' w.heap.size → KeepsAt W W' (w.heap.size + 1) → KeepsAt W W' B → K a' W') →
      assign.wpIn (Fence.wide.inRound (w.heap.size + 1)) (n - 1 - 1) P (Exit.then K (fun _ _ _ => False)) { tmps := (ps.zip (encs k)).foldl (fun t (p, v) => t.setIfInBounds p v) a.tmps, defers := [] } W)
    (hbody : ∀ (k : Nat) (a' : Act) (W : World), C k → I k W → Ax k a' W → w.heap.size + 1 < W.heap.size → body.wpIn (Fence.wide.inRound (w.heap.size + 1)) (n - 1 - 1) P (countPost B w.heap.size I Ix (k + 1) W) a' W)
    (hdone : ∀ k W, S k → I k W → W.heap[w.heap.size]? = some (.deferred (some [])) → Q .normal { a with defers := { target := .collected w.heap.size, args := #[] } :: a.defers } W)
    (hstop : ∀ c k W, Ix c k W → W.heap[w.heap.size]? = some (.deferred (some [])) → c.wpIn Fence.wide n P Q { a with defers := { target := .collected w.heap.size, args := #[] } :: a.defers } W) :
    (Code.rangeFunc g ps assign body).wpIn Fence.wide n P Q a w := by
  refine wpIn_rangeFunc (fun fn _ => ?_)
  generalize hrec : (fun st pe => ({ state := st, pending := pe, fn, tmps := a.tmps, params := ps, assign, body, defers := w.heap.size } : Loop)) = rec
  have eR : ∀ st pe, rec st pe = { state := st, pending := pe, fn, tmps := a.tmps, params := ps, assign, body, defers := w.heap.size } := fun st pe => by rw [← hrec]
  have e0 := eR .ready none
  obtain ⟨W1, hW1⟩ : ∃ W1, W1 = (w.alloc (.deferred (some []))).alloc (.loop (rec .ready none)) := ⟨_, rfl⟩
  have hs1 : W1.heap.size = w.heap.size + 2 := by rw [hW1]; simp
  have hL1 : W1.heap[w.heap.size + 1]? = some (.loop (rec .ready none)) := by
    have := World.alloc_heap_new (w.alloc (.deferred (some []))) (.loop (rec .ready none))
    rw [World.size_alloc] at this
    rw [hW1]; exact this
  have hK1 : W1.heap[w.heap.size]? = some (.deferred (some [])) := by
    rw [hW1]; exact (Below.heap_alloc _ _ _ (by simp)).trans (World.alloc_heap_new w _)
  have hb1 : Below w.heap.size w W1 := by rw [hW1]; exact ((Below.refl _ w).alloc (Nat.le_refl _) _).alloc (by simp) _
  have hI1 : I 0 W1 := by rw [hW1]; exact h0 _
  have keep : ∀ {W W' : World} {b : Nat} {o : Obj}, W.heap[b]? = some o → ItStep B W W' → b ≠ B → W'.heap[b]? = some o := fun {W W' b o} h hs hne => by
    rw [hs.block b (Array.getElem?_eq_some_iff.1 h).1 hne]; exact h
  refine ⟨w.heap.size + 1, [{ target := .collected w.heap.size, args := #[] }], W1, { target := .fn (.func gf) lb, args := #[.func (.yield (w.heap.size + 1)) #[] #[]] }, W1, gf, #[.func (.yield (w.heap.size + 1)) #[] #[]] ++ lb, W1, ?_, ?_, fun _ _ => trivial, ?_, fun hx => by simp [Fence.wide] at hx, ?_⟩
  · rw [hW1, e0]; exact run_enterLoop_outer _ _ _ _ _
  · simp only [resolve, hg]
    simp [go_sem]
  · simp [invoke, go_sem, eg]
  · refine (hseq (fun k W => I k W ∧ W.heap[w.heap.size + 1]? = some (.loop (rec .ready none)) ∧ W.heap[w.heap.size]? = some (.deferred (some [])))
      (fun k W => ∃ c, Ix c k W ∧ W.heap[w.heap.size + 1]? = some (.loop (rec .done (some c))) ∧ W.heap[w.heap.size]? = some (.deferred (some [])))
      (fun k W hj => hV k W hj.1)
      (fun k W W' hj hs => ⟨hIB k W W' hj.1 hs, keep hj.2.1 hs (fun h => hB.2 h.symm), keep hj.2.2 hs (fun h => hB.1 h.symm)⟩)
      (fun k W W' hj hs => by
        obtain ⟨c, hc, h1, h2⟩ := hj
        exact ⟨c, hXB c k W W' hc hs, keep h1 hs (fun h => hB.2 h.symm), keep h2 hs (fun h => hB.1 h.symm)⟩)
      ?_ W1 hb1 hs1 ⟨hI1, hL1, hK1⟩).mono ?_
    · rintro k W hC hBW ⟨hi, hl, hk⟩
      have hy := run_yield (P := P) (args := encs k) hl (by rw [eR]; exact hps k)
      rw [eR] at hy
      refine ⟨fn, _, assign, body, hy, roundIn_of_wpIn trivial (hassign k W _ hC hBW hi ?_)⟩
      intro a' Wa hia hax k1 k2 k3
      have hla : Wa.heap[w.heap.size + 1]? = some (.loop (rec .ready none)) := k2.trans hl
      have hka : Wa.heap[w.heap.size]? = some (.deferred (some [])) := k1.trans hk
      have hlt : w.heap.size + 1 < Wa.heap.size := (Array.getElem?_eq_some_iff.1 hla).1
      refine ⟨_, run_beginRound hla (by rw [eR]), ?_⟩
      obtain ⟨W2, hW2⟩ : ∃ W2, W2 = Wa.putObj (w.heap.size + 1) (.loop { rec .ready none with state := .busy }) := ⟨_, rfl⟩
      have hl2 : W2.heap[w.heap.size + 1]? = some (.loop { rec .ready none with state := .busy }) := by rw [hW2]; exact World.putObj_heap_same hlt
      have hk2 : W2.heap[w.heap.size]? = some (.deferred (some [])) := by rw [hW2]; exact (World.putObj_heap_other (by omega)).trans hka
      have hB2 : W2.heap[B]? = W.heap[B]? := by rw [hW2]; exact (World.putObj_heap_other hB.2).trans k3
      rw [← hW2]
      refine wpIn_mono (hbody k a' W2 hC (by rw [hW2]; exact hIl k Wa _ hia) (by rw [hW2]; exact hAl k a' Wa _ hax) (Array.getElem?_eq_some_iff.1 hl2).1) ?_
      have fin : ∀ (jump : Option Code) (W3 : World), KeepsAt W2 W3 w.heap.size → KeepsAt W2 W3 (w.heap.size + 1) →
          ∃ W4, W4 = W3.putObj (w.heap.size + 1) (.loop (rec (if jump.isNone then .ready else .done) jump)) ∧ (Instr.endRound (w.heap.size + 1) jump).run P W3 = .ok (.bool jump.isNone) W4 ∧
          W4.heap[w.heap.size + 1]? = some (.loop (rec (if jump.isNone then .ready else .done) jump)) ∧ W4.heap[w.heap.size]? = some (.deferred (some [])) ∧ W4.heap[B]? = W3.heap[B]? := fun jump W3 g1 g2 => by
        have hl3 : W3.heap[w.heap.size + 1]? = some (.loop { rec .ready none with state := .busy }) := g2.trans hl2
        have hr := run_endRound (P := P) jump hl3
        refine ⟨_, rfl, ?_, World.putObj_heap_same (Array.getElem?_eq_some_iff.1 hl3).1, (World.putObj_heap_other (by omega)).trans (g1.trans hk2), World.putObj_heap_other hB.2⟩
        rw [hr, eR, eR]
      rintro e a3 W3 hp
      cases e with
      | normal =>
        obtain ⟨h1, g1, g2, g3⟩ := hp
        obtain ⟨W4, hW4, hr, h4, h5, h6⟩ := fin none W3 g1 g2
        exact ⟨_, _, hr, .inl ⟨rfl, ⟨by rw [hW4]; exact hIl _ _ _ h1, h4, h5⟩, h6.trans (g3.trans hB2)⟩⟩
      | ret =>
        obtain ⟨h1, g1, g2⟩ := hp
        obtain ⟨W4, hW4, hr, h4, h5, h6⟩ := fin (some .ret) W3 g1 g2
        exact ⟨_, _, hr, .inr ⟨rfl, .ret, by rw [hW4]; exact hXl _ _ _ _ h1, h4, h5⟩⟩
      | exit id =>
        obtain ⟨h1, g1, g2⟩ := hp
        obtain ⟨W4, hW4, hr, h4, h5, h6⟩ := fin (some (.exit id)) W3 g1 g2
        exact ⟨_, _, hr, .inr ⟨rfl, .exit id, by rw [hW4]; exact hXl _ _ _ _ h1, h4, h5⟩⟩
      | goto t =>
        obtain ⟨h1, g1, g2⟩ := hp
        obtain ⟨W4, hW4, hr, h4, h5, h6⟩ := fin (some (.goto t)) W3 g1 g2
        exact ⟨_, _, hr, .inr ⟨rfl, .goto t, by rw [hW4]; exact hXl _ _ _ _ h1, h4, h5⟩⟩
      | panic c => exact hp.elim
      | outgrown => exact hp.elim
    · rintro e W2 ⟨⟨v, rfl⟩, (⟨k, hS, hi, hl, hk⟩ | ⟨k, c, hi, hl, hk⟩)⟩
      · have hr := run_endLoop (P := P) hl (by rw [eR]; simp)
        rw [eR] at hr
        exact ⟨none, _, hr, hdone k _ hS (hIl k W2 _ hi) ((World.putObj_heap_other (by omega)).trans hk)⟩
      · have hr := run_endLoop (P := P) hl (by rw [eR]; simp)
        rw [eR] at hr
        exact ⟨some c, _, hr, hstop c k _ (hXl c k W2 _ hi) ((World.putObj_heap_other (by omega)).trans hk)⟩
end Go.Proofs.YtnkjoambhmlnbaaGreatDoor.Aid
