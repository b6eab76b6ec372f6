/-
  A round of a range over a function: an operation does there what it does anywhere, at the wide fence, if it defers nothing; the laws of rows, of appending and of regions that draw their order, for a round.
-/
import Derived.Test.YtcdgdoeegehjhaaMix
import Derived.Test.YtcdgdoeegehjhaaOwn
import Derived.RangeFuncNested
import Derived.RangeFuncCalls
import Derived.OrdersIn
import Derived.TacticsIn
import Derived.Maps.OwnIn
import Derived.Laws.MakeOwn
namespace Go.Proofs.Ytcdgdoeegehjhaa.Aid
open Go Go.RowKit
section
variable {P : Program} {ops : Array Oper} {Q : Exit → Act → World → Prop} {n : Nat} {F : Fence}

/-- The wide fence, or a round at it. -/
def WideF (F : Fence) : Prop := F = Fence.wide ∨ ∃ l0, F = Fence.wide.inRound l0

/-- It defers nothing. -/
def roundly (o : Oper) : Bool := match o.op with
  | .defer _ => false
  | _ => true
theorem op_in {o : Oper} {a : Act} {w : World} {K K' : Act → World → Prop} (hF : WideF F) (hd : roundly o = true) (hK : ∀ a w, K a w → K' a w)
    (h : o.wp P a w K Q) : o.wpIn F n P a w K' Q := by
  have hfn : ∀ f, F.fn f := by rcases hF with rfl | ⟨l0, rfl⟩ <;> exact fun _ => trivial
  have hdep : F.depth = none := by rcases hF with rfl | ⟨l0, rfl⟩ <;> rfl
  have hcall : ∀ {f args w R}, Calls P f args w R → CallsIn F (n - 1) P f args w R := by rcases hF with rfl | ⟨l0, rfl⟩ <;> exact fun h => callsIn_wide.2 h
  have hrow : ∀ {row args w R}, Rows P row args w R → RowsIn F (n - 1) P row args w R := by
    rcases hF with rfl | ⟨l0, rfl⟩ <;> exact fun h c cs _ => let ⟨v, w2, hv, hs⟩ := h c cs; ⟨v, w2, hv, stepsIn_wide.2 hs⟩
  refine ⟨fun f _ => hfn f, ?_⟩
  have hs : o.semAt F.round a.eval = execOp a.eval o := Oper.semAt_eq _ _ _ (fun c hc => by simp [roundly, hc] at hd)
  rw [hs]
  unfold Oper.wp at h
  generalize (execOp a.eval o).run P w = r at *
  cases r with
  | ok nx w' =>
    cases nx <;> simp only [Oper.upon, Oper.uponIn] at h ⊢
    case value v => exact hK _ _ h
    case skip => exact hK _ _ h
    case defer d => exact hK _ _ h
    case enter f args =>
      refine ⟨fun hx => by simp [hdep] at hx, hcall (Calls.mono h fun e w'' he => ?_)⟩
      cases e with
      | returned u => exact hK _ _ he
      | panicked c => exact he
      | outgrown => exact he
    case row row args => exact ⟨fun hx => by simp [hdep] at hx, hrow (Rows.mono h fun v w2 hv => hK _ _ hv)⟩
  | halt x w' => cases x <;> simp only [Oper.upon, Oper.uponIn] at h ⊢ <;> exact h
theorem fn_in (hF : WideF F) (f : FuncId) : F.fn f := by rcases hF with rfl | ⟨l0, rfl⟩ <;> trivial

/-- Q, but nothing at a panic or at memory's end. -/
def OnlyGoes (Q : Exit → Act → World → Prop) : Exit → Act → World → Prop
  | .panic _, _, _ => False
  | .outgrown, _, _ => False
  | e, a, w => Q e a w
theorem OnlyGoes.imp : ∀ (e : Exit) (a : Act) (w : World), OnlyGoes Q e a w → Q e a w := fun e a w h => by
  cases e <;> first | exact h | exact (h : False).elim
theorem any_in {md : Region.Mode} (hF : WideF F) (hd : ops.all roundly = true) : ∀ (fuel : Nat) (listed : Array Bool) (a : Act) (w : World), wpAny P md ops (OnlyGoes Q) fuel listed a w → wpAnyIn F n P md ops (OnlyGoes Q) fuel listed a w
  | 0, _, _, _, h => h
  | fuel + 1, listed, a, w, h => by
    refine ⟨h.1, fun i hi => ?_⟩
    have h2 := h.2 i hi
    unfold wpOp at h2
    unfold wpOpIn
    cases ho : ops[i]? with
    | none => simp only [ho] at h2; exact any_in hF hd fuel _ a w h2
    | some o =>
      simp only [ho] at h2
      have hr : roundly o = true := by
        have hm := Array.mem_of_getElem? ho
        exact Array.all_eq_true_iff_forall_mem.1 hd o hm
      by_cases hw : Region.wanted o (yielded ops a.tmps) = true
      · rw [if_pos hw] at h2
        simp only [if_pos hw]
        rcases h2 with h2 | ⟨_, _, _, hx⟩
        · exact op_in hF hr (fun a' w' => any_in hF hd fuel _ a' w') h2
        · exact (hx : False).elim
      · rw [if_neg hw] at h2
        simp only [if_neg hw]
        exact ⟨fun f _ => fn_in hF f, any_in hF hd fuel _ _ w h2⟩
/-- A region that draws its order, in a round, by a plan. -/
theorem round_mix {id : Nat} {a : Act} {w : World} {ls : List Oper} (hF : WideF F) (S : World → Prop) (plan : List (Nat × Bool)) (hm : P.follows .mixedOrders = true) (hd : ls.toArray.all roundly = true)
    (hB : (Region.noSelect ls.toArray && decide (ls.toArray.size = plan.length) && planB .any ls.toArray plan (Array.replicate ls.toArray.size false)) = true) (hS : S w.drew)
    (h : wpMix P ls.toArray (OnlyGoes Q) S plan a w.drew) : (Code.region id ls.toArray true).wpIn F n P Q a w := by
  simp only [Bool.and_eq_true, decide_eq_true_eq] at hB
  refine wpIn_mono (wpIn_region_any hm ?_) OnlyGoes.imp
  refine any_in hF hd _ _ _ _ (wpAny_of_held _ _ _ _ (S := S) ?_)
  rw [hB.1.2]
  exact wpAnyH_of_plan hB.1.1 (fun c a w hc => hc) plan _ a _ (by rw [← hB.1.2]; exact hB.2) hS h
theorem list_in (hF : WideF F) (l : List Oper) : l.all roundly = true → ∀ (a : Act) (w : World), wpList P ops (OnlyGoes Q) l a w → wpListIn F n P ops Q l a w := by
  induction l with
  | nil => intro _ a w h; exact OnlyGoes.imp _ _ _ h
  | cons o l ih =>
    intro hd a w h
    simp only [List.all_cons, Bool.and_eq_true] at hd
    unfold wpList at h
    unfold wpListIn
    by_cases hw : Region.wanted o (yielded ops a.tmps) = true
    · rw [if_pos hw] at h ⊢
      rcases h with h | ⟨_, _, _, hx⟩
      · have h1 := op_in (n := n) hF hd.1 (fun a' w' => ih hd.2 a' w') h
        refine ⟨h1.1, ?_⟩
        have h2 := h1.2
        generalize (o.semAt F.round a.eval).run P w = r at *
        cases r with
        | ok nx w' =>
          cases nx <;> simp only [Oper.uponIn] at h2 ⊢ <;> first | exact h2 | skip
          case enter f args =>
            refine ⟨h2.1, h2.2.mono fun e w'' he => ?_⟩
            cases e with
            | returned u => exact he
            | panicked c => exact (he : False).elim
            | outgrown => obtain ⟨_, _, hx⟩ := he; exact (hx : False).elim
          case round l1 f tmps asg bd =>
            refine ⟨h2.1, h2.2.mono fun e w'' he => ?_⟩
            cases e with
            | returned u => exact he
            | panicked c => exact (he : False).elim
            | outgrown => obtain ⟨_, _, hx⟩ := he; exact (hx : False).elim
        | halt x w' => cases x <;> simp only [Oper.uponIn] at h2 ⊢ <;> exact (h2 : False).elim
      · exact (hx : False).elim
    · rw [if_neg hw] at h ⊢
      exact ⟨fun f _ => fn_in hF f, ih hd.2 _ w h⟩
/-- A region that draws nothing, in a round, walked as anywhere. -/
theorem round_region {id : Nat} {a : Act} {w : World} {ls : List Oper} (hF : WideF F) (hd : ls.all roundly = true) (h : wpList P ls.toArray (OnlyGoes Q) ls a w) : (Code.region id ls.toArray false).wpIn F n P Q a w :=
  wpIn_region_lit (list_in hF ls hd a w h)
theorem goes {a : Act} {w : World} (h : Q .normal a w) : OnlyGoes Q .normal a w := h
theorem m_out {S : World → Prop} {a : Act} {w : World} (h : Q .normal a w) : wpMix P ops (OnlyGoes Q) S [] a w := h
end

section
variable {P : Program} {w : World} {ops : Array Oper} {rest : List Oper} {op : Oper} {a : Act} {Q : Exit → Act → World → Prop} {k0 : Nat} {F : Fence}
theorem loadIn_row (hF : WideF F) (hgd : op.guard = none) (ty : TypeId) (x : Operand) (ho : op.op = .load ty x) (g o t n m : Nat) (f : Nat → Value) (h : w.rowIs g t n f)
    (hx : a.eval x = .pointer (some ⟨g, o, none⟩)) (d : TypeDesc) (hu : P.underlying ty = some d) (hd : d.isRow = true) (hi : (P.info? ty).map (·.size) = some m) (hm : o + m ≤ n)
    (hK : wpListIn F k0 P ops Q rest (a.put op.dst (.agg (cellsOf m fun j => f (o + j)))) w) : wpListIn F k0 P ops Q (op :: rest) a w :=
  wpListIn_plain hgd fun K hK' => op_in hF (by simp [roundly, ho]) (fun _ _ h => h) (wp_load_mid ty x ho g o hx _ d (row_range h o m hm) hu hd (by simpa using hi) (hK' _ _ hK))
theorem loadIn_whole (hF : WideF F) (hgd : op.guard = none) (ty : TypeId) (x : Operand) (ho : op.op = .load ty x) (g t n : Nat) (f : Nat → Value) (h : w.rowIs g t n f)
    (hx : a.eval x = .pointer (some ⟨g, 0, none⟩)) (d : TypeDesc) (hu : P.underlying ty = some d) (hd : d.isRow = true) (hi : (P.info? ty).map (·.size) = some n)
    (hK : wpListIn F k0 P ops Q rest (a.put op.dst (.agg (cellsOf n f))) w) : wpListIn F k0 P ops Q (op :: rest) a w := by
  refine loadIn_row hF hgd ty x ho g 0 t n n f h hx d hu hd hi (by omega) ?_
  simpa only [Nat.zero_add] using hK
/-- The same, of an operation with a guard that is met. -/
theorem loadIn_whole_if (hF : WideF F) (hw : Region.wanted op (yielded ops a.tmps) = true) (ty : TypeId) (x : Operand) (ho : op.op = .load ty x) (g t n : Nat) (f : Nat → Value) (h : w.rowIs g t n f)
    (hx : a.eval x = .pointer (some ⟨g, 0, none⟩)) (d : TypeDesc) (hu : P.underlying ty = some d) (hd : d.isRow = true) (hi : (P.info? ty).map (·.size) = some n)
    (hK : wpListIn F k0 P ops Q rest (a.put op.dst (.agg (cellsOf n f))) w) : wpListIn F k0 P ops Q (op :: rest) a w :=
  wpListIn_step fun K hK' => by
    rw [if_pos hw]
    exact op_in hF (by simp [roundly, ho]) (fun _ _ h => h) (wp_load_mid ty x ho g 0 hx _ d (row_range h 0 n (by omega)) hu hd (by simpa using hi) (hK' _ _ (by
      rw [show f = fun j => f (0 + j) by simp only [Nat.zero_add]] at hK
      exact hK)))
/-- An operation whose guard is not met. -/
theorem skipIn (hF : WideF F) (hw : Region.wanted op (yielded ops a.tmps) = false) (hK : wpListIn F k0 P ops Q rest (a.put op.dst undef) w) : wpListIn F k0 P ops Q (op :: rest) a w :=
  wpListIn_step fun K hK' => by
    rw [if_neg (by simp [hw])]
    exact ⟨fun f _ => fn_in hF f, hK' _ _ hK⟩
theorem storeIn_row (hF : WideF F) (hgd : op.guard = none) (ty : TypeId) (x y : Operand) (ho : op.op = .store ty x y) (g o t n m : Nat) (f c : Nat → Value) (h : w.rowIs g t n f)
    (hx : a.eval x = .pointer (some ⟨g, o, none⟩)) (cells : Array Value) (hy : a.eval y = .agg cells) (hi : (P.info? ty).map (·.size) = some m) (hm : o + m ≤ n)
    (hs : cells.size = m) (hc : ∀ i, i < m → cells[i]? = some (c i)) (h1 : ∀ i, i < m → (c i).oneCell' = true)
    (hK : ∀ w', w'.rowIs g t n (fun j => if o ≤ j ∧ j < o + m then c (j - o) else f j) → Only g w w' → wpListIn F k0 P ops Q rest (a.put op.dst undef) w') : wpListIn F k0 P ops Q (op :: rest) a w := by
  refine wpListIn_plain hgd fun K hK' => op_in hF (by simp [roundly, ho]) (fun _ _ h => h) (wp_store_mid ty x y ho g o cells hx hy (fun j hj => ?_) (by rw [hs]; exact hi) ?_ (hK' _ _ (hK _ ?_ (only_setCells g _ o w))))
  · rw [h.cell (by omega)]; exact ⟨rfl, h.frozen _⟩
  · refine Array.all_eq_true_iff_forall_mem.2 (fun v hv => ?_)
    obtain ⟨i, hi', rfl⟩ := Array.mem_iff_getElem.1 hv
    have := hc i (by omega)
    rw [Array.getElem?_eq_getElem hi'] at this
    rw [Option.some.inj this]
    exact h1 i (by omega)
  · have := row_setCells (g := g) (t := t) (n := n) cells.toList o w f c h (fun i hi' => by
      have := hc i (by simp at hi'; omega)
      simpa using this)
    simpa [hs] using this
theorem storeIn_whole (hF : WideF F) (hgd : op.guard = none) (ty : TypeId) (x y : Operand) (ho : op.op = .store ty x y) (g t n : Nat) (f c : Nat → Value) (h : w.rowIs g t n f)
    (hx : a.eval x = .pointer (some ⟨g, 0, none⟩)) (cells : Array Value) (hy : a.eval y = .agg cells) (hi : (P.info? ty).map (·.size) = some n)
    (hs : cells.size = n) (hc : ∀ i, i < n → cells[i]? = some (c i)) (h1 : ∀ i, i < n → (c i).oneCell' = true)
    (hK : ∀ w', w'.rowIs g t n c → Only g w w' → wpListIn F k0 P ops Q rest (a.put op.dst undef) w') : wpListIn F k0 P ops Q (op :: rest) a w := by
  refine storeIn_row hF hgd ty x y ho g 0 t n n f c h hx cells hy hi (by omega) hs hc h1 (fun w' hr ho' => hK w' (hr.congr (fun i hi' => ?_)) ho')
  rw [if_pos (by omega)]; rfl
/-- 'make([]byte, n)': a new row of n bytes 0. -/
theorem make_bytesIn (hF : WideF F) (hgd : op.guard = none) (t e : TypeId) (l c : Operand) (ho : op.op = .makeSlice t l c) (i : TypeInfo) (hu : P.underlying t = some (.slice e)) (hi : P.info? e = some i) (hz : i.zero = some (.int .u8 0))
    (hs : i.size = 1) (hb : i.bytes = 1) (kl kc : IntKind) (n : Nat) (hl : a.eval l = .int kl (n : Int)) (hc : a.eval c = .int kc (n : Int)) (hn : n ≤ 1099511627776)
    (hK : ∀ Z : Array Value, Z.size = n → (∀ j, j < n → Z[j]? = some (.int .u8 0)) → wpListIn F k0 P ops Q rest (a.put op.dst (.slice (some ⟨w.heap.size, 0, none⟩) n n)) (w.alloc (.cells Z e))) : wpListIn F k0 P ops Q (op :: rest) a w := by
  refine wpListIn_plain hgd fun K hK' => op_in hF (by simp [roundly, ho]) (fun _ _ h => h) ?_
  have hrun := run_make (P := P) w t e i (.int .u8 0) hu hi hz kl kc (n : Int) (n : Int) (by omega) (by omega) (by rw [hb]; omega) (by omega)
  simp only [Int.toNat_natCast] at hrun
  unfold Oper.wp
  simp only [execOp, ho, hl, hc, Sem.run_bind, hrun, Result.andThen]
  refine hK' _ _ (hK _ (by simp [madeCells, hs]) (fun j hj => ?_))
  simp [madeCells, Value.cells, hs, hj, Nat.mod_one]
end
end Go.Proofs.Ytcdgdoeegehjhaa.Aid
