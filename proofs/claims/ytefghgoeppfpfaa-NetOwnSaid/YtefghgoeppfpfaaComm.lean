/-
  A function whose body holds a communication (one goroutine, nothing waits), walked as any other: behind and ahead of the communication by the ordinary walk.
-/
import Derived.Test.YtefghgoeppfpfaaProg
import Derived.Conc.LoneSelect
import Derived.Conc.LoneSelectN
import Derived.WalkSmall
import Derived.WalkMore
namespace Go.Proofs.Ytefghgoeppfpfaa.Aid
open Go Go.RowKit Go.Conc

/-- As Code.wp, for frames of ordinary calls. -/
def WpN (P : Program) (c : Code) (Q : Exit → Act → World → Prop) (a : Act) (w : World) : Prop :=
  ∀ (b : Frame) (k : List Item) (cs : List Frame), b.kind ≠ .early → ∃ e a' w', Q e a' w' ∧ Arrives P (lone (b.at a (.code c :: k)) cs w) b k cs e a' w'
section
variable {P : Program} {Q : Exit → Act → World → Prop} {a : Act} {w : World} {x y c : Code}
theorem WpN.of (h : c.wp P Q a w) : WpN P c Q a w := fun b k cs _ => h b k cs
theorem WpN.seq (h : WpN P x (Exit.then (WpN P y Q) Q) a w) : WpN P (.seq x y) Q a w := by
  intro b k cs hb
  obtain ⟨e, a', w', hq, harr⟩ := h b (.code y :: k) cs hb
  have h0 : Steps P (lone (b.at a (.code (.seq x y) :: k)) cs w) (lone (b.at a (.code x :: .code y :: k)) cs w) := .one step_seq
  cases e with
  | normal =>
    obtain ⟨e2, a2, w2, hq2, harr2⟩ := hq b k cs hb
    exact ⟨e2, a2, w2, hq2, .of_steps (h0.trans harr) harr2⟩
  | exit id => exact ⟨_, a', w', hq, .of_steps h0 (harr.pass rfl (fun _ _ => .inl (by simp)))⟩
  | goto l => exact ⟨_, a', w', hq, .of_steps h0 (harr.pass rfl (fun _ _ => .inl (by simp)))⟩
  | ret => exact ⟨_, a', w', hq, .of_steps h0 (harr.pass rfl (fun _ _ => .inl (by simp)))⟩
  | panic ch => exact ⟨_, a', w', hq, .of_steps h0 (harr.pass rfl (fun _ _ => .inl (by simp)))⟩
  | outgrown => exact ⟨_, a', w', hq, .of_steps h0 (harr.pass rfl (fun _ _ => .inl (by simp)))⟩
/-- The first part by the ordinary walk. -/
theorem WpN.seq_wp (h : ∀ K : Act → World → Prop, (∀ a w, WpN P y Q a w → K a w) → x.wp P (Exit.then K Q) a w) : WpN P (.seq x y) Q a w := WpN.seq (WpN.of (h _ (fun _ _ h => h)))
theorem WpN.cond {o : Operand} {t : Bool} (hc : a.eval o = .bool t) (h : WpN P (if t then x else y) Q a w) : WpN P (.cond o x y) Q a w := by
  intro b k cs hb
  obtain ⟨e, a', w', hq, harr⟩ := h b k cs hb
  exact ⟨e, a', w', hq, .of_steps (.one (step_cond hc)) harr⟩
theorem calls_of_wpN {f : FuncId} {fn : Func} {args : Array Value} {R : Ending → World → Prop} (hf : P.funcs[f]? = some fn) (hb : fn.body = some c)
    (h : WpN P c (bodyPost P fn R) { tmps := args ++ Array.replicate (fn.ntmps - args.size) undef, defers := [] } w) : Calls P f args w R := by
  intro cs
  let b : Frame := { (default : Frame) with fn := f, kind := .normal }
  have henter : Frame.enter P f args .normal = b.at { tmps := args ++ Array.replicate (fn.ntmps - args.size) undef, defers := [] } [.code c] := by
    simp [Frame.enter, Frame.at, hf, hb, b]
  obtain ⟨e, a', w', hq, harr⟩ := h b [] cs (by simp [b])
  rw [← henter] at harr
  cases e with
  | normal =>
    obtain ⟨hd, v, hr, hR⟩ := hq
    exact ⟨.returned v, w', _, hR, Steps.trans harr (.one step_end), rfl, rfl, hd, rfl, fn, hf, hr⟩
  | ret =>
    obtain ⟨hd, v, hr, hR⟩ := hq
    obtain ⟨todo, hs⟩ := harr
    exact ⟨.returned v, w', _, hR, hs, rfl, rfl, hd, rfl, fn, hf, hr⟩
  | panic chain =>
    obtain ⟨hd, hR⟩ := hq
    obtain ⟨todo, hs⟩ := harr
    exact ⟨.panicked chain, w', _, hR, hs, rfl, rfl, hd, fn, hf⟩
  | exit id => exact hq.elim
  | goto l => exact hq.elim
  | outgrown => exact ⟨.outgrown, w', b, hq, harr.resolve_left (by simp [b]), rfl, trivial⟩
/-- A region that begins with a communication; v: what it hands over. -/
theorem wpN_comm {id : Nat} {o : Oper} {ls : List Oper} {cases : Array CommCase} {blocking : Bool} {shape : CommShape} {v : Value} {w' : World}
    (hw : Region.wanted o (yielded (o :: ls).toArray a.tmps) = true) (hr : (execOp a.eval o).run P w = .ok (.comm cases blocking shape) w)
    (hstep : ∀ (fr : Frame) (cs : List Frame) (es : Array Event), stepG P true (G fr cs) w = .comm (G fr cs) cases blocking shape w es → step P (solo (G fr cs) w) = .next (solo (G (fr.finish v) cs) w'))
    (h : wpList P (o :: ls).toArray Q ls (a.put o.dst v) w') : WpN P (.region id (o :: ls).toArray false) Q a w := by
  intro b k cs hb
  have hl : wpOps P (o :: ls).toArray Q (List.range' 1 ls.length) (a.put o.dst v) w' := by
    rw [wpOps_eq_wpList ls 1 (fun j => by simp [Nat.add_comm 1 j])]
    exact h
  obtain ⟨e, a', w2, hq, harr⟩ := wp_ops _ _ _ hl b k cs
  have h1 : step P (lone (b.at a (.code (.region id (o :: ls).toArray false) :: k)) cs w) = .next (lone (b.at a (.inRegion (o :: ls).toArray (0 :: List.range' 1 ls.length) :: k)) cs w) := by
    rw [step_region]
    simp [List.range_eq_range', List.range'_succ]
  have h2 := hstep (b.at a (.inRegion (o :: ls).toArray (0 :: List.range' 1 ls.length) :: k)) cs _ (stepG_comm (main := true) (by simp) hw hb hr)
  rw [Frame.finish_at] at h2
  exact ⟨e, a', w2, hq, .of_steps (.head h1 (.one h2)) harr⟩
section
variable {id c cap s r : Nat} {o : Oper} {ls : List Oper} {buf : Array Value} {v z : Value} {tm : Bool}
/-- 'select { case c <- v: .. default: .. }' with room. -/
theorem wpN_send_room (hw : Region.wanted o (yielded (o :: ls).toArray a.tmps) = true) (hr : (execOp a.eval o).run P w = .ok (.comm #[scase c v z] false .select) w) (hc : w.heap[c]? = some (.chan cap buf false s r tm)) (hroom : buf.size < cap)
    (h : wpList P (o :: ls).toArray Q ls (a.put o.dst (.tuple #[goInt 0, .bool false])) (w.setChan c cap (buf.push v) false (s + 1) r tm)) : WpN P (.region id (o :: ls).toArray false) Q a w :=
  wpN_comm hw hr (fun _ _ _ h => step_lone_select_send_room h hc hroom) h
/-- Without room: the default. -/
theorem wpN_send_full (hw : Region.wanted o (yielded (o :: ls).toArray a.tmps) = true) (hr : (execOp a.eval o).run P w = .ok (.comm #[scase c v z] false .select) w) (hc : w.heap[c]? = some (.chan cap buf false s r tm)) (hfull : cap ≤ buf.size)
    (h : wpList P (o :: ls).toArray Q ls (a.put o.dst (.tuple #[goInt (-1), .bool false])) w) : WpN P (.region id (o :: ls).toArray false) Q a w :=
  wpN_comm hw hr (fun _ _ _ h => step_lone_select_send_full h hc hfull) h
/-- 'select { case x := <-c: .. default: .. }' where something is there. -/
theorem wpN_recv_some {closed : Bool} (hw : Region.wanted o (yielded (o :: ls).toArray a.tmps) = true) (hr : (execOp a.eval o).run P w = .ok (.comm #[rcase c z] false .select) w) (hc : w.heap[c]? = some (.chan cap buf closed s r tm)) (hsome : 0 < buf.size)
    (h : wpList P (o :: ls).toArray Q ls (a.put o.dst (.tuple #[goInt 0, .bool true, buf.getD 0 undef])) (w.setChan c cap (buf.extract 1 buf.size) closed s (r + 1) tm)) : WpN P (.region id (o :: ls).toArray false) Q a w :=
  wpN_comm hw hr (fun _ _ _ h => step_lone_select_recv_buf h hc hsome) h
/-- Where nothing is there: the default. -/
theorem wpN_recv_none (hw : Region.wanted o (yielded (o :: ls).toArray a.tmps) = true) (hr : (execOp a.eval o).run P w = .ok (.comm #[rcase c z] false .select) w) (hc : w.heap[c]? = some (.chan cap #[] false s r tm))
    (h : wpList P (o :: ls).toArray Q ls (a.put o.dst (.tuple #[goInt (-1), .bool false, z])) w) : WpN P (.region id (o :: ls).toArray false) Q a w :=
  wpN_comm hw hr (fun _ _ _ h => step_lone_select_default h hc) h
end
end
end Go.Proofs.Ytefghgoeppfpfaa.Aid
