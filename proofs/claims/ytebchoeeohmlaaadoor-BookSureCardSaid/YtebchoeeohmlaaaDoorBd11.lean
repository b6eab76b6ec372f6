/-
  Help for the program's own functions on books: lists in blocks of the call's own; a name's place in a list. BookSure, without memory: what Do, Pack, a crash and Open make of the operations that were taken. BookSure, with memory: two books in blocks of the law's own, beside a store and a keep.
-/
import Derived.Test.YtebchoeeohmlaaaDoorBd08
import Derived.Test.YtebchoeeohmlaaaDoorBd09
import Derived.Test.YtebchoeeohmlaaaDoorBd01
import Derived.Test.YtebchoeeohmlaaaDoorBd10
namespace Go.Proofs.YtebchoeeohmlaaaDoor.Book
open Go Go.RowKit Go.Proofs.YtebchoeeohmlaaaDoor.Aid
open Go.Proofs.YtebchoeeohmlaaaDoor.Cache (idxK idx_none idx_found atN hasK at_has at_key at_before)

def entR (p : ByteArray × Wd) : List Value := (List.range 17).map (entF p)
def wordR (k : Wd) : List Value := (List.range 16).map (wordF k)
theorem entR_len (p : ByteArray × Wd) : (entR p).length = 17 := by unfold entR; simp
theorem wordR_len (k : Wd) : (wordR k).length = 16 := by unfold wordR; simp
theorem entR_one (p : ByteArray × Wd) : ∀ q ∈ entR p, q.oneCell' = true := fun q hq => by
  obtain ⟨j, _, rfl⟩ := List.mem_map.1 hq
  unfold entF
  split
  · rfl
  · rfl
theorem wordR_one (k : Wd) : ∀ q ∈ wordR k, q.oneCell' = true := fun q hq => by
  obtain ⟨j, _, rfl⟩ := List.mem_map.1 hq
  rfl
theorem ents_map (L : List (ByteArray × Wd)) : (List.range L.length).map (fun i => entR (L.getD i (nos, zw))) = L.map entR := by
  apply List.ext_getElem?
  intro i
  by_cases h : i < L.length
  · rw [List.getElem?_map, List.getElem?_range h, List.getElem?_map, List.getElem?_eq_getElem h]
    show some (entR (L.getD i (nos, zw))) = _
    rw [List.getD_eq_getElem?_getD, List.getElem?_eq_getElem h]
    rfl
  · rw [List.getElem?_eq_none (by simp; omega), List.getElem?_eq_none (by simp; omega)]
theorem revs_map (L : List Wd) : (List.range L.length).map (fun i => wordR (L.getD i zw)) = L.map wordR := by
  apply List.ext_getElem?
  intro i
  by_cases h : i < L.length
  · rw [List.getElem?_map, List.getElem?_range h, List.getElem?_map, List.getElem?_eq_getElem h]
    show some (wordR (L.getD i zw)) = _
    rw [List.getD_eq_getElem?_getD, List.getElem?_eq_getElem h]
    rfl
  · rw [List.getElem?_eq_none (by simp; omega), List.getElem?_eq_none (by simp; omega)]
theorem rows_congr {W : World} {s n n' : Nat} {V V' : Nat → List Value} {v : Value} (h : RowsAt W s n V v) (hn : n' = n) (hV : ∀ i, i < n → V' i = V i) : RowsAt W s n' V' v := by
  subst hn
  obtain ⟨A, c, rfl, hr⟩ := h
  refine ⟨A, c, rfl, fun h1 => ?_⟩
  obtain ⟨b, o, hA, hlt, hc⟩ := hr h1
  exact ⟨b, o, hA, hlt, fun i hi j u hu => hc i hi j u (by rw [← hV i hi]; exact hu)⟩
/-- A book whose lists are the call's own. -/
structure OwnBk (W : World) (base : Nat) (b : Bk) (Lv Rv : Value) : Prop where
  eL : OwnE W base 95 17 (b.L.map entR) Lv
  eR : OwnE W base 26 16 (b.rev.map wordR) Rv
section
variable {W W' : World} {base : Nat} {b : Bk} {Lv Rv : Value}
theorem OwnBk.below (h : OwnBk W base b Lv Rv) (hb : Below W.heap.size W W') : OwnBk W' base b Lv Rv := ⟨h.eL.below hb, h.eR.below hb⟩
theorem OwnBk.keep (h : OwnBk W base b Lv Rv) (hk : ∀ g, (Lv.ownBlock = some g ∨ Rv.ownBlock = some g) → W'.heap[g]? = W.heap[g]?) : OwnBk W' base b Lv Rv := ⟨h.eL.keep (fun g hg => hk g (.inl hg)), h.eR.keep (fun g hg => hk g (.inr hg))⟩
theorem OwnBk.lt (h : OwnBk W base b Lv Rv) : ∀ g, (Lv.ownBlock = some g ∨ Rv.ownBlock = some g) → base ≤ g ∧ g < W.heap.size := fun g hg => hg.elim (h.eL.lt g) (h.eR.lt g)
theorem OwnBk.ents (h : OwnBk W base b Lv Rv) : RowsAt W 17 b.L.length (entsL b) Lv := rows_congr h.eL.rows (by simp) (fun i hi => by
  rw [List.length_map] at hi
  rw [List.getD_eq_getElem?_getD, List.getElem?_map, List.getElem?_eq_getElem hi]
  show entR _ = entR _
  rw [List.getD_eq_getElem?_getD, List.getElem?_eq_getElem hi]
  rfl)
theorem OwnBk.revs (h : OwnBk W base b Lv Rv) : RowsAt W 16 b.rev.length (revsL b) Rv := rows_congr h.eR.rows (by simp) (fun i hi => by
  rw [List.length_map] at hi
  rw [List.getD_eq_getElem?_getD, List.getElem?_map, List.getElem?_eq_getElem hi]
  show wordR _ = wordR _
  rw [List.getD_eq_getElem?_getD, List.getElem?_eq_getElem hi]
  rfl)
theorem OwnBk.apart (h : OwnBk W base b Lv Rv) {g : Nat} (hg : g < base ∨ W.heap.size ≤ g) : Apart Lv Rv g :=
  ⟨fun e => by have := h.eL.lt g e; omega, fun e => by have := h.eR.lt g e; omega⟩
theorem OwnBk.book (h : OwnBk W base b Lv Rv) (hr : Reach b) : BookAt W b Lv Rv :=
  ⟨h.ents, h.revs, hr, fun _ hg => h.apart (.inr hg), fun _ _ _ hv => hv.elim (fun e => h.eL.cap e) (fun e => h.eR.cap e)⟩
theorem OwnBk.nil (W : World) (base : Nat) : OwnBk W base bk0 (.slice none 0 0) (.slice none 0 0) := ⟨OwnE.nil _ _ _ _, OwnE.nil _ _ _ _⟩
end
/-! ### A name's place -/
theorem idx_at {α : Type} [DecidableEq α] {c : List α} {k : α} {i : Nat} (hi : c[i]? = some k) (h : ∀ j, j < i → c[j]? ≠ some k) : idxK c k = (i : Int) := by
  obtain ⟨hl, he⟩ := List.getElem?_eq_some_iff.1 hi
  exact idx_found hl he (fun j hj hjl e => h j hj (List.getElem?_eq_some_iff.2 ⟨hjl, e⟩))
theorem idx_no {α : Type} [DecidableEq α] {c : List α} {k : α} (h : ∀ j, j < c.length → c[j]? ≠ some k) : idxK c k = -1 :=
  idx_none (fun j hj e => h j hj (List.getElem?_eq_some_iff.2 ⟨hj, e⟩))
theorem names_len (L : List (ByteArray × Wd)) : (namesB L).length = L.length := by unfold namesB; simp
theorem names_at {L : List (ByteArray × Wd)} {i : Nat} {p : ByteArray × Wd} (h : L[i]? = some p) : (namesB L)[i]? = some p.1 := by unfold namesB; rw [List.getElem?_map, h]; rfl
def atL (L : List (ByteArray × Wd)) (n : ByteArray) : Nat := atN (namesB L) n
theorem idx_has {L : List (ByteArray × Wd)} {n : ByteArray} (h : hasN L n = true) : idxK (namesB L) n = (atL L n : Int) ∧ atL L n < L.length := by
  have h1 : hasK (namesB L) n = true := h
  refine ⟨by unfold idxK; rw [h1, if_pos rfl]; rfl, ?_⟩
  rw [at_has] at h1
  have := of_decide_eq_true h1
  rw [names_len] at this
  exact this
theorem idx_not {L : List (ByteArray × Wd)} {n : ByteArray} (h : hasN L n = false) : idxK (namesB L) n = -1 := by
  have h1 : hasK (namesB L) n = false := h
  unfold idxK
  rw [h1]
  rfl
theorem at_zero {p : ByteArray × Wd} {L : List (ByteArray × Wd)} {n : ByteArray} (h : p.1 = n) : atL (p :: L) n = 0 := by
  unfold atL namesB atN
  rw [List.map_cons, List.findIdx_cons, decide_eq_true h]
  rfl
theorem at_succ {p : ByteArray × Wd} {L : List (ByteArray × Wd)} {n : ByteArray} (h : p.1 ≠ n) : atL (p :: L) n = atL L n + 1 := by
  unfold atL namesB atN
  rw [List.map_cons, List.findIdx_cons, decide_eq_false h]
  rfl
theorem has_cons {p : ByteArray × Wd} {L : List (ByteArray × Wd)} {n : ByteArray} (h : p.1 ≠ n) (hh : hasN (p :: L) n = true) : hasN L n = true := by
  unfold hasN hasG namesB at *
  simp only [List.map_cons, List.mem_cons, decide_eq_true_eq] at *
  exact hh.resolve_left (fun e => h e.symm)
theorem rmN_at {n : ByteArray} : ∀ {L : List (ByteArray × Wd)}, hasN L n = true → rmN n L = L.take (atL L n) ++ L.drop (atL L n + 1)
  | [], h => by cases h
  | p :: L, h => by
    unfold rmN
    by_cases he : p.1 = n
    · rw [if_pos he, at_zero he]; rfl
    · rw [if_neg he, at_succ he, rmN_at (has_cons he h)]; rfl
theorem reN_at {n : ByteArray} {k : Wd} : ∀ {L : List (ByteArray × Wd)}, hasN L n = true → reN n k L = L.set (atL L n) ((L.getD (atL L n) (nos, zw)).1, k)
  | [], h => by cases h
  | p :: L, h => by
    unfold reN
    by_cases he : p.1 = n
    · rw [if_pos he, at_zero he]; rfl
    · rw [if_neg he, at_succ he, reN_at (has_cons he h)]; rfl
theorem keyN_at {n : ByteArray} : ∀ {L : List (ByteArray × Wd)}, hasN L n = true → keyB n L = (L.getD (atL L n) (nos, zw)).2
  | [], h => by cases h
  | p :: L, h => by
    unfold keyB
    by_cases he : p.1 = n
    · rw [if_pos he, at_zero he]; rfl
    · rw [if_neg he, at_succ he, keyN_at (has_cons he h)]; rfl
theorem keyN_none {n : ByteArray} : ∀ {L : List (ByteArray × Wd)}, hasN L n = false → keyB n L = zw
  | [], _ => rfl
  | p :: L, h => by
    have h1 : n ∉ namesB (p :: L) := hasG_no h
    have h2 : p.1 ≠ n := fun e => h1 (by unfold namesB; simp [e])
    unfold keyB
    rw [if_neg h2]
    exact keyN_none (hasG_none (fun hm => h1 (by unfold namesB at *; simp only [List.map_cons, List.mem_cons]; exact .inr hm)))
end Go.Proofs.YtebchoeeohmlaaaDoor.Book
namespace Go.Proofs.YtebchoeeohmlaaaDoor.Book
open Go Go.RowKit Go.Proofs.YtebchoeeohmlaaaDoor.Aid Go.Proofs.YtebchoeeohmlaaaDoor.Cache Go.Proofs.YtebchoeeohmlaaaDoor.Store Go.Proofs.YtebchoeeohmlaaaDoor.Jour

theorem ops_grow (b : Bk) (x : OpB) : (opsB (applyB b x)).length ≤ (opsB b).length + 1 := by
  have hl : ∀ c : Bk, (opsB c).length = c.L.length + (c.rev.length + if 0 < c.gen then 1 else 0) := fun c => by
    unfold opsB
    rw [List.length_append, List.length_append, List.length_map, List.length_map]
    split <;> rfl
  rw [hl, hl]
  unfold applyB
  split
  · unfold doneB
    split
    · show (b.L ++ [(x.name, x.key)]).length + (b.rev.length + (if 0 < b.gen then 1 else 0)) ≤ _
      rw [List.length_append, List.length_singleton]; omega
    · split
      · have := (rm_sub x.name b.L).length_le
        show (rmN x.name b.L).length + (b.rev.length + (if 0 < b.gen then 1 else 0)) ≤ _
        omega
      · split
        · show (reN x.name x.key b.L).length + (b.rev.length + (if 0 < b.gen then 1 else 0)) ≤ _
          rw [re_len]; omega
        · split
          · show b.L.length + ((b.rev ++ [x.key]).length + (if 0 < b.gen then 1 else 0)) ≤ _
            rw [List.length_append, List.length_singleton]; omega
          · show b.L.length + (b.rev.length + if 0 < x.gen then 1 else 0) ≤ _
            split <;> split <;> omega
  · omega
theorem run_right : ∀ (l : List OpB) (c b : Bk), runB c l = some b → ∀ x ∈ l, rightB x = true
  | [], _, _, _, _, h => by cases h
  | y :: l, c, b, h, x, hx => by
    rw [runB] at h
    by_cases h0 : applyC c y = 0
    · rw [if_pos h0] at h
      rcases List.mem_cons.1 hx with rfl | h1
      · exact apply_right h0
      · exact run_right l _ _ h x h1
    · rw [if_neg h0] at h; cases h
structure OpsOf (R : List OpB) (b : Bk) : Prop where
  run : runB bk0 R = some b
  keys : ∀ x ∈ R, x.key.length = 16
theorem OpsOf.snoc {R : List OpB} {b : Bk} (h : OpsOf R b) {x : OpB} (hc : applyC b x = 0) (hk : x.key.length = 16) : OpsOf (R ++ [x]) (applyB b x) := by
  refine ⟨?_, fun y hy => ?_⟩
  · rw [run_append, h.run, Option.bind_some]
    show runB b [x] = _
    rw [runB, if_pos hc, runB]
  · rcases List.mem_append.1 hy with h1 | h1
    · exact h.keys y h1
    · rw [List.mem_singleton.1 h1]; exact hk
theorem ops_of {b : Bk} (h : Reach b) : OpsOf (opsB b) b := ⟨ops_restore h, fun x hx => (ops_ok h x hx).1⟩
section
variable {w0 : World} {RS : RepSt} {RK : RepK} {D : By → By} {E : OpB → By} {m : Nat} {st : St} {R Rw : List OpB} {b bw : Bk} {x : OpB} {k : Nat}
theorem enc_most (hD : ∀ x, (D x).length = 8) : ∀ (R : List OpB), (∀ x ∈ R, (E x).length ≤ 100) → (encAll D (R.map E)).length ≤ 110 * R.length
  | [], _ => Nat.le_refl _
  | y :: l, h => by
    have h1 := enc_most hD l (fun x hx => h x (List.mem_cons_of_mem _ hx))
    have h2 := h y (List.mem_cons_self ..)
    rw [List.map_cons, encAll, List.length_append, enc_len hD, List.length_cons]
    omega
theorem OpsOf.small (H : KeepHas w0 RS RK D E) (h : OpsOf R b) : ∀ x ∈ R, (E x).length ≤ 100 := fun x hx => H.elen x (run_right _ _ _ h.run x hx) (h.keys x hx)
theorem OpsOf.most (H : KeepHas w0 RS RK D E) (h : OpsOf R b) : (encAll D (R.map E)).length ≤ 110 * R.length := enc_most H.dlen R (h.small H)
/-- All is well, behind k operations. -/
structure GoodK (D : By → By) (E : OpB → By) (m : Nat) (st : St) (R : List OpB) (b : Bk) (k : Nat) : Prop where
  good : JGood D m st (R.map E)
  ops : OpsOf R b
  reach : Reach b
  len : R.length ≤ k
  most : (opsB b).length ≤ k
/-- Power is gone. -/
structure GoneK (D : By → By) (E : OpB → By) (m : Nat) (st : St) (R Rw : List OpB) (b bw : Bk) (k : Nat) : Prop where
  gone : JGone D m st (R.map E) (Rw.map E)
  ops : OpsOf R b
  way : OpsOf Rw b ∨ OpsOf Rw bw
  len : R.length ≤ k
theorem GoodK.n (H : KeepHas w0 RS RK D E) (h : GoodK D E m st R b k) : st.n ≤ 110 * k := by
  have h1 := h.ops.most H
  have h2 := h.len
  rw [← bytes_len, h.good.bytes]
  omega
theorem GoodK.gone (h : GoodK D E m st R b k) (bw : Bk) : GoneK D E m st R R b bw k := ⟨h.good.gone _, h.ops, .inl h.ops, h.len⟩
theorem add_room (hD : ∀ x, (D x).length = 8) {x : By} (hx : x.length ≤ 1000) (hr : st.n + (10 + x.length) ≤ m) : addC D m st x ≠ 7 := by
  unfold addC
  rw [if_neg (by omega)]
  have hc : appC m st (enc D x).length ≠ 7 := by
    unfold appC
    rw [enc_len hD, if_pos hr]
    split <;> decide
  split
  · unfold syncC
    split <;> decide
  · exact hc
theorem good_err (h : GoodK D E m st R b k) (hc : applyC b x ≠ 0) : doC D E m st b x = applyC b x ∧ GoodK D E m (doS D E m st b x) (doR D E m st R b x) (doB D E m st b x) k := by
  obtain ⟨h1, h2, h3, h4⟩ := do_err D E m st R hc
  rw [h2, h3, h4]
  exact ⟨h1, h⟩
theorem apply_not8 (b : Bk) (x : OpB) : applyC b x ≠ 8 := by
  unfold applyC
  repeat' split
  all_goals decide
theorem good_do (H : KeepHas w0 RS RK D E) (h : GoodK D E m st R b k) (hc : applyC b x = 0) (hk : x.key.length = 16) (hm : 110 * k + 110 ≤ m) :
    (doC D E m st b x = 0 ∧ GoodK D E m (doS D E m st b x) (doR D E m st R b x) (doB D E m st b x) (k + 1) ∧ doB D E m st b x = applyB b x) ∨
    (doC D E m st b x = 8 ∧ GoneK D E m (doS D E m st b x) R (R ++ [x]) b (applyB b x) (k + 1)) := by
  have he := H.elen x (apply_right hc) hk
  have hn := h.n H
  have e0 : doC D E m st b x = addC D m st (E x) := by unfold doC; rw [if_pos hc]
  have e1 : doS D E m st b x = addS D m st (E x) := by unfold doS; rw [if_pos hc]
  have ho := h.ops.snoc hc hk
  rcases add_step (x := E x) h.good with ⟨h1, h2, _⟩ | ⟨h1, _, _⟩ | ⟨h1, h2⟩
  · left
    have e2 : doR D E m st R b x = R ++ [x] := by unfold doR; rw [e0, if_pos h1]
    have e3 : doB D E m st b x = applyB b x := by unfold doB; rw [e0, if_pos h1]
    refine ⟨by rw [e0, h1], ?_, e3⟩
    rw [e1, e2, e3]
    refine ⟨by rw [List.map_append]; exact h2, ho, reach_apply h.reach x hk, by have := h.len; rw [List.length_append, List.length_singleton]; omega, by have := ops_grow b x; have := h.most; omega⟩
  · exact absurd h1 (add_room H.dlen (by omega) (by omega))
  · right
    refine ⟨by rw [e0, h1], ?_⟩
    rw [e1]
    exact ⟨by rw [List.map_append]; exact h2, h.ops, .inr ho, by have := h.len; omega⟩
theorem good_pack (h : GoodK D E m st R b k) :
    (onlyC D m st (packL E b) ≠ 8 ∧ GoodK D E m (onlyS D m st (packL E b)) (packR D E m st R b) b k) ∨
    (onlyC D m st (packL E b) = 8 ∧ ∀ bw, GoneK D E m (onlyS D m st (packL E b)) R (opsB b) b bw k) := by
  rcases only_step (M := packL E b) h.good with ⟨h1, h2, _⟩ | ⟨h1, h2, _⟩ | ⟨h1, h2⟩
  · left
    have e : packR D E m st R b = opsB b := by unfold packR; rw [if_pos h1]
    rw [e]
    exact ⟨by rw [h1]; decide, h2, ops_of h.reach, h.reach, h.most, h.most⟩
  · left
    have e : packR D E m st R b = R := by unfold packR; rw [if_neg (by rw [h1]; decide)]
    rw [e]
    exact ⟨by rw [h1]; decide, h2, h.ops, h.reach, h.len, h.most⟩
  · exact .inr ⟨h1, fun bw => ⟨h2, h.ops, .inl (ops_of h.reach), h.len⟩⟩
/-- Behind a crash. -/
theorem gone_crash (H : KeepHas w0 RS RK D E) (h : GoneK D E m st R Rw b bw k) (i : Int) (hk : k ≤ 40) :
    ∃ R' b' t, scan D (bytesL (crashS st i)) = some (R'.map E, t) ∧ OpsOf R' b' ∧ (b' = b ∨ b' = bw) ∧ (crashS st i).n ≤ 100000 := by
  obtain ⟨L, t, hL, hs, _, _⟩ := crash_scan H.dlen h.gone i
  have hn : (crashS st i).n ≤ 100000 := by
    have h1 := (crash_le h.gone.ok i).1
    have h2 : st.n ≤ (encAll D (R.map E)).length + 1010 := by
      obtain ⟨p, hb, hp⟩ := h.gone.bytes
      rw [← bytes_len, hb, List.length_append]
      rcases hp with rfl | ⟨y, hy, hpre, _⟩
      · simp
      · have := hpre.length_le
        rw [enc_len H.dlen] at this
        omega
    have h3 := h.ops.most H
    have h4 := h.len
    show crashN st i ≤ _
    omega
  rcases hL with rfl | rfl
  · exact ⟨R, b, t, hs, h.ops, .inl rfl, hn⟩
  · rcases h.way with hw | hw
    · exact ⟨Rw, b, t, hs, hw, .inl rfl, hn⟩
    · exact ⟨Rw, bw, t, hs, hw, .inr rfl, hn⟩
end
end Go.Proofs.YtebchoeeohmlaaaDoor.Book
namespace Go.Proofs.YtebchoeeohmlaaaDoor.Book
open Go Go.RowKit Go.Proofs.YtebchoeeohmlaaaDoor.Aid Go.Proofs.YtebchoeeohmlaaaDoor.Cache Go.Proofs.YtebchoeeohmlaaaDoor.Store Go.Proofs.YtebchoeeohmlaaaDoor.Jour

structure ActB where
  d : Int
  n : Int
  x : OpB
def actF (a : ActB) (j : Nat) : Value := if j = 0 then .int .i64 a.d else if j = 1 then .int .i64 a.n else opF a.x (j - 2)
def actL (a : ActB) : List Value := (List.range 21).map (actF a)
structure ActsIn (W : World) (n : Nat) (X : Nat → ActB) (v : Value) : Prop where
  rows : RowsAt W 21 n (fun i => actL (X i)) v
  ok : ∀ i, i < n → ((X i).x.key.length = 16 ∧ (X i).x.name.size ≤ 9000000000000000000)
theorem act_one (a : ActB) (j : Nat) : (actF a j).oneCell' = true := by
  unfold actF opF
  repeat' split
  all_goals rfl
theorem act_op (a : ActB) : cellsOf 19 (fun j => actF a (2 + j)) = cellsOf 19 (opF a.x) := cellsOf_congr fun j _ => by
  unfold actF
  rw [if_neg (by omega), if_neg (by omega), show 2 + j - 2 = j by omega]
theorem zero21 (C : Array Value) (h : C = #[.int .i64 0, .int .i64 0, .int .i64 0, .string ⟨#[]⟩, .int .u8 0, .int .u8 0, .int .u8 0, .int .u8 0, .int .u8 0, .int .u8 0, .int .u8 0, .int .u8 0, .int .u8 0, .int .u8 0, .int .u8 0, .int .u8 0, .int .u8 0, .int .u8 0, .int .u8 0, .int .u8 0, .int .i64 0]) : ∀ i, i < 21 → C[i]? = some (actF ⟨0, 0, ⟨0, nos, zw, 0⟩⟩ i) := by
  subst h
  intro i hi
  match i, hi with
  | 0, _ => rfl
  | 1, _ => rfl
  | 2, _ => rfl
  | 3, _ => rfl
  | 4, _ => rfl
  | 5, _ => rfl
  | 6, _ => rfl
  | 7, _ => rfl
  | 8, _ => rfl
  | 9, _ => rfl
  | 10, _ => rfl
  | 11, _ => rfl
  | 12, _ => rfl
  | 13, _ => rfl
  | 14, _ => rfl
  | 15, _ => rfl
  | 16, _ => rfl
  | 17, _ => rfl
  | 18, _ => rfl
  | 19, _ => rfl
  | 20, _ => rfl
  | _ + 21, hi => exact absurd hi (by omega)
section
variable {P : Program} {w : World} {ops : Array Oper} {rest : List Oper} {op : Oper} {a : Act} {Q : Exit → Act → World → Prop}
theorem load_range (hgd : op.guard = none) (ty : TypeId) (x : Operand) (ho : op.op = .load ty x) (g o m : Nat) (f : Nat → Value) (h : w.rangeAt g o ((List.range m).map f))
    (hx : a.eval x = .pointer (some ⟨g, o, none⟩)) (d : TypeDesc) (hu : P.underlying ty = some d) (hd : d.isRow = true) (hi : (P.info? ty).map (·.size) = some m)
    (hK : wpList P ops Q rest (a.put op.dst (.agg (cellsOf m f))) w) : wpList P ops Q (op :: rest) a w :=
  wpList_load_mid hgd ty x ho g o hx _ d h hu hd (by simpa using hi) hK
end
section
variable {P : Program} {ls : List Oper} {md : Region.Mode} {S : World → Prop} {Q : Exit → Act → World → Prop} {n : Nat} {listed : Array Bool} {op : Oper} {a : Act} {w : World}
/-- Passed over: its guard says no. -/
theorem f_skip (i : Nat) (hi : ls[i]? = some op) (hB : (Region.noSelect ls.toArray && (Region.free md ls.toArray listed i && (Region.ready md ls.toArray listed).contains i)) = true)
    (hw : Region.wanted op (yielded ls.toArray a.tmps) = false) (hS : S w)
    (h : wpAnyH P md ls.toArray (NoPanic Q) S n (listed.setIfInBounds i true) (a.put op.dst undef) w) : wpAnyH P md ls.toArray (NoPanic Q) S (n + 1) listed a w := by
  simp only [Bool.and_eq_true] at hB
  exact wpAnyH_take (by simpa using hi) hB.1 hB.2.1 hB.2.2 (fun c a w hc => hc) (.inr ⟨hw, rfl⟩) hS h
end
section
variable {RS : RepSt} {RK : RepK} {D : By → By} {E : OpB → By} {w0 W W' : World} {X X' : Nat → Prop} {s k : Value} {m : Nat} {st : St} {R : List OpB} {b bw : Bk} {g : Nat}
/-- The law writes into a block of its own. -/
theorem KeepHas.onlyT (H : KeepHas w0 RS RK D E) (h : KT RS RK w0 W X s k m st R b) (hg : X g) (hge : w0.heap.size ≤ g) (ho : Only g W W') : KT RS RK w0 W' X s k m st R b := by
  obtain ⟨FA, FB, h⟩ := h
  have e := ho.size
  exact ⟨FA, FB, H.keep _ _ _ _ _ _ h.ra (fun x hx => ho.block x (fun q => h.ax x hx (q ▸ hg))), H.keepK h.rb (fun x hx => ho.block x (fun q => h.bx x hx (q ▸ hg))), fun x hx => by rw [e]; exact h.lta x hx, fun x hx => by rw [e]; exact h.ltb x hx, h.gea, h.geb, h.ab, h.ax, h.bx, ho.below h.bel hge, fun x hx => by rw [e]; exact h.old x hx⟩
theorem KeepHas.onlyH (H : KeepHas w0 RS RK D E) (h : Held RS w0 W X s m st) (hg : X g) (hge : w0.heap.size ≤ g) (ho : Only g W W') : Held RS w0 W' X s m st := by
  obtain ⟨F, h⟩ := h
  have e := ho.size
  exact ⟨F, H.keep _ _ _ _ _ _ h.rep (fun x hx => ho.block x (fun q => h.apart x hx (q ▸ hg))), fun x hx => by rw [e]; exact h.lt x hx, h.ge, h.apart, ho.below h.bel hge, fun x hx => by rw [e]; exact h.old x hx⟩
/-- A book in block g, its slices in blocks of X, none of them one of the two blocks. -/
structure Vr (W : World) (X : Nat → Prop) (w0 : World) (g h : Nat) (b : Bk) (Lv Rv : Value) : Prop where
  row : W.rowIs g 38 19 (bookF b Lv Rv)
  at_ : BookAt W b Lv Rv
  inx : ∀ x, ¬ Apart Lv Rv x → X x
  x : X g
  ge : w0.heap.size ≤ g
  ag : Apart Lv Rv g
  ah : Apart Lv Rv h
theorem rows_keep {W W' : World} {s n : Nat} {V : Nat → List Value} {v : Value} (h : RowsAt W s n V v) (hk : ∀ x, v.ownBlock = some x → W'.heap[x]? = W.heap[x]?) : RowsAt W' s n V v := by
  obtain ⟨A, c, rfl, hr⟩ := h
  refine ⟨A, c, rfl, fun h1 => ?_⟩
  obtain ⟨b, o, rfl, hlt, hc⟩ := hr h1
  have he := hk b rfl
  refine ⟨b, o, rfl, ?_, fun i hi j u hu => ?_⟩
  · rw [Array.getElem?_eq_getElem hlt] at he
    exact (Array.getElem?_eq_some_iff.1 he).1
  · have := hc i hi j u hu
    unfold World.cell? at this ⊢
    rw [he]
    exact this
theorem Vr.keep {h : Nat} {Lv Rv : Value} (hv : Vr W X w0 g h b Lv Rv) (hk : Keep X W W') (hX : ∀ x, X x → X' x) (hlt : ∀ x, X x → x < W'.heap.size) : Vr W' X' w0 g h b Lv Rv :=
  ⟨hv.row.of_block (hk g hv.x),
   ⟨rows_keep hv.at_.ents (fun x hx => hk x (hv.inx x (fun h => h.1 hx))), rows_keep hv.at_.revs (fun x hx => hk x (hv.inx x (fun h => h.2 hx))), hv.at_.reach, fun x hx => Classical.byContradiction fun hn => by have := hlt x (hv.inx x hn); omega, hv.at_.cap⟩,
   fun x hx => hX x (hv.inx x hx), hX g hv.x, hv.ge, hv.ag, hv.ah⟩
theorem Vr.below {h : Nat} {Lv Rv : Value} (hv : Vr W X w0 g h b Lv Rv) (hb : Below W.heap.size W W') (hX : ∀ x, X x → X' x) : Vr W' X' w0 g h b Lv Rv :=
  ⟨hv.row.of_block (hb.block g (World.rowIs.lt hv.row)), hv.at_.below hb, fun x hx => hX x (hv.inx x hx), hX g hv.x, hv.ge, hv.ag, hv.ah⟩
theorem GoodK.mono {i j : Nat} (h : GoodK D E m st R b i) (hij : i ≤ j) : GoodK D E m st R b j := ⟨h.good, h.ops, h.reach, Nat.le_trans h.len hij, Nat.le_trans h.most hij⟩
theorem GoneK.mono {i j : Nat} {R' : List OpB} (h : GoneK D E m st R R' b bw i) (hij : i ≤ j) : GoneK D E m st R R' b bw j := ⟨h.gone, h.ops, h.way, Nat.le_trans h.len hij⟩
/-- A book is copied into the other block. -/
theorem Vr.copy {h : Nat} {Lv Rv : Value} (hv : Vr W X w0 g h b Lv Rv) (hr : W.rowIs h 38 19 (bookF b Lv Rv)) (hx : X h) (hge : w0.heap.size ≤ h) : Vr W X w0 h g b Lv Rv := ⟨hr, hv.at_, hv.inx, hx, hge, hv.ah, hv.ag⟩
/-- The other block is written. -/
theorem Vr.other {h : Nat} {Lv Rv : Value} (hv : Vr W X w0 g h b Lv Rv) (ho : Only h W W') (hne : g ≠ h) : Vr W' X w0 g h b Lv Rv :=
  ⟨ho.row hv.row hne, hv.at_.only hv.ah ho, hv.inx, hv.x, hv.ge, hv.ag, hv.ah⟩
end
end Go.Proofs.YtebchoeeohmlaaaDoor.Book
