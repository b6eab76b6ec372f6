/-
  A slice that has its block to itself, wherever in it it begins ('q = q[1:]'): append in its place or to a new block; a piece of it; clear.
-/
import Derived.Test.YtmoepcobhapghaaLeaves
import Derived.Test.YtmoepcobhapghaaCutRun
import Derived.Lib.SliceRun
namespace Go.Proofs.Ytmoepcobhapghaa.Cache
open Go Go.RowKit Go.Proofs.Ytmoepcobhapghaa.Aid

def OwnQ (W : World) (base : Nat) (e : TypeId) (v : Value) (xs : List Value) : Prop :=
  (v = .slice none 0 0 ∧ xs = []) ∨ ∃ g o c cur, v = .slice (some ⟨g, o, none⟩) xs.length c ∧ base ≤ g ∧ W.heap[g]? = some (.cells cur e (0, 0)) ∧ o + c ≤ cur.size ∧ xs.length ≤ c ∧ c ≤ maxLen ∧ ∀ i u, xs[i]? = some u → cur[o + i]? = some u
section
variable {W W' : World} {base : Nat} {e : TypeId} {v : Value} {xs : List Value}
theorem OwnQ.keep (h : OwnQ W base e v xs) (hk : ∀ b, v.ownBlock = some b → W'.heap[b]? = W.heap[b]?) : OwnQ W' base e v xs := by
  rcases h with h | ⟨g, o, c, cur, rfl, h1, h2, h3⟩
  · exact .inl h
  · exact .inr ⟨g, o, c, cur, rfl, h1, (hk g rfl).trans h2, h3⟩
theorem OwnQ.lt (h : OwnQ W base e v xs) : ∀ b, v.ownBlock = some b → base ≤ b ∧ b < W.heap.size := by
  rcases h with ⟨rfl, _⟩ | ⟨g, o, c, cur, rfl, h1, h2, _⟩
  · intro b hb; cases hb
  · intro b hb
    cases hb
    exact ⟨h1, (Array.getElem?_eq_some_iff.1 h2).1⟩
theorem OwnQ.nil (W : World) (base : Nat) (e : TypeId) : OwnQ W base e (.slice none 0 0) [] := .inl ⟨rfl, rfl⟩
theorem OwnV.toQ (h : OwnV W base e v xs) : OwnQ W base e v xs := by
  rcases h.2 with ⟨hv, h0⟩ | ⟨g, cap, cur, rfl, hb, hg, hn, hm, hs, ht⟩
  · exact .inl ⟨hv, List.eq_nil_of_length_eq_zero h0⟩
  · refine .inr ⟨g, 0, cap, cur, rfl, hb, hg, by omega, hn, hm, fun i u hi => ?_⟩
    have hi' : i < xs.length := (List.getElem?_eq_some_iff.1 hi).1
    rw [← ht, List.getElem?_take_of_lt (by omega)] at hi
    rw [Nat.zero_add]
    simpa using hi
/-- Its shape; where its values lie. -/
theorem OwnQ.shape (h : OwnQ W base e v xs) : ∃ A c, v = .slice A xs.length c ∧ xs.length ≤ c ∧ (0 < c → ∃ g o, A = some ⟨g, o, none⟩ ∧ base ≤ g ∧ g < W.heap.size ∧ v.ownBlock = some g ∧ (∀ i u, xs[i]? = some u → W.cell? ⟨g, o + i, none⟩ = some u) ∧ ∀ j, W.frozen? ⟨g, j, none⟩ = false) := by
  rcases h with ⟨rfl, rfl⟩ | ⟨g, o, c, cur, rfl, h1, h2, h3, h4, h5, h6⟩
  · exact ⟨none, 0, rfl, Nat.le_refl _, fun h => by omega⟩
  · refine ⟨_, c, rfl, h4, fun _ => ⟨g, o, rfl, h1, (Array.getElem?_eq_some_iff.1 h2).1, rfl, fun i u hi => ?_, fun j => ?_⟩⟩
    · have := h6 i u hi
      simp [World.cell?, h2, this]
    · simp [World.frozen?, h2]
/-- 'v[lo:]' of values that are there. -/
theorem OwnQ.drop (h : OwnQ W base e v xs) {g o c lo : Nat} (hv : v = .slice (some ⟨g, o, none⟩) xs.length c) (hlo : lo ≤ xs.length) : OwnQ W base e (.slice (some ⟨g, if c = lo then o else o + lo, none⟩) (xs.length - lo) (c - lo)) (xs.drop lo) := by
  rcases h with ⟨h0, _⟩ | ⟨g', o', c', cur, h0, h1, h2, h3, h4, h5, h6⟩
  · rw [hv] at h0; cases h0
  · rw [hv] at h0
    simp only [Value.slice.injEq, Option.some.injEq, Addr.mk.injEq, true_and, and_true] at h0
    obtain ⟨⟨rfl, rfl⟩, rfl⟩ := h0
    refine .inr ⟨g, _, c - lo, cur, by rw [List.length_drop], h1, h2, ?_, by rw [List.length_drop]; omega, by omega, fun i u hi => ?_⟩
    · split <;> omega
    · have hi' := (List.getElem?_eq_some_iff.1 hi).1
      rw [List.length_drop] at hi'
      rw [List.getElem?_drop] at hi
      rw [if_neg (by omega), show o + lo + i = o + (lo + i) by omega]
      exact h6 _ u hi
/-- 'v[:m]'. -/
theorem OwnQ.take (h : OwnQ W base e v xs) {g o c m : Nat} (hv : v = .slice (some ⟨g, o, none⟩) xs.length c) (hm : m ≤ xs.length) : OwnQ W base e (.slice (some ⟨g, o, none⟩) m c) (xs.take m) := by
  rcases h with ⟨h0, _⟩ | ⟨g', o', c', cur, h0, h1, h2, h3, h4, h5, h6⟩
  · rw [hv] at h0; cases h0
  · rw [hv] at h0
    simp only [Value.slice.injEq, Option.some.injEq, Addr.mk.injEq, true_and, and_true] at h0
    obtain ⟨⟨rfl, rfl⟩, rfl⟩ := h0
    refine .inr ⟨g, o, c, cur, by rw [List.length_take, Nat.min_eq_left hm], h1, h2, h3, by rw [List.length_take]; omega, h5, fun i u hi => ?_⟩
    have hi' := (List.getElem?_eq_some_iff.1 hi).1
    rw [List.length_take] at hi'
    rw [List.getElem?_take_of_lt (by omega)] at hi
    exact h6 i u hi
end
section
variable {P : Program} {w : World}
theorem run_append_q (t ty e : TypeId) (i : TypeInfo) (z : Value) (ht : P.underlying t = some (.slice e)) (hi : P.info? e = some i) (hz : i.zero = some z) (hsz : i.size = 1) (hzs : z.cells.size = 1) (hby : i.bytes ≤ 100)
    (base : Nat) (v : Value) (xs : List Value) (hown : OwnQ w base e v xs) (sb so m c : Nat) (news : List Value) (hm : news.length = m) (hnews : ∀ j u, news[j]? = some u → w.cell? ⟨sb, so + j, none⟩ = some u) (h1 : ∀ u ∈ news, u.oneCell' = true) (hn : xs.length + m ≤ 1000000) (hbase : base ≤ w.heap.size) :
    ∃ v' w', (Builtin.append_ #[t, t] ty #[v, .slice (some ⟨sb, so, none⟩) m c]).run P w = .ok v' w' ∧ OwnQ w' base e v' (xs ++ news) ∧ w.grownBy w' v.ownBlock ∧ (v'.ownBlock = v.ownBlock ∨ v'.ownBlock = some w.heap.size) := by
  have hadd : ∀ j, (⟨sb, so, none⟩ : Addr).add j = ⟨sb, so + j, none⟩ := fun j => by unfold Addr.add; split <;> simp_all
  have hnews' : ∀ j u, news[j]? = some u → w.cell? ((⟨sb, so, none⟩ : Addr).add j) = some u := fun j u hj => by rw [hadd]; exact hnews j u hj
  have hl : news.length = m * i.size := by rw [hsz]; omega
  have hle : (xs ++ news).length = xs.length + m := by rw [List.length_append, hm]
  have fresh : ∀ (n old : Nat) (row : Option Nat), n = xs.length + m → OwnQ (w.drew.alloc (.cells (xs.toArray ++ news.toArray ++ Builtin.zeroCells z.cells (grownCap w n old e - n)) e)) base e (.slice (some ⟨w.heap.size, 0, none⟩) n (grownCap w n old e)) (xs ++ news) ∧
      w.grownBy (w.drew.alloc (.cells (xs.toArray ++ news.toArray ++ Builtin.zeroCells z.cells (grownCap w n old e - n)) e)) row := fun n old row hnn => by
    have hge := grownCap_ge w n old e
    have hcm : grownCap w n old e ≤ maxLen := grownCap_le_maxLen w n old e (by simp only [maxLen]; omega)
    refine ⟨.inr ⟨w.heap.size, 0, _, _, by rw [hle, hnn], hbase, heap_alloc_new w.drew _, ?_, by rw [hle]; omega, hcm, fun j u hj => ?_⟩, ⟨rfl, rfl, rfl, by simp, fun k hk _ => heap_alloc_old w.drew _ hk⟩⟩
    · simp only [Array.size_append, List.size_toArray, size_zeroCells, hzs, Nat.mul_one, hm]
      omega
    · rw [Nat.zero_add]
      have hj' := (List.getElem?_eq_some_iff.1 hj).1
      rw [Array.getElem?_append_left (by simp; omega)]
      simpa using hj
  rcases hown with ⟨rfl, rfl⟩ | ⟨g, o, cap, cur, rfl, hb, hg, hoc, hnc, hcm, hcells⟩
  · by_cases h0 : m = 0
    · subst h0
      obtain rfl : news = [] := List.eq_nil_of_length_eq_zero hm
      refine ⟨.slice none 0 0, w, ?_, OwnQ.nil _ _ _, ⟨rfl, rfl, rfl, Nat.le_refl _, fun _ _ _ => rfl⟩, .inl rfl⟩
      simp [Builtin.append_, run_underlying ht, sizeOf, typeInfo, hi, Builtin.lenOf, Builtin.firstCells, loadCells, loadCellsFrom]
    · have hmb : m * i.bytes ≤ 1000000 * 100 := Nat.mul_le_mul (by simpa using hn) hby
      have hr := run_append_nil (P := P) w t ty e i z ht hi hz ⟨sb, so, none⟩ m c news hl hnews' (by omega) (by simp at hn; omega) (by omega)
      have hf := fresh m 0 (Value.ownBlock (.slice none 0 0)) (by simp)
      simp only [List.nil_append, Array.empty_append] at hf
      exact ⟨_, _, hr, hf.1, hf.2, .inr rfl⟩
  · have hat : ∀ j u, xs[j]? = some u → w.cell? ((⟨g, o, none⟩ : Addr).add j) = some u := fun j u hj => by
      rw [show (⟨g, o, none⟩ : Addr).add j = ⟨g, o + j, none⟩ from by unfold Addr.add; split <;> simp_all]
      simp [World.cell?, hg, hcells j u hj]
    by_cases hroom : xs.length + m ≤ cap
    · have hf := run_firstCells_some (P := P) w i.size m ⟨sb, so, none⟩ m c news hl hnews'
      have hst := run_storeCells_at P g (o + xs.length) e news 0 cur w hg (by omega) h1
      simp only [Nat.add_zero] at hst
      rw [List.append_assoc] at hst
      rw [hsz] at hf
      refine ⟨.slice (some ⟨g, o, none⟩) (xs.length + m) cap, w.setRow g (cur.toList.take (o + xs.length) ++ news ++ cur.toList.drop (o + xs.length + news.length)).toArray, ?_, .inr ⟨g, o, cap, _, by rw [hle], hb, setRow_heap w g cur _ e _ hg, ?_, by rw [hle]; exact hroom, hcm, fun j u hj => ?_⟩,
        ⟨rfl, rfl, rfl, by simp, fun k _ hk => setRow_other w g k _ (fun e => hk (by simp [Value.ownBlock, e]))⟩, .inl rfl⟩
      · simp [Builtin.append_, run_underlying ht, sizeOf, typeInfo, hi, Builtin.lenOf, hroom, hf, hsz, show (⟨g, o, none⟩ : Addr).add xs.length = ⟨g, o + xs.length, none⟩ from by unfold Addr.add; split <;> simp_all, hst]
      · simp only [List.size_toArray, List.length_append, List.length_take, List.length_drop, Array.length_toList]
        omega
      · have hj' := (List.getElem?_eq_some_iff.1 hj).1
        rw [hle] at hj'
        have hcl : cur.toList.length = cur.size := Array.length_toList
        simp only [List.getElem?_toArray]
        by_cases hjx : j < xs.length
        · rw [List.getElem?_append_left (by rw [List.length_append, List.length_take]; omega), List.getElem?_append_left (by rw [List.length_take]; omega), List.getElem?_take_of_lt (by omega)]
          rw [List.getElem?_append_left hjx] at hj
          simpa using hcells j u hj
        · rw [List.getElem?_append_left (by rw [List.length_append, List.length_take]; omega), List.getElem?_append_right (by rw [List.length_take]; omega), List.length_take, show o + j - min (o + xs.length) cur.toList.length = j - xs.length by omega]
          rw [List.getElem?_append_right (by omega)] at hj
          exact hj
    · have hmb : (xs.length + m) * i.bytes ≤ 1000000 * 100 := Nat.mul_le_mul hn hby
      have hr := run_append_grow (P := P) w t ty e i z ht hi hz ⟨g, o, none⟩ xs.length cap xs (by rw [hsz]; omega) hat ⟨sb, so, none⟩ m c news hl hnews' (by omega) (by omega) (growslice_fits (by omega) (by omega))
      have hf := fresh (xs.length + m) cap (Value.ownBlock (.slice (some ⟨g, o, none⟩) xs.length cap)) rfl
      exact ⟨_, _, hr, hf.1, hf.2, .inr rfl⟩
variable {ops : Array Oper} {rest : List Oper} {op : Oper} {a : Act} {Q : Exit → Act → World → Prop}
theorem append_q (hgd : op.guard = none) (s x : Operand) (T : TypeId) (ho : op.op = .call { callee := .builtin .append, args := #[s, x], argTypes := #[T, T] })
    (base : Nat) (e : TypeId) (z : Value) (b : Nat) (hT : P.underlying T = some (.slice e)) (hinfo : (P.info? e).map (fun i => (i.zero, i.size, i.bytes)) = some (some z, 1, b)) (hz : z.cells.size = 1) (hb : b ≤ 100)
    (xs : List Value) (v : Value) (hs : a.eval s = v) (hown : OwnQ w base e v xs) (sb so c m : Nat) (news : List Value) (hx : a.eval x = .slice (some ⟨sb, so, none⟩) m c) (hm : news.length = m)
    (hnews : ∀ j u, news[j]? = some u → w.cell? ⟨sb, so + j, none⟩ = some u) (h1 : ∀ u ∈ news, u.oneCell' = true) (hn : xs.length + m ≤ 1000000) (hbase : base ≤ w.heap.size)
    (hK : ∀ v' w', OwnQ w' base e v' (xs ++ news) → w.grownBy w' v.ownBlock → (v'.ownBlock = v.ownBlock ∨ v'.ownBlock = some w.heap.size) → wpList P ops Q rest (a.put op.dst v') w') : wpList P ops Q (op :: rest) a w := by
  obtain ⟨i, hi, hzz⟩ := Option.map_eq_some_iff.1 hinfo
  simp only [Prod.mk.injEq] at hzz
  refine wpList_plain hgd fun K hK' => ?_
  obtain ⟨v', w', hr, h2, h3, h4⟩ := run_append_q (P := P) (w := w) T op.type e i z hT hi hzz.1 hzz.2.1 hz (by omega) base v xs hown sb so m c news hm hnews h1 hn hbase
  unfold Oper.wp execOp
  simp only [ho, resolve, invoke, builtin, Sem.run_bind, Sem.run_pure, Result.andThen_ok, List.map_toArray, List.map_cons, List.map_nil, hs, hx, hr]
  exact hK' _ _ (hK v' w' h2 h3 h4)
end
/-- A cell behind the values is set. -/
theorem OwnQ.beyond {W : World} {base : Nat} {e : TypeId} {xs : List Value} {g o c : Nat} (h : OwnQ W base e (.slice (some ⟨g, o, none⟩) xs.length c) xs) (p : Nat) (hp : o + xs.length ≤ p) (u : Value) : OwnQ (W.setCell ⟨g, p, none⟩ u) base e (.slice (some ⟨g, o, none⟩) xs.length c) xs := by
  rcases h with ⟨h0, _⟩ | ⟨g', o', c', cur, h0, h1, h2, h3, h4, h5, h6⟩
  · cases h0
  · simp only [Value.slice.injEq, Option.some.injEq, Addr.mk.injEq, true_and, and_true] at h0
    obtain ⟨⟨rfl, rfl⟩, rfl⟩ := h0
    refine .inr ⟨g, o, c, cur.setIfInBounds p u, rfl, h1, by simp [World.setCell, Array.getElem?_modify, h2], by simpa using h3, h4, h5, fun i v hi => ?_⟩
    have hi' := (List.getElem?_eq_some_iff.1 hi).1
    rw [Array.getElem?_setIfInBounds_ne (by omega)]
    exact h6 i v hi
/-- The cells up to the capacity are there. -/
theorem OwnQ.there {W : World} {base : Nat} {e : TypeId} {xs : List Value} {g o n c : Nat} (h : OwnQ W base e (.slice (some ⟨g, o, none⟩) n c) xs) : ∀ j, j < c → (W.cell? ⟨g, o + j, none⟩).isSome = true ∧ W.frozen? ⟨g, o + j, none⟩ = false := by
  rcases h with ⟨h0, _⟩ | ⟨g', o', c', cur, h0, h1, h2, h3, h4, h5, h6⟩
  · cases h0
  · simp only [Value.slice.injEq, Option.some.injEq, Addr.mk.injEq, and_true] at h0
    obtain ⟨⟨rfl, rfl⟩, _, rfl⟩ := h0
    intro j hj
    have : o + j < cur.size := by omega
    exact ⟨by simp [World.cell?, h2, this], by simp [World.frozen?, h2]⟩
section
variable {P : Program} {w : World}
/-- 'append' where there is room: in its place. -/
theorem run_append_qroom (t ty e : TypeId) (i : TypeInfo) (ht : P.underlying t = some (.slice e)) (hi : P.info? e = some i) (hsz : i.size = 1)
    (base g o cap : Nat) (xs : List Value) (hown : OwnQ w base e (.slice (some ⟨g, o, none⟩) xs.length cap) xs) (sb so m c : Nat) (news : List Value) (hm : news.length = m) (hnews : ∀ j u, news[j]? = some u → w.cell? ⟨sb, so + j, none⟩ = some u) (h1 : ∀ u ∈ news, u.oneCell' = true) (hroom : xs.length + m ≤ cap) :
    ∃ w', (Builtin.append_ #[t, t] ty #[.slice (some ⟨g, o, none⟩) xs.length cap, .slice (some ⟨sb, so, none⟩) m c]).run P w = .ok (.slice (some ⟨g, o, none⟩) (xs.length + m) cap) w' ∧ OwnQ w' base e (.slice (some ⟨g, o, none⟩) (xs.length + m) cap) (xs ++ news) ∧ w.grownBy w' (some g) := by
  have hadd : ∀ j, (⟨sb, so, none⟩ : Addr).add j = ⟨sb, so + j, none⟩ := fun j => by unfold Addr.add; split <;> simp_all
  have hnews' : ∀ j u, news[j]? = some u → w.cell? ((⟨sb, so, none⟩ : Addr).add j) = some u := fun j u hj => by rw [hadd]; exact hnews j u hj
  have hl : news.length = m * i.size := by rw [hsz]; omega
  have hle : (xs ++ news).length = xs.length + m := by rw [List.length_append, hm]
  rcases hown with ⟨h0, _⟩ | ⟨g', o', cap', cur, h0, hb, hg, hoc, hnc, hcm, hcells⟩
  · cases h0
  · simp only [Value.slice.injEq, Option.some.injEq, Addr.mk.injEq, true_and, and_true] at h0
    obtain ⟨⟨rfl, rfl⟩, rfl⟩ := h0
    have hf := run_firstCells_some (P := P) w i.size m ⟨sb, so, none⟩ m c news hl hnews'
    have hst := run_storeCells_at P g (o + xs.length) e news 0 cur w hg (by omega) h1
    simp only [Nat.add_zero] at hst
    rw [List.append_assoc] at hst
    rw [hsz] at hf
    refine ⟨w.setRow g (cur.toList.take (o + xs.length) ++ news ++ cur.toList.drop (o + xs.length + news.length)).toArray, ?_, .inr ⟨g, o, cap, _, by rw [hle], hb, setRow_heap w g cur _ e _ hg, ?_, by rw [hle]; exact hroom, hcm, fun j u hj => ?_⟩,
      ⟨rfl, rfl, rfl, by simp, fun k _ hk => setRow_other w g k _ (fun e => hk (by simp [e]))⟩⟩
    · simp [Builtin.append_, run_underlying ht, sizeOf, typeInfo, hi, Builtin.lenOf, hroom, hf, hsz, show (⟨g, o, none⟩ : Addr).add xs.length = ⟨g, o + xs.length, none⟩ from by unfold Addr.add; split <;> simp_all, hst]
    · simp only [List.size_toArray, List.length_append, List.length_take, List.length_drop, Array.length_toList]
      omega
    · have hj' := (List.getElem?_eq_some_iff.1 hj).1
      rw [hle] at hj'
      have hcl : cur.toList.length = cur.size := Array.length_toList
      simp only [List.getElem?_toArray]
      by_cases hjx : j < xs.length
      · rw [List.getElem?_append_left (by rw [List.length_append, List.length_take]; omega), List.getElem?_append_left (by rw [List.length_take]; omega), List.getElem?_take_of_lt (by omega)]
        rw [List.getElem?_append_left hjx] at hj
        simpa using hcells j u hj
      · rw [List.getElem?_append_left (by rw [List.length_append, List.length_take]; omega), List.getElem?_append_right (by rw [List.length_take]; omega), List.length_take, show o + j - min (o + xs.length) cur.toList.length = j - xs.length by omega]
        rw [List.getElem?_append_right (by omega)] at hj
        exact hj
variable {ops : Array Oper} {rest : List Oper} {op : Oper} {a : Act} {Q : Exit → Act → World → Prop}
theorem append_qroom (hgd : op.guard = none) (s x : Operand) (T : TypeId) (ho : op.op = .call { callee := .builtin .append, args := #[s, x], argTypes := #[T, T] })
    (base : Nat) (e : TypeId) (z : Value) (b : Nat) (hT : P.underlying T = some (.slice e)) (hinfo : (P.info? e).map (fun i => (i.zero, i.size, i.bytes)) = some (some z, 1, b))
    (xs : List Value) (n1 r : Nat) (hn1 : xs.length = n1) (g o cap : Nat) (hs : a.eval s = .slice (some ⟨g, o, none⟩) n1 cap) (hown : OwnQ w base e (.slice (some ⟨g, o, none⟩) n1 cap) xs) (sb so c m : Nat) (news : List Value) (hx : a.eval x = .slice (some ⟨sb, so, none⟩) m c) (hm : news.length = m)
    (hnews : ∀ j u, news[j]? = some u → w.cell? ⟨sb, so + j, none⟩ = some u) (h1 : ∀ u ∈ news, u.oneCell' = true) (hr : n1 + m = r) (hroom : r ≤ cap)
    (hK : ∀ w', OwnQ w' base e (.slice (some ⟨g, o, none⟩) r cap) (xs ++ news) → w.grownBy w' (some g) → wpList P ops Q rest (a.put op.dst (.slice (some ⟨g, o, none⟩) r cap)) w') : wpList P ops Q (op :: rest) a w := by
  subst hn1 hr
  obtain ⟨i, hi, hzz⟩ := Option.map_eq_some_iff.1 hinfo
  simp only [Prod.mk.injEq] at hzz
  refine wpList_plain hgd fun K hK' => ?_
  obtain ⟨w', hrr, h2, h3⟩ := run_append_qroom (P := P) (w := w) T op.type e i hT hi hzz.2.1 base g o cap xs hown sb so m c news hm hnews h1 hroom
  unfold Oper.wp execOp
  simp only [ho, resolve, invoke, builtin, Sem.run_bind, Sem.run_pure, Result.andThen_ok, List.map_toArray, List.map_cons, List.map_nil, hs, hx, hrr]
  exact hK' _ _ (hK w' h2 h3)
end
end Go.Proofs.Ytmoepcobhapghaa.Cache
