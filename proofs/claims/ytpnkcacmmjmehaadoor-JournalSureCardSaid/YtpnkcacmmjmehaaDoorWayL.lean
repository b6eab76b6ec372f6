/-
  Lists of records that a law makes by append: the values in a row, what each of them stands for.
-/
import Derived.Test.YtpnkcacmmjmehaaDoorOps14
import Derived.Test.YtpnkcacmmjmehaaDoorLeaves
namespace Go.Proofs.YtpnkcacmmjmehaaDoor.Jour
open Go Go.RowKit Go.Proofs.YtpnkcacmmjmehaaDoor.Aid Go.Proofs.YtpnkcacmmjmehaaDoor.Cache Go.Proofs.YtpnkcacmmjmehaaDoor.Store

/-- The values in a list's row. -/
structure Vals (W : World) (P : Nat → Prop) (M : List By) (A : Option Addr) (rs : List Value) : Prop where
  len : rs.length = M.length
  cells : 0 < M.length → ∃ sb so, A = some ⟨sb, so, none⟩ ∧ P sb ∧ ∀ (j : Nat) (u : Value), rs[j]? = some u → W.cell? ⟨sb, so + j, none⟩ = some u
  one : ∀ u ∈ rs, u.oneCell' = true
  bytes : ∀ (i : Nat) (x : By) (u : Value), M[i]? = some x → rs[i]? = some u → BytesIn W P x.length (fnL x) u
theorem bytes_one {W : World} {P : Nat → Prop} {n : Nat} {e : Nat → BitVec 8} {u : Value} (h : BytesIn W P n e u) : u.oneCell' = true := by
  obtain ⟨A, c, rfl, _⟩ := h
  rfl
theorem PartsP.vals {W : World} {P : Nat → Prop} {M : List By} {v : Value} (h : PartsP W P M v) : ∃ A c rs, v = .slice A M.length c ∧ M.length ≤ c ∧ Vals W P M A rs := by
  obtain ⟨A, c, hv, hc, hr⟩ := h
  by_cases h0 : 0 < M.length
  · obtain ⟨sb, so, hA, hP, hi⟩ := hr h0
    have key : ∀ i, ∃ u, ∀ x, M[i]? = some x → W.cell? ⟨sb, so + i, none⟩ = some u ∧ BytesIn W P x.length (fnL x) u := fun i => by
      cases hx : M[i]? with
      | none => exact ⟨undef, fun x h => by cases h⟩
      | some x =>
        obtain ⟨u, h1, h2⟩ := hi i x hx
        exact ⟨u, fun y hy => by cases hy; exact ⟨h1, h2⟩⟩
    obtain ⟨f, hf⟩ := Classical.axiomOfChoice key
    have hget : ∀ (j : Nat) (u : Value), ((List.range M.length).map f)[j]? = some u → ∃ x, M[j]? = some x ∧ u = f j := fun j u hj => by
      rw [List.getElem?_map] at hj
      have hlt : j < M.length := by
        have := (List.getElem?_eq_some_iff.1 (Option.map_eq_some_iff.1 hj).choose_spec.1).1
        simpa using this
      rw [List.getElem?_range hlt] at hj
      exact ⟨M[j], List.getElem?_eq_getElem hlt, (Option.some.inj hj).symm⟩
    refine ⟨A, c, (List.range M.length).map f, hv, hc, by simp, fun _ => ⟨sb, so, hA, hP, fun j u hj => ?_⟩, fun u hu => ?_, fun i x u hx hu => ?_⟩
    · obtain ⟨x, hx, rfl⟩ := hget j u hj
      exact (hf j x hx).1
    · obtain ⟨j, hj⟩ := List.mem_iff_getElem?.1 hu
      obtain ⟨x, hx, rfl⟩ := hget j u hj
      exact bytes_one (hf j x hx).2
    · obtain ⟨y, hy, rfl⟩ := hget i u hu
      rw [hx] at hy
      cases hy
      exact (hf i x hx).2
  · have h1 : M = [] := List.eq_nil_of_length_eq_zero (by omega)
    subst h1
    exact ⟨A, c, [], hv, hc, rfl, fun h => absurd h h0, fun u hu => (by cases hu), fun i x u hx _ => (by simp at hx)⟩
theorem Vals.keep {W W' : World} {P : Nat → Prop} {M : List By} {A : Option Addr} {rs : List Value} (h : Vals W P M A rs) (hk : ∀ b, b < W.heap.size → P b → W'.heap[b]? = W.heap[b]?) : Vals W' P M A rs :=
  ⟨h.len, fun h0 => by
    obtain ⟨sb, so, hA, hP, hj⟩ := h.cells h0
    refine ⟨sb, so, hA, hP, fun j u hu => ?_⟩
    have := hj j u hu
    rw [← this]
    unfold World.cell?
    rw [hk sb (block_lt_of_cell this) hP], h.one, fun i x u hx hu => (h.bytes i x u hx hu).keep hk⟩
theorem Vals.below {W W' : World} {P : Nat → Prop} {M : List By} {A : Option Addr} {rs : List Value} (h : Vals W P M A rs) (hb : Below W.heap.size W W') : Vals W' P M A rs := h.keep (fun b hlt _ => hb.block b hlt)
/-- A list of the law's own making, as records. -/
theorem parts_own {W : World} {base : Nat} {P P' : Nat → Prop} {M : List By} {v : Value} {rs : List Value} (h : OwnV W base 35 v rs) (hl : rs.length = M.length) (hb : ∀ (i : Nat) (x : By) (u : Value), M[i]? = some x → rs[i]? = some u → BytesIn W P x.length (fnL x) u)
    (hP : ∀ b, P b → P' b) (hv : ∀ b, v.ownBlock = some b → P' b) : PartsP W P' M v := by
  obtain ⟨A, cap, hv', hc, hr⟩ := h.shape
  rw [hl] at hv' hc hr
  refine ⟨A, cap, hv', hc, fun h0 => ?_⟩
  obtain ⟨g, hA, _, _, hg, hcell⟩ := hr h0
  refine ⟨g, 0, hA, hv g hg, fun i x hx => ?_⟩
  have hlt : i < rs.length := by rw [hl]; exact (List.getElem?_eq_some_iff.1 hx).1
  refine ⟨rs[i], ?_, (hb i x rs[i] hx (List.getElem?_eq_getElem hlt)).less (fun b _ => hP b)⟩
  rw [Nat.zero_add]
  exact hcell i _ (List.getElem?_eq_getElem hlt)
section
variable {P : Program} {w : World} {ops : Array Oper} {rest : List Oper} {op : Oper} {a : Act} {Q : Exit → Act → World → Prop}
/-- 'append(v, x...)', x whatever list, none too. -/
theorem append_list (hgd : op.guard = none) (s x : Operand) (T : TypeId) (ho : op.op = .call { callee := .builtin .append, args := #[s, x], argTypes := #[T, T] })
    (base : Nat) (e : TypeId) (z : Value) (b : Nat) (hT : P.underlying T = some (.slice e)) (hinfo : (P.info? e).map (fun i => (i.zero, i.size, i.bytes)) = some (some z, 1, b)) (hz : z.cells.size = 1) (hb : b ≤ 100)
    (xs : List Value) (v : Value) (hs : a.eval s = v) (hown : OwnV w base e v xs) (A : Option Addr) (c m : Nat) (news : List Value) (hx : a.eval x = .slice A m c) (hm : news.length = m) (hnil : m = 0 → A = none ∧ c = 0)
    (hnews : 0 < m → ∃ sb so, A = some ⟨sb, so, none⟩ ∧ ∀ (j : Nat) (u : Value), news[j]? = some u → w.cell? ⟨sb, so + j, none⟩ = some u) (h1 : ∀ u ∈ news, u.oneCell' = true) (hn : xs.length + m ≤ 1000000) (hbase : base ≤ w.heap.size)
    (hK : ∀ v' w', OwnV w' base e v' (xs ++ news) → w.grownBy w' v.ownBlock → (v'.ownBlock = v.ownBlock ∨ v'.ownBlock = some w.heap.size) → wpList P ops Q rest (a.put op.dst v') w') : wpList P ops Q (op :: rest) a w := by
  by_cases h0 : 0 < m
  · obtain ⟨sb, so, rfl, hc⟩ := hnews h0
    exact append_vals hgd s x T ho base e z b hT hinfo hz hb xs v hs hown sb so c m news hx hm hc h1 hn hbase hK
  · obtain rfl : m = 0 := by omega
    obtain ⟨rfl, rfl⟩ := hnil rfl
    obtain rfl : news = [] := List.eq_nil_of_length_eq_zero hm
    obtain ⟨i, hi, hzz⟩ := Option.map_eq_some_iff.1 hinfo
    simp only [Prod.mk.injEq] at hzz
    have hK' := hK v w (by rw [List.append_nil]; exact hown) ⟨rfl, rfl, rfl, Nat.le_refl _, fun _ _ _ => rfl⟩ (.inl rfl)
    refine wpList_plain hgd fun K hKK => ?_
    have hrun : (Builtin.append_ #[T, T] op.type #[v, .slice none 0 0]).run P w = .ok v w := by
      rcases hown.2 with ⟨rfl, hl⟩ | ⟨g, cap, cur, rfl, _, hg, hcap, hmx, hsz, _⟩
      · simp [Builtin.append_, run_underlying hT, sizeOf, typeInfo, hi, Builtin.lenOf, Builtin.firstCells]
      · simp [Builtin.append_, run_underlying hT, sizeOf, typeInfo, hi, Builtin.lenOf, Builtin.firstCells, hcap]
        rfl
    unfold Oper.wp execOp
    simp only [ho, resolve, invoke, builtin, Sem.run_bind, Sem.run_pure, Result.andThen_ok, List.map_toArray, List.map_cons, List.map_nil, hs, hx, hrun]
    exact hKK _ _ hK'
end
end Go.Proofs.YtpnkcacmmjmehaaDoor.Jour
