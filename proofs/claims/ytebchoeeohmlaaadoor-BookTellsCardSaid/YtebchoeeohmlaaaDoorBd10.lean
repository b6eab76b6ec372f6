/-
  Records that lie somewhere: one of them; records are the same if their bytes are. Operations on a journal as a law's arguments: three cells each. Records of a law's own making. Lists of records that a law makes by append: the values in a row, what each of them stands for. What the laws of layer 15 need of the program's store and keeps, as one bundle. RK: a keep in memory of its own, on a store, that is not broken, stands for the operations that it took, and for their book. E: an operation's encoding, of which only the length is asked. A store and a keep on it while a law goes on; blocks that no call on them touches.
-/
import Derived.Test.YtebchoeeohmlaaaDoorBd09
import Derived.Test.YtebchoeeohmlaaaDoorBd01
import Derived.Test.YtebchoeeohmlaaaDoorBd14
import Derived.Test.YtebchoeeohmlaaaDoorBd04
namespace Go.Proofs.YtebchoeeohmlaaaDoor.Jour
open Go Go.RowKit Go.Proofs.YtebchoeeohmlaaaDoor.Aid Go.Proofs.YtebchoeeohmlaaaDoor.Cache Go.Proofs.YtebchoeeohmlaaaDoor.Store

theorem PartsP.at_ {W : World} {P : Nat → Prop} {M : List By} {A : Option Addr} {c : Nat} (h : PartsP W P M (.slice A M.length c)) (i : Nat) (hi : i < M.length) :
    ∃ sb so A' c', A = some ⟨sb, so, none⟩ ∧ W.cell? ⟨sb, so + i, none⟩ = some (.slice A' (M[i]).length c') ∧ BytesIn W P (M[i]).length (fnL M[i]) (.slice A' (M[i]).length c') := by
  obtain ⟨A1, c1, he, _, hr⟩ := h
  simp only [Value.slice.injEq, true_and] at he
  obtain ⟨rfl, rfl⟩ := he
  obtain ⟨sb, so, hA, _, hc⟩ := hr (by omega)
  obtain ⟨u, hu, hs⟩ := hc i M[i] (List.getElem?_eq_getElem hi)
  have hs2 := hs
  obtain ⟨A', c', rfl, _⟩ := hs2
  exact ⟨sb, so, A', c', hA, hu, hs⟩
theorem BytesIn.at_ {W : World} {P : Nat → Prop} {n : Nat} {e : Nat → BitVec 8} {A : Option Addr} {c : Nat} (h : BytesIn W P n e (.slice A n c)) (hn : 0 < n) :
    ∃ sb so, A = some ⟨sb, so, none⟩ ∧ ∀ j, j < n → W.cell? ⟨sb, so + j, none⟩ = some (.int .u8 ((e j).toNat : Int)) := by
  obtain ⟨A1, c1, he, _, hr⟩ := h
  simp only [Value.slice.injEq, true_and] at he
  obtain ⟨rfl, rfl⟩ := he
  obtain ⟨sb, so, hA, _, hc⟩ := hr hn
  exact ⟨sb, so, hA, hc⟩
theorem rec_eq {x y : By} (h : x.length = y.length) (he : ∀ j, j < x.length → fnL x j = fnL y j) : x = y := by
  rw [← range_fn x, ← range_fn y, ← h]
  exact List.map_congr_left (fun j hj => he j (List.mem_range.1 hj))
theorem cell_eq (a b : BitVec 8) : ((Value.int IntKind.u8 (a.toNat : Int)) = (Value.int IntKind.u8 (b.toNat : Int))) ↔ a = b := by
  constructor
  · intro h
    injection h with _ h2
    exact BitVec.eq_of_toNat_eq (by omega)
  · intro h; rw [h]
end Go.Proofs.YtebchoeeohmlaaaDoor.Jour
namespace Go.Proofs.YtebchoeeohmlaaaDoor.Jour
open Go Go.RowKit Go.Proofs.YtebchoeeohmlaaaDoor.Aid Go.Proofs.YtebchoeeohmlaaaDoor.Cache Go.Proofs.YtebchoeeohmlaaaDoor.Store

structure OpJ where
  d : Int
  k : Int
  x : By
  bv : Value
def OpJ.vals (p : OpJ) : List Value := [.int .i64 p.d, .int .i64 p.k, p.bv]
/-- What is sure of an operation that came in. -/
structure OpJIn (W : World) (p : OpJ) : Prop where
  read : SliceOf W W.heap.size p.x.length (fnL p.x) p.bv
  n : p.x.length ≤ 140737488351232
structure OpsJIn (W : World) (n : Nat) (X : Nat → OpJ) (v : Value) : Prop where
  rows : RowsAt W 3 n (fun i => (X i).vals) v
  lt : ∀ i, i < n → OpJIn W (X i)
theorem OpJIn.shape {W : World} {p : OpJ} (h : OpJIn W p) : ∃ A c, p.bv = .slice A p.x.length c := by obtain ⟨A, c, hv, _⟩ := h.read; exact ⟨A, c, hv⟩
/-- How many bytes the first k operations bear. -/
def sumJ (X : Nat → OpJ) : Nat → Nat
  | 0 => 0
  | k + 1 => sumJ X k + (2 * (X k).x.length + 10)
end Go.Proofs.YtebchoeeohmlaaaDoor.Jour
namespace Go.Proofs.YtebchoeeohmlaaaDoor.Jour
open Go Go.RowKit Go.Proofs.YtebchoeeohmlaaaDoor.Aid Go.Proofs.YtebchoeeohmlaaaDoor.Cache Go.Proofs.YtebchoeeohmlaaaDoor.Store

/-- The values in a list's row. -/
structure Vals (W : World) (P : Nat → Prop) (M : List By) (A : Option Addr) (rs : List Value) : Prop where
  len : rs.length = M.length
  cells : 0 < M.length → ∃ sb so, A = some ⟨sb, so, none⟩ ∧ P sb ∧ ∀ (j : Nat) (u : Value), rs[j]? = some u → W.cell? ⟨sb, so + j, none⟩ = some u
  one : ∀ u ∈ rs, u.oneCell' = true
  bytes : ∀ (i : Nat) (x : By) (u : Value), M[i]? = some x → rs[i]? = some u → BytesIn W P x.length (fnL x) u
theorem bytes_one {W : World} {P : Nat → Prop} {n : Nat} {e : Nat → BitVec 8} {u : Value} (h : BytesIn W P n e u) : u.oneCell' = true := by
  obtain ⟨A, c, rfl, _⟩ := h
  rfl
theorem PartsP.vals {W : World} {P : Nat → Prop} {M : List By} {v : Value} (h : PartsP W P M v) : ∃ A c rs, v = .slice A M.length c ∧ M.length ≤ c ∧ Vals W P M A rs := by
  obtain ⟨A, c, hv, hc, hr⟩ := h
  by_cases h0 : 0 < M.length
  · obtain ⟨sb, so, hA, hP, hi⟩ := hr h0
    have key : ∀ i, ∃ u, ∀ x, M[i]? = some x → W.cell? ⟨sb, so + i, none⟩ = some u ∧ BytesIn W P x.length (fnL x) u := fun i => by
      cases hx : M[i]? with
      | none => exact ⟨undef, fun x h => by cases h⟩
      | some x =>
        obtain ⟨u, h1, h2⟩ := hi i x hx
        exact ⟨u, fun y hy => by cases hy; exact ⟨h1, h2⟩⟩
    obtain ⟨f, hf⟩ := Classical.axiomOfChoice key
    have hget : ∀ (j : Nat) (u : Value), ((List.range M.length).map f)[j]? = some u → ∃ x, M[j]? = some x ∧ u = f j := fun j u hj => by
      rw [List.getElem?_map] at hj
      have hlt : j < M.length := by
        have := (List.getElem?_eq_some_iff.1 (Option.map_eq_some_iff.1 hj).choose_spec.1).1
        simpa using this
      rw [List.getElem?_range hlt] at hj
      exact ⟨M[j], List.getElem?_eq_getElem hlt, (Option.some.inj hj).symm⟩
    refine ⟨A, c, (List.range M.length).map f, hv, hc, by simp, fun _ => ⟨sb, so, hA, hP, fun j u hj => ?_⟩, fun u hu => ?_, fun i x u hx hu => ?_⟩
    · obtain ⟨x, hx, rfl⟩ := hget j u hj
      exact (hf j x hx).1
    · obtain ⟨j, hj⟩ := List.mem_iff_getElem?.1 hu
      obtain ⟨x, hx, rfl⟩ := hget j u hj
      exact bytes_one (hf j x hx).2
    · obtain ⟨y, hy, rfl⟩ := hget i u hu
      rw [hx] at hy
      cases hy
      exact (hf i x hx).2
  · have h1 : M = [] := List.eq_nil_of_length_eq_zero (by omega)
    subst h1
    exact ⟨A, c, [], hv, hc, rfl, fun h => absurd h h0, fun u hu => (by cases hu), fun i x u hx _ => (by simp at hx)⟩
theorem Vals.keep {W W' : World} {P : Nat → Prop} {M : List By} {A : Option Addr} {rs : List Value} (h : Vals W P M A rs) (hk : ∀ b, b < W.heap.size → P b → W'.heap[b]? = W.heap[b]?) : Vals W' P M A rs :=
  ⟨h.len, fun h0 => by
    obtain ⟨sb, so, hA, hP, hj⟩ := h.cells h0
    refine ⟨sb, so, hA, hP, fun j u hu => ?_⟩
    have := hj j u hu
    rw [← this]
    unfold World.cell?
    rw [hk sb (block_lt_of_cell this) hP], h.one, fun i x u hx hu => (h.bytes i x u hx hu).keep hk⟩
theorem Vals.below {W W' : World} {P : Nat → Prop} {M : List By} {A : Option Addr} {rs : List Value} (h : Vals W P M A rs) (hb : Below W.heap.size W W') : Vals W' P M A rs := h.keep (fun b hlt _ => hb.block b hlt)
/-- A list of the law's own making, as records. -/
theorem parts_own {W : World} {base : Nat} {P P' : Nat → Prop} {M : List By} {v : Value} {rs : List Value} (h : OwnV W base 23 v rs) (hl : rs.length = M.length) (hb : ∀ (i : Nat) (x : By) (u : Value), M[i]? = some x → rs[i]? = some u → BytesIn W P x.length (fnL x) u)
    (hP : ∀ b, P b → P' b) (hv : ∀ b, v.ownBlock = some b → P' b) : PartsP W P' M v := by
  obtain ⟨A, cap, hv', hc, hr⟩ := h.shape
  rw [hl] at hv' hc hr
  refine ⟨A, cap, hv', hc, fun h0 => ?_⟩
  obtain ⟨g, hA, _, _, hg, hcell⟩ := hr h0
  refine ⟨g, 0, hA, hv g hg, fun i x hx => ?_⟩
  have hlt : i < rs.length := by rw [hl]; exact (List.getElem?_eq_some_iff.1 hx).1
  refine ⟨rs[i], ?_, (hb i x rs[i] hx (List.getElem?_eq_getElem hlt)).less (fun b _ => hP b)⟩
  rw [Nat.zero_add]
  exact hcell i _ (List.getElem?_eq_getElem hlt)
section
variable {P : Program} {w : World} {ops : Array Oper} {rest : List Oper} {op : Oper} {a : Act} {Q : Exit → Act → World → Prop}
/-- 'append(v, x...)', x whatever list, none too. -/
theorem append_list (hgd : op.guard = none) (s x : Operand) (T : TypeId) (ho : op.op = .call { callee := .builtin .append, args := #[s, x], argTypes := #[T, T] })
    (base : Nat) (e : TypeId) (z : Value) (b : Nat) (hT : P.underlying T = some (.slice e)) (hinfo : (P.info? e).map (fun i => (i.zero, i.size, i.bytes)) = some (some z, 1, b)) (hz : z.cells.size = 1) (hb : b ≤ 100)
    (xs : List Value) (v : Value) (hs : a.eval s = v) (hown : OwnV w base e v xs) (A : Option Addr) (c m : Nat) (news : List Value) (hx : a.eval x = .slice A m c) (hm : news.length = m) (hnil : m = 0 → A = none ∧ c = 0)
    (hnews : 0 < m → ∃ sb so, A = some ⟨sb, so, none⟩ ∧ ∀ (j : Nat) (u : Value), news[j]? = some u → w.cell? ⟨sb, so + j, none⟩ = some u) (h1 : ∀ u ∈ news, u.oneCell' = true) (hn : xs.length + m ≤ 1000000) (hbase : base ≤ w.heap.size)
    (hK : ∀ v' w', OwnV w' base e v' (xs ++ news) → w.grownBy w' v.ownBlock → (v'.ownBlock = v.ownBlock ∨ v'.ownBlock = some w.heap.size) → wpList P ops Q rest (a.put op.dst v') w') : wpList P ops Q (op :: rest) a w := by
  by_cases h0 : 0 < m
  · obtain ⟨sb, so, rfl, hc⟩ := hnews h0
    exact append_vals hgd s x T ho base e z b hT hinfo hz hb xs v hs hown sb so c m news hx hm hc h1 hn hbase hK
  · obtain rfl : m = 0 := by omega
    obtain ⟨rfl, rfl⟩ := hnil rfl
    obtain rfl : news = [] := List.eq_nil_of_length_eq_zero hm
    obtain ⟨i, hi, hzz⟩ := Option.map_eq_some_iff.1 hinfo
    simp only [Prod.mk.injEq] at hzz
    have hK' := hK v w (by rw [List.append_nil]; exact hown) ⟨rfl, rfl, rfl, Nat.le_refl _, fun _ _ _ => rfl⟩ (.inl rfl)
    refine wpList_plain hgd fun K hKK => ?_
    have hrun : (Builtin.append_ #[T, T] op.type #[v, .slice none 0 0]).run P w = .ok v w := by
      rcases hown.2 with ⟨rfl, hl⟩ | ⟨g, cap, cur, rfl, _, hg, hcap, hmx, hsz, _⟩
      · simp [Builtin.append_, run_underlying hT, sizeOf, typeInfo, hi, Builtin.lenOf, Builtin.firstCells]
      · simp [Builtin.append_, run_underlying hT, sizeOf, typeInfo, hi, Builtin.lenOf, Builtin.firstCells, hcap]
        rfl
    unfold Oper.wp execOp
    simp only [ho, resolve, invoke, builtin, Sem.run_bind, Sem.run_pure, Result.andThen_ok, List.map_toArray, List.map_cons, List.map_nil, hs, hx, hrun]
    exact hKK _ _ hK'
end
end Go.Proofs.YtebchoeeohmlaaaDoor.Jour
namespace Go.Proofs.YtebchoeeohmlaaaDoor.Book
open Go Go.RowKit Go.Proofs.YtebchoeeohmlaaaDoor.Aid Go.Proofs.YtebchoeeohmlaaaDoor.Cache Go.Proofs.YtebchoeeohmlaaaDoor.Store Go.Proofs.YtebchoeeohmlaaaDoor.Jour

abbrev RepSt := World → (Nat → Prop) → Value → Nat → St → Prop
abbrev RepK := World → (Nat → Prop) → Value → Value → List OpB → Bk → Prop
section
variable (D : By → By) (E : OpB → By) (m : Nat)
/-- Do. -/
def doC (st : St) (b : Bk) (x : OpB) : Int := if applyC b x = 0 then addC D m st (E x) else applyC b x
def doS (st : St) (b : Bk) (x : OpB) : St := if applyC b x = 0 then addS D m st (E x) else st
def doR (st : St) (R : List OpB) (b : Bk) (x : OpB) : List OpB := if doC D E m st b x = 0 then R ++ [x] else R
def doB (st : St) (b : Bk) (x : OpB) : Bk := if doC D E m st b x = 0 then applyB b x else b
/-- Pack. -/
def packL (b : Bk) : List By := (opsB b).map E
noncomputable def packR (st : St) (R : List OpB) (b : Bk) : List OpB := if onlyC D m st (packL E b) = 0 then opsB b else R
end
/-- In all worlds behind w0: where the program's tables lie as they lay. -/
structure KeepHas (w0 : World) (RS : RepSt) (RK : RepK) (D : By → By) (E : OpB → By) : Prop where
  dlen : ∀ x, (D x).length = 8
  elen : ∀ x, rightB x = true → x.key.length = 16 → (E x).length ≤ 100
  keep : KeepR RS
  lt : ∀ {W : World} {F : Nat → Prop} {v : Value} {m : Nat} {s : St}, RS W F v m s → ∀ b, F b → b < W.heap.size
  ok : ∀ {W : World} {F : Nat → Prop} {v : Value} {m : Nat} {s : St}, RS W F v m s → s.ok m
  keepK : ∀ {W W' : World} {F : Nat → Prop} {k s : Value} {R : List OpB} {b : Bk}, RK W F k s R b → (∀ x, F x → W'.heap[x]? = W.heap[x]?) → RK W' F k s R b
  ltK : ∀ {W : World} {F : Nat → Prop} {k s : Value} {R : List OpB} {b : Bk}, RK W F k s R b → ∀ x, F x → x < W.heap.size
  new : ∀ (room : Nat) (w : World), room ≤ 1048576 → Calls Tryd.prog 25 #[.int .i64 (room : Int)] w fun x w' => ∃ p F, x = .returned (.tuple #[.pointer (some p), .int .i64 0]) ∧ RS w' F (.pointer (some p)) room st0 ∧ (∀ b, F b → w.heap.size ≤ b) ∧ Below w.heap.size w w'
  fuse : ∀ {w : World} {F : Nat → Prop} {v : Value} {m : Nat} {s : St} (k : Int), RS w F v m s → -9223372036854775808 ≤ k → k ≤ 9223372036854775807 → Calls Tryd.prog 27 #[v, .int .i64 k] w fun x w' => x = .returned (.tuple #[]) ∧ Moved RS F w w' v m (fuseS s k)
  crash : ∀ {w : World} {F : Nat → Prop} {v : Value} {m : Nat} {s : St} (k : Int), RS w F v m s → -9223372036854775808 ≤ k → k ≤ 9223372036854775807 → Calls Tryd.prog 30 #[v, .int .i64 k] w fun x w' => x = .returned (.tuple #[]) ∧ Moved RS F w w' v m (crashS s k)
  open_up : ∀ {w : World} {F : Nat → Prop} {s : Value} {m : Nat} {st : St} {R : List OpB} {b : Bk} {t : By}, Below w0.heap.size w0 w → RS w F s m st → scan D (bytesL st) = some (R.map E, t) → runB bk0 R = some b → (∀ x ∈ R, x.key.length = 16) → st.burn = -1 → st.down = false → st.n ≤ 100000 →
    Calls Tryd.prog 26 #[s] w fun x w' => ∃ p F' FK, x = .returned (.tuple #[.pointer (some p), .int .i64 0]) ∧ RS w' F' s m (openS m st t) ∧ RK w' FK (.pointer (some p)) s R b ∧ (∀ x, FK x → ¬ F' x) ∧ Cache.Leaves F w w' ∧ ∀ x, F' x ∨ FK x → F x ∨ w.heap.size ≤ x
  doOp : ∀ {w : World} {F FK : Nat → Prop} {s k : Value} {m : Nat} {st : St} {R : List OpB} {b : Bk} (x : OpB), Below w0.heap.size w0 w → RS w F s m st → RK w FK k s R b → (∀ x, FK x → ¬ F x) → x.key.length = 16 → x.name.size ≤ 9000000000000000000 → st.n ≤ 100000 → R.length ≤ 1000 →
    Calls Tryd.prog 29 #[k, opV x] w fun y w' => y = .returned (.int .i64 (doC D E m st b x)) ∧ ∃ F' FK', RS w' F' s m (doS D E m st b x) ∧ (doC D E m st b x ≠ 8 → RK w' FK' k s (doR D E m st R b x) (doB D E m st b x)) ∧ (∀ x, FK' x → ¬ F' x) ∧ Cache.Leaves (fun x => F x ∨ FK x) w w' ∧ (∀ x, F' x ∨ FK' x → (F x ∨ FK x) ∨ w.heap.size ≤ x)
  pack : ∀ {w : World} {F FK : Nat → Prop} {s k : Value} {m : Nat} {st : St} {R : List OpB} {b : Bk}, Below w0.heap.size w0 w → RS w F s m st → RK w FK k s R b → (∀ x, FK x → ¬ F x) → st.n ≤ 100000 → R.length ≤ 1000 →
    Calls Tryd.prog 28 #[k] w fun y w' => y = .returned (.int .i64 (onlyC D m st (packL E b))) ∧ ∃ F' FK', RS w' F' s m (onlyS D m st (packL E b)) ∧ (onlyC D m st (packL E b) ≠ 8 → RK w' FK' k s (packR D E m st R b) b) ∧ (∀ x, FK' x → ¬ F' x) ∧ Cache.Leaves (fun x => F x ∨ FK x) w w' ∧ (∀ x, F' x ∨ FK' x → (F x ∨ FK x) ∨ w.heap.size ≤ x)
  book : ∀ {w : World} {FK : Nat → Prop} {s k : Value} {R : List OpB} {b : Bk}, RK w FK k s R b → Calls Tryd.prog 31 #[k] w fun y w' => ∃ Lv Rv, y = .returned (bookV b Lv Rv) ∧ BookAt w' b Lv Rv ∧ Below w.heap.size w w'
theorem KeepHas.up {w0 w1 : World} {RS : RepSt} {RK : RepK} {D : By → By} {E : OpB → By} (H : KeepHas w0 RS RK D E) (hb : Below w0.heap.size w0 w1) : KeepHas w1 RS RK D E :=
  { H with
    open_up := fun h => H.open_up (hb.trans (h.mono hb.size))
    doOp := fun x h => H.doOp x (hb.trans (h.mono hb.size))
    pack := fun h => H.pack (hb.trans (h.mono hb.size)) }
/-! ### With power, and room -/
def Up (st : St) : Prop := st.burn = -1 ∧ st.down = false
theorem up_power {st : St} (h : Up st) : power st = true ∧ burnS st = st := by
  obtain ⟨h1, h2⟩ := h
  constructor
  · unfold power; rw [h1, h2]; rfl
  · unfold burnS
    rw [if_neg (by rw [h1, h2]; simp), if_neg (by rw [h1]; omega)]
theorem add_up {D : By → By} (hD : ∀ x, (D x).length = 8) {m : Nat} {st : St} {x : By} (h : Up st) (hx : x.length ≤ 1000) (hr : st.n + (10 + x.length) ≤ m) :
    addC D m st x = 0 ∧ Up (addS D m st x) ∧ (addS D m st x).n = st.n + (10 + x.length) := by
  obtain ⟨h1, h2⟩ := up_power h
  have hc : appC m st (enc D x).length = 0 := by
    unfold appC
    rw [enc_len hD, if_pos h1, if_pos hr]
  have hs : appS m st (enc D x).length (fnL (enc D x)) = { st with n := st.n + (10 + x.length), e := cat st.e st.n (fnL (enc D x)) } := by
    unfold appS
    rw [enc_len hD, if_pos ⟨h1, hr⟩, h2]
  have hu : Up (appS m st (enc D x).length (fnL (enc D x))) := by rw [hs]; exact h
  obtain ⟨h3, h4⟩ := up_power hu
  unfold addC addS
  rw [if_neg (by omega), if_pos hc, if_neg (by omega), if_pos hc]
  unfold syncC syncS
  rw [if_pos h3, if_pos h3, h4, hs]
  exact ⟨rfl, h, rfl⟩
theorem only_up {D : By → By} {m : Nat} {st : St} {M : List By} (h : Up st) (hx : ∀ x ∈ M, x.length ≤ 1000) (hr : (encAll D M).length ≤ m) :
    onlyC D m st M = 0 ∧ Up (onlyS D m st M) ∧ (onlyS D m st M).n = (encAll D M).length ∧ bytesL (onlyS D m st M) = encAll D M := by
  obtain ⟨h1, h2⟩ := up_power h
  have hn : ¬ ∃ x ∈ M, 1000 < x.length := fun ⟨x, h3, h4⟩ => by have := hx x h3; omega
  unfold onlyC onlyS
  rw [if_neg hn, if_neg hn]
  unfold repC repS
  rw [if_pos h1, if_pos hr, if_pos ⟨h1, hr⟩, h2]
  exact ⟨rfl, h, rfl, bytes_fn _ _ rfl rfl⟩
section
variable {w0 : World} {RS : RepSt} {RK : RepK} {D : By → By} {E : OpB → By} {m : Nat} {st : St} {R : List OpB} {b : Bk} {x : OpB}
theorem do_up (H : KeepHas w0 RS RK D E) (h : Up st) (hc : applyC b x = 0) (hk : x.key.length = 16) (hr : st.n + 110 ≤ m) :
    doC D E m st b x = 0 ∧ Up (doS D E m st b x) ∧ (doS D E m st b x).n ≤ st.n + 110 ∧ doR D E m st R b x = R ++ [x] ∧ doB D E m st b x = applyB b x := by
  have hl := H.elen x (apply_right hc) hk
  obtain ⟨h1, h2, h3⟩ := add_up (m := m) H.dlen (x := E x) h (by omega) (by omega)
  have h0 : doC D E m st b x = 0 := by unfold doC; rw [if_pos hc]; exact h1
  have hs : doS D E m st b x = addS D m st (E x) := by unfold doS; rw [if_pos hc]
  refine ⟨h0, by rw [hs]; exact h2, by rw [hs, h3]; omega, by unfold doR; rw [if_pos h0], by unfold doB; rw [if_pos h0]⟩
theorem do_err (D : By → By) (E : OpB → By) (m : Nat) (st : St) (R : List OpB) (hc : applyC b x ≠ 0) : doC D E m st b x = applyC b x ∧ doS D E m st b x = st ∧ doR D E m st R b x = R ∧ doB D E m st b x = b := by
  have h0 : doC D E m st b x = applyC b x := by unfold doC; rw [if_neg hc]
  exact ⟨h0, by unfold doS; rw [if_neg hc], by unfold doR; rw [if_neg (by rw [h0]; exact hc)], by unfold doB; rw [if_neg (by rw [h0]; exact hc)]⟩
end
end Go.Proofs.YtebchoeeohmlaaaDoor.Book
namespace Go.Proofs.YtebchoeeohmlaaaDoor.Book
open Go Go.RowKit Go.Proofs.YtebchoeeohmlaaaDoor.Aid Go.Proofs.YtebchoeeohmlaaaDoor.Cache Go.Proofs.YtebchoeeohmlaaaDoor.Store Go.Proofs.YtebchoeeohmlaaaDoor.Jour

def RKB (RK : RepK) (s : Value) : World → (Nat → Prop) → Value → Nat → List OpB × Bk → Prop := fun W F v _ p => RK W F v s p.1 p.2
/-- A store s, and a keep k on it. -/
abbrev KT (RS : RepSt) (RK : RepK) (w0 W : World) (X : Nat → Prop) (s k : Value) (m : Nat) (st : St) (R : List OpB) (b : Bk) : Prop := Two RS (RKB RK s) w0 W X s k m st (R, b)
section
variable {RS : RepSt} {RK : RepK} {D : By → By} {E : OpB → By} {w0 W : World} {X K : Nat → Prop} {s k : Value} {m : Nat} {st : St} {R : List OpB} {b : Bk}
theorem KeepHas.keepB (H : KeepHas w0 RS RK D E) (s : Value) : KeepR (RKB RK s) := fun _ _ _ _ _ _ h hk => H.keepK h hk
theorem KeepHas.more (H : KeepHas w0 RS RK D E) {W' : World} {X' : Nat → Prop} (h : KT RS RK w0 W X s k m st R b) (hb : Below W.heap.size W W') (hX : ∀ x, X' x → X x ∨ (W.heap.size ≤ x ∧ x < W'.heap.size)) : KT RS RK w0 W' X' s k m st R b := Two.more h H.keep (H.keepB s) hb hX
theorem KeepHas.moreH (H : KeepHas w0 RS RK D E) {W' : World} {K' : Nat → Prop} (h : Held RS w0 W K s m st) (hb : Below W.heap.size W W') (hK : ∀ b, K' b → K b ∨ (W.heap.size ≤ b ∧ b < W'.heap.size)) : Held RS w0 W' K' s m st := h.more (fun hr hk => H.keep _ _ _ _ _ _ hr hk) hb hK
theorem KeepHas.okT (H : KeepHas w0 RS RK D E) (h : KT RS RK w0 W X s k m st R b) : st.ok m := by obtain ⟨FA, FB, h⟩ := h; exact H.ok h.ra
theorem KT.held (h : KT RS RK w0 W X s k m st R b) : Held RS w0 W X s m st := by
  obtain ⟨FA, FB, h⟩ := h
  exact ⟨FA, h.ra, h.lta, h.gea, h.ax, h.bel, h.old⟩
theorem KeepHas.newH (H : KeepHas w0 RS RK D E) (m : Nat) (hm : m ≤ 1048576) (W : World) (hb : Below w0.heap.size w0 W) : Calls Tryd.prog 25 #[.int .i64 (m : Int)] W fun x W' => ∃ p, x = .returned (.tuple #[.pointer (some p), .int .i64 0]) ∧ Held RS w0 W' (fun _ => False) (.pointer (some p)) m st0 :=
  (H.new m W hm).mono (fun _ _ ⟨p, F, h1, h2, h3, h4⟩ => ⟨p, h1, ⟨F, h2, H.lt h2, fun b hf => Nat.le_trans hb.size (h3 b hf), fun _ _ h => h, hb.trans (h4.mono hb.size), fun _ h => h.elim⟩⟩)
theorem KeepHas.fuseT (H : KeepHas w0 RS RK D E) (h : KT RS RK w0 W X s k m st R b) (i : Int) (h1 : -9223372036854775808 ≤ i) (h2 : i ≤ 9223372036854775807) : Calls Tryd.prog 27 #[s, .int .i64 i] W fun x W' => x = .returned (.tuple #[]) ∧ KT RS RK w0 W' X s k m (fuseS st i) R b ∧ Keep X W W' := by
  obtain ⟨FA, FB, h⟩ := h
  exact (H.fuse i h.ra h1 h2).mono (fun x W' ⟨h1, h2⟩ => ⟨h1, h.move H.lt (fun hx => H.keepK h.rb hx) h2⟩)
theorem KeepHas.crashH (H : KeepHas w0 RS RK D E) (h : Held RS w0 W K s m st) (i : Int) (h1 : -9223372036854775808 ≤ i) (h2 : i ≤ 9223372036854775807) : Calls Tryd.prog 30 #[s, .int .i64 i] W fun x W' => x = .returned (.tuple #[]) ∧ Held RS w0 W' K s m (crashS st i) ∧ Keep K W W' := by
  obtain ⟨F, h⟩ := h
  exact (H.crash i h.rep h1 h2).mono (fun x W' ⟨h1, h2⟩ => ⟨h1, h.move H.lt h2⟩)
/-- What is behind a call that leaves all but the footprints: a store and a keep. -/
theorem kept_after (H : KeepHas w0 RS RK D E) {W' : World} {F F' FJ : Nat → Prop} {k' : Value} {st' : St} {R' : List OpB} {b' : Bk} (hb : Below w0.heap.size w0 W) (hge : ∀ b, F b → w0.heap.size ≤ b) (hX : ∀ b, F b → ¬ X b) (hold : ∀ b, X b → b < W.heap.size)
    (h1 : RS W' F' s m st') (h2 : RK W' FJ k' s R' b') (hd : ∀ b, FJ b → ¬ F' b) (hl : Cache.Leaves F W W') (hn : ∀ b, F' b ∨ FJ b → F b ∨ W.heap.size ≤ b) : KT RS RK w0 W' X s k' m st' R' b' ∧ Keep X W W' := by
  have hbel : Below w0.heap.size w0 W' := hb.trans (hl.below hb.size hge)
  have g : ∀ b, F' b ∨ FJ b → w0.heap.size ≤ b := fun b hb' => (hn b hb').elim (hge b) (fun h => Nat.le_trans hb.size h)
  have a : ∀ b, F' b ∨ FJ b → ¬ X b := fun b hb' hx => (hn b hb').elim (fun h => hX b h hx) (fun h => by have := hold b hx; omega)
  exact ⟨⟨F', FJ, h1, h2, H.lt h1, H.ltK h2, fun b hb' => g b (.inl hb'), fun b hb' => g b (.inr hb'), fun b h3 h4 => hd b h4 h3, fun b hb' => a b (.inl hb'), fun b hb' => a b (.inr hb'), hbel, fun b hx => Nat.lt_of_lt_of_le (hold b hx) hl.size⟩,
    fun b hx => hl.block b (hold b hx) (fun hF => hX b hF hx)⟩
theorem store_after (H : KeepHas w0 RS RK D E) {W' : World} {F F' FJ : Nat → Prop} {st' : St} (hb : Below w0.heap.size w0 W) (hge : ∀ b, F b → w0.heap.size ≤ b) (hX : ∀ b, F b → ¬ X b) (hold : ∀ b, X b → b < W.heap.size)
    (h1 : RS W' F' s m st') (hl : Cache.Leaves F W W') (hn : ∀ b, F' b ∨ FJ b → F b ∨ W.heap.size ≤ b) : Held RS w0 W' X s m st' ∧ Keep X W W' :=
  ⟨⟨F', h1, H.lt h1, fun b hb' => (hn b (.inl hb')).elim (hge b) (fun h => Nat.le_trans hb.size h), fun b hb' hx => (hn b (.inl hb')).elim (fun h => hX b h hx) (fun h => by have := hold b hx; omega), hb.trans (hl.below hb.size hge), fun b hx => Nat.lt_of_lt_of_le (hold b hx) hl.size⟩,
    fun b hx => hl.block b (hold b hx) (fun hF => hX b hF hx)⟩
theorem KeepHas.openH (H : KeepHas w0 RS RK D E) (h : Held RS w0 W K s m st) {t : By} (hs : scan D (bytesL st) = some (R.map E, t)) (hr : runB bk0 R = some b) (hk : ∀ x ∈ R, x.key.length = 16) (hu : Up st) (hn : st.n ≤ 100000) :
    Calls Tryd.prog 26 #[s] W fun x W' => ∃ p, x = .returned (.tuple #[.pointer (some p), .int .i64 0]) ∧ KT RS RK w0 W' K s (.pointer (some p)) m (openS m st t) R b ∧ Keep K W W' := by
  obtain ⟨F, h⟩ := h
  exact (H.open_up h.bel h.rep hs hr hk hu.1 hu.2 hn).mono (fun x W' ⟨p, F', FJ, h1, h2, h3, h4, h5, h6⟩ => ⟨p, h1, kept_after H h.bel h.ge h.apart h.old h2 h3 h4 h5 h6⟩)
theorem KeepHas.doT (H : KeepHas w0 RS RK D E) (h : KT RS RK w0 W X s k m st R b) (x : OpB) (hk : x.key.length = 16) (hx : x.name.size ≤ 9000000000000000000) (hn : st.n ≤ 100000) (hR : R.length ≤ 1000) :
    Calls Tryd.prog 29 #[k, opV x] W fun y W' => y = .returned (.int .i64 (doC D E m st b x)) ∧ (doC D E m st b x ≠ 8 → KT RS RK w0 W' X s k m (doS D E m st b x) (doR D E m st R b x) (doB D E m st b x)) ∧ Held RS w0 W' X s m (doS D E m st b x) ∧ Keep X W W' := by
  obtain ⟨FA, FB, h⟩ := h
  refine (H.doOp x h.bel h.ra h.rb (fun b h1 h2 => h.ab b h2 h1) hk hx hn hR).mono ?_
  rintro y W' ⟨h1, F', FJ', h2, h3, h4, h5, h6⟩
  have hge : ∀ b, FA b ∨ FB b → w0.heap.size ≤ b := fun b hb => hb.elim (h.gea b) (h.geb b)
  have hX : ∀ b, FA b ∨ FB b → ¬ X b := fun b hb => hb.elim (h.ax b) (h.bx b)
  obtain ⟨t1, t2⟩ := store_after H (FJ := FJ') h.bel hge hX h.old h2 h5 h6
  exact ⟨h1, fun hne => (kept_after H h.bel hge hX h.old h2 (h3 hne) h4 h5 h6).1, t1, t2⟩
theorem KeepHas.packT (H : KeepHas w0 RS RK D E) (h : KT RS RK w0 W X s k m st R b) (hn : st.n ≤ 100000) (hR : R.length ≤ 1000) :
    Calls Tryd.prog 28 #[k] W fun y W' => y = .returned (.int .i64 (onlyC D m st (packL E b))) ∧ (onlyC D m st (packL E b) ≠ 8 → KT RS RK w0 W' X s k m (onlyS D m st (packL E b)) (packR D E m st R b) b) ∧ Held RS w0 W' X s m (onlyS D m st (packL E b)) ∧ Keep X W W' := by
  obtain ⟨FA, FB, h⟩ := h
  refine (H.pack h.bel h.ra h.rb (fun b h1 h2 => h.ab b h2 h1) hn hR).mono ?_
  rintro y W' ⟨h1, F', FJ', h2, h3, h4, h5, h6⟩
  have hge : ∀ b, FA b ∨ FB b → w0.heap.size ≤ b := fun b hb => hb.elim (h.gea b) (h.geb b)
  have hX : ∀ b, FA b ∨ FB b → ¬ X b := fun b hb => hb.elim (h.ax b) (h.bx b)
  obtain ⟨t1, t2⟩ := store_after H (FJ := FJ') h.bel hge hX h.old h2 h5 h6
  exact ⟨h1, fun hne => (kept_after H h.bel hge hX h.old h2 (h3 hne) h4 h5 h6).1, t1, t2⟩
theorem KeepHas.bookT (H : KeepHas w0 RS RK D E) (h : KT RS RK w0 W X s k m st R b) : Calls Tryd.prog 31 #[k] W fun y W' => ∃ Lv Rv, y = .returned (bookV b Lv Rv) ∧ BookAt W' b Lv Rv ∧ KT RS RK w0 W' X s k m st R b ∧ Below W.heap.size W W' := by
  obtain ⟨FA, FB, h0⟩ := h
  refine (H.book h0.rb).mono ?_
  rintro y W' ⟨Lv, Rv, h1, h2, h3⟩
  exact ⟨Lv, Rv, h1, h2, H.more ⟨FA, FB, h0⟩ h3 (fun x hx => .inl hx), h3⟩
end
end Go.Proofs.YtebchoeeohmlaaaDoor.Book
