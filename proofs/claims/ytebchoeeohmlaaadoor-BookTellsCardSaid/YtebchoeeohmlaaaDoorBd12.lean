/-
  What slices.Clone does at []book.Entry. What slices.Clone does at []api.Word. A slice of structs of the call's own: its beginning; append to it where there is room, in its place; clear of what lies behind it; slice expressions.
-/
import Derived.Test.YtebchoeeohmlaaaDoorBd09
import Derived.Test.YtebchoeeohmlaaaDoorProg
import Derived.Lib.SliceRun
import Derived.ArgAppend
namespace Go.Proofs.YtebchoeeohmlaaaDoor.Book
open Go Go.RowKit Go.Proofs.YtebchoeeohmlaaaDoor.Aid

theorem info_clnE : (Tryd.prog.info? 95).map (fun i => (i.zero, i.size, i.bytes)) = some (some (.agg #[.string ⟨#[]⟩, .int .u8 0, .int .u8 0, .int .u8 0, .int .u8 0, .int .u8 0, .int .u8 0, .int .u8 0, .int .u8 0, .int .u8 0, .int .u8 0, .int .u8 0, .int .u8 0, .int .u8 0, .int .u8 0, .int .u8 0, .int .u8 0]), 17, 32) := by kernel_rfl
set_option maxRecDepth 100000 in
set_option maxHeartbeats 1000000 in
theorem cloneE (w : World) (n : Nat) (V : Nat → List Value) (v : Value) (h : RowsAt w 17 n V v) (hV : ∀ i, i < n → (V i).length = 17) (hn : n ≤ 100000) :
    Calls Tryd.prog 60 #[v] w fun x w' => ∃ r, x = .returned r ∧ OwnE w' w.heap.size 95 17 ((List.range n).map V) r ∧ Below w.heap.size w w' := by
  have qT : ∀ (w : World) (a : Option Addr) (n c n' c' : Nat), (binOp .eql 35 (.slice a n c) (.slice none n' c')).run Tryd.prog w = .ok (.bool a.isNone) w := fun w a n c n' c' => Lib.run_eql_slice_nil w _ _ a n c n' c' Tryd.underlying35
  obtain ⟨A, c, rfl, hr⟩ := h
  cases A with
  | none =>
    have h0 : n = 0 := by
      rcases Nat.eq_zero_or_pos n with h | h
      · exact h
      · obtain ⟨b, o, h1, _⟩ := hr h; cases h1
    subst h0
    clear hr hV
    go_enter Tryd.func60, Tryd.ntmps60
    go_wp2
    go_ret
    exact ⟨_, rfl, OwnE.nil _ _ _ _, Below.refl _ _⟩
  | some ad =>
    have HE := Lib.hid (OwnE.empty w 95 17)
    have hb1 : Below w.heap.size w (w.alloc (.cells #[] 95)) := (Below.refl _ _).alloc (Nat.le_refl _) _
    have HB1 := Lib.hid hb1
    have HR : Hid (RowsAt (w.alloc (.cells #[] 95)) 17 n V (.slice (some ad) n c)) := Lib.hid ⟨_, _, rfl, fun h1 => by
      obtain ⟨b, o, hA, hlt, hc⟩ := hr h1
      exact ⟨b, o, hA, Nat.lt_of_lt_of_le hlt hb1.size, fun i hi j u hu => (hb1.cell (p := ⟨b, o + i * 17 + j, none⟩) hlt).trans (hc i hi j u hu)⟩⟩
    have HV := Lib.hid hV
    clear hr hb1 hV
    go_enter Tryd.func60, Tryd.ntmps60
    go_wp2_with (at_builtin
                 refine append_rows_new (by rfl) (.tmp 5) (.tmp 6) 35 (by rfl) w.heap.size 95 17 32 _ Tryd.underlying35 info_clnE (by rfl) w.heap.size (by rfl) HE.out n V _ (by rfl) HR.out HV.out (by omega) (by omega) HB1.out.size ?_
                 intro r w2 hown2 hb2
                 have HB2 : Hid (Below w.heap.size w w2) := Lib.hid (HB1.out.trans (hb2.mono HB1.out.size))
                 have HO2 := Lib.hid hown2
                 clear hown2 hb2 HE HB1 HR)
    go_ret
    exact ⟨_, rfl, HO2.out, HB2.out⟩
end Go.Proofs.YtebchoeeohmlaaaDoor.Book
namespace Go.Proofs.YtebchoeeohmlaaaDoor.Book
open Go Go.RowKit Go.Proofs.YtebchoeeohmlaaaDoor.Aid

theorem info_clnW : (Tryd.prog.info? 26).map (fun i => (i.zero, i.size, i.bytes)) = some (some (.agg #[.int .u8 0, .int .u8 0, .int .u8 0, .int .u8 0, .int .u8 0, .int .u8 0, .int .u8 0, .int .u8 0, .int .u8 0, .int .u8 0, .int .u8 0, .int .u8 0, .int .u8 0, .int .u8 0, .int .u8 0, .int .u8 0]), 16, 16) := by kernel_rfl
set_option maxRecDepth 100000 in
set_option maxHeartbeats 1000000 in
theorem cloneW (w : World) (n : Nat) (V : Nat → List Value) (v : Value) (h : RowsAt w 16 n V v) (hV : ∀ i, i < n → (V i).length = 16) (hn : n ≤ 100000) :
    Calls Tryd.prog 61 #[v] w fun x w' => ∃ r, x = .returned r ∧ OwnE w' w.heap.size 26 16 ((List.range n).map V) r ∧ Below w.heap.size w w' := by
  have qT : ∀ (w : World) (a : Option Addr) (n c n' c' : Nat), (binOp .eql 36 (.slice a n c) (.slice none n' c')).run Tryd.prog w = .ok (.bool a.isNone) w := fun w a n c n' c' => Lib.run_eql_slice_nil w _ _ a n c n' c' Tryd.underlying36
  obtain ⟨A, c, rfl, hr⟩ := h
  cases A with
  | none =>
    have h0 : n = 0 := by
      rcases Nat.eq_zero_or_pos n with h | h
      · exact h
      · obtain ⟨b, o, h1, _⟩ := hr h; cases h1
    subst h0
    clear hr hV
    go_enter Tryd.func61, Tryd.ntmps61
    go_wp2
    go_ret
    exact ⟨_, rfl, OwnE.nil _ _ _ _, Below.refl _ _⟩
  | some ad =>
    have HE := Lib.hid (OwnE.empty w 26 16)
    have hb1 : Below w.heap.size w (w.alloc (.cells #[] 26)) := (Below.refl _ _).alloc (Nat.le_refl _) _
    have HB1 := Lib.hid hb1
    have HR : Hid (RowsAt (w.alloc (.cells #[] 26)) 16 n V (.slice (some ad) n c)) := Lib.hid ⟨_, _, rfl, fun h1 => by
      obtain ⟨b, o, hA, hlt, hc⟩ := hr h1
      exact ⟨b, o, hA, Nat.lt_of_lt_of_le hlt hb1.size, fun i hi j u hu => (hb1.cell (p := ⟨b, o + i * 16 + j, none⟩) hlt).trans (hc i hi j u hu)⟩⟩
    have HV := Lib.hid hV
    clear hr hb1 hV
    go_enter Tryd.func61, Tryd.ntmps61
    go_wp2_with (at_builtin
                 refine append_rows_new (by rfl) (.tmp 5) (.tmp 6) 36 (by rfl) w.heap.size 26 16 16 _ Tryd.underlying36 info_clnW (by rfl) w.heap.size (by rfl) HE.out n V _ (by rfl) HR.out HV.out (by omega) (by omega) HB1.out.size ?_
                 intro r w2 hown2 hb2
                 have HB2 : Hid (Below w.heap.size w w2) := Lib.hid (HB1.out.trans (hb2.mono HB1.out.size))
                 have HO2 := Lib.hid hown2
                 clear hown2 hb2 HE HB1 HR)
    go_ret
    exact ⟨_, rfl, HO2.out, HB2.out⟩
end Go.Proofs.YtebchoeeohmlaaaDoor.Book
namespace Go.Proofs.YtebchoeeohmlaaaDoor.Aid
open Go Go.RowKit

theorem OwnE.take {W : World} {base g n c : Nat} {e : TypeId} {s : Nat} {L : List (List Value)} (h : OwnE W base e s L (.slice (some ⟨g, 0, none⟩) n c)) (i : Nat) (hi : i ≤ L.length) : OwnE W base e s (L.take i) (.slice (some ⟨g, 0, none⟩) i c) := by
  obtain ⟨f, hr, hc, hm, hb, hn, hf⟩ := h.toRow
  have hl : (L.take i).length = i := by rw [List.length_take]; omega
  have := OwnE.ofRow (L := L.take i) hr (by omega) hm hb (fun r hr' => h.len r (List.mem_of_mem_take hr')) (fun k r j u h1 h2 => hf k r j u (by
    have h3 := (List.getElem?_eq_some_iff.1 h1).1
    rw [hl] at h3
    rw [List.getElem?_take_of_lt h3] at h1
    exact h1) h2)
  rw [hl] at this
  exact this
/-- The row behind a write of whole rows from the n-th on. -/
theorem OwnE.put {W : World} {base g n c : Nat} {e : TypeId} {s : Nat} {L news : List (List Value)} (h : OwnE W base e s L (.slice (some ⟨g, 0, none⟩) n c)) (hn : ∀ r ∈ news, r.length = s) (hroom : n + news.length ≤ c) :
    OwnE (W.setCells g (n * s) news.flatten) base e s (L ++ news) (.slice (some ⟨g, 0, none⟩) (n + news.length) c) := by
  obtain ⟨f, hr, hc, hm, hb, rfl, hf⟩ := h.toRow
  have hl := flat_len hn
  have hr2 := row_setCells news.flatten (L.length * s) W f (fun j => news.flatten.getD j undef) hr (fun i hi => by rw [List.getD_eq_getElem?_getD, List.getElem?_eq_getElem hi]; rfl)
  have hlen : ∀ r ∈ L ++ news, r.length = s := fun r hr' => (List.mem_append.1 hr').elim (h.len r) (hn r)
  have := OwnE.ofRow (L := L ++ news) hr2 (by rw [List.length_append]; omega) hm hb hlen (fun i r j u h1 h2 => by
    have hi := (List.getElem?_eq_some_iff.1 h1).1
    have hj := (List.getElem?_eq_some_iff.1 h2).1
    have hrl := hlen r (List.mem_of_getElem? h1)
    rw [List.length_append] at hi
    by_cases hlt : i < L.length
    · rw [List.getElem?_append_left hlt] at h1
      have h4 : (i + 1) * s ≤ L.length * s := Nat.mul_le_mul_right _ hlt
      rw [Nat.add_mul] at h4
      rw [if_neg (by omega)]
      exact hf i r j u h1 h2
    · rw [List.getElem?_append_right (by omega)] at h1
      have h3 := flat_at hn h1 h2
      have h5 := (List.getElem?_eq_some_iff.1 h3).1
      have h6 : i * s = L.length * s + (i - L.length) * s := by rw [← Nat.add_mul]; congr 1; omega
      rw [if_pos (by omega), List.getD_eq_getElem?_getD, show i * s + j - L.length * s = (i - L.length) * s + j by omega, h3]
      rfl)
  rw [List.length_append] at this
  exact this
/-- What lies behind the slice may turn. -/
theorem OwnE.beyond {W : World} {base g n c : Nat} {e : TypeId} {s : Nat} {L : List (List Value)} (h : OwnE W base e s L (.slice (some ⟨g, 0, none⟩) n c)) (p : Nat) (hp : n * s ≤ p) (vs : List Value) : OwnE (W.setCells g p vs) base e s L (.slice (some ⟨g, 0, none⟩) n c) := by
  obtain ⟨f, hr, hc, hm, hb, rfl, hf⟩ := h.toRow
  have hr2 := row_setCells vs p W f (fun j => vs.getD j undef) hr (fun i hi => by rw [List.getD_eq_getElem?_getD, List.getElem?_eq_getElem hi]; rfl)
  refine OwnE.ofRow (L := L) hr2 hc hm hb h.len (fun i r j u h1 h2 => ?_)
  have hi := (List.getElem?_eq_some_iff.1 h1).1
  have hj := (List.getElem?_eq_some_iff.1 h2).1
  have hrl := h.len r (List.mem_of_getElem? h1)
  have h4 : (i + 1) * s ≤ L.length * s := Nat.mul_le_mul_right _ hi
  rw [Nat.add_mul] at h4
  rw [if_neg (by omega)]
  exact hf i r j u h1 h2
theorem OwnE.there {W : World} {base g n c : Nat} {e : TypeId} {s : Nat} {L : List (List Value)} (h : OwnE W base e s L (.slice (some ⟨g, 0, none⟩) n c)) : ∀ j, j < c * s → (W.cell? ⟨g, j, none⟩).isSome = true ∧ W.frozen? ⟨g, j, none⟩ = false := by
  obtain ⟨f, hr, _⟩ := h.toRow
  exact fun j hj => ⟨by rw [hr.cell hj]; rfl, hr.frozen j⟩
theorem grown_setCells (W : World) (g p : Nat) (vs : List Value) : W.grownBy (W.setCells g p vs) (some g) := by
  have h := only_setCells g vs p W
  exact ⟨h.os, h.tape, h.output, by rw [h.size]; exact Nat.le_refl _, fun k _ hk => h.block k (fun e => hk (by rw [e]))⟩
section
variable {P : Program} {w : World} {ops : Array Oper} {rest : List Oper} {op : Oper} {a : Act} {Q : Exit → Act → World → Prop}
theorem append_rows_room (hgd : op.guard = none) (y x : Operand) (T : TypeId) (ho : op.op = .call { callee := .builtin .append, args := #[y, x], argTypes := #[T, T] })
    (base : Nat) (e : TypeId) (s b : Nat) (z : Value) (hT : P.underlying T = some (.slice e)) (hinfo : (P.info? e).map (fun i => (i.zero, i.size, i.bytes)) = some (some z, s, b))
    (L : List (List Value)) (g n c : Nat) (hv : a.eval y = .slice (some ⟨g, 0, none⟩) n c) (hown : OwnE w base e s L (.slice (some ⟨g, 0, none⟩) n c)) (m : Nat) (sb so c' : Nat) (news : List (List Value)) (hx : a.eval x = .slice (some ⟨sb, so, none⟩) m c')
    (hm : news.length = m) (hlen : ∀ r ∈ news, r.length = s) (hone : ∀ r ∈ news, ∀ q ∈ r, q.oneCell' = true) (hcell : ∀ j u, news.flatten[j]? = some u → w.cell? ⟨sb, so + j, none⟩ = some u) (hroom : n + m ≤ c)
    (hK : ∀ w', OwnE w' base e s (L ++ news) (.slice (some ⟨g, 0, none⟩) (n + m) c) → w.grownBy w' (some g) → wpList P ops Q rest (a.put op.dst (.slice (some ⟨g, 0, none⟩) (n + m) c)) w') : wpList P ops Q (op :: rest) a w := by
  subst hm
  obtain ⟨i, hi, hzz⟩ := Option.map_eq_some_iff.1 hinfo
  simp only [Prod.mk.injEq] at hzz
  have hfl := flat_len hlen
  have hth := hown.there
  have hnl : (n + news.length) * s ≤ c * s := Nat.mul_le_mul_right _ hroom
  rw [Nat.add_mul] at hnl
  have hrun := run_append_room_cells (P := P) (w := w) T op.type e i hT hi g 0 n c ⟨sb, so, none⟩ news.length c' news.flatten (by rw [hfl, hzz.2.1]) (fun j u hj => by rw [Addr.add_mid]; exact hcell j u hj)
    (fun u hu => by
      obtain ⟨r, h1, h2⟩ := List.mem_flatten.1 hu
      exact hone r h1 u h2) hroom
    (fun j hj => by rw [hzz.2.1, Nat.zero_add]; exact (hth _ (by omega)).1)
    (fun j hj => by rw [hzz.2.1, Nat.zero_add]; exact (hth _ (by omega)).2)
  rw [hzz.2.1, Nat.zero_add] at hrun
  refine wpList_plain hgd fun K hK' => ?_
  unfold Oper.wp execOp
  simp only [ho, resolve, invoke, builtin, Sem.run_bind, Sem.run_pure, Result.andThen_ok, List.map_toArray, List.map_cons, List.map_nil, hv, hx, hrun]
  exact hK' _ _ (hK _ (hown.put hlen hroom) (grown_setCells _ _ _ _))
end
section
variable {P : Program}
/-- 'clear(v[n:n+m])'. -/
theorem run_clear_rows (t e ty : TypeId) (s : Nat) (z : Value) (ht : P.underlying t = some (.slice e)) (hv : ∀ w, (zeroValue e).run P w = .ok z w) (hz : z.cells.size = s) (hone : ∀ q ∈ z.cells, q.oneCell' = true) (W : World) (base g n c m c' : Nat) (L : List (List Value))
    (h : OwnE W base e s L (.slice (some ⟨g, 0, none⟩) n c)) (hm : n + m ≤ c) :
    ∃ W', (Builtin.clear_ #[t] ty #[.slice (some ⟨g, n * s, none⟩) m c']).run P W = .ok (.tuple #[]) W' ∧ OwnE W' base e s L (.slice (some ⟨g, 0, none⟩) n c) ∧ W.grownBy W' (some g) := by
  cases m with
  | zero => exact ⟨W, by simp [Builtin.clear_, run_underlying ht], h, ⟨rfl, rfl, rfl, Nat.le_refl _, fun _ _ _ => rfl⟩⟩
  | succ m =>
    have hth := h.there
    have hsz : (Builtin.zeroCells z.cells (m + 1)).size = (m + 1) * s := by rw [size_zeroCells, hz]
    have hnl : (n + (m + 1)) * s ≤ c * s := Nat.mul_le_mul_right _ hm
    rw [Nat.add_mul] at hnl
    have hst := run_storeCells_cells (P := P) g (n * s) (Builtin.zeroCells z.cells (m + 1)).toList 0 W
      (fun j hj => (hth _ (by have : j < (m + 1) * s := by rw [← hsz]; simpa using hj
                              omega)).1)
      (fun j hj => (hth _ (by have : j < (m + 1) * s := by rw [← hsz]; simpa using hj
                              omega)).2)
      (fun v hv' => by
        have hv2 : v ∈ Builtin.zeroCells z.cells (m + 1) := Array.mem_toList_iff.1 hv'
        unfold Builtin.zeroCells at hv2
        obtain ⟨i, hi, rfl⟩ := Array.mem_map.1 hv2
        have hi' : i < (m + 1) * z.cells.size := by simpa using hi
        have h0 : 0 < z.cells.size := by
          rcases Nat.eq_zero_or_pos z.cells.size with h | h
          · rw [h] at hi'; omega
          · exact h
        have hlt := Nat.mod_lt i h0
        rw [getElem!_pos z.cells _ hlt]
        exact hone _ (Array.getElem_mem hlt))
    simp only [Nat.add_zero] at hst
    exact ⟨W.setCells g (n * s) (Builtin.zeroCells z.cells (m + 1)).toList, by simp [Builtin.clear_, run_underlying ht, hv, hst], h.beyond _ (Nat.le_refl _) _, grown_setCells _ _ _ _⟩
theorem rows_full_run (t e s : Nat) (hu : P.underlying t = some (.slice e)) (hsz : (P.info? e).map (·.size) = some s) (A : Option Addr) (M c lo hi mx : Nat) (h1 : lo ≤ hi) (h2 : hi ≤ mx) (h3 : mx ≤ c) :
    ∃ v, ∀ (l h x : Int) (k1 k2 k3 : IntKind) (W : World), l = (lo : Int) → h = (hi : Int) → x = (mx : Int) → (Instr.sliceAt t (.slice A M c) (some (.int k1 l)) (some (.int k2 h)) (some (.int k3 x))).run P W = .ok v W := by
  cases hq : P.info? e with
  | none => simp [hq] at hsz
  | some i =>
    refine ⟨.slice (if mx = lo then A else A.map (·.add (lo * i.size))) (hi - lo) (mx - lo), fun l h x k1 k2 k3 W hl hh hx => ?_⟩
    subst hl hh hx
    simp [Instr.sliceAt, Instr.slice, Instr.sliceBounds, Instr.sliceBound, asIntOf, Sem.run_bind, run_underlying hu W, Result.andThen, sizeOf, typeInfo, hq, h1, h2, h3]
theorem rows_from_at (t e s : Nat) (hu : P.underlying t = some (.slice e)) (hsz : (P.info? e).map (·.size) = some s) (sb so M c lo : Nat) (h2 : lo ≤ M) :
    ∀ (l : Int) (kd : IntKind) (W : World), l = (lo : Int) → (Instr.sliceAt t (.slice (some ⟨sb, so, none⟩) M c) (some (.int kd l)) none none).run P W = .ok (.slice (some ⟨sb, if c = lo then so else so + lo * s, none⟩) (M - lo) (c - lo)) W := by
  intro l kd W hl
  subst hl
  cases hq : P.info? e with
  | none => simp [hq] at hsz
  | some i =>
    have hs : i.size = s := by simpa [hq] using hsz
    by_cases hck : c = lo
    · simp [Instr.sliceAt, Instr.slice, Instr.sliceBounds, Instr.sliceBound, asIntOf, Sem.run_bind, run_underlying hu W, Result.andThen, sizeOf, typeInfo, hq, hck, h2]
    · simp [Instr.sliceAt, Instr.slice, Instr.sliceBounds, Instr.sliceBound, asIntOf, Sem.run_bind, run_underlying hu W, Result.andThen, sizeOf, typeInfo, hq, hs, Addr.add_mid, hck, h2]
/-- 'b[lo:hi]', hi as far as the capacity goes. -/
theorem rows_mid_run (t e s : Nat) (hu : P.underlying t = some (.slice e)) (hsz : (P.info? e).map (·.size) = some s) (sb so M c lo hi : Nat) (h1 : lo ≤ hi) (h2 : hi ≤ c) (h3 : lo < c) :
    ∀ (l h : Int) (kd kd' : IntKind) (W : World), l = (lo : Int) → h = (hi : Int) → (Instr.sliceAt t (.slice (some ⟨sb, so, none⟩) M c) (some (.int kd l)) (some (.int kd' h)) none).run P W = .ok (.slice (some ⟨sb, so + lo * s, none⟩) (hi - lo) (c - lo)) W := by
  intro l h kd kd' W hl hh
  subst hl hh
  cases hq : P.info? e with
  | none => simp [hq] at hsz
  | some i =>
    have hs : i.size = s := by simpa [hq] using hsz
    simp [Instr.sliceAt, Instr.slice, Instr.sliceBounds, Instr.sliceBound, asIntOf, Sem.run_bind, run_underlying hu W, Result.andThen, sizeOf, typeInfo, hq, hs, Addr.add_mid, show ¬ c = lo by omega, h1, h2]
end
end Go.Proofs.YtebchoeeohmlaaaDoor.Aid
