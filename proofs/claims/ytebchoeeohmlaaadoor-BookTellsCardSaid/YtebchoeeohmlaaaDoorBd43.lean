/-
  A keep in memory: its journal and its book. What a keep's opened, Book and replay do. What Open of a keep does. What Do of a keep does. What Pack of a keep does. The program's own store and keeps, as the laws of layer 15 want them.
-/
import Derived.Test.YtebchoeeohmlaaaDoorBd27
import Derived.Test.YtebchoeeohmlaaaDoorBd26
import Derived.Test.YtebchoeeohmlaaaDoorBd36
import Derived.Test.YtebchoeeohmlaaaDoorBd41
import Derived.Test.YtebchoeeohmlaaaDoorBd10
import Derived.Test.YtebchoeeohmlaaaDoorBd06
namespace Go.Proofs.YtebchoeeohmlaaaDoor.Book
open Go Go.RowKit Go.Proofs.YtebchoeeohmlaaaDoor.Aid Go.Proofs.YtebchoeeohmlaaaDoor.Cache Go.Proofs.YtebchoeeohmlaaaDoor.Store Go.Proofs.YtebchoeeohmlaaaDoor.Jour
open Go.Proofs.YtebchoeeohmlaaaDoor.Sha (Consts)

def En (x : OpB) : By := (List.range (encNO x)).map (encEO x)
theorem en_len (x : OpB) : (En x).length = encNO x := by unfold En; simp
theorem en_fn (x : OpB) (j : Nat) (h : j < encNO x) : fnL (En x) j = encEO x j := by
  unfold fnL En
  rw [List.getD_eq_getElem?_getD, List.getElem?_map, List.getElem?_range h]
  rfl
theorem en_small {x : OpB} (h : rightB x = true) : (En x).length ≤ 100 := by
  rw [en_len, encNO_eq]
  have := right_size h
  omega
theorem en_read {x : OpB} (h : rightB x = true) (hk : x.key.length = 16) : ReadSpec (fnL (En x)) (En x).length x 0 :=
  .inl ⟨rfl, h, hk, en_len x, fun j hj => en_fn x j (by rwa [en_len] at hj)⟩
/-- The operation that bytes are. -/
noncomputable def readB (r : By) : Option OpB := by
  classical
  exact if h : ∃ x c, ReadSpec (fnL r) r.length x c ∧ c = 0 then some h.choose else none
theorem readB_ok {r : By} {x : OpB} (h : ReadSpec (fnL r) r.length x 0) : readB r = some x := by
  unfold readB
  have he : ∃ x c, ReadSpec (fnL r) r.length x c ∧ c = 0 := ⟨x, 0, h, rfl⟩
  rw [dif_pos he]
  obtain ⟨c, h1, _⟩ := he.choose_spec
  exact congrArg some (read_unique h1 h).1
theorem readB_no {r : By} {x : OpB} {c : Int} (h : ReadSpec (fnL r) r.length x c) (hc : c ≠ 0) : readB r = none := by
  unfold readB
  rw [dif_neg]
  intro ⟨y, d, h1, h2⟩
  exact hc ((read_unique h h1).2.trans h2)
/-- The operations of records, none with an error, and their book. -/
noncomputable def replayL : Bk → List By → Option (List OpB × Bk)
  | b, [] => some ([], b)
  | b, r :: l => match readB r with
    | none => none
    | some x => if applyC b x = 0 then (replayL (applyB b x) l).map fun p => (x :: p.1, p.2) else none
theorem replay_snoc (r : By) : ∀ (l : List By) (b c : Bk) (X : List OpB), replayL b l = some (X, c) → replayL b (l ++ [r]) = (match readB r with
    | none => none
    | some x => if applyC c x = 0 then some (X ++ [x], applyB c x) else none)
  | [], b, c, X, h => by
    simp only [replayL, Option.some.injEq, Prod.mk.injEq] at h
    obtain ⟨rfl, rfl⟩ := h
    show replayL b [r] = _
    unfold replayL
    cases readB r with
    | none => rfl
    | some x =>
      simp only []
      split
      · rfl
      · rfl
  | q :: l, b, c, X, h => by
    rw [List.cons_append]
    unfold replayL at h ⊢
    cases hq : readB q with
    | none => rw [hq] at h; cases h
    | some y =>
      rw [hq] at h
      simp only [] at h ⊢
      by_cases hc : applyC b y = 0
      · rw [if_pos hc] at h ⊢
        obtain ⟨⟨Y, d⟩, h1, h2⟩ := Option.map_eq_some_iff.1 h
        simp only [Prod.mk.injEq] at h2
        obtain ⟨rfl, rfl⟩ := h2
        rw [replay_snoc r l _ _ _ h1]
        cases readB r with
        | none => rfl
        | some x =>
          simp only []
          split
          · rfl
          · rfl
      · rw [if_neg hc] at h; cases h
theorem replay_none {l : List By} (r : List By) : ∀ {b : Bk}, replayL b l = none → replayL b (l ++ r) = none := by
  induction l with
  | nil => intro b h; cases h
  | cons q l ih =>
    intro b h
    rw [List.cons_append]
    unfold replayL at h ⊢
    cases hq : readB q with
    | none => rfl
    | some y =>
      rw [hq] at h
      simp only [] at h ⊢
      by_cases hc : applyC b y = 0
      · rw [if_pos hc] at h ⊢
        have := Option.map_eq_none_iff.1 h
        rw [ih this]
        rfl
      · rw [if_neg hc]
theorem replay_run : ∀ {R : List OpB} {b c : Bk}, (∀ x ∈ R, x.key.length = 16) → runB b R = some c → replayL b (R.map En) = some (R, c)
  | [], b, c, _, h => by
    simp only [runB, Option.some.injEq] at h
    subst h
    rfl
  | x :: R, b, c, hk, h => by
    unfold runB at h
    by_cases hc : applyC b x = 0
    · rw [if_pos hc] at h
      rw [List.map_cons]
      unfold replayL
      rw [readB_ok (en_read (apply_right hc) (hk x (List.mem_cons_self ..)))]
      simp only []
      rw [if_pos hc, replay_run (fun y hy => hk y (List.mem_cons_of_mem _ hy)) h]
      rfl
    · rw [if_neg hc] at h; cases h
structure KeepAt (W : World) (FJ : Nat → Prop) (gk : Nat) (jv s : Value) (L : List By) (b : Bk) (Lv Rv : Value) (f : Nat → Value) : Prop where
  jour : RepJO W FJ jv s L
  bk : BkPtr W gk 1 106 20 0 b Lv Rv f
  f0 : f 0 = jv
  reach : Reach b
  disj : ∀ x, FJ x → ¬ BkFp gk Lv Rv x
section
variable {W W' : World} {FJ : Nat → Prop} {gk : Nat} {jv s : Value} {L : List By} {b : Bk} {Lv Rv : Value} {f : Nat → Value}
theorem repJO_lt (h : RepJO W FJ jv s L) : ∀ x, FJ x → x < W.heap.size := by
  obtain ⟨g, V, rfl, h⟩ := h
  exact h.lt
theorem repJO_keep (h : RepJO W FJ jv s L) (hk : ∀ x, FJ x → W'.heap[x]? = W.heap[x]?) : RepJO W' FJ jv s L := by
  obtain ⟨g, V, rfl, h⟩ := h
  exact ⟨g, V, rfl, h.kept hk⟩
theorem bkfp_lt (h : BkPtr W gk 1 106 20 0 b Lv Rv f) : ∀ x, BkFp gk Lv Rv x → x < W.heap.size := fun x hx => by
  rcases hx with rfl | hx
  · exact h.lt
  · exact (h.own.lt x hx).2
theorem KeepAt.kept (h : KeepAt W FJ gk jv s L b Lv Rv f) (hk : ∀ x, (FJ x ∨ BkFp gk Lv Rv x) → W'.heap[x]? = W.heap[x]?) : KeepAt W' FJ gk jv s L b Lv Rv f := by
  refine ⟨repJO_keep h.jour (fun x hx => hk x (.inl hx)), ⟨h.bk.row.of_block (hk gk (.inr (.inl rfl))), h.bk.room, h.bk.at_, h.bk.own.keep (fun x hx => hk x (.inr (.inr hx))), Nat.zero_le _, h.bk.apart⟩, h.f0, h.reach, h.disj⟩
theorem KeepAt.below (h : KeepAt W FJ gk jv s L b Lv Rv f) (hb : Below W.heap.size W W') : KeepAt W' FJ gk jv s L b Lv Rv f :=
  h.kept (fun x hx => hb.block x (hx.elim (repJO_lt h.jour x) (bkfp_lt h.bk x)))
theorem KeepAt.cj (h : KeepAt W FJ gk jv s L b Lv Rv f) : W.cell? ⟨gk, 0, none⟩ = some jv := by
  rw [h.bk.row.cell (i := 0) (by omega), h.f0]
end
end Go.Proofs.YtebchoeeohmlaaaDoor.Book
namespace Go.Proofs.YtebchoeeohmlaaaDoor.Book
open Go Go.RowKit Go.Proofs.YtebchoeeohmlaaaDoor.Aid Go.Proofs.YtebchoeeohmlaaaDoor.Cache Go.Proofs.YtebchoeeohmlaaaDoor.Store Go.Proofs.YtebchoeeohmlaaaDoor.Jour
open Go.Proofs.YtebchoeeohmlaaaDoor.Sha (Consts)

theorem opened_any {w : World} {gk : Nat} {a : Addr} (c0 : w.cell? ⟨gk, 0, none⟩ = some (.pointer (some a))) :
    Calls Tryd.prog 54 #[.pointer (some ⟨gk, 0, none⟩)] w fun y w' => y = .returned (.bool true) ∧ w = w' := by
  go_enter Tryd.func54, Tryd.ntmps54
  go_wp2
  go_ret
  exact ⟨rfl, rfl⟩
set_option maxRecDepth 100000 in
set_option maxHeartbeats 2000000 in
theorem kbook_any {w : World} {FJ : Nat → Prop} {gk : Nat} {jv s : Value} {L : List By} {b : Bk} {Lv Rv : Value} {f : Nat → Value} (h : KeepAt w FJ gk jv s L b Lv Rv f) :
    Calls Tryd.prog 31 #[.pointer (some ⟨gk, 0, none⟩)] w fun y w' => ∃ Lv' Rv', y = .returned (bookV b Lv' Rv') ∧ OwnBk w' w.heap.size b Lv' Rv' ∧ Below w.heap.size w w' := by
  have hb := (Below.refl w.heap.size w).alloc (Nat.le_refl _) (.cells #[.slice none 0 0, .slice none 0 0, .int .i64 0, .int .u8 0, .int .u8 0, .int .u8 0, .int .u8 0, .int .u8 0, .int .u8 0, .int .u8 0, .int .u8 0, .int .u8 0, .int .u8 0, .int .u8 0, .int .u8 0, .int .u8 0, .int .u8 0, .int .u8 0, .int .u8 0] 38)
  have HZ := Lib.hid (row_new w _ 38 19 (bookF bk0 (.slice none 0 0) (.slice none 0 0)) (by rfl) (zero19 _ rfl))
  have HK := Lib.hid (h.below hb)
  have HB := Lib.hid hb
  have HSZ : Hid (w.heap.size + 1 ≤ (w.alloc (.cells #[.slice none 0 0, .slice none 0 0, .int .i64 0, .int .u8 0, .int .u8 0, .int .u8 0, .int .u8 0, .int .u8 0, .int .u8 0, .int .u8 0, .int .u8 0, .int .u8 0, .int .u8 0, .int .u8 0, .int .u8 0, .int .u8 0, .int .u8 0, .int .u8 0, .int .u8 0] 38)).heap.size) := Lib.hid (by simp)
  clear hb h
  go_enter Tryd.func31, Tryd.ntmps31
  go_upto_region 1 with fail
  generalize w.alloc (.cells #[.slice none 0 0, .slice none 0 0, .int .i64 0, .int .u8 0, .int .u8 0, .int .u8 0, .int .u8 0, .int .u8 0, .int .u8 0, .int .u8 0, .int .u8 0, .int .u8 0, .int .u8 0, .int .u8 0, .int .u8 0, .int .u8 0, .int .u8 0, .int .u8 0, .int .u8 0] 38) = w1 at *
  have HCO := Lib.hid (copyOf_any (w := w1) b Lv Rv HK.out.bk.own.ents HK.out.bk.own.revs (by have := HK.out.reach.most; omega) (by have := HK.out.reach.revs; omega) (fun g hg => HK.out.bk.own.apart (.inr hg)))
  unfold bookV at HCO
  go_wp2_with first
    | (refine load_as (by rfl) 38 (.tmp 8) (by rfl) gk 1 _ 20 19 f _ HK.out.bk.cells HK.out.bk.row (by rfl) _ Tryd.underlying38 (by rfl) (by kernel_rfl) (by omega) ?_)
    | fail
  refine HCO.out.mono ?_
  rintro _ w2 ⟨L2, R2, rfl, ho2, hb2⟩
  have HO2 := Lib.hid ho2
  have HZ2 := Lib.hid (HZ.out.of_block (hb2.block _ (World.rowIs.lt HZ.out)))
  have HB2 := Lib.hid (HB.out.trans (hb2.mono HB.out.size))
  have H2L := Lib.hid (own_one ho2.eL)
  have H2R := Lib.hid (own_one ho2.eR)
  clear ho2 hb2 HCO HZ HB HK
  go_wp2_with (refine store_whole (by rfl) 38 (.tmp 2) (.tmp 10) (by rfl) w.heap.size _ 19 _ (bookF b L2 R2) HZ2.out (by rfl) _ (by rfl) (by kernel_rfl) (size_cellsOf _ _) (cellsOf_at _ _) (fun i _ => bookF_one H2L.out H2R.out i) ?_; intro w3 hr3 ho3)
  refine bodyPost_ret (results_row rfl _ w.heap.size _ 19 _ _ rfl hr3 Tryd.underlying38 (by rfl) (by kernel_rfl)) rfl ?_
  have hk3 := HO2.out.keep (W' := w3) (fun k hk => ho3.block k (by have := HO2.out.lt k hk; have := HSZ.out; omega))
  exact ⟨L2, R2, rfl, ⟨hk3.eL.base_ (by have := HSZ.out; omega), hk3.eR.base_ (by have := HSZ.out; omega)⟩, ho3.below HB2.out (Nat.le_refl _)⟩
/-- What replay of a record leaves and answers. -/
def ReplayPost (w : World) (gk base : Nat) (E : Nat → BitVec 8) (n : Nat) (b : Bk) (Lv Rv : Value) (f : Nat → Value) (y : Ending) (w' : World) : Prop :=
  ∃ x c, ReadSpec E n x c ∧ ((c ≠ 0 ∧ y = .returned (.int .i64 c) ∧ Turned w w' gk 1 106 20 base b Lv Rv f) ∨ (c = 0 ∧ y = .returned (.int .i64 (applyC b x)) ∧ Turned w w' gk 1 106 20 base (applyB b x) Lv Rv f))
set_option maxRecDepth 100000 in
set_option maxHeartbeats 2000000 in
theorem replay_any {w : World} {gk base : Nat} {b : Bk} {Lv Rv : Value} {f : Nat → Value} (h : BkPtr w gk 1 106 20 base b Lv Rv f) (hr : Reach b) (E : Nat → BitVec 8) (n : Nat) (A : Option Addr) (cp : Nat) (hn : n ≤ 100000) (hs : SliceOf w w.heap.size n E (.slice A n cp)) :
    Calls Tryd.prog 53 #[.pointer (some ⟨gk, 0, none⟩), .slice A n cp] w (ReplayPost w gk base E n b Lv Rv f) := by
  have HRD := Lib.hid (read_any15 A cp n E w hn hs)
  have HP := Lib.hid h
  have HRE := Lib.hid hr
  clear h hr hs
  unfold ReplayPost
  go_enter Tryd.func53, Tryd.ntmps53
  go_wp2_with fail
  refine HRD.out.mono ?_
  rintro _ w1 ⟨x, c, rfl, hsp, hb1⟩
  have HSP := Lib.hid hsp
  have HB1 := Lib.hid hb1
  have HP1 := Lib.hid (HP.out.below hb1)
  clear hsp hb1 HRD
  unfold opV
  have hz := row_new w1 #[.int .i64 0, .string ⟨#[]⟩, .int .u8 0, .int .u8 0, .int .u8 0, .int .u8 0, .int .u8 0, .int .u8 0, .int .u8 0, .int .u8 0, .int .u8 0, .int .u8 0, .int .u8 0, .int .u8 0, .int .u8 0, .int .u8 0, .int .u8 0, .int .u8 0, .int .i64 0] 28 19 _ rfl (zero_op _ rfl)
  have hb2 : Below w1.heap.size w1 (w1.alloc (.cells #[.int .i64 0, .string ⟨#[]⟩, .int .u8 0, .int .u8 0, .int .u8 0, .int .u8 0, .int .u8 0, .int .u8 0, .int .u8 0, .int .u8 0, .int .u8 0, .int .u8 0, .int .u8 0, .int .u8 0, .int .u8 0, .int .u8 0, .int .u8 0, .int .u8 0, .int .i64 0] 28)) := (Below.refl _ _).alloc (Nat.le_refl _) _
  have HZ := Lib.hid hz
  have HB2 := Lib.hid hb2
  clear hz hb2
  go_upto_region 2 with (refine store_whole (by rfl) 28 (.tmp 5) (.tmp 10) (by rfl) w1.heap.size _ 19 _ (opF x) HZ.out (by rfl) _ (by rfl) (by kernel_rfl) (size_cellsOf _ _) (cellsOf_at _ _) (fun i _ => op_one x i) ?_; intro w3 hr3 ho3)
  have HX3 := Lib.hid hr3
  have hb3 : Below w1.heap.size w1 w3 := ho3.below HB2.out (Nat.le_refl _)
  have HP3 := Lib.hid (HP1.out.below hb3)
  have HB3 := Lib.hid (HB1.out.trans (hb3.mono HB1.out.size))
  clear hr3 ho3 hb3 HP1 HB1 HZ HB2
  generalize w1.heap.size = gx at *
  by_cases hc : c = 0
  rotate_left
  · have qc : (c == 0) = false := by simpa using hc
    have HC := Lib.hid hc
    clear hc
    go_wp2
    go_ret
    exact ⟨x, c, HSP.out, .inl ⟨HC.out, rfl, HP.out.same HB3.out⟩⟩
  · subst hc
    have HXX : Hid (rightB x = true ∧ x.key.length = 16) := Lib.hid (by
      rcases HSP.out with ⟨_, h1, h2, _⟩ | ⟨h0, _⟩
      · exact ⟨h1, h2⟩
      · exact absurd h0 (by decide))
    go_upto_region 4 with fail
    refine region_mix (fun W => W.rowIs gx 28 19 (opF x)) [(0, true), (1, true), (2, true), (3, true), (4, false), (5, true)] (by kernel_rfl) (by kernel_rfl) HX3.out ?_
    refine m_val rfl (by rfl) (.pointer (some ⟨gk, 0, none⟩)) (fun W hW => by clear hW; go_simp) ?_
    simp only [Act.put, List.setIfInBounds_toArray, List.set_cons_zero, List.set_cons_succ]
    refine m_val rfl (by rfl) (.pointer (some ⟨gk, 0, none⟩)) (fun W hW => by clear hW; go_simp) ?_
    simp only [Act.put, List.setIfInBounds_toArray, List.set_cons_zero, List.set_cons_succ]
    refine m_val rfl (by rfl) (.pointer (some ⟨gk, 1, none⟩)) (fun W hW => by clear hW; go_simp) ?_
    simp only [Act.put, List.setIfInBounds_toArray, List.set_cons_zero, List.set_cons_succ]
    refine m_range rfl (by rfl) 28 (.tmp 5) (by rfl) gx 0 19 (opF x) (fun W hW => range_row hW) (by rfl) _ Tryd.underlying28 (by rfl) (by kernel_rfl) ?_
    simp only [Act.put, List.setIfInBounds_toArray, List.set_cons_zero, List.set_cons_succ]
    have HP4 := Lib.hid (HP3.out.below ⟨rfl, rfl, rfl, Nat.le_refl _, fun _ _ => rfl⟩ (W' := w3.drew))
    have HB4 : Hid (Below w.heap.size w w3.drew) := Lib.hid (HB3.out.trans ⟨rfl, rfl, rfl, Nat.le_refl _, fun _ _ => rfl⟩)
    have HX4 : Hid (w3.drew.rowIs gx 28 19 (opF x)) := Lib.hid HX3.out
    clear HP3 HB3 HX3
    generalize w3.drew = w4 at *
    have HCH := Lib.hid (change_any HP4.out HRE.out x HXX.out.1 HXX.out.2)
    unfold opV at HCH
    refine m_go rfl ?_
    go_wp2_with fail
    refine HCH.out.mono ?_
    rintro _ w5 ⟨rfl, hT⟩
    have HT := Lib.hid hT
    have HX5 : Hid (w5.rowIs gx 28 19 (opF x)) := Lib.hid (by
      obtain ⟨_, _, _, _, _, hl, _⟩ := hT
      refine HX4.out.of_block (hl.block gx (World.rowIs.lt HX4.out) (fun hk => ?_))
      rcases hk with e | e
      · subst e
        have h1 := row_heap HX4.out
        rw [row_heap HP4.out.row] at h1
        simp only [Option.some.injEq, Obj.cells.injEq] at h1
        exact absurd h1.2.1 (by decide)
      · rcases e with e | e
        · exact own_ne_row HP4.out.own.eL HX4.out (by decide) e
        · exact own_ne_row HP4.out.own.eR HX4.out (by decide) e)
    clear hT HCH
    go_wp2_with fail
    refine m_on HX5.out ?_
    refine m_val rfl (by rfl) (.int .i64 (applyC b x)) (fun W hW => by clear hW; go_simp) ?_
    simp only [Act.put, List.setIfInBounds_toArray, List.set_cons_zero, List.set_cons_succ]
    refine m_end ?_
    go_wp2
    go_ret
    exact ⟨x, 0, HSP.out, .inr ⟨rfl, rfl, HT.out.drew HB4.out⟩⟩
end Go.Proofs.YtebchoeeohmlaaaDoor.Book
namespace Go.Proofs.YtebchoeeohmlaaaDoor.Book
open Go Go.RowKit Go.Proofs.YtebchoeeohmlaaaDoor.Aid Go.Proofs.YtebchoeeohmlaaaDoor.Cache Go.Proofs.YtebchoeeohmlaaaDoor.Store Go.Proofs.YtebchoeeohmlaaaDoor.Jour
open Go.Proofs.YtebchoeeohmlaaaDoor.Sha (Consts)

def keepF (jv : Value) (b : Bk) (Lv Rv : Value) (j : Nat) : Value := if j = 0 then jv else bookF b Lv Rv (j - 1)
theorem zeroK (jv : Value) : ∀ i, i < 20 → (#[jv, .slice none 0 0, .slice none 0 0, .int .i64 0, .int .u8 0, .int .u8 0, .int .u8 0, .int .u8 0, .int .u8 0, .int .u8 0, .int .u8 0, .int .u8 0, .int .u8 0, .int .u8 0, .int .u8 0, .int .u8 0, .int .u8 0, .int .u8 0, .int .u8 0, .int .u8 0] : Array Value)[i]? = some (keepF jv bk0 (.slice none 0 0) (.slice none 0 0) i) := fun i hi => by
  match i, hi with
  | 0, _ => rfl
  | 1, _ => rfl
  | 2, _ => rfl
  | 3, _ => rfl
  | 4, _ => rfl
  | 5, _ => rfl
  | 6, _ => rfl
  | 7, _ => rfl
  | 8, _ => rfl
  | 9, _ => rfl
  | 10, _ => rfl
  | 11, _ => rfl
  | 12, _ => rfl
  | 13, _ => rfl
  | 14, _ => rfl
  | 15, _ => rfl
  | 16, _ => rfl
  | 17, _ => rfl
  | 18, _ => rfl
  | 19, _ => rfl
  | _ + 20, hi => exact absurd hi (by omega)
/-- What the loop leaves of store and journal. -/
theorem open_tail {w w1 w3 w5 : World} {F F' : Nat → Prop} {gk m : Nat} {v : Value} {st : St} (hl : Cache.Leaves F w w1) (hr : RepOwn w1 F' v m st) (hfl : ∀ x, F' x → x < gk) (hw : w.heap.size ≤ gk) (hb3 : Below gk w1 w3) (hk3 : gk < w3.heap.size) (hlv : Cache.Leaves (fun x => x = gk) w3 w5) :
    RepOwn w5 F' v m st ∧ Cache.Leaves F w w5 ∧ Below gk w1 w5 := by
  have hB : Below gk w1 w5 := hb3.trans (hlv.below (by omega) (fun k hk => by omega))
  refine ⟨rep_keep hr (fun b hb => hB.block b (hfl b hb)), hl.trans (F' := fun x => gk ≤ x) ⟨hB.os, hB.tape, hB.output, hB.size, fun k _ hk => hB.block k (by omega)⟩ (fun x hx hlt => by omega), hB⟩
theorem loop_leaves {w3 wr w5 : World} {gk base : Nat} {b : Bk} {Lv Rv : Value} {f : Nat → Value} (h : BkPtr wr gk 1 106 20 w3.heap.size b Lv Rv f) (hlv : Cache.Leaves (fun x => x = gk) w3 wr) {b' : Bk} (hT : Turned wr w5 gk 1 106 20 base b' Lv Rv f) : Cache.Leaves (fun x => x = gk) w3 w5 := by
  obtain ⟨_, _, _, _, _, hl, _⟩ := hT
  refine hlv.trans hl (fun x hx hlt => ?_)
  rcases hx with e | e
  · exact e
  · have := (h.own.lt x e).1
    omega
/-- What Open leaves and answers. -/
def OpenKPost (w : World) (F : Nat → Prop) (v : Value) (m : Nat) (st : St) (y : Ending) (w' : World) : Prop :=
  (scan Dg (bytesL st) = none ∧ y = .returned (.tuple #[.pointer none, .int .i64 9]) ∧ RepOwn w' F v m st ∧ Cache.Leaves F w w') ∨
  ∃ L t F', scan Dg (bytesL st) = some (L, t) ∧ RepOwn w' F' v m (openS m st t) ∧ Cache.Leaves F w w' ∧ (∀ b, F' b → F b ∨ w.heap.size ≤ b) ∧
    ((openC m st t ≠ 0 ∧ y = .returned (.tuple #[.pointer none, .int .i64 (openC m st t)])) ∨
     (openC m st t = 0 ∧ replayL bk0 L = none ∧ y = .returned (.tuple #[.pointer none, .int .i64 9])) ∨
     (openC m st t = 0 ∧ ∃ X b gk FJ jv Lv Rv f, replayL bk0 L = some (X, b) ∧ y = .returned (.tuple #[.pointer (some ⟨gk, 0, none⟩), .int .i64 0]) ∧ KeepAt w' FJ gk jv v L b Lv Rv f ∧ (∀ x, FJ x ∨ BkFp gk Lv Rv x → ¬ F' x) ∧ ∀ x, FJ x ∨ BkFp gk Lv Rv x → w.heap.size ≤ x))
theorem kopen_nil (w : World) : Calls Tryd.prog 26 #[.pointer none] w fun x w' => x = .returned (.tuple #[.pointer none, .int .i64 1]) ∧ Below w.heap.size w w' := by
  have HJ := Lib.hid (jopen_nil w)
  go_enter Tryd.func26, Tryd.ntmps26
  go_wp2_with fail
  refine HJ.out.mono ?_
  rintro _ w1 ⟨rfl, hb⟩
  have HB := Lib.hid hb
  clear hb HJ
  go_wp2
  go_ret2
  exact ⟨rfl, HB.out⟩
set_option maxRecDepth 100000 in
set_option maxHeartbeats 4000000 in
theorem kopen {w : World} (hk : Consts w) {F : Nat → Prop} {v : Value} {m : Nat} {st : St} (h : RepOwn w F v m st) (hn : st.n ≤ 1000000) :
    Calls Tryd.prog 26 #[v] w (OpenKPost w F v m st) := by
  have HJ := Lib.hid (jopen hk h)
  have HST := Lib.hid hn
  have hp := rep_ptr h
  obtain ⟨p0, rfl⟩ := hp
  clear h hk hn
  unfold OpenKPost
  go_enter Tryd.func26, Tryd.ntmps26
  go_wp2_with fail
  refine HJ.out.mono ?_
  rintro _ w1 hpost
  rcases hpost with ⟨hs, rfl, hr, hl⟩ | ⟨L, t, F', hs, hr, hl, hF', hsz, hcase⟩
  · have HS := Lib.hid hs
    have HR := Lib.hid hr
    have HL := Lib.hid hl
    clear hs hr hl HJ
    go_wp2
    go_ret2
    exact .inl ⟨HS.out, rfl, HR.out, HL.out⟩
  · have HS := Lib.hid hs
    have HR := Lib.hid hr
    have HL := Lib.hid hl
    have HF := Lib.hid hF'
    have HLS := Lib.hid hsz
    rcases hcase with ⟨hc, rfl⟩ | ⟨hc, p, FJ, rfl, hj, hd, hge⟩
    · have qc : (openC m st t == 0) = false := by simpa using hc
      have HC := Lib.hid hc
      clear hs hr hl hF' hsz hc HJ
      generalize hoc : openC m st t = oc at *
      have HOC := Lib.hid hoc
      clear hoc
      go_wp2
      go_ret2
      exact .inr ⟨L, t, F', HS.out, HR.out, HL.out, HF.out, .inl ⟨by rw [HOC.out]; exact HC.out, by rw [HOC.out]; rfl⟩⟩
    · have HC := Lib.hid hc
      have HJO := Lib.hid hj
      have HD := Lib.hid hd
      have HGE := Lib.hid hge
      obtain ⟨jv, hjv⟩ : ∃ jv, jv = Value.pointer (some p) := ⟨_, rfl⟩
      have HJV := Lib.hid hjv
      have hal : Below w1.heap.size w1 (w1.alloc (.cells #[.pointer (some p), .slice none 0 0, .slice none 0 0, .int .i64 0, .int .u8 0, .int .u8 0, .int .u8 0, .int .u8 0, .int .u8 0, .int .u8 0, .int .u8 0, .int .u8 0, .int .u8 0, .int .u8 0, .int .u8 0, .int .u8 0, .int .u8 0, .int .u8 0, .int .u8 0, .int .u8 0] 106)) := (Below.refl _ _).alloc (Nat.le_refl _) _
      have HROW := Lib.hid (row_new w1 #[.pointer (some p), .slice none 0 0, .slice none 0 0, .int .i64 0, .int .u8 0, .int .u8 0, .int .u8 0, .int .u8 0, .int .u8 0, .int .u8 0, .int .u8 0, .int .u8 0, .int .u8 0, .int .u8 0, .int .u8 0, .int .u8 0, .int .u8 0, .int .u8 0, .int .u8 0, .int .u8 0] 106 20 _ rfl (zeroK (.pointer (some p))))
      have HB2 := Lib.hid hal
      have HJ2 := Lib.hid (repJO_keep hj (fun x hx => hal.block x (repJO_lt hj x hx)))
      clear hs hr hl hF' hsz hc hj hd hge hal HJ hjv
      go_upto_region 5 with fail
      generalize w1.alloc (.cells #[.pointer (some p), .slice none 0 0, .slice none 0 0, .int .i64 0, .int .u8 0, .int .u8 0, .int .u8 0, .int .u8 0, .int .u8 0, .int .u8 0, .int .u8 0, .int .u8 0, .int .u8 0, .int .u8 0, .int .u8 0, .int .u8 0, .int .u8 0, .int .u8 0, .int .u8 0, .int .u8 0] 106) = w2 at *
      have HRD : Hid (∃ g V, p = ⟨g, 0, none⟩ ∧ OwnJ w2 FJ g (.pointer (some p0)) V L) := Lib.hid (by
        obtain ⟨g, V, he, ho⟩ := HJ2.out
        exact ⟨g, V, by simpa using he, ho⟩)
      obtain ⟨gj, V, rfl, hoj⟩ := HRD.out
      have HRC := Lib.hid (jrecs hoj (by have := HLS.out.1; have := HST.out; omega) (fun x hx => by have := HLS.out.2 x hx; omega))
      have HGK : Hid (w1.heap.size < w2.heap.size) := Lib.hid (World.rowIs.lt HROW.out)
      have HFJL : Hid (∀ x, FJ x → x < w1.heap.size) := Lib.hid (repJO_lt HJO.out)
      have HFL : Hid (∀ x, F' x → x < w1.heap.size) := Lib.hid (rep_lt HR.out)
      have HW1 : Hid (w.heap.size ≤ w1.heap.size) := Lib.hid HL.out.size
      clear hoj HJV HRD
      generalize w1.heap.size = gk at *
      have c0 := HROW.out.cell (i := 0) (by omega)
      rw [show keepF (.pointer (some ⟨gj, 0, none⟩)) bk0 (.slice none 0 0) (.slice none 0 0) 0 = .pointer (some ⟨gj, 0, none⟩) from rfl] at c0
      go_wp2_with fail
      refine HRC.out.mono ?_
      rintro _ w3 ⟨rv, rfl, hb3, hP⟩
      have HP3 : Hid (PartsP w3 (fun b => b < w3.heap.size ∧ b ≠ gk) L rv) := Lib.hid (by
        refine PartsP.less hP (fun b hlt hb => ⟨hlt, fun e => ?_⟩)
        have := HGK.out
        omega)
      have HROW3 := Lib.hid (HROW.out.of_block (hb3.block gk HGK.out))
      have HJ3 := Lib.hid (repJO_keep HJ2.out (fun x hx => hb3.block x (repJO_lt HJ2.out x hx)))
      have HB3 := Lib.hid (HB2.out.trans (hb3.mono (by have := HGK.out; omega)))
      have HGK3 : Hid (gk < w3.heap.size) := Lib.hid (World.rowIs.lt HROW3.out)
      have hsh := hP
      obtain ⟨rA, rc, rfl, -⟩ := hsh
      obtain ⟨N, hNN⟩ : ∃ N, N = L.length := ⟨_, rfl⟩
      have HNN := Lib.hid hNN
      have HNS : Hid (N ≤ 200000) := Lib.hid (by have := HLS.out.1; have := HST.out; omega)
      rw [← hNN]
      clear hb3 hP c0 HRC HROW HJ2 HB2 HGK hNN
      have HPK : Hid (BkPtr w3 gk 1 106 20 w3.heap.size bk0 (.slice none 0 0) (.slice none 0 0) (keepF (.pointer (some ⟨gj, 0, none⟩)) bk0 (.slice none 0 0) (.slice none 0 0))) := Lib.hid ⟨HROW3.out, by omega, fun j _ => by unfold keepF; rw [if_neg (by omega), Nat.add_sub_cancel_left], OwnBk.nil _ _, Nat.le_refl _, ⟨(fun e => by cases e), (fun e => by cases e)⟩⟩
      go_wp2_with fail
      go_loopw [8, 26] (fun _ i wr => ∃ k : Nat, k ≤ N ∧ i = .int .i64 (k : Int) ∧ Hid (∃ X b Lv Rv f, replayL bk0 (L.take k) = some (X, b) ∧ BkPtr wr gk 1 106 20 w3.heap.size b Lv Rv f ∧ f 0 = .pointer (some ⟨gj, 0, none⟩) ∧ Reach b) ∧ Hid (Cache.Leaves (fun x => x = gk) w3 wr)) (fun _ i _ => N - (intOf i).toNat)
      case atStart => exact ⟨0, by omega, rfl, Lib.hid ⟨[], bk0, _, _, _, rfl, HPK.out, rfl, reach0⟩, Lib.hid (Cache.Leaves.refl _ _)⟩
      case round =>
        obtain ⟨k, hk, rfl, hst, hlv⟩ := hrel
        by_cases hlt : k < N
        · obtain ⟨X, b, Lv, Rv, f, h1, h2, h3, h4⟩ := hst.out
          have HRP := Lib.hid h1
          have HBP := Lib.hid h2
          have HF0 := Lib.hid h3
          have HRE := Lib.hid h4
          have hkl : k < L.length := by have := HNN.out; omega
          have HPR : Hid (PartsP wr (fun b => b < w3.heap.size ∧ b ≠ gk) L (.slice rA L.length rc)) := Lib.hid (HP3.out.keep (fun x hlt hx => hlv.out.block x hlt hx.2))
          obtain ⟨sb, so, A', c', rfl, ca, hin⟩ := PartsP.at_ HPR.out k hkl
          have HTK : Hid (L.take (k + 1) = L.take k ++ [L[k]]) := Lib.hid (List.take_succ_eq_append_getElem hkl)
          have HSP : Hid (L = L.take (k + 1) ++ L.drop (k + 1)) := Lib.hid (List.take_append_drop _ _).symm
          have HXS : Hid (L[k].length ≤ 1000) := Lib.hid (HLS.out.2 _ (List.getElem_mem hkl))
          have HIN := Lib.hid hin.slice
          clear hin h1 h2 h3 h4 hst HPK
          generalize L[k] = r at *
          clear hkl
          have q0 : (0 : Int) ≤ (k : Int) := by omega
          have q1 : (k : Int) < (N : Int) := by omega
          have HRY := Lib.hid (replay_any HBP.out HRE.out (fnL r) r.length A' c' (by have := HXS.out; omega) HIN.out)
          go_wp2_with fail
          refine HRY.out.mono ?_
          rintro _ w5 ⟨x, c, hsp, hcase⟩
          have HSX := Lib.hid hsp
          rcases hcase with ⟨hc, rfl, hT⟩ | ⟨hc, rfl, hT⟩
          · have qc : (c == 0) = false := by simpa using hc
            have HNO : Hid (replayL bk0 L = none) := Lib.hid (by
              rw [HSP.out]
              refine replay_none _ ?_
              rw [HTK.out, replay_snoc r _ _ _ _ HRP.out, readB_no HSX.out hc])
            have HR5 := Lib.hid (open_tail HL.out HR.out HFL.out HW1.out HB3.out HGK3.out (loop_leaves HBP.out hlv.out hT))
            clear hsp hc hT
            go_wp2
            go_ret2
            exact .inr ⟨L, t, F', HS.out, HR5.out.1, HR5.out.2.1, HF.out, .inr (.inl ⟨HC.out, HNO.out, rfl⟩)⟩
          · subst hc
            have HLV5 := Lib.hid (loop_leaves HBP.out hlv.out hT)
            by_cases hac : applyC b x = 0
            · have HST : Hid (∃ X b Lv Rv f, replayL bk0 (L.take (k + 1)) = some (X, b) ∧ BkPtr w5 gk 1 106 20 w3.heap.size b Lv Rv f ∧ f 0 = .pointer (some ⟨gj, 0, none⟩) ∧ Reach b) := Lib.hid (by
                obtain ⟨Lv', Rv', f', hp', hout, -, -⟩ := hT
                refine ⟨X ++ [x], applyB b x, Lv', Rv', f', ?_, hp', (hout 0 (.inl (by omega))).trans HF0.out, reach_apply HRE.out x (read_key HSX.out)⟩
                rw [HTK.out, replay_snoc r _ _ _ _ HRP.out, readB_ok HSX.out]
                simp only []
                rw [if_pos hac])
              rw [hac]
              have hw : wrap64 ((k : Int) + 1) = (k : Int) + 1 := wrap64_id (by omega) (by have := HNS.out; omega)
              have HW := Lib.hid hw
              clear hsp hT hac hw hlv
              go_wp2
              rw [HW.out]
              exact ⟨⟨k + 1, by omega, congrArg (Value.int .i64) (by omega), HST.out, HLV5.out⟩, by show N - ((k : Int) + 1).toNat < N - (k : Int).toNat; omega⟩
            · have HNO : Hid (replayL bk0 L = none) := Lib.hid (by
                rw [HSP.out]
                refine replay_none _ ?_
                rw [HTK.out, replay_snoc r _ _ _ _ HRP.out, readB_ok HSX.out]
                simp only []
                rw [if_neg hac])
              have HR5 := Lib.hid (open_tail HL.out HR.out HFL.out HW1.out HB3.out HGK3.out HLV5.out)
              have qc : (applyC b x == 0) = false := by simpa using hac
              clear hsp hT hac hlv
              generalize applyC b x = ac at *
              go_wp2
              go_ret2
              exact .inr ⟨L, t, F', HS.out, HR5.out.1, HR5.out.2.1, HF.out, .inr (.inl ⟨HC.out, HNO.out, rfl⟩)⟩
        · obtain rfl : k = N := by omega
          have HR5 := Lib.hid (open_tail HL.out HR.out HFL.out HW1.out HB3.out HGK3.out hlv.out)
          have HFIN : Hid (∃ X b Lv Rv f, replayL bk0 L = some (X, b) ∧ BkPtr wr gk 1 106 20 w3.heap.size b Lv Rv f ∧ f 0 = .pointer (some ⟨gj, 0, none⟩) ∧ Reach b) := Lib.hid (by
            obtain ⟨X, b, Lv, Rv, f, h1, h2⟩ := hst.out
            rw [List.take_of_length_le (by have := HNN.out; omega)] at h1
            exact ⟨X, b, Lv, Rv, f, h1, h2⟩)
          have HJ5 := Lib.hid (repJO_keep HJ3.out (fun x hx => hlv.out.block x (repJO_lt HJ3.out x hx) (fun e => by have := HFJL.out x hx; omega)))
          clear hst hlv HPK
          go_wp2
          go_ret2
          obtain ⟨X, b, Lv, Rv, f, h1, h2, h3, h4⟩ := HFIN.out
          have hge : ∀ x, BkFp gk Lv Rv x → gk ≤ x := fun x hx => by
            rcases hx with e | e
            · omega
            · have := (h2.own.lt x e).1
              have := HGK3.out
              omega
          refine .inr ⟨L, t, F', HS.out, HR5.out.1, HR5.out.2.1, HF.out, .inr (.inr ⟨HC.out, X, b, gk, FJ, _, Lv, Rv, f, h1, rfl, ⟨HJ5.out, ⟨h2.row, h2.room, h2.at_, ⟨h2.own.eL.base_ (Nat.zero_le _), h2.own.eR.base_ (Nat.zero_le _)⟩, Nat.zero_le _, h2.apart⟩, h3, h4, fun x hx hb => ?_⟩, fun x hx hf => ?_, fun x hx => ?_⟩)⟩
          · have := HFJL.out x hx
            have := hge x hb
            omega
          · rcases hx with hx | hx
            · exact HD.out x hx hf
            · have := hge x hx
              have := HFL.out x hf
              omega
          · rcases hx with hx | hx
            · exact HGE.out x hx
            · have := hge x hx
              have := HW1.out
              omega
end Go.Proofs.YtebchoeeohmlaaaDoor.Book
namespace Go.Proofs.YtebchoeeohmlaaaDoor.Book
open Go Go.RowKit Go.Proofs.YtebchoeeohmlaaaDoor.Aid Go.Proofs.YtebchoeeohmlaaaDoor.Cache Go.Proofs.YtebchoeeohmlaaaDoor.Store Go.Proofs.YtebchoeeohmlaaaDoor.Jour
open Go.Proofs.YtebchoeeohmlaaaDoor.Sha (Consts)

theorem apply_ne8 (b : Bk) (x : OpB) : applyC b x ≠ 8 := by
  unfold applyC
  repeat' split
  all_goals decide
/-- What Do leaves and answers, of a keep whose journal is not broken. -/
def KDoPost (w : World) (F FJ : Nat → Prop) (gk : Nat) (jv s : Value) (m : Nat) (st : St) (L : List By) (b : Bk) (Lv Rv : Value) (x : OpB) (y : Ending) (w' : World) : Prop :=
  y = .returned (.int .i64 (doC Dg En m st b x)) ∧ ∃ F' FJ' Lv' Rv' f', RepOwn w' F' s m (doS Dg En m st b x) ∧ (doC Dg En m st b x ≠ 8 → KeepAt w' FJ' gk jv s (if doC Dg En m st b x = 0 then L ++ [En x] else L) (doB Dg En m st b x) Lv' Rv' f') ∧ (doC Dg En m st b x = 8 → KeepAt w' FJ' gk jv (.pointer none) L b Lv' Rv' f') ∧
    (∀ k, FJ' k ∨ BkFp gk Lv' Rv' k → ¬ F' k) ∧ Cache.Leaves (fun k => F k ∨ FJ k ∨ BkFp gk Lv Rv k) w w' ∧ ∀ k, F' k ∨ FJ' k ∨ BkFp gk Lv' Rv' k → (F k ∨ FJ k ∨ BkFp gk Lv Rv k) ∨ w.heap.size ≤ k
/-- Behind Apply: the book that is to be, in a block. -/
def DoRel (w1 : World) (b : Bk) (x : OpB) (p e : Value) (W : World) : Prop :=
  ∃ g L2 R2, p = .pointer (some ⟨g, 0, none⟩) ∧ e = .int .i64 (applyC b x) ∧ W.rowIs g 38 19 (bookF (applyB b x) L2 R2) ∧ OwnBk W w1.heap.size (applyB b x) L2 R2 ∧ Below w1.heap.size w1 W ∧ w1.heap.size ≤ g ∧ Book.Apart L2 R2 g
set_option maxRecDepth 100000 in
set_option maxHeartbeats 4000000 in
theorem kdo {w : World} (hco : Consts w) {F FJ : Nat → Prop} {gk m : Nat} {p : Addr} {jv : Value} {st : St} {L : List By} {b : Bk} {Lv Rv : Value} {f : Nat → Value} (hst : RepOwn w F (.pointer (some p)) m st) (h : KeepAt w FJ gk jv (.pointer (some p)) L b Lv Rv f) (hdj : ∀ k, FJ k ∨ BkFp gk Lv Rv k → ¬ F k) (hL : L.length ≤ 100000) (x : OpB) (hk : x.key.length = 16) (hs : x.name.size ≤ 9000000000000000000) :
    Calls Tryd.prog 29 #[.pointer (some ⟨gk, 0, none⟩), opV x] w (KDoPost w F FJ gk jv (.pointer (some p)) m st L b Lv Rv x) := by
  have hb := (Below.refl w.heap.size w).alloc (Nat.le_refl _) (.cells (cellsOf 19 (opF x)) 28)
  have HX := Lib.hid (row_new w (cellsOf 19 (opF x)) 28 19 (opF x) (size_cellsOf _ _) (cellsOf_at _ _))
  have HK := Lib.hid (h.below hb)
  have HB := Lib.hid hb
  have HKL := Lib.hid hk
  have HNS := Lib.hid hs
  have HS0 := Lib.hid hst
  have HK0 := Lib.hid h
  have HDJ := Lib.hid hdj
  have HLL := Lib.hid hL
  have HCO := Lib.hid hco
  clear hb h hk hs hst hdj hL hco
  unfold opV
  generalize hC : cellsOf 19 (opF x) = C at *
  have HCC := Lib.hid hC
  clear hC
  go_enter Tryd.func29, Tryd.ntmps29
  go_upto_region 1 with fail
  generalize w.alloc (.cells C 28) = w1 at *
  go_cut [5, 6] (fun p e wx => DoRel w1 b x p e wx)
  case first =>
    have HY := Lib.hid (fun (W : World) (hW : Below w1.heap.size w1 W) => range_row (HX.out.of_block (hW.block _ (World.rowIs.lt HX.out))))
    have hS : Below w1.heap.size w1 w1.drew := (Below.refl _ _).drew
    refine region_h (fun W => Below w1.heap.size w1 W) 10 (by kernel_rfl) rfl ?_
    refine f_take 0 rfl (by kernel_rfl) (by rfl) _ (fun W hW => by clear hW; go_simp; rfl) hS ?_
    simp only [Act.put, List.setIfInBounds_toArray, List.set_cons_zero, List.set_cons_succ]
    refine f_range 2 rfl (by kernel_rfl) (by rfl) 28 (.tmp 3) (by rfl) w.heap.size 0 19 (opF x) HY.out (by rfl) _ Tryd.underlying28 (by rfl) (by kernel_rfl) hS ?_
    simp only [Act.put, List.setIfInBounds_toArray, List.set_cons_zero, List.set_cons_succ]
    have BV0 := Lib.hid hS
    clear hS HY
    generalize w1.drew = V0 at *
    refine f_two 1 7 rfl rfl (by kernel_rfl) ?_ ?_
    · go_wp2_with fail
      refine (kbook_any (HK.out.below BV0.out)).mono ?_
      rintro _ V1 ⟨L1, R1, rfl, ho, hb⟩
      have BV1 : Hid (Below w1.heap.size w1 V1) := Lib.hid (BV0.out.trans (hb.mono BV0.out.size))
      have HB1 := Lib.hid (ho.book HK.out.reach)
      clear ho hb BV0
      unfold bookV
      go_wp2_with fail
      refine m_on BV1.out ?_
      refine f_two 3 7 rfl rfl (by kernel_rfl) ?_ ?_
      · have HAP := Lib.hid (apply_own b L1 R1 HB1.out x HKL.out HNS.out)
        unfold bookV opV at HAP
        go_wp2_with fail
        refine HAP.out.mono ?_
        rintro _ V2 ⟨L2, R2, rfl, ho, hb⟩
        have HO2 : Hid (OwnBk V2 w1.heap.size (applyB b x) L2 R2) := Lib.hid ⟨ho.eL.base_ BV1.out.size, ho.eR.base_ BV1.out.size⟩
        have BV2 : Hid (Below w1.heap.size w1 V2) := Lib.hid (BV1.out.trans (hb.mono BV1.out.size))
        clear ho hb HAP BV1 HB1
        go_wp2_with fail
        refine m_on BV2.out ?_
        refine f_take 4 rfl (by kernel_rfl) (by rfl) _ (fun W hW => by clear hW; go_simp; rfl) BV2.out ?_
        simp only [Act.put, List.setIfInBounds_toArray, List.set_cons_zero, List.set_cons_succ]
        refine f_take 5 rfl (by kernel_rfl) (by rfl) _ (fun W hW => by clear hW; go_simp; rfl) BV2.out ?_
        simp only [Act.put, List.setIfInBounds_toArray, List.set_cons_zero, List.set_cons_succ]
        refine f_take 6 rfl (by kernel_rfl) (by rfl) _ (fun W hW => by clear hW; go_simp; rfl) BV2.out ?_
        simp only [Act.put, List.setIfInBounds_toArray, List.set_cons_zero, List.set_cons_succ]
        refine f_go 7 rfl (by kernel_rfl) ?_
        go_wp2_with fail
        have HZ3 := Lib.hid (row_new V2 #[.slice none 0 0, .slice none 0 0, .int .i64 0, .int .u8 0, .int .u8 0, .int .u8 0, .int .u8 0, .int .u8 0, .int .u8 0, .int .u8 0, .int .u8 0, .int .u8 0, .int .u8 0, .int .u8 0, .int .u8 0, .int .u8 0, .int .u8 0, .int .u8 0, .int .u8 0] 38 19 _ rfl (zero19 _ rfl))
        have bb : Below V2.heap.size V2 (V2.alloc (.cells #[.slice none 0 0, .slice none 0 0, .int .i64 0, .int .u8 0, .int .u8 0, .int .u8 0, .int .u8 0, .int .u8 0, .int .u8 0, .int .u8 0, .int .u8 0, .int .u8 0, .int .u8 0, .int .u8 0, .int .u8 0, .int .u8 0, .int .u8 0, .int .u8 0, .int .u8 0] 38)) := (Below.refl _ _).alloc (Nat.le_refl _) _
        have BV3 : Hid (Below w1.heap.size w1 (V2.alloc (.cells #[.slice none 0 0, .slice none 0 0, .int .i64 0, .int .u8 0, .int .u8 0, .int .u8 0, .int .u8 0, .int .u8 0, .int .u8 0, .int .u8 0, .int .u8 0, .int .u8 0, .int .u8 0, .int .u8 0, .int .u8 0, .int .u8 0, .int .u8 0, .int .u8 0, .int .u8 0] 38))) := Lib.hid (BV2.out.trans (bb.mono BV2.out.size))
        have HG : Hid (w1.heap.size ≤ V2.heap.size) := Lib.hid BV2.out.size
        have HO3 := Lib.hid (HO2.out.below bb)
        refine m_on BV3.out ?_
        clear bb BV2 HO2
        generalize (V2.alloc (.cells #[.slice none 0 0, .slice none 0 0, .int .i64 0, .int .u8 0, .int .u8 0, .int .u8 0, .int .u8 0, .int .u8 0, .int .u8 0, .int .u8 0, .int .u8 0, .int .u8 0, .int .u8 0, .int .u8 0, .int .u8 0, .int .u8 0, .int .u8 0, .int .u8 0, .int .u8 0] 38)) = V3 at *
        generalize V2.heap.size = g at *
        have HNE : Hid (Apart L2 R2 g) := Lib.hid ⟨own_ne_row HO3.out.eL HZ3.out (by decide), own_ne_row HO3.out.eR HZ3.out (by decide)⟩
        have H1L := Lib.hid (own_one HO3.out.eL)
        have H1R := Lib.hid (own_one HO3.out.eR)
        refine f_go 8 rfl (by kernel_rfl) ?_
        go_wp2_with (refine store_whole (by rfl) 38 (.tmp 5) (.tmp 14) (by rfl) g _ 19 _ (bookF (applyB b x) L2 R2) HZ3.out (by rfl) _ (by rfl) (by kernel_rfl) (size_cellsOf _ _) (cellsOf_at _ _) (fun i _ => bookF_one H1L.out H1R.out i) ?_; intro V4 hr ho)
        have HRR := Lib.hid hr
        have BV4 : Hid (Below w1.heap.size w1 V4) := Lib.hid (ho.below BV3.out HG.out)
        have HOO := Lib.hid (HO3.out.keep (W' := V4) (fun k hk => ho.block k (fun e => by subst e; rcases hk with hk | hk; exact HNE.out.1 hk; exact HNE.out.2 hk)))
        clear hr ho
        refine m_on BV4.out ?_
        refine f_take 9 rfl (by kernel_rfl) (by rfl) _ (fun W hW => by clear hW; go_simp; rfl) BV4.out ?_
        simp only [Act.put, List.setIfInBounds_toArray, List.set_cons_zero, List.set_cons_succ]
        refine f_end (by kernel_rfl) ?_
        go_wp2_with fail
        go_meet
        exact ⟨g, L2, R2, rfl, rfl, HRR.out, HOO.out, BV4.out, HG.out, HNE.out⟩
      · go_wp2_with fail
        have HZ2 := Lib.hid (row_new V1 #[.slice none 0 0, .slice none 0 0, .int .i64 0, .int .u8 0, .int .u8 0, .int .u8 0, .int .u8 0, .int .u8 0, .int .u8 0, .int .u8 0, .int .u8 0, .int .u8 0, .int .u8 0, .int .u8 0, .int .u8 0, .int .u8 0, .int .u8 0, .int .u8 0, .int .u8 0] 38 19 _ rfl (zero19 _ rfl))
        have bb : Below V1.heap.size V1 (V1.alloc (.cells #[.slice none 0 0, .slice none 0 0, .int .i64 0, .int .u8 0, .int .u8 0, .int .u8 0, .int .u8 0, .int .u8 0, .int .u8 0, .int .u8 0, .int .u8 0, .int .u8 0, .int .u8 0, .int .u8 0, .int .u8 0, .int .u8 0, .int .u8 0, .int .u8 0, .int .u8 0] 38)) := (Below.refl _ _).alloc (Nat.le_refl _) _
        have BV2 : Hid (Below w1.heap.size w1 (V1.alloc (.cells #[.slice none 0 0, .slice none 0 0, .int .i64 0, .int .u8 0, .int .u8 0, .int .u8 0, .int .u8 0, .int .u8 0, .int .u8 0, .int .u8 0, .int .u8 0, .int .u8 0, .int .u8 0, .int .u8 0, .int .u8 0, .int .u8 0, .int .u8 0, .int .u8 0, .int .u8 0] 38))) := Lib.hid (BV1.out.trans (bb.mono BV1.out.size))
        have HG : Hid (w1.heap.size ≤ V1.heap.size) := Lib.hid BV1.out.size
        have HB2 := Lib.hid (HB1.out.below bb)
        refine m_on BV2.out ?_
        clear bb BV1 HB1
        generalize (V1.alloc (.cells #[.slice none 0 0, .slice none 0 0, .int .i64 0, .int .u8 0, .int .u8 0, .int .u8 0, .int .u8 0, .int .u8 0, .int .u8 0, .int .u8 0, .int .u8 0, .int .u8 0, .int .u8 0, .int .u8 0, .int .u8 0, .int .u8 0, .int .u8 0, .int .u8 0, .int .u8 0] 38)) = V2 at *
        generalize V1.heap.size = g at *
        refine f_go 3 rfl (by kernel_rfl) ?_
        have HAP := Lib.hid (apply_own b L1 R1 HB2.out x HKL.out HNS.out)
        unfold bookV opV at HAP
        go_wp2_with fail
        refine HAP.out.mono ?_
        rintro _ V3 ⟨L2, R2, rfl, ho, hb⟩
        have HO3 : Hid (OwnBk V3 w1.heap.size (applyB b x) L2 R2) := Lib.hid ⟨ho.eL.base_ BV2.out.size, ho.eR.base_ BV2.out.size⟩
        have BV3 : Hid (Below w1.heap.size w1 V3) := Lib.hid (BV2.out.trans (hb.mono BV2.out.size))
        have HZ3 := Lib.hid (HZ2.out.of_block (hb.block _ (World.rowIs.lt HZ2.out)))
        clear ho hb HAP BV2 HB2 HZ2
        go_wp2_with fail
        refine m_on BV3.out ?_
        refine f_take 4 rfl (by kernel_rfl) (by rfl) _ (fun W hW => by clear hW; go_simp; rfl) BV3.out ?_
        simp only [Act.put, List.setIfInBounds_toArray, List.set_cons_zero, List.set_cons_succ]
        refine f_take 5 rfl (by kernel_rfl) (by rfl) _ (fun W hW => by clear hW; go_simp; rfl) BV3.out ?_
        simp only [Act.put, List.setIfInBounds_toArray, List.set_cons_zero, List.set_cons_succ]
        refine f_take 6 rfl (by kernel_rfl) (by rfl) _ (fun W hW => by clear hW; go_simp; rfl) BV3.out ?_
        simp only [Act.put, List.setIfInBounds_toArray, List.set_cons_zero, List.set_cons_succ]
        have HNE : Hid (Apart L2 R2 g) := Lib.hid ⟨own_ne_row HO3.out.eL HZ3.out (by decide), own_ne_row HO3.out.eR HZ3.out (by decide)⟩
        have H1L := Lib.hid (own_one HO3.out.eL)
        have H1R := Lib.hid (own_one HO3.out.eR)
        refine f_go 8 rfl (by kernel_rfl) ?_
        go_wp2_with (refine store_whole (by rfl) 38 (.tmp 5) (.tmp 14) (by rfl) g _ 19 _ (bookF (applyB b x) L2 R2) HZ3.out (by rfl) _ (by rfl) (by kernel_rfl) (size_cellsOf _ _) (cellsOf_at _ _) (fun i _ => bookF_one H1L.out H1R.out i) ?_; intro V4 hr ho)
        have HRR := Lib.hid hr
        have BV4 : Hid (Below w1.heap.size w1 V4) := Lib.hid (ho.below BV3.out HG.out)
        have HOO := Lib.hid (HO3.out.keep (W' := V4) (fun k hk => ho.block k (fun e => by subst e; rcases hk with hk | hk; exact HNE.out.1 hk; exact HNE.out.2 hk)))
        clear hr ho
        refine m_on BV4.out ?_
        refine f_take 9 rfl (by kernel_rfl) (by rfl) _ (fun W hW => by clear hW; go_simp; rfl) BV4.out ?_
        simp only [Act.put, List.setIfInBounds_toArray, List.set_cons_zero, List.set_cons_succ]
        refine f_end (by kernel_rfl) ?_
        go_wp2_with fail
        go_meet
        exact ⟨g, L2, R2, rfl, rfl, HRR.out, HOO.out, BV4.out, HG.out, HNE.out⟩
    · go_wp2_with fail
      have HZ1 := Lib.hid (row_new V0 #[.slice none 0 0, .slice none 0 0, .int .i64 0, .int .u8 0, .int .u8 0, .int .u8 0, .int .u8 0, .int .u8 0, .int .u8 0, .int .u8 0, .int .u8 0, .int .u8 0, .int .u8 0, .int .u8 0, .int .u8 0, .int .u8 0, .int .u8 0, .int .u8 0, .int .u8 0] 38 19 _ rfl (zero19 _ rfl))
      have bb : Below V0.heap.size V0 (V0.alloc (.cells #[.slice none 0 0, .slice none 0 0, .int .i64 0, .int .u8 0, .int .u8 0, .int .u8 0, .int .u8 0, .int .u8 0, .int .u8 0, .int .u8 0, .int .u8 0, .int .u8 0, .int .u8 0, .int .u8 0, .int .u8 0, .int .u8 0, .int .u8 0, .int .u8 0, .int .u8 0] 38)) := (Below.refl _ _).alloc (Nat.le_refl _) _
      have BV1 : Hid (Below w1.heap.size w1 (V0.alloc (.cells #[.slice none 0 0, .slice none 0 0, .int .i64 0, .int .u8 0, .int .u8 0, .int .u8 0, .int .u8 0, .int .u8 0, .int .u8 0, .int .u8 0, .int .u8 0, .int .u8 0, .int .u8 0, .int .u8 0, .int .u8 0, .int .u8 0, .int .u8 0, .int .u8 0, .int .u8 0] 38))) := Lib.hid (BV0.out.trans (bb.mono BV0.out.size))
      have HG : Hid (w1.heap.size ≤ V0.heap.size) := Lib.hid BV0.out.size
      refine m_on BV1.out ?_
      clear bb BV0
      generalize (V0.alloc (.cells #[.slice none 0 0, .slice none 0 0, .int .i64 0, .int .u8 0, .int .u8 0, .int .u8 0, .int .u8 0, .int .u8 0, .int .u8 0, .int .u8 0, .int .u8 0, .int .u8 0, .int .u8 0, .int .u8 0, .int .u8 0, .int .u8 0, .int .u8 0, .int .u8 0, .int .u8 0] 38)) = V1 at *
      generalize V0.heap.size = g at *
      refine f_go 1 rfl (by kernel_rfl) ?_
      go_wp2_with fail
      refine (kbook_any (HK.out.below BV1.out)).mono ?_
      rintro _ V2 ⟨L1, R1, rfl, ho, hb⟩
      have BV2 : Hid (Below w1.heap.size w1 V2) := Lib.hid (BV1.out.trans (hb.mono BV1.out.size))
      have HB2 := Lib.hid (ho.book HK.out.reach)
      have HZ2 := Lib.hid (HZ1.out.of_block (hb.block _ (World.rowIs.lt HZ1.out)))
      clear ho hb BV1 HZ1
      unfold bookV
      go_wp2_with fail
      refine m_on BV2.out ?_
      refine f_go 3 rfl (by kernel_rfl) ?_
      have HAP := Lib.hid (apply_own b L1 R1 HB2.out x HKL.out HNS.out)
      unfold bookV opV at HAP
      go_wp2_with fail
      refine HAP.out.mono ?_
      rintro _ V3 ⟨L2, R2, rfl, ho, hb⟩
      have HO3 : Hid (OwnBk V3 w1.heap.size (applyB b x) L2 R2) := Lib.hid ⟨ho.eL.base_ BV2.out.size, ho.eR.base_ BV2.out.size⟩
      have BV3 : Hid (Below w1.heap.size w1 V3) := Lib.hid (BV2.out.trans (hb.mono BV2.out.size))
      have HZ3 := Lib.hid (HZ2.out.of_block (hb.block _ (World.rowIs.lt HZ2.out)))
      clear ho hb HAP BV2 HB2 HZ2
      go_wp2_with fail
      refine m_on BV3.out ?_
      refine f_take 4 rfl (by kernel_rfl) (by rfl) _ (fun W hW => by clear hW; go_simp; rfl) BV3.out ?_
      simp only [Act.put, List.setIfInBounds_toArray, List.set_cons_zero, List.set_cons_succ]
      refine f_take 5 rfl (by kernel_rfl) (by rfl) _ (fun W hW => by clear hW; go_simp; rfl) BV3.out ?_
      simp only [Act.put, List.setIfInBounds_toArray, List.set_cons_zero, List.set_cons_succ]
      refine f_take 6 rfl (by kernel_rfl) (by rfl) _ (fun W hW => by clear hW; go_simp; rfl) BV3.out ?_
      simp only [Act.put, List.setIfInBounds_toArray, List.set_cons_zero, List.set_cons_succ]
      have HNE : Hid (Apart L2 R2 g) := Lib.hid ⟨own_ne_row HO3.out.eL HZ3.out (by decide), own_ne_row HO3.out.eR HZ3.out (by decide)⟩
      have H1L := Lib.hid (own_one HO3.out.eL)
      have H1R := Lib.hid (own_one HO3.out.eR)
      refine f_go 8 rfl (by kernel_rfl) ?_
      go_wp2_with (refine store_whole (by rfl) 38 (.tmp 5) (.tmp 14) (by rfl) g _ 19 _ (bookF (applyB b x) L2 R2) HZ3.out (by rfl) _ (by rfl) (by kernel_rfl) (size_cellsOf _ _) (cellsOf_at _ _) (fun i _ => bookF_one H1L.out H1R.out i) ?_; intro V4 hr ho)
      have HRR := Lib.hid hr
      have BV4 : Hid (Below w1.heap.size w1 V4) := Lib.hid (ho.below BV3.out HG.out)
      have HOO := Lib.hid (HO3.out.keep (W' := V4) (fun k hk => ho.block k (fun e => by subst e; rcases hk with hk | hk; exact HNE.out.1 hk; exact HNE.out.2 hk)))
      clear hr ho
      refine m_on BV4.out ?_
      refine f_take 9 rfl (by kernel_rfl) (by rfl) _ (fun W hW => by clear hW; go_simp; rfl) BV4.out ?_
      simp only [Act.put, List.setIfInBounds_toArray, List.set_cons_zero, List.set_cons_succ]
      refine f_end (by kernel_rfl) ?_
      go_wp2_with fail
      go_meet
      exact ⟨g, L2, R2, rfl, rfl, HRR.out, HOO.out, BV4.out, HG.out, HNE.out⟩
  case rest =>
    obtain ⟨g, L2, R2, rfl, rfl, hrow, hown, hbel, hge, hap⟩ := hcut
    have HRW := Lib.hid hrow
    have HOW := Lib.hid hown
    have HBL := Lib.hid hbel
    have HGE := Lib.hid hge
    have HAP := Lib.hid hap
    have HB2 := Lib.hid (HB.out.trans (hbel.mono HB.out.size))
    have HK2 := Lib.hid (HK.out.below hbel)
    have HX2 := Lib.hid (HX.out.of_block (hbel.block _ (World.rowIs.lt HX.out)))
    have HS2 := Lib.hid (rep_keep HS0.out (fun k hk => HB2.out.block k (rep_lt HS0.out k hk)))
    clear hrow hown hbel hge hap HX
    by_cases hc : applyC b x = 0
    rotate_left
    · have qc : (applyC b x == 0) = false := by simpa using hc
      have HC : Hid (doC Dg En m st b x = applyC b x ∧ doS Dg En m st b x = st ∧ doB Dg En m st b x = b ∧ applyC b x ≠ 8 ∧ applyC b x ≠ 0) := Lib.hid (by
        obtain ⟨h1, h2, -, h4⟩ := do_err Dg En m st [] hc
        exact ⟨h1, h2, h4, apply_ne8 b x, hc⟩)
      clear hc
      generalize hac : applyC b x = ac at *
      have HAC := Lib.hid hac
      clear hac
      go_wp2
      go_ret
      unfold KDoPost
      rw [HC.out.1, HC.out.2.1, HC.out.2.2.1, if_neg HC.out.2.2.2.2]
      exact ⟨rfl, F, FJ, Lv, Rv, f, HS2.out, fun _ => HK2.out, fun h => absurd h HC.out.2.2.2.1, HDJ.out, Cache.Leaves.of_below HB2.out, fun k hk => .inl hk⟩
    · have HRX := Lib.hid (apply_right hc)
      have HC : Hid (doC Dg En m st b x = Jour.addC Dg m st (En x) ∧ doS Dg En m st b x = Jour.addS Dg m st (En x) ∧ doB Dg En m st b x = (if Jour.addC Dg m st (En x) = 0 then applyB b x else b)) := Lib.hid (by
        have h0 : doC Dg En m st b x = Jour.addC Dg m st (En x) := by unfold doC; rw [if_pos hc]
        refine ⟨h0, by unfold doS; rw [if_pos hc], ?_⟩
        unfold doB
        rw [h0])
      rw [hc]
      clear hc
      have hjp : ∃ gj, jv = .pointer (some ⟨gj, 0, none⟩) := by obtain ⟨gj, V, h, _⟩ := HK2.out.jour; exact ⟨gj, h⟩
      obtain ⟨gj, rfl⟩ := hjp
      have hcj := HK2.out.cj
      have HOP := Lib.hid (opened_any hcj)
      clear hcj
      go_wp2_with fail
      refine HOP.out.mono ?_
      rintro _ wd ⟨rfl, rfl⟩
      have HPU := Lib.hid (put_any x HKL.out HNS.out wc)
      rw [if_pos HRX.out, if_pos HRX.out] at HPU
      unfold opV at HPU
      rw [HCC.out] at HPU
      clear HOP
      go_wp2_with first
        | (refine load_as (by rfl) 28 (.tmp 3) (by rfl) w.heap.size 0 _ 19 19 _ C (by rw [cells_zero]; exact HCC.out) HX2.out (by rfl) _ Tryd.underlying28 (by rfl) (by kernel_rfl) (by omega) ?_)
        | fail
      refine HPU.out.mono ?_
      rintro _ wp ⟨v, rfl, hov, hbp⟩
      have HVB : Hid (BytesIn wp (fun k => ¬ F k ∧ ¬ FJ k) (En x).length (fnL (En x)) v) := Lib.hid (by
        rw [en_len]
        refine (own_in hov (fun j hj => (en_fn x j hj).symm)).less (fun k _ hk => ⟨fun hf => ?_, fun hf => ?_⟩)
        · have := rep_lt HS2.out k hf; omega
        · have := repJO_lt HK2.out.jour k hf; omega)
      have HBP := Lib.hid hbp
      have HB3 := Lib.hid (HB2.out.trans (hbp.mono HB2.out.size))
      have HK3 := Lib.hid (HK2.out.below hbp)
      have HS3 := Lib.hid (rep_keep HS2.out (fun k hk => hbp.block k (rep_lt HS2.out k hk)))
      have HRW3 := Lib.hid (HRW.out.of_block (hbp.block g (World.rowIs.lt HRW.out)))
      have HOW3 := Lib.hid (HOW.out.below hbp)
      have HSZ3 : Hid (wc.heap.size ≤ wp.heap.size ∧ w.heap.size ≤ w1.heap.size ∧ g < wc.heap.size) := Lib.hid ⟨hbp.size, HB.out.size, World.rowIs.lt HRW.out⟩
      obtain ⟨vA, vc, hsv, -, -⟩ := own_shape hov
      subst hsv
      clear hov hbp HPU HX2 HRW
      have HJA : Hid (∃ V, OwnJ wp FJ gj (.pointer (some p)) V L) := Lib.hid (by
        obtain ⟨g', V, he, ho⟩ := HK3.out.jour
        simp only [Value.pointer.injEq, Option.some.injEq, Addr.mk.injEq, and_true] at he
        obtain rfl := he
        exact ⟨V, ho⟩)
      obtain ⟨V, hoj⟩ := HJA.out
      have HAD := Lib.hid (jadd (HCO.out.below HB3.out (Nat.le_refl _)) HS3.out hoj (fun k hk hf => HDJ.out k (.inl hk) hf) (En x) _ HVB.out HLL.out)
      clear hoj HJA HVB
      have hcj := HK3.out.cj
      go_wp2_with fail
      refine HAD.out.mono ?_
      rintro _ w5 ⟨rfl, F', FJ', V', hs5, hj5, hb5, hd5, hl5, hf5⟩
      have HS5 := Lib.hid hs5
      have HJ5 := Lib.hid hj5
      have HJB5 := Lib.hid hb5
      have HD5 := Lib.hid hd5
      have HF5 := Lib.hid hf5
      have HL5 := Lib.hid hl5
      have HLW : Hid (Cache.Leaves (fun k => F k ∨ FJ k ∨ BkFp gk Lv Rv k) w w5) := Lib.hid ((Cache.Leaves.of_below HB3.out).trans hl5 (fun k hk _ => hk.elim .inl (fun h => .inr (.inl h))))
      have hnf : ∀ k, BkFp gk Lv Rv k → ¬ (F k ∨ FJ k) := fun k hk hf => hf.elim (fun h => HDJ.out k (.inr hk) h) (fun h => HK3.out.disj k h hk)
      have HBK5 := Lib.hid (HK3.out.bk.keep (W' := w5) (fun k hk => hl5.block k (bkfp_lt HK3.out.bk k hk) (hnf k hk)) hl5.size)
      have HDK : Hid (∀ k, FJ' k → ¬ BkFp gk Lv Rv k) := Lib.hid (fun k hk hb => by
        rcases hf5 k (.inr hk) with h | h
        · exact hnf k hb h
        · have := bkfp_lt HK3.out.bk k hb; omega)
      have HDF : Hid (∀ k, BkFp gk Lv Rv k → ¬ F' k) := Lib.hid (fun k hb hk => by
        rcases hf5 k (.inl hk) with h | h
        · exact hnf k hb h
        · have := bkfp_lt HK3.out.bk k hb; omega)
      have HFP : Hid (∀ k, F' k ∨ FJ' k ∨ BkFp gk Lv Rv k → (F k ∨ FJ k ∨ BkFp gk Lv Rv k) ∨ w.heap.size ≤ k) := Lib.hid (fun k hk => by
        have hsz := HB3.out.size
        rcases hk with hk | hk | hk
        · rcases hf5 k (.inl hk) with (h | h) | h
          · exact .inl (.inl h)
          · exact .inl (.inr (.inl h))
          · exact .inr (Nat.le_trans hsz h)
        · rcases hf5 k (.inr hk) with (h | h) | h
          · exact .inl (.inl h)
          · exact .inl (.inr (.inl h))
          · exact .inr (Nat.le_trans hsz h)
        · exact .inl (.inr (.inr hk)))
      by_cases hz : Jour.addC Dg m st (En x) = 0
      rotate_left
      · have qz : (Jour.addC Dg m st (En x) == 0) = false := by simpa using hz
        have HZ := Lib.hid hz
        have HAL : Hid (Jour.addL Dg m st L (En x) = L) := Lib.hid (by unfold Jour.addL; rw [if_neg hz])
        clear hs5 hj5 hb5 hd5 hl5 hf5 hz hcj hnf HAD
        generalize hac : Jour.addC Dg m st (En x) = ac at *
        have HAC := Lib.hid hac
        clear hac
        go_wp2
        go_ret
        unfold KDoPost
        rw [HC.out.1, HC.out.2.1, HC.out.2.2, if_neg HZ.out, if_neg HZ.out]
        refine ⟨rfl, F', FJ', Lv, Rv, f, HS5.out, fun h8 => ⟨⟨gj, V', rfl, ?_⟩, HBK5.out, HK3.out.f0, HK3.out.reach, HDK.out⟩, fun h8 => ⟨⟨gj, V', rfl, HJB5.out h8⟩, HBK5.out, HK3.out.f0, HK3.out.reach, HDK.out⟩, fun k hk => hk.elim (HD5.out k) (HDF.out k), HLW.out, HFP.out⟩
        have := HJ5.out h8
        rw [HAL.out] at this
        exact this
      · have HAL : Hid (Jour.addL Dg m st L (En x) = L ++ [En x]) := Lib.hid (by unfold Jour.addL; rw [if_pos hz])
        have HZ := Lib.hid hz
        have hng : ∀ k, w.heap.size ≤ k → k < wp.heap.size → ¬ (F k ∨ FJ k) := fun k h1 _ hf => hf.elim (fun h => by have := rep_lt HS0.out k h; omega) (fun h => by have := repJO_lt HK0.out.jour k h; omega)
        have HRW5 := Lib.hid (HRW3.out.of_block (hl5.block g (World.rowIs.lt HRW3.out) (hng g (by have := HGE.out; have := HSZ3.out.2.1; omega) (World.rowIs.lt HRW3.out))))
        have HOW5 := Lib.hid (HOW3.out.keep (W' := w5) (fun k hk => hl5.block k (HOW3.out.lt k hk).2 (hng k (by have := (HOW3.out.lt k hk).1; have := HSZ3.out.2.1; omega) (HOW3.out.lt k hk).2)))
        have H2L := Lib.hid (own_one HOW5.out.eL)
        have H2R := Lib.hid (own_one HOW5.out.eR)
        have HGK : Hid (gk < w.heap.size) := Lib.hid HK0.out.bk.lt
        rw [hz]
        clear hs5 hj5 hb5 hd5 hl5 hf5 hz hcj hnf hng HAD
        go_wp2_with first
          | (refine load_whole (by rfl) 38 (.tmp 5) (by rfl) g _ 19 _ HRW5.out (by rfl) _ Tryd.underlying38 (by rfl) (by kernel_rfl) ?_)
          | (refine store_row (by rfl) 38 (.tmp 38) (.tmp 36) (by rfl) gk 1 _ 20 19 _ (bookF (applyB b x) L2 R2) HBK5.out.row (by rfl) _ (by rfl) (by kernel_rfl) (by omega) (size_cellsOf _ _) (cellsOf_at _ _) (fun i _ => bookF_one H2L.out H2R.out i) ?_; intro w6 hr6 ho6)
        go_ret
        unfold KDoPost
        rw [HC.out.1, HC.out.2.1, HC.out.2.2, HZ.out, if_pos rfl, if_pos rfl]
        have hj6 := HJ5.out (by rw [HZ.out]; decide)
        rw [HAL.out] at hj6
        have hgF : ¬ F' gk := HDF.out gk (.inl rfl)
        have hgJ : ¬ FJ' gk := fun h => HDK.out gk h (.inl rfl)
        have hbk : ∀ k, BkFp gk L2 R2 k → k = gk ∨ (w.heap.size ≤ k ∧ k < wp.heap.size) := fun k hk => by
          rcases hk with e | e
          · exact .inl e
          · have h1 := HOW.out.lt k e
            have h2 := HSZ3.out
            exact .inr ⟨by omega, by omega⟩
        have hnew : ∀ k, F' k ∨ FJ' k → ¬ (w.heap.size ≤ k ∧ k < wp.heap.size) := fun k hk ⟨h1, h2⟩ => by
          rcases HF5.out k hk with (h | h) | h
          · have := rep_lt HS0.out k h; omega
          · have := repJO_lt HK0.out.jour k h; omega
          · omega
        refine ⟨rfl, F', FJ', L2, R2, _, rep_keep HS5.out (fun k hk => ho6.block k (fun e => hgF (e ▸ hk))), fun _ => ⟨⟨gj, V', rfl, hj6.kept (fun k hk => ho6.block k (fun e => hgJ (e ▸ hk)))⟩, ⟨hr6, by omega, fun j hj => ?_, ?_, Nat.zero_le _, ?_⟩, ?_, ?_, fun k hk hb => ?_⟩, fun h => absurd h (by decide), fun k hk hf => ?_, ?_, fun k hk => ?_⟩
        · rw [if_pos (by omega), Nat.add_sub_cancel_left]
        · have := HOW5.out.keep (W' := w6) (fun k hk => ho6.block k (fun e => by have := (HOW5.out.lt k hk).1; have := HGK.out; have := HSZ3.out.2.1; omega))
          exact ⟨this.eL.base_ (Nat.zero_le _), this.eR.base_ (Nat.zero_le _)⟩
        · exact ⟨fun e => by have := (HOW5.out.eL.lt gk e).1; have := HGK.out; have := HSZ3.out.2.1; omega, fun e => by have := (HOW5.out.eR.lt gk e).1; have := HGK.out; have := HSZ3.out.2.1; omega⟩
        · exact (if_neg (by omega)).trans HK3.out.f0
        · exact reach_apply HK3.out.reach x HKL.out
        · rcases hbk k hb with e | e
          · exact hgJ (e ▸ hk)
          · exact hnew k (.inr hk) e
        · rcases hk with hk | hk
          · exact HD5.out k hk hf
          · rcases hbk k hk with e | e
            · exact hgF (e ▸ hf)
            · exact hnew k (.inl hf) e
        · refine HLW.out.trans (F' := fun k => k = gk) ⟨ho6.os, ho6.tape, ho6.output, by rw [ho6.size]; exact Nat.le_refl _, fun k _ hk => ho6.block k hk⟩ (fun k hk _ => .inr (.inr (.inl hk)))
        · rcases hk with hk | hk | hk
          · exact HFP.out k (.inl hk)
          · exact HFP.out k (.inr (.inl hk))
          · rcases hbk k hk with e | e
            · exact .inl (.inr (.inr (.inl e)))
            · exact .inr e.1
end Go.Proofs.YtebchoeeohmlaaaDoor.Book
namespace Go.Proofs.YtebchoeeohmlaaaDoor.Book
open Go Go.RowKit Go.Proofs.YtebchoeeohmlaaaDoor.Aid Go.Proofs.YtebchoeeohmlaaaDoor.Cache Go.Proofs.YtebchoeeohmlaaaDoor.Store Go.Proofs.YtebchoeeohmlaaaDoor.Jour
open Go.Proofs.YtebchoeeohmlaaaDoor.Sha (Consts)

/-- What Pack leaves and answers, of a keep whose journal is not broken. -/
def KPackPost (w : World) (F FJ : Nat → Prop) (gk : Nat) (jv s : Value) (m : Nat) (st : St) (L : List By) (b : Bk) (Lv Rv : Value) (f : Nat → Value) (y : Ending) (w' : World) : Prop :=
  y = .returned (.int .i64 (onlyC Dg m st (packL En b))) ∧ ∃ F' FJ', RepOwn w' F' s m (onlyS Dg m st (packL En b)) ∧ (onlyC Dg m st (packL En b) ≠ 8 → KeepAt w' FJ' gk jv s (if onlyC Dg m st (packL En b) = 0 then packL En b else L) b Lv Rv f) ∧ (onlyC Dg m st (packL En b) = 8 → KeepAt w' FJ' gk jv (.pointer none) L b Lv Rv f) ∧
    (∀ k, FJ' k ∨ BkFp gk Lv Rv k → ¬ F' k) ∧ Cache.Leaves (fun k => F k ∨ FJ k ∨ BkFp gk Lv Rv k) w w' ∧ ∀ k, F' k ∨ FJ' k ∨ BkFp gk Lv Rv k → (F k ∨ FJ k ∨ BkFp gk Lv Rv k) ∨ w.heap.size ≤ k
theorem ops_right {b : Bk} (h : Reach b) : ∀ x ∈ opsB b, rightB x = true := fun x hx => by
  have hrun := ops_restore h
  have key : ∀ (l : List OpB) (c d : Bk), runB c l = some d → ∀ y ∈ l, rightB y = true := by
    intro l
    induction l with
    | nil => intro c d _ y hy; cases hy
    | cons z l ih =>
      intro c d hr y hy
      unfold runB at hr
      by_cases hc : applyC c z = 0
      · rw [if_pos hc] at hr
        rcases List.mem_cons.1 hy with rfl | hy
        · exact apply_right hc
        · exact ih _ _ hr y hy
      · rw [if_neg hc] at hr; cases hr
  exact key _ _ _ hrun x hx
set_option maxRecDepth 100000 in
set_option maxHeartbeats 4000000 in
theorem kpack {w : World} (hco : Consts w) {F FJ : Nat → Prop} {gk m : Nat} {p : Addr} {jv : Value} {st : St} {L : List By} {b : Bk} {Lv Rv : Value} {f : Nat → Value} (hst : RepOwn w F (.pointer (some p)) m st) (h : KeepAt w FJ gk jv (.pointer (some p)) L b Lv Rv f) (hdj : ∀ k, FJ k ∨ BkFp gk Lv Rv k → ¬ F k) :
    Calls Tryd.prog 28 #[.pointer (some ⟨gk, 0, none⟩)] w (KPackPost w F FJ gk jv (.pointer (some p)) m st L b Lv Rv f) := by
  have HS0 := Lib.hid hst
  have HK0 := Lib.hid h
  have HDJ := Lib.hid hdj
  have HCO := Lib.hid hco
  have hjp : ∃ gj, jv = .pointer (some ⟨gj, 0, none⟩) := by obtain ⟨gj, V, h, _⟩ := h.jour; exact ⟨gj, h⟩
  obtain ⟨gj, rfl⟩ := hjp
  have HOP := Lib.hid (opened_any h.cj)
  have HBKA : Hid (BookAt w b Lv Rv) := Lib.hid ⟨h.bk.own.ents, h.bk.own.revs, h.reach, fun g hg => h.bk.own.apart (.inr hg), fun _ _ _ hv => hv.elim (fun e => h.bk.own.eL.cap e) (fun e => h.bk.own.eR.cap e)⟩
  have HOS := Lib.hid (ops_any b Lv Rv HBKA.out)
  have HLEN : Hid ((opsB b).length ≤ 251) := Lib.hid (ops_len h.reach)
  have HRT : Hid (∀ x ∈ opsB b, rightB x = true ∧ x.key.length = 16 ∧ x.name.size ≤ 9000000000000000000) := Lib.hid (fun x hx => ⟨ops_right h.reach x hx, (ops_ok h.reach x hx).1, (ops_ok h.reach x hx).2⟩)
  unfold bookV at HOS
  clear hst h hdj hco HBKA
  go_enter Tryd.func28, Tryd.ntmps28
  go_wp2_with fail
  refine HOP.out.mono ?_
  rintro _ wa ⟨rfl, rfl⟩
  clear HOP
  go_wp2_with first
    | (refine load_as (by rfl) 38 (.tmp 13) (by rfl) gk 1 _ 20 19 f _ HK0.out.bk.cells HK0.out.bk.row (by rfl) _ Tryd.underlying38 (by rfl) (by kernel_rfl) (by omega) ?_)
    | fail
  refine HOS.out.mono ?_
  rintro _ w1 ⟨ov, rfl, ho1, hb1⟩
  have HROWS := Lib.hid (ops_rows ho1)
  have HB1 := Lib.hid hb1
  have hsh := ho1.shape
  obtain ⟨oA, oc, rfl⟩ := hsh
  rw [List.length_map] at HROWS ⊢
  obtain ⟨N, hNN⟩ : ∃ N, N = (opsB b).length := ⟨_, rfl⟩
  have HNN := Lib.hid hNN
  rw [← hNN] at HLEN ⊢
  clear ho1 hb1 HOS hNN
  go_wp2_with fail
  go_loopw [3, 17] (fun v i wr => ∃ k : Nat, k ≤ N ∧ i = .int .i64 (k : Int) ∧ Hid (RecsOwn wr (fun x => w1.heap.size ≤ x) (((opsB b).take k).map En) v) ∧ Hid (Below w1.heap.size w1 wr)) (fun _ i _ => N - (intOf i).toNat)
  case atStart => exact ⟨0, by omega, rfl, Lib.hid (RecsOwn.nil _ _), Lib.hid (Below.refl _ _)⟩
  case round =>
    obtain ⟨k, hk, rfl, hrc, hlv⟩ := hrel
    by_cases hlt : k < N
    · have hkl : k < (opsB b).length := by have := HNN.out; omega
      obtain ⟨A1, c1, he, hr⟩ := rows_below HROWS.out hlv.out
      rw [← HNN.out] at he
      simp only [Value.slice.injEq, true_and] at he
      obtain ⟨rfl, rfl⟩ := he
      obtain ⟨sb, so, rfl, -, hcc⟩ := hr (by omega)
      have hget := List.getElem?_eq_getElem hkl
      have hq : (opsB b).getD k ⟨0, nos, zw, 0⟩ = (opsB b)[k] := by rw [List.getD_eq_getElem?_getD, hget]; rfl
      have HR : Hid (wr.rangeAt sb (so + k * 19) ((List.range 19).map (opF (opsB b)[k]))) := Lib.hid (fun j u hu => hcc k hkl j u (by dsimp only; rw [hq]; exact hu))
      have HX : Hid (((opsB b).take (k + 1)).map En = ((opsB b).take k).map En ++ [En (opsB b)[k]]) := Lib.hid (by rw [List.take_succ_eq_append_getElem hkl, List.map_append]; rfl)
      have HXL : Hid ((((opsB b).take k).map En).length = k) := Lib.hid (by rw [List.length_map, List.length_take]; omega)
      have HXR := Lib.hid (HRT.out _ (List.getElem_mem hkl))
      have q0 : (0 : Int) ≤ (k : Int) := by omega
      have q1 : (k : Int) < (N : Int) := by omega
      have hw : wrap64 ((k : Int) + 1) = (k : Int) + 1 := wrap64_id (by omega) (by have := HLEN.out; omega)
      have HW := Lib.hid hw
      clear hget hq hcc hr hw
      generalize (opsB b)[k] = x at *
      clear hkl
      have hal : Below wr.heap.size wr (wr.alloc (.cells #[.int .i64 0, .string ⟨#[]⟩, .int .u8 0, .int .u8 0, .int .u8 0, .int .u8 0, .int .u8 0, .int .u8 0, .int .u8 0, .int .u8 0, .int .u8 0, .int .u8 0, .int .u8 0, .int .u8 0, .int .u8 0, .int .u8 0, .int .u8 0, .int .u8 0, .int .i64 0] 28)) := (Below.refl _ _).alloc (Nat.le_refl _) _
      have HZE := Lib.hid (row_new wr #[.int .i64 0, .string ⟨#[]⟩, .int .u8 0, .int .u8 0, .int .u8 0, .int .u8 0, .int .u8 0, .int .u8 0, .int .u8 0, .int .u8 0, .int .u8 0, .int .u8 0, .int .u8 0, .int .u8 0, .int .u8 0, .int .u8 0, .int .u8 0, .int .u8 0, .int .i64 0] 28 19 _ rfl (zero_op _ rfl))
      have HAL := Lib.hid hal
      clear hal
      go_upto_region 7 with first
        | (refine wpList_load_mid (by rfl) 28 (.tmp 19) (by rfl) sb (so + k * 19) (by rfl) _ _ HR.out Tryd.underlying28 (by rfl) (by kernel_rfl) ?_)
        | (refine store_whole (by rfl) 28 (.tmp 5) (.tmp 20) (by rfl) wr.heap.size _ 19 _ (opF x) HZE.out (by rfl) _ (by rfl) (by kernel_rfl) (by rfl) (cellsOf_at 19 (opF x)) (fun i _ => op_one x i) ?_; intro w2 hr2 ho2)
      have hb2 : Below wr.heap.size wr w2 := ho2.below HAL.out (Nat.le_refl _)
      have HX2 := Lib.hid hr2
      have HRC2 := Lib.hid (hrc.out.keep (fun j hj _ => hb2.block j hj))
      have HB2 := Lib.hid (hlv.out.trans (hb2.mono hlv.out.size))
      clear hr2 ho2 hb2 HZE HAL hrc hlv HR
      generalize wr.heap.size = gE at *
      have HPU := Lib.hid (put_any x HXR.out.2.1 HXR.out.2.2 w2)
      rw [if_pos HXR.out.1, if_pos HXR.out.1] at HPU
      unfold opV at HPU
      go_wp2_with first
        | (refine load_whole (by rfl) 28 (.tmp 5) (by rfl) gE _ 19 _ HX2.out (by rfl) _ Tryd.underlying28 (by rfl) (by kernel_rfl) ?_)
        | fail
      refine HPU.out.mono ?_
      rintro _ w4 ⟨v, rfl, hov, hb4⟩
      have HRC4 := Lib.hid (HRC2.out.keep (fun j hj _ => hb4.block j hj))
      have HB4 := Lib.hid (HB2.out.trans (hb4.mono HB2.out.size))
      have HV4 : Hid (BytesIn w4 (fun j => w2.heap.size ≤ j) (En x).length (fnL (En x)) v) := Lib.hid (by
        rw [en_len]
        exact own_in hov (fun j hj => (en_fn x j hj).symm))
      have HVL : Hid (∀ j, u3.ownBlock = some j → w1.heap.size ≤ j ∧ j < w2.heap.size) := Lib.hid (fun j hj => by
        obtain ⟨rs, h1, h2, h3, h4⟩ := HRC2.out
        exact ⟨h3 j hj, (h1.lt j hj).2⟩)
      have HSW : Hid (w1.heap.size ≤ w2.heap.size) := Lib.hid HB2.out.size
      obtain ⟨vA, vc, hsv, -, -⟩ := own_shape hov
      subst hsv
      clear hov hb4 HPU HX2 HRC2 HB2
      have hal : Below w4.heap.size w4 (w4.alloc (.cells #[.slice vA (encNO x) vc] 23)) := (Below.refl _ _).alloc (Nat.le_refl _) _
      have HB5 := Lib.hid (HB4.out.trans (hal.mono HB4.out.size))
      have HRC5 := Lib.hid (HRC4.out.keep (fun j hj _ => hal.block j hj))
      have HV5 := Lib.hid (HV4.out.below hal)
      have HONE : Hid ((w4.alloc (.cells #[.slice vA (encNO x) vc] 23)).cell? ⟨w4.heap.size, 0, none⟩ = some (.slice vA (encNO x) vc)) := Lib.hid ((cell_of_row _ _ 0 _ _ _ (heap_alloc_new w4 _)).trans rfl)
      obtain ⟨rs, h1, h2, h3, h4⟩ := HRC5.out
      have HO5 := Lib.hid h1
      have HL5 := Lib.hid h2
      have HK5 := Lib.hid h3
      have HR5 := Lib.hid h4
      have HU5 : Hid (BytesIn (w4.alloc (.cells #[.slice vA (encNO x) vc] 23)) (fun j => w1.heap.size ≤ j ∧ u3.ownBlock ≠ some j) (En x).length (fnL (En x)) (.slice vA (encNO x) vc)) := Lib.hid (HV5.out.less (fun j _ hj => ⟨by have := HSW.out; omega, fun e => by have := (HVL.out j e).2; omega⟩))
      clear hal h1 h2 h3 h4 HRC4 HRC5 HV4 HV5 HVL HB4
      go_wp2_with (at_builtin
                   refine append_vals (by rfl) (.tmp 26) (.tmp 28) 80 (by rfl) 0 23 (.slice none 0 0) 24 Tryd.underlying80 (by kernel_rfl) (by rfl) (by omega) rs _ (by rfl) HO5.out w4.heap.size 0 1 1 [.slice vA (encNO x) vc] (by rfl) rfl (fun j u hj => by match j, hj with | 0, hj => simp at hj; rw [← hj]; exact HONE.out) (fun u hu => by rw [List.mem_singleton.1 hu]; rfl) (by have := HL5.out; have := HXL.out; have := HLEN.out; omega) (Nat.zero_le _) ?_
                   intro v8 w8 ho8 hg8 hv8
                   have HR8 : Hid (RecsOwn w8 (fun j => w1.heap.size ≤ j) (((opsB b).take (k + 1)).map En) v8) := Lib.hid (by
                     rw [HX.out]
                     exact recs_snoc HL5.out HK5.out HR5.out HU5.out ho8 hg8 hv8 HB5.out.size)
                   have HB8 : Hid (Below w1.heap.size w1 w8) := Lib.hid (HB5.out.grown hg8 HB5.out.size (fun j hj => HK5.out j hj))
                   clear ho8 hg8 hv8 HO5 HL5 HK5 HR5 HU5 HONE HB5)
      rw [HW.out]
      exact ⟨⟨k + 1, by omega, congrArg (Value.int .i64) (by omega), HR8.out, HB8.out⟩, by show N - ((k : Int) + 1).toNat < N - (k : Int).toNat; omega⟩
    · obtain rfl : k = N := by omega
      have HMP : Hid (PartsP wr (fun j => ¬ F j ∧ ¬ FJ j) (packL En b) u3) := Lib.hid (by
        have h0 := hrc.out.parts
        rw [List.take_of_length_le (by have := HNN.out; omega)] at h0
        refine PartsP.less h0 (fun j _ hj => ⟨fun hf => ?_, fun hf => ?_⟩)
        · have := rep_lt HS0.out j hf; have := HB1.out.size; omega
        · have := repJO_lt HK0.out.jour j hf; have := HB1.out.size; omega)
      have HB2 := Lib.hid (HB1.out.trans (hlv.out.mono HB1.out.size))
      have HK2 := Lib.hid (HK0.out.below HB2.out)
      have HS2 := Lib.hid (rep_keep HS0.out (fun j hj => HB2.out.block j (rep_lt HS0.out j hj)))
      have HJA : Hid (∃ V, OwnJ wr FJ gj (.pointer (some p)) V L) := Lib.hid (by
        obtain ⟨g', V, he, ho⟩ := HK2.out.jour
        simp only [Value.pointer.injEq, Option.some.injEq, Addr.mk.injEq, and_true] at he
        obtain rfl := he
        exact ⟨V, ho⟩)
      obtain ⟨V, hoj⟩ := HJA.out
      have HON := Lib.hid (jonly (HCO.out.below HB2.out (Nat.le_refl _)) HS2.out hoj (fun j hj hf => HDJ.out j (.inl hj) hf) (packL En b) u3 HMP.out (by unfold packL; rw [List.length_map]; have := HNN.out; have := HLEN.out; omega) (fun y hy => by
        obtain ⟨x, hx, rfl⟩ := List.mem_map.1 hy
        have := en_small (HRT.out x hx).1
        omega))
      have hmm := HMP.out
      obtain ⟨mA, mc, hms, -, -⟩ := hmm
      subst hms
      have hcj := HK2.out.cj
      clear hoj HJA hrc hlv HROWS
      go_wp2_with fail
      refine HON.out.mono ?_
      rintro _ w5 ⟨rfl, F', FJ', V', hs5, hj5, hb5, hd5, hl5, hf5⟩
      have HS5 := Lib.hid hs5
      have HJ5 := Lib.hid hj5
      have HJB5 := Lib.hid hb5
      have HD5 := Lib.hid hd5
      have HLW : Hid (Cache.Leaves (fun k => F k ∨ FJ k ∨ BkFp gk Lv Rv k) w w5) := Lib.hid ((Cache.Leaves.of_below HB2.out).trans hl5 (fun k hk _ => hk.elim .inl (fun h => .inr (.inl h))))
      have hnf : ∀ k, BkFp gk Lv Rv k → ¬ (F k ∨ FJ k) := fun k hk hf => hf.elim (fun h => HDJ.out k (.inr hk) h) (fun h => HK2.out.disj k h hk)
      have HBK5 := Lib.hid (HK2.out.bk.keep (W' := w5) (fun k hk => hl5.block k (bkfp_lt HK2.out.bk k hk) (hnf k hk)) hl5.size)
      have HDK : Hid (∀ k, FJ' k → ¬ BkFp gk Lv Rv k) := Lib.hid (fun k hk hb => by
        rcases hf5 k (.inr hk) with h | h
        · exact hnf k hb h
        · have := bkfp_lt HK2.out.bk k hb; omega)
      have HDF : Hid (∀ k, BkFp gk Lv Rv k → ¬ F' k) := Lib.hid (fun k hb hk => by
        rcases hf5 k (.inl hk) with h | h
        · exact hnf k hb h
        · have := bkfp_lt HK2.out.bk k hb; omega)
      have HFP : Hid (∀ k, F' k ∨ FJ' k ∨ BkFp gk Lv Rv k → (F k ∨ FJ k ∨ BkFp gk Lv Rv k) ∨ w.heap.size ≤ k) := Lib.hid (fun k hk => by
        have hsz := HB2.out.size
        rcases hk with hk | hk | hk
        · rcases hf5 k (.inl hk) with (h | h) | h
          · exact .inl (.inl h)
          · exact .inl (.inr (.inl h))
          · exact .inr (Nat.le_trans hsz h)
        · rcases hf5 k (.inr hk) with (h | h) | h
          · exact .inl (.inl h)
          · exact .inl (.inr (.inl h))
          · exact .inr (Nat.le_trans hsz h)
        · exact .inl (.inr (.inr hk)))
      clear hs5 hj5 hb5 hd5 hl5 hf5 hcj hnf HON
      generalize hoc : onlyC Dg m st (packL En b) = oc at *
      have HOC := Lib.hid hoc
      clear hoc
      go_wp2
      go_ret
      unfold KPackPost
      rw [HOC.out]
      refine ⟨rfl, F', FJ', HS5.out, fun h8 => ⟨⟨gj, V', rfl, ?_⟩, HBK5.out, HK2.out.f0, HK2.out.reach, HDK.out⟩, fun h8 => ⟨⟨gj, V', rfl, HJB5.out h8⟩, HBK5.out, HK2.out.f0, HK2.out.reach, HDK.out⟩, fun k hk => hk.elim (HD5.out k) (HDF.out k), HLW.out, HFP.out⟩
      have := HJ5.out h8
      unfold onlyL at this
      rw [HOC.out] at this
      exact this
end Go.Proofs.YtebchoeeohmlaaaDoor.Book
namespace Go.Proofs.YtebchoeeohmlaaaDoor.Book
open Go Go.RowKit Go.Proofs.YtebchoeeohmlaaaDoor.Aid Go.Proofs.YtebchoeeohmlaaaDoor.Cache Go.Proofs.YtebchoeeohmlaaaDoor.Store Go.Proofs.YtebchoeeohmlaaaDoor.Jour
open Go.Proofs.YtebchoeeohmlaaaDoor.Sha (Consts)

/-- A keep whose journal is not broken. -/
def RepKp (W : World) (F : Nat → Prop) (k s : Value) (R : List OpB) (b : Bk) : Prop :=
  (∃ p, s = .pointer (some p)) ∧ ∃ FJ gk jv Lv Rv f, k = .pointer (some ⟨gk, 0, none⟩) ∧ KeepAt W FJ gk jv s (R.map En) b Lv Rv f ∧ F = fun x => FJ x ∨ BkFp gk Lv Rv x
theorem codes_apply (b : Bk) (x : OpB) : applyC b x = 0 ∨ applyC b x ≠ 0 := by omega
theorem keepOwn {w0 : World} (hk : Consts w0) : KeepHas w0 RepOwn RepKp Dg En where
  dlen := dg_len
  elen := fun x h _ => en_small h
  keep := fun W W' F v m s h hk => rep_keep h hk
  lt := rep_lt
  ok := fun h => (journalOwn hk).ok h
  keepK := fun h hk => by
    obtain ⟨hp, FJ, gk, jv, Lv, Rv, f, rfl, h, rfl⟩ := h
    exact ⟨hp, FJ, gk, jv, Lv, Rv, f, rfl, h.kept hk, rfl⟩
  ltK := fun h => by
    obtain ⟨hp, FJ, gk, jv, Lv, Rv, f, rfl, h, rfl⟩ := h
    exact fun x hx => hx.elim (repJO_lt h.jour x) (bkfp_lt h.bk x)
  new := (journalOwn hk).new
  fuse := (journalOwn hk).fuse
  crash := (journalOwn hk).crash
  open_up := fun {w F s m st R b t} hb h hs hr hks hbu hd hn => (kopen (hk.below hb (Nat.le_refl _)) h (by omega)).mono fun x w' hp => by
    have hok := (journalOwn hk).ok h
    have hptr := rep_ptr h
    rcases hp with ⟨h1, _⟩ | ⟨L, t', F', h1, h2, h3, h4, h5⟩
    · rw [hs] at h1; cases h1
    · rw [hs] at h1
      cases h1
      have h0 : openC m st t = 0 := by
        unfold openC
        by_cases ht : t = []
        · rw [if_pos ht]
        · have hpw : power st = true := by unfold power; rw [hbu, hd]; rfl
          rw [if_neg ht]
          unfold repC
          rw [if_pos hpw, if_pos (by have := hok.n; omega)]
      rcases h5 with ⟨h6, _⟩ | ⟨_, h6, _⟩ | ⟨_, X, b', gk, FJ, jv, Lv, Rv, f, h6, hy, h7, h8, h9⟩
      · exact absurd h0 h6
      · rw [replay_run hks hr] at h6; cases h6
      · rw [replay_run hks hr] at h6
        cases h6
        exact ⟨⟨gk, 0, none⟩, F', _, hy, h2, ⟨hptr, FJ, gk, jv, Lv, Rv, f, rfl, h7, rfl⟩, h8, h3, fun x hx => hx.elim (h4 x) (fun h => .inr (h9 x h))⟩
  doOp := fun {w F FK s k m st R b} x hb h hkp hd hkey hsz _ hR => by
    obtain ⟨⟨p, rfl⟩, FJ, gk, jv, Lv, Rv, f, rfl, ha, rfl⟩ := hkp
    refine (kdo (hk.below hb (Nat.le_refl _)) h ha hd (by rw [List.length_map]; omega) x hkey hsz).mono fun y w' hp => ?_
    obtain ⟨hy, F', FJ', Lv', Rv', f', h1, h2, _, h4, h5, h6⟩ := hp
    refine ⟨hy, F', fun z => FJ' z ∨ BkFp gk Lv' Rv' z, h1, fun h8 => ⟨⟨p, rfl⟩, FJ', gk, jv, Lv', Rv', f', rfl, ?_, rfl⟩, h4, h5, h6⟩
    have h7 := h2 h8
    unfold doR
    by_cases h0 : doC Dg En m st b x = 0
    · rw [if_pos h0] at h7 ⊢
      rw [List.map_append]
      exact h7
    · rw [if_neg h0] at h7 ⊢
      exact h7
  pack := fun {w F FK s k m st R b} hb h hkp hd _ _ => by
    obtain ⟨⟨p, rfl⟩, FJ, gk, jv, Lv, Rv, f, rfl, ha, rfl⟩ := hkp
    refine (kpack (hk.below hb (Nat.le_refl _)) h ha hd).mono fun y w' hp => ?_
    obtain ⟨hy, F', FJ', h1, h2, _, h4, h5, h6⟩ := hp
    refine ⟨hy, F', fun z => FJ' z ∨ BkFp gk Lv Rv z, h1, fun h8 => ⟨⟨p, rfl⟩, FJ', gk, jv, Lv, Rv, f, rfl, ?_, rfl⟩, h4, h5, h6⟩
    have h7 := h2 h8
    unfold packR
    by_cases h0 : onlyC Dg m st (packL En b) = 0
    · rw [if_pos h0] at h7 ⊢
      exact h7
    · rw [if_neg h0] at h7 ⊢
      exact h7
  book := fun {w FK s k R b} hkp => by
    obtain ⟨_, FJ, gk, jv, Lv, Rv, f, rfl, ha, rfl⟩ := hkp
    exact (kbook_any ha).mono fun y w' ⟨Lv', Rv', hy, ho, hb⟩ => ⟨Lv', Rv', hy, ho.book ha.reach, hb⟩
end Go.Proofs.YtebchoeeohmlaaaDoor.Book
