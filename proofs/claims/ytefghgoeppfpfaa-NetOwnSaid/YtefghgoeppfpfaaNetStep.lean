/-
  The program's own net: letters in a channel's buffer: what copyOf, put, Send and Take do.
-/
import Derived.Test.YtefghgoeppfpfaaNetHas
import Derived.Test.YtefghgoeppfpfaaNetChan
import Derived.Test.YtefghgoeppfpfaaComm
import Derived.Test.YtefghgoeppfpfaaCloneB
import Derived.Test.YtefghgoeppfpfaaCloneStr
import Derived.Test.YtefghgoeppfpfaaMixLast
import Derived.Test.YtefghgoeppfpfaaRefTake12
import Derived.Deep.DeepCutAuto
import Derived.Conc.SmallLaws
namespace Go.Proofs.Ytefghgoeppfpfaa.Net
open Go Go.RowKit Go.Conc Go.Proofs.Ytefghgoeppfpfaa.Aid Go.Proofs.Ytefghgoeppfpfaa.Cache

structure OwnIn (W : World) (gn cb m s r : Nat) (ps : List (Lt × Value)) : Prop where
  row : W.rowIs gn 57 1 (fun _ => .chan (some cb))
  ch : ChanIn W cb m s r ps
  off : ¬ chanF cb ps gn
  most : 1 ≤ m ∧ m ≤ 1000
def RepOwn : RepN := fun W F v m l => ∃ gn cb s r ps, v = .pointer (some ⟨gn, 0, none⟩) ∧ l = ps.map (·.1) ∧ (∀ b, F b ↔ b = gn ∨ chanF cb ps b) ∧ OwnIn W gn cb m s r ps
theorem set3 {w W : World} {B k : Nat} {T : TypeId} {f : Nat → Value} (h : W.rowIs k T 3 f) (hb : Below B w W) (hk : B ≤ k) (x y : ByteArray) (z : Value) (W' : World) (hW : W' = ((W.setCell ⟨k, 0, none⟩ (.string x)).setCell ⟨k, 1, none⟩ (.string y)).setCell ⟨k, 2, none⟩ z) :
    W'.cell? ⟨k, 0, none⟩ = some (.string x) ∧ W'.cell? ⟨k, 1, none⟩ = some (.string y) ∧ W'.cell? ⟨k, 2, none⟩ = some z ∧ (∀ b, b ≠ k → W'.heap[b]? = W.heap[b]?) ∧ W'.heap.size = W.heap.size ∧ Below B w W' := by
  subst hW
  have R4 := (((h.set 0 (.string x)).set 1 (.string y)).set 2 z)
  have w0 := R4.cell (i := 0) (by omega)
  have w1 := R4.cell (i := 1) (by omega)
  have w2 := R4.cell (i := 2) (by omega)
  simp at w0 w1 w2
  exact ⟨w0, w1, w2, fun b hb => (heap_setCell_other _ _ _ _ (by simpa using hb)).trans ((heap_setCell_other _ _ _ _ (by simpa using hb)).trans (heap_setCell_other _ _ _ _ (by simpa using hb))), by simp [World.setCell], ((hb.setCell hk _).setCell hk _).setCell hk _⟩
set_option maxRecDepth 100000 in
set_option maxHeartbeats 2000000 in
/-- copyOf: the same letter, its bytes in memory of their own. -/
theorem copy_of (x : Lt) (bv : Value) (w : World) (hs : SliceOf w w.heap.size x.n x.e bv) (hx : x.n ≤ 2000) :
    Calls Try.prog 22 #[ltV x bv] w fun e w' => ∃ cv, e = .returned (ltV x cv) ∧ Own w' w.heap.size x.n x.e cv ∧ Below w.heap.size w w' := by
  obtain ⟨A, c, rfl, hc, hr⟩ := hs
  have hs : SliceOf w w.heap.size x.n x.e (.slice A x.n c) := ⟨A, c, rfl, hc, hr⟩
  unfold ltV
  have b1 : Below w.heap.size w (w.alloc (.cells #[.string x.f, .string x.t, .slice A x.n c] 34)) := (Below.refl _ _).alloc (Nat.le_refl _) _
  have b2 := b1.alloc (by simp) (.cells #[.string ⟨#[]⟩, .string ⟨#[]⟩, .slice none 0 0] 34)
  go_enter Try.func22, Try.ntmps22
  go_upto_region 1 with fail
  have R1 := (row_new w #[.string x.f, .string x.t, .slice A x.n c] 34 3 (letF x.f x.t (.slice A x.n c)) rfl (let_at _ _ _)).of_block (((Below.refl _ (w.alloc (.cells #[.string x.f, .string x.t, .slice A x.n c] 34))).alloc (Nat.le_refl _) (.cells #[.string ⟨#[]⟩, .string ⟨#[]⟩, .slice none 0 0] 34)).block w.heap.size (by simp))
  have R2 := row_new (w.alloc (.cells #[.string x.f, .string x.t, .slice A x.n c] 34)) #[.string ⟨#[]⟩, .string ⟨#[]⟩, .slice none 0 0] 34 3 (letF ⟨#[]⟩ ⟨#[]⟩ (.slice none 0 0)) rfl (let_at _ _ _)
  have hsz : ((w.alloc (.cells #[.string x.f, .string x.t, .slice A x.n c] 34)).alloc (.cells #[.string ⟨#[]⟩, .string ⟨#[]⟩, .slice none 0 0] 34)).heap.size = w.heap.size + 1 + 1 := by simp
  have hsz1 : (w.alloc (.cells #[.string x.f, .string x.t, .slice A x.n c] 34)).heap.size = w.heap.size + 1 := by simp
  rw [hsz1] at R2
  have hs2 := slice_here (slice_below hs b2)
  clear hsz1 b1 hs hr
  generalize ((w.alloc (.cells #[.string x.f, .string x.t, .slice A x.n c] 34)).alloc (.cells #[.string ⟨#[]⟩, .string ⟨#[]⟩, .slice none 0 0] 34)) = w2 at *
  have c0 := R1.cell (i := 0) (by omega)
  have c1 := R1.cell (i := 1) (by omega)
  have c2 := R1.cell (i := 2) (by omega)
  simp only [let0, let1, let2] at c0 c1 c2
  have hk1 : w.heap.size < w2.heap.size := by omega
  have hk2 : w.heap.size + 1 < w2.heap.size := by omega
  generalize hkw : w.heap.size = k at *
  have HKW := Lib.hid hkw
  clear hkw
  have HS2 := Lib.hid hs2
  have HR2 := Lib.hid R2
  have HB2 := Lib.hid b2
  have HSZ := Lib.hid hsz
  clear hs2 R1 R2 b2 hsz
  refine region_mix_last (fun W => Below w2.heap.size w2 W) 10 [(0, true), (1, true), (3, true), (4, true), (6, true), (7, true), (2, false), (5, false), (8, false), (9, true)] (by kernel_rfl) rfl (by kernel_rfl) (Below.refl _ _).drew ?_
  refine m_val rfl (by rfl) (.pointer (some ⟨k, 0, none⟩)) (fun W _ => by go_simp) ?_
  simp only [Act.put, List.setIfInBounds_toArray, List.set_cons_zero, List.set_cons_succ]
  refine m_val rfl (by rfl) (.string x.f) (fun W hW => by have e := (hW.cell (p := ⟨k, 0, none⟩) hk1).trans c0; go_simp) ?_
  simp only [Act.put, List.setIfInBounds_toArray, List.set_cons_zero, List.set_cons_succ]
  refine m_val rfl (by rfl) (.pointer (some ⟨k, 1, none⟩)) (fun W _ => by go_simp) ?_
  simp only [Act.put, List.setIfInBounds_toArray, List.set_cons_zero, List.set_cons_succ]
  refine m_val rfl (by rfl) (.string x.t) (fun W hW => by have e := (hW.cell (p := ⟨k, 1, none⟩) hk1).trans c1; go_simp) ?_
  simp only [Act.put, List.setIfInBounds_toArray, List.set_cons_zero, List.set_cons_succ]
  refine m_val rfl (by rfl) (.pointer (some ⟨k, 2, none⟩)) (fun W _ => by go_simp) ?_
  simp only [Act.put, List.setIfInBounds_toArray, List.set_cons_zero, List.set_cons_succ]
  refine m_val rfl (by rfl) (.slice A x.n c) (fun W hW => by have e := (hW.cell (p := ⟨k, 2, none⟩) hk1).trans c2; go_simp) ?_
  simp only [Act.put, List.setIfInBounds_toArray, List.set_cons_zero, List.set_cons_succ]
  clear c0 c1 c2
  refine m_go rfl ?_
  go_wp2_with fail
  refine (Ytefghgoeppfpfaa.clone_str x.f _ x.hf).mono ?_
  rintro _ w3 ⟨rfl, hb3⟩
  have h3 : Below w2.heap.size w2 w3 := (Below.refl _ w2).drew.trans (hb3.mono (Nat.le_refl _))
  clear hb3
  go_wp2_with fail
  refine m_on h3 ?_
  refine m_go rfl ?_
  go_wp2_with fail
  refine (Ytefghgoeppfpfaa.clone_str x.t _ x.ht).mono ?_
  rintro _ w4 ⟨rfl, hb4⟩
  have h4 : Below w2.heap.size w2 w4 := h3.trans (hb4.mono h3.size)
  clear hb4 h3
  go_wp2_with fail
  refine m_on h4 ?_
  refine m_go rfl ?_
  have HC := Lib.hid (Field.clone_all x.n x.e (.slice A x.n c) w4 (by omega) (slice_here (slice_below HS2.out h4)))
  go_wp2_with fail
  refine HC.out.mono ?_
  rintro _ w5 ⟨cv, rfl, ho5, hb5⟩
  have h5 : Below w2.heap.size w2 w5 := h4.trans (hb5.mono h4.size)
  have HO5 := Lib.hid (own_base ho5 (base' := k) (by have := h4.size; have := HSZ.out; omega))
  have HN5 : Hid (∀ b, cv.ownBlock = some b → k + 1 < b) := Lib.hid (fun b hb => by have := (ho5.lt hb).1; have := h4.size; omega)
  clear hb5 h4 HC HS2 ho5
  go_wp2_with fail
  refine m_on h5 ?_
  obtain ⟨cA, cc, rfl, -, -⟩ := own_shape HO5.out
  refine m_val rfl (by rfl) (.agg #[.string x.f, .string x.t, .slice cA x.n cc]) (fun W _ => by go_simp) ?_
  simp only [Act.put, List.setIfInBounds_toArray, List.set_cons_zero, List.set_cons_succ]
  refine m_end ?_
  have R5 := HR2.out.of_block (h5.block (k + 1) hk2)
  have z0 := R5.cell (i := 0) (by omega)
  have z1 := R5.cell (i := 1) (by omega)
  have z2 := R5.cell (i := 2) (by omega)
  have f0 := R5.frozen 0
  have f1 := R5.frozen 1
  have f2 := R5.frozen 2
  simp only [let0, let1, let2] at z0 z1 z2
  have HB5 := Lib.hid (HB2.out.trans (h5.mono (by have := HSZ.out; omega)))
  have HR5 := Lib.hid R5
  clear R5 h5 HB2 HR2
  show wpList _ _ _ _ _ w5
  go_wp2_with fail
  refine NoPanic.normal ?_
  obtain ⟨y0, y1, y2, oth, hsz, hbl⟩ := set3 HR5.out HB5.out (by omega) x.f x.t (.slice cA x.n cc) _ rfl
  have HO7 := Lib.hid (HO5.out.keep (fun b hb => oth b (by have := HN5.out b hb; omega)))
  have HB7 := Lib.hid hbl
  clear oth hsz hbl
  generalize (((w5.setCell ⟨k + 1, 0, none⟩ (.string x.f)).setCell ⟨k + 1, 1, none⟩ (.string x.t)).setCell ⟨k + 1, 2, none⟩ (.slice cA x.n cc)) = W7 at *
  clear z0 z1 z2 f0 f1 f2 HR5 HB5 HO5 HN5
  go_wp2_with fail
  exact bodyPost_ret (v := .agg #[.string x.f, .string x.t, .slice cA x.n cc]) (by simp [results, Try.results22, go_sem, y0, y1, y2]) rfl ⟨_, rfl, by rw [HKW.out]; exact HO7.out, by rw [HKW.out]; exact HB7.out⟩
/-- put: the letter is the last one, where there is room. -/
def putP (m : Nat) (ps : List (Lt × Value)) (p : Lt × Value) : List (Lt × Value) := if ps.length < m then ps ++ [p] else ps
set_option maxRecDepth 100000 in
set_option maxHeartbeats 2000000 in
theorem put_own {w : World} {gn cb m s r : Nat} {ps : List (Lt × Value)} (h : OwnIn w gn cb m s r ps) (x : Lt) (bv : Value) (ho : Own w 0 x.n x.e bv) (hx : x.n ≤ 2000) (hb : ∀ b, bv.ownBlock = some b → b ≠ gn ∧ ¬ chanF cb ps b) :
    Calls Try.prog 21 #[.pointer (some ⟨gn, 0, none⟩), ltV x bv] w fun e w' => e = .returned (.int .i64 (sendC m (ps.map (·.1)))) ∧ ∃ s', OwnIn w' gn cb m s' r (putP m ps (x, bv)) ∧ Cache.Leaves (fun b => b = cb) w w' := by
  unfold ltV
  refine calls_of_wpN Try.func21 rfl ?_
  simp only [Try.ntmps21, List.size_toArray, List.length_cons, List.length_nil, Nat.reduceAdd, Nat.reduceSub, Array.replicate_succ, Array.replicate_zero, List.push_toArray, List.append_toArray, List.nil_append, List.cons_append]
  obtain ⟨A, c, rfl, hc, hr⟩ := own_shape ho
  have b1 : Below w.heap.size w (w.alloc (.cells #[.string x.f, .string x.t, .slice A x.n c] 34)) := (Below.refl _ _).alloc (Nat.le_refl _) _
  have hgl : gn < w.heap.size := block_lt_of_cell (h.row.cell (i := 0) (by omega))
  have e0 := (h.row.of_block (b1.block gn hgl)).cell (i := 0) (by omega)
  have R1 := row_new w #[.string x.f, .string x.t, .slice A x.n c] 34 3 (letF x.f x.t (.slice A x.n c)) rfl (let_at _ _ _)
  have d0 := R1.cell (i := 0) (by omega)
  have d1 := R1.cell (i := 1) (by omega)
  have d2 := R1.cell (i := 2) (by omega)
  simp only [let0, let1, let2] at d0 d1 d2
  have HIN := Lib.hid (show OwnIn (w.alloc (.cells #[.string x.f, .string x.t, .slice A x.n c] 34)) gn cb m s r ps from ⟨h.row.of_block (b1.block gn hgl), h.ch.keep (fun b hb => b1.block b (h.ch.lt b hb)), h.off, h.most⟩)
  have HO := Lib.hid (ho.below b1)
  have HB1 := Lib.hid b1
  clear h ho b1 R1 hr
  refine WpN.seq_wp (fun K hK => ?_)
  go_wp2_with fail
  refine WpN.seq_wp (fun K hK => ?_)
  go_wp2_with fail
  clear d0 d1 d2 e0
  generalize w.alloc (.cells #[.string x.f, .string x.t, .slice A x.n c] 34) = w3 at *
  by_cases hfull : ps.length < m
  · refine WpN.seq ?_
    refine wpN_send_room (c := cb) (v := .agg #[.string x.f, .string x.t, .slice A x.n c]) (z := .agg #[.string ⟨#[]⟩, .string ⟨#[]⟩, .slice none 0 0]) rfl ?_ HIN.out.ch.ch (by rw [bufOf_size]; exact hfull) ?_
    · simp [go_sem, execOp, scase, Act.eval]
    have hlm : (ps.map (·.1)).length < m := by rw [List.length_map]; exact hfull
    have e1 : sendC m (ps.map (·.1)) = 0 := by unfold sendC; rw [if_pos hlm]
    have e2 : putP m ps (x, .slice A x.n c) = ps ++ [(x, .slice A x.n c)] := by unfold putP; rw [if_pos hfull]
    have h5 := HIN.out.ch.send x (.slice A x.n c) HO.out hx (fun b hbb => (hb b hbb).2) hfull
    have oth : ∀ b, b ≠ cb → (w3.setChan cb m ((bufOf ps).push (ltV x (.slice A x.n c))) false (s + 1) r false).heap[b]? = w3.heap[b]? := fun b hb => heap_setChan_other _ _ _ _ _ _ _ _ b hb
    have hgcb : gn ≠ cb := fun e => HIN.out.off (.inl e)
    have hoff : ¬ chanF cb (ps ++ [(x, .slice A x.n c)]) gn := by
      rintro (e | ⟨p, hp, hbp⟩)
      · exact hgcb e
      · rcases List.mem_append.1 hp with hp | hp
        · exact HIN.out.off (.inr ⟨p, hp, hbp⟩)
        · obtain rfl := List.mem_singleton.1 hp
          exact (hb gn hbp).1 rfl
    have HM : Hid (OwnIn (w3.setChan cb m ((bufOf ps).push (ltV x (.slice A x.n c))) false (s + 1) r false) gn cb m (s + 1) r (ps ++ [(x, .slice A x.n c)]) ∧ Cache.Leaves (fun b => b = cb) w (w3.setChan cb m ((bufOf ps).push (ltV x (.slice A x.n c))) false (s + 1) r false)) := Lib.hid
      ⟨⟨HIN.out.row.of_block (oth gn hgcb), h5, hoff, HIN.out.most⟩, leaves_setChan (F := fun b => b = cb) (Cache.Leaves.of_below HB1.out) rfl _ _ _ _ _ _⟩
    rw [e1, e2]
    clear e1 e2 h5 oth hoff
    change wpList _ _ _ _ _ (w3.setChan cb m ((bufOf ps).push (ltV x (.slice A x.n c))) false (s + 1) r false)
    generalize w3.setChan cb m ((bufOf ps).push (ltV x (.slice A x.n c))) false (s + 1) r false = w5 at *
    go_wp2_with fail
    refine WpN.of ?_
    go_wp2
    go_ret
    exact ⟨rfl, s + 1, HM.out⟩
  · have hlm : ¬ (ps.map (·.1)).length < m := by rw [List.length_map]; exact hfull
    have e1 : sendC m (ps.map (·.1)) = 7 := by unfold sendC; rw [if_neg hlm]
    have e2 : putP m ps (x, .slice A x.n c) = ps := by unfold putP; rw [if_neg hfull]
    rw [e1, e2]
    have HM : Hid (OwnIn w3 gn cb m s r ps ∧ Cache.Leaves (fun b => b = cb) w w3) := Lib.hid ⟨HIN.out, Cache.Leaves.of_below HB1.out⟩
    clear e1 e2
    refine WpN.seq ?_
    refine wpN_send_full (c := cb) (v := .agg #[.string x.f, .string x.t, .slice A x.n c]) (z := .agg #[.string ⟨#[]⟩, .string ⟨#[]⟩, .slice none 0 0]) rfl ?_ HIN.out.ch.ch (by rw [bufOf_size]; omega) ?_
    · simp [go_sem, execOp, scase, Act.eval]
    go_wp2_with fail
    refine WpN.of ?_
    go_wp2
    go_ret
    exact ⟨rfl, s, HM.out⟩
/-- The letters' blocks, with the net's own. -/
def ownF (gn cb : Nat) (ps : List (Lt × Value)) (b : Nat) : Prop := b = gn ∨ chanF cb ps b
theorem OwnIn.rep {W : World} {gn cb m s r : Nat} {ps : List (Lt × Value)} (h : OwnIn W gn cb m s r ps) : RepOwn W (ownF gn cb ps) (.pointer (some ⟨gn, 0, none⟩)) m (ps.map (·.1)) := ⟨gn, cb, s, r, ps, rfl, rfl, fun _ => Iff.rfl, h⟩
theorem OwnIn.lt {W : World} {gn cb m s r : Nat} {ps : List (Lt × Value)} (h : OwnIn W gn cb m s r ps) : ∀ b, ownF gn cb ps b → b < W.heap.size := by
  rintro b (rfl | hb)
  · exact block_lt_of_cell (h.row.cell (i := 0) (by omega))
  · exact h.ch.lt b hb
theorem OwnIn.keep {W W' : World} {gn cb m s r : Nat} {ps : List (Lt × Value)} (h : OwnIn W gn cb m s r ps) (hk : ∀ b, ownF gn cb ps b → W'.heap[b]? = W.heap[b]?) : OwnIn W' gn cb m s r ps :=
  ⟨h.row.of_block (hk gn (.inl rfl)), h.ch.keep (fun b hb => hk b (.inr hb)), h.off, h.most⟩
/-- Send: a copy is put. -/
theorem send_own {w : World} {gn cb m s r : Nat} {ps : List (Lt × Value)} (h : OwnIn w gn cb m s r ps) (x : Lt) (bv : Value) (hs : SliceOf w w.heap.size x.n x.e bv) (hx : x.n ≤ 2000) :
    Calls Try.prog 10 #[.pointer (some ⟨gn, 0, none⟩), ltV x bv] w fun e w' => e = .returned (.int .i64 (sendC m (ps.map (·.1)))) ∧ ∃ s' cv, OwnIn w' gn cb m s' r (putP m ps (x, cv)) ∧ Cache.Leaves (fun b => b = cb) w w' ∧ ∀ b, cv.ownBlock = some b → w.heap.size ≤ b := by
  obtain ⟨A, c, rfl, hc, hr⟩ := hs
  have hs : SliceOf w w.heap.size x.n x.e (.slice A x.n c) := ⟨A, c, rfl, hc, hr⟩
  unfold ltV
  have b1 : Below w.heap.size w (w.alloc (.cells #[.string x.f, .string x.t, .slice A x.n c] 34)) := (Below.refl _ _).alloc (Nat.le_refl _) _
  have R1 := row_new w #[.string x.f, .string x.t, .slice A x.n c] 34 3 (letF x.f x.t (.slice A x.n c)) rfl (let_at _ _ _)
  have d0 := R1.cell (i := 0) (by omega)
  have d1 := R1.cell (i := 1) (by omega)
  have d2 := R1.cell (i := 2) (by omega)
  simp only [let0, let1, let2] at d0 d1 d2
  have HIN := Lib.hid h
  have HB1 := Lib.hid b1
  have HS := Lib.hid (slice_here (slice_below hs b1))
  clear h b1 R1 hr hs
  go_enter Try.func10, Try.ntmps10
  go_wp2_with fail
  refine Calls.mono (show Calls Try.prog 22 #[ltV x (.slice A x.n c)] _ _ from copy_of x _ _ HS.out hx) ?_
  rintro _ w2 ⟨cv, rfl, ho, hb⟩
  have hb2 : Below w.heap.size w w2 := HB1.out.trans (hb.mono HB1.out.size)
  have h2 : OwnIn w2 gn cb m s r ps := HIN.out.keep (fun b hbb => hb2.block b (HIN.out.lt b hbb))
  have hnew : ∀ b, cv.ownBlock = some b → w.heap.size ≤ b := fun b hbb => Nat.le_trans HB1.out.size (ho.lt hbb).1
  have HP := Lib.hid (put_own h2 x cv (own_base ho (Nat.zero_le _)) hx (fun b hbb => ⟨fun e => by have := hnew b hbb; have := HIN.out.lt b (.inl e); omega, fun hf => by have := hnew b hbb; have := HIN.out.lt b (.inr hf); omega⟩))
  have HB2 := Lib.hid hb2
  have HNEW := Lib.hid hnew
  clear hb2 h2 hnew ho hb HS HB1 d0 d1 d2
  go_wp2_with fail
  refine HP.out.mono ?_
  rintro _ w3 ⟨rfl, s', h3, hl3⟩
  have H3 := Lib.hid h3
  have HL3 : Hid (Cache.Leaves (fun b => b = cb) w w3) := Lib.hid ((Cache.Leaves.of_below HB2.out).trans hl3 (fun _ h _ => h))
  clear h3 hl3 HP
  go_wp2_with fail
  go_ret
  exact ⟨rfl, s', cv, H3.out, HL3.out, HNEW.out⟩
set_option maxRecDepth 100000 in
set_option maxHeartbeats 2000000 in
/-- Take of none. -/
theorem take_nil {w : World} {gn cb m s r : Nat} (h : OwnIn w gn cb m s r []) :
    Calls Try.prog 12 #[.pointer (some ⟨gn, 0, none⟩)] w fun e w' => e = .returned (.tuple #[ltV zeroL (.slice none 0 0), .bool false]) ∧ OwnIn w' gn cb m s r [] ∧ Below w.heap.size w w' := by
  refine calls_of_wpN Try.func12 rfl ?_
  simp only [Try.ntmps12, List.size_toArray, List.length_cons, List.length_nil, Nat.reduceAdd, Nat.reduceSub, Array.replicate_succ, Array.replicate_zero, List.push_toArray, List.append_toArray, List.nil_append, List.cons_append]
  have b1 : Below w.heap.size w (w.alloc (.cells #[.string ⟨#[]⟩, .string ⟨#[]⟩, .slice none 0 0] 34)) := (Below.refl _ _).alloc (Nat.le_refl _) _
  have hgl : gn < w.heap.size := h.lt gn (.inl rfl)
  have h1 : OwnIn (w.alloc (.cells #[.string ⟨#[]⟩, .string ⟨#[]⟩, .slice none 0 0] 34)) gn cb m s r [] := h.keep (fun b hb => b1.block b (h.lt b hb))
  have e0 := h1.row.cell (i := 0) (by omega)
  have R1 := row_new w #[.string ⟨#[]⟩, .string ⟨#[]⟩, .slice none 0 0] 34 3 (letF ⟨#[]⟩ ⟨#[]⟩ (.slice none 0 0)) rfl (let_at _ _ _)
  have HIN := Lib.hid h
  have H1 := Lib.hid h1
  have HB1 := Lib.hid b1
  have HR1 := Lib.hid R1
  clear h b1 h1 R1
  refine WpN.seq_wp (fun K hK => ?_)
  go_wp2_with fail
  refine WpN.seq_wp (fun K hK => ?_)
  go_wp2_with fail
  clear e0
  generalize w.alloc (.cells #[.string ⟨#[]⟩, .string ⟨#[]⟩, .slice none 0 0] 34) = w1 at *
  have z0 := HR1.out.cell (i := 0) (by omega)
  have z1 := HR1.out.cell (i := 1) (by omega)
  have z2 := HR1.out.cell (i := 2) (by omega)
  have f0 := HR1.out.frozen 0
  have f1 := HR1.out.frozen 1
  have f2 := HR1.out.frozen 2
  simp only [let0, let1, let2] at z0 z1 z2
  refine WpN.seq ?_
  refine wpN_recv_none (c := cb) (z := .agg #[.string ⟨#[]⟩, .string ⟨#[]⟩, .slice none 0 0]) rfl ?_ H1.out.ch.ch ?_
  · simp [go_sem, execOp, rcase, Act.eval]
  go_wp2_with fail
  refine WpN.of ?_
  go_wp2_with fail
  obtain ⟨y0, y1, y2, oth, hsz, hbl⟩ := set3 HR1.out HB1.out (Nat.le_refl _) ⟨#[]⟩ ⟨#[]⟩ (.slice none 0 0) _ rfl
  have HRp := Lib.hid (H1.out.keep (W' := ((w1.setCell ⟨w.heap.size, 0, none⟩ (.string ⟨#[]⟩)).setCell ⟨w.heap.size, 1, none⟩ (.string ⟨#[]⟩)).setCell ⟨w.heap.size, 2, none⟩ (.slice none 0 0)) (fun b hb => oth b (by have := HIN.out.lt b hb; omega)))
  have HL := Lib.hid hbl
  clear oth hsz hbl
  generalize (((w1.setCell ⟨w.heap.size, 0, none⟩ (.string ⟨#[]⟩)).setCell ⟨w.heap.size, 1, none⟩ (.string ⟨#[]⟩)).setCell ⟨w.heap.size, 2, none⟩ (.slice none 0 0)) = W4 at *
  exact bodyPost_ret (v := .tuple #[.agg #[.string ⟨#[]⟩, .string ⟨#[]⟩, .slice none 0 0], .bool false]) (by simp [results, Try.results12, go_sem, y0, y1, y2]) rfl
    ⟨rfl, HRp.out, HL.out⟩
set_option maxRecDepth 100000 in
set_option maxHeartbeats 2000000 in
/-- Take of the first letter. -/
theorem take_cons {w : World} {gn cb m s r : Nat} {x : Lt} {bv : Value} {ps : List (Lt × Value)} (h : OwnIn w gn cb m s r ((x, bv) :: ps)) :
    Calls Try.prog 12 #[.pointer (some ⟨gn, 0, none⟩)] w fun e w' => e = .returned (.tuple #[ltV x bv, .bool true]) ∧ OwnIn w' gn cb m s (r + 1) ps ∧ Cache.Leaves (fun b => b = cb) w w' ∧ Own w' 0 x.n x.e bv := by
  refine calls_of_wpN Try.func12 rfl ?_
  simp only [Try.ntmps12, List.size_toArray, List.length_cons, List.length_nil, Nat.reduceAdd, Nat.reduceSub, Array.replicate_succ, Array.replicate_zero, List.push_toArray, List.append_toArray, List.nil_append, List.cons_append]
  have b1 : Below w.heap.size w (w.alloc (.cells #[.string ⟨#[]⟩, .string ⟨#[]⟩, .slice none 0 0] 34)) := (Below.refl _ _).alloc (Nat.le_refl _) _
  have hgl : gn < w.heap.size := h.lt gn (.inl rfl)
  have h1 : OwnIn (w.alloc (.cells #[.string ⟨#[]⟩, .string ⟨#[]⟩, .slice none 0 0] 34)) gn cb m s r ((x, bv) :: ps) := h.keep (fun b hb => b1.block b (h.lt b hb))
  have e0 := h1.row.cell (i := 0) (by omega)
  have R1 := row_new w #[.string ⟨#[]⟩, .string ⟨#[]⟩, .slice none 0 0] 34 3 (letF ⟨#[]⟩ ⟨#[]⟩ (.slice none 0 0)) rfl (let_at _ _ _)
  have HIN := Lib.hid h
  have H1 := Lib.hid h1
  have HB1 := Lib.hid b1
  have HR1 := Lib.hid R1
  clear h b1 h1 R1
  refine WpN.seq_wp (fun K hK => ?_)
  go_wp2_with fail
  refine WpN.seq_wp (fun K hK => ?_)
  go_wp2_with fail
  clear e0
  have HSZ : Hid ((w.alloc (.cells #[.string ⟨#[]⟩, .string ⟨#[]⟩, .slice none 0 0] 34)).heap.size = w.heap.size + 1) := Lib.hid (by simp)
  generalize w.alloc (.cells #[.string ⟨#[]⟩, .string ⟨#[]⟩, .slice none 0 0] 34) = w1 at *
  refine WpN.seq ?_
  refine wpN_recv_some (c := cb) (z := .agg #[.string ⟨#[]⟩, .string ⟨#[]⟩, .slice none 0 0]) rfl ?_ H1.out.ch.ch (by rw [bufOf_size]; simp) ?_
  · simp [go_sem, execOp, rcase, Act.eval]
  rw [bufOf_head]
  obtain ⟨h5, ho5, hd5⟩ := H1.out.ch.recv
  have oth5 : ∀ b, b ≠ cb → (w1.setChan cb m ((bufOf ((x, bv) :: ps)).extract 1 (bufOf ((x, bv) :: ps)).size) false s (r + 1) false).heap[b]? = w1.heap[b]? := fun b hb => heap_setChan_other _ _ _ _ _ _ _ _ b hb
  have hcb := HIN.out.lt cb (.inr (.inl rfl))
  have hgcb : gn ≠ cb := fun e => HIN.out.off (.inl e)
  have HL5 := Lib.hid (leaves_setChan (F := fun b => b = cb) (Cache.Leaves.of_below HB1.out) rfl m ((bufOf ((x, bv) :: ps)).extract 1 (bufOf ((x, bv) :: ps)).size) false s (r + 1) false)
  have HR5 := Lib.hid (HR1.out.of_block (oth5 w.heap.size (by omega)))
  have HS5 : Hid ((w1.setChan cb m ((bufOf ((x, bv) :: ps)).extract 1 (bufOf ((x, bv) :: ps)).size) false s (r + 1) false).heap.size = w.heap.size + 1) := Lib.hid (by rw [size_setChan]; exact HSZ.out)
  have H5 : Hid (OwnIn (w1.setChan cb m ((bufOf ((x, bv) :: ps)).extract 1 (bufOf ((x, bv) :: ps)).size) false s (r + 1) false) gn cb m s (r + 1) ps) := Lib.hid
    ⟨H1.out.row.of_block (oth5 gn hgcb), h5, fun hb => HIN.out.off (hb.elim .inl (fun ⟨q, hq, hqb⟩ => .inr ⟨q, List.mem_cons_of_mem _ hq, hqb⟩)), HIN.out.most⟩
  have HO5 : Hid (Own (w1.setChan cb m ((bufOf ((x, bv) :: ps)).extract 1 (bufOf ((x, bv) :: ps)).size) false s (r + 1) false) 0 x.n x.e bv) := Lib.hid ho5
  have HBV : Hid (∀ b, bv.ownBlock = some b → b < w.heap.size) := Lib.hid (fun b hb => HIN.out.lt b (.inr (.inr ⟨_, List.mem_cons_self .., hb⟩)))
  clear h5 ho5 hd5 oth5 HB1 HR1 HSZ H1
  generalize w1.setChan cb m ((bufOf ((x, bv) :: ps)).extract 1 (bufOf ((x, bv) :: ps)).size) false s (r + 1) false = w5 at *
  have z0 := HR5.out.cell (i := 0) (by omega)
  have z1 := HR5.out.cell (i := 1) (by omega)
  have z2 := HR5.out.cell (i := 2) (by omega)
  have f0 := HR5.out.frozen 0
  have f1 := HR5.out.frozen 1
  have f2 := HR5.out.frozen 2
  simp only [let0, let1, let2] at z0 z1 z2
  rw [show ltV (x, bv).1 (x, bv).2 = .agg #[.string x.f, .string x.t, bv] from rfl]
  obtain ⟨bA, bc, hbv, hbc, hAd⟩ := own_shape HO5.out
  subst hbv
  go_wp2_with fail
  refine WpN.of ?_
  go_upto_region 5 with fail
  have b6 : Below w5.heap.size w5 (w5.alloc (.cells #[.string x.f, .string x.t, .slice bA x.n bc] 34)) := (Below.refl _ _).alloc (Nat.le_refl _) _
  have R6 := HR5.out.of_block (b6.block w.heap.size (by have := HS5.out; omega))
  have X6 := row_new w5 #[.string x.f, .string x.t, .slice bA x.n bc] 34 3 (letF x.f x.t (.slice bA x.n bc)) rfl (let_at _ _ _)
  have H6 := Lib.hid (H5.out.keep (fun b hb => b6.block b (H5.out.lt b hb)))
  have HO6 := Lib.hid (HO5.out.below b6)
  have HL6 := Lib.hid (HL5.out.trans (Cache.Leaves.of_below (F := fun b => b = cb) b6) (fun _ h _ => h))
  clear b6 HR5 HO5 HL5 z0 z1 z2 f0 f1 f2
  generalize w5.alloc (.cells #[.string x.f, .string x.t, .slice bA x.n bc] 34) = w6 at *
  generalize w5.heap.size = k5 at *
  have z0 := R6.cell (i := 0) (by omega)
  have z1 := R6.cell (i := 1) (by omega)
  have z2 := R6.cell (i := 2) (by omega)
  have f0 := R6.frozen 0
  have f1 := R6.frozen 1
  have f2 := R6.frozen 2
  have x0 := X6.cell (i := 0) (by omega)
  have x1 := X6.cell (i := 1) (by omega)
  have x2 := X6.cell (i := 2) (by omega)
  simp only [let0, let1, let2] at z0 z1 z2 x0 x1 x2
  have HR6 := Lib.hid R6
  clear R6 X6
  go_wp2_with fail
  obtain ⟨y0, y1, y2, oth, hsz, hbl⟩ := set3 HR6.out (Below.refl w.heap.size w6) (Nat.le_refl _) x.f x.t (.slice bA x.n bc) _ rfl
  have hlt : ∀ b, ownF gn cb ps b → b < w.heap.size := fun b hb => HIN.out.lt b (hb.elim .inl (fun h => .inr (h.elim .inl (fun ⟨q, hq, hqb⟩ => .inr ⟨q, List.mem_cons_of_mem _ hq, hqb⟩))))
  have HRp := Lib.hid (H6.out.keep (W' := ((w6.setCell ⟨w.heap.size, 0, none⟩ (.string x.f)).setCell ⟨w.heap.size, 1, none⟩ (.string x.t)).setCell ⟨w.heap.size, 2, none⟩ (.slice bA x.n bc)) (fun b hb => oth b (by have := hlt b hb; omega)))
  have HL : Hid (Cache.Leaves (fun b => b = cb) w (((w6.setCell ⟨w.heap.size, 0, none⟩ (.string x.f)).setCell ⟨w.heap.size, 1, none⟩ (.string x.t)).setCell ⟨w.heap.size, 2, none⟩ (.slice bA x.n bc))) := Lib.hid
    ⟨hbl.os.trans HL6.out.os, hbl.tape.trans HL6.out.tape, hbl.output.trans HL6.out.output, by rw [hsz]; exact HL6.out.size, fun b hb hn => (oth b (by omega)).trans (HL6.out.block b hb hn)⟩
  have HO8 := Lib.hid (HO6.out.keep (fun b hb => oth b (by have := HBV.out b hb; omega)))
  clear oth hsz hbl H6 HO6 HL6 HR6 hlt
  generalize (((w6.setCell ⟨w.heap.size, 0, none⟩ (.string x.f)).setCell ⟨w.heap.size, 1, none⟩ (.string x.t)).setCell ⟨w.heap.size, 2, none⟩ (.slice bA x.n bc)) = W7 at *
  exact bodyPost_ret (v := .tuple #[.agg #[.string x.f, .string x.t, .slice bA x.n bc], .bool true]) (by simp [results, Try.results12, go_sem, y0, y1, y2]) rfl
    ⟨rfl, HRp.out, HL.out, HO8.out⟩
end Go.Proofs.Ytefghgoeppfpfaa.Net
