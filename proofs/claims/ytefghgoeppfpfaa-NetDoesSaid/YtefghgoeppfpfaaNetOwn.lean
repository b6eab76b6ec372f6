/-
  The program's own net: New, Len, Later, Twice, and the bundle that the laws of layer 12 ask for.
-/
import Derived.Test.YtefghgoeppfpfaaNetStep
namespace Go.Proofs.Ytefghgoeppfpfaa.Net
open Go Go.RowKit Go.Conc Go.Proofs.Ytefghgoeppfpfaa.Aid Go.Proofs.Ytefghgoeppfpfaa.Cache

theorem wrap64_own {x : Int} (h1 : -9223372036854775808 ≤ x) (h2 : x ≤ 9223372036854775807) : wrap64 x = x := by
  unfold wrap64
  omega
section
variable {w : World} {gn cb m s r : Nat} {x : Lt} {bv : Value} {ps : List (Lt × Value)}
theorem OwnIn.first_apart (h : OwnIn w gn cb m s r ((x, bv) :: ps)) : ∀ b, bv.ownBlock = some b → b ≠ gn ∧ ¬ chanF cb ps b := fun b hb =>
  ⟨fun e => h.off (.inr ⟨_, List.mem_cons_self .., e ▸ hb⟩), fun hf => by
    rcases hf with e | ⟨q, hq, hqb⟩
    · exact h.ch.off _ (List.mem_cons_self ..) (e ▸ hb)
    · exact (List.pairwise_cons.1 h.ch.apart).1 q hq b hb hqb⟩
set_option maxRecDepth 100000 in
set_option maxHeartbeats 2000000 in
theorem later_nil (h : OwnIn w gn cb m s r []) : Calls Try.prog 15 #[.pointer (some ⟨gn, 0, none⟩)] w fun e w' => e = .returned (.bool false) ∧ OwnIn w' gn cb m s r [] ∧ Below w.heap.size w w' := by
  have HT := Lib.hid (take_nil h)
  clear h
  go_enter Try.func15, Try.ntmps15
  go_wp2_with fail
  refine HT.out.mono ?_
  rintro _ w1 ⟨rfl, h1, hb1⟩
  rw [show ltV zeroL (.slice none 0 0) = .agg #[.string ⟨#[]⟩, .string ⟨#[]⟩, .slice none 0 0] from rfl]
  have HB2 := Lib.hid (hb1.alloc hb1.size (.cells #[.string ⟨#[]⟩, .string ⟨#[]⟩, .slice none 0 0] 34))
  have H2 := Lib.hid (h1.keep (W' := w1.alloc (.cells #[.string ⟨#[]⟩, .string ⟨#[]⟩, .slice none 0 0] 34)) (fun b hb => ((Below.refl _ w1).alloc (Nat.le_refl _) _).block b (h1.lt b hb)))
  clear h1 hb1 HT
  go_wp2_with fail
  go_ret
  exact ⟨rfl, H2.out, HB2.out⟩
set_option maxRecDepth 100000 in
set_option maxHeartbeats 2000000 in
theorem later_cons (h : OwnIn w gn cb m s r ((x, bv) :: ps)) : Calls Try.prog 15 #[.pointer (some ⟨gn, 0, none⟩)] w fun e w' => e = .returned (.bool true) ∧ ∃ s', OwnIn w' gn cb m s' (r + 1) (ps ++ [(x, bv)]) ∧ Cache.Leaves (fun b => b = cb) w w' := by
  have HT := Lib.hid (take_cons h)
  have hap := h.first_apart
  have hlen : ps.length < m := by have := h.ch.len; simp at this; omega
  have hx : x.n ≤ 2000 := (h.ch.own _ (List.mem_cons_self ..)).2
  have hbs : ∀ b, bv.ownBlock = some b → b < w.heap.size := fun b hb => h.lt b (.inr (.inr ⟨_, List.mem_cons_self .., hb⟩))
  obtain ⟨A, c, rfl, -, -⟩ := own_shape (show Own w 0 x.n x.e bv from (h.ch.own _ (List.mem_cons_self ..)).1)
  have HAP := Lib.hid hap
  have HBS := Lib.hid hbs
  clear h hap hbs
  go_enter Try.func15, Try.ntmps15
  go_wp2_with fail
  refine HT.out.mono ?_
  rintro _ w1 ⟨rfl, h1, hl1, ho1⟩
  have H1 := Lib.hid h1
  have HL1 := Lib.hid hl1
  have HO1 := Lib.hid ho1
  clear h1 hl1 ho1 HT
  unfold ltV
  have b2 : Below w1.heap.size w1 (w1.alloc (.cells #[.string x.f, .string x.t, .slice A x.n c] 34)) := (Below.refl _ _).alloc (Nat.le_refl _) _
  have h2 := H1.out.keep (fun b hb => b2.block b (H1.out.lt b hb))
  have HP := Lib.hid (put_own h2 x (.slice A x.n c) (HO1.out.below b2) hx HAP.out)
  have HL2 : Hid (Cache.Leaves (fun b => b = cb) w (w1.alloc (.cells #[.string x.f, .string x.t, .slice A x.n c] 34))) := Lib.hid (HL1.out.trans (Cache.Leaves.of_below b2) (fun _ h _ => h))
  clear b2 h2 HO1 HL1
  go_wp2_with fail
  refine Calls.mono (show Calls Try.prog 21 #[.pointer (some ⟨gn, 0, none⟩), ltV x (.slice A x.n c)] _ _ from HP.out) ?_
  rintro _ w3 ⟨rfl, s', h3, hl3⟩
  have e : putP m ps (x, .slice A x.n c) = ps ++ [(x, .slice A x.n c)] := by unfold putP; rw [if_pos hlen]
  rw [e] at h3
  have H3 := Lib.hid h3
  have HL3 := Lib.hid (HL2.out.trans hl3 (fun _ h _ => h))
  clear h3 hl3 HP HL2 e
  go_wp2
  go_ret
  exact ⟨rfl, s', H3.out, HL3.out⟩
/-- Of no letter. -/
theorem len_step (h : OwnIn w gn cb m s r ps) : Calls Try.prog 19 #[.pointer (some ⟨gn, 0, none⟩)] w fun e w' => e = .returned (.int .i64 (ps.length : Int)) ∧ w' = w := by
  have e0 := h.row.cell (i := 0) (by omega)
  have hlen := fun ty => run_len_chan (P := Try.prog) 55 ty Try.underlying55 h.ch.ch
  have hsz : goInt (bufOf ps).size = .int .i64 (ps.length : Int) := by rw [bufOf_size]; rfl
  rw [hsz] at hlen
  clear h hsz
  go_enter Try.func19, Try.ntmps19
  go_wp2
  go_ret
  exact ⟨rfl, rfl⟩
set_option maxRecDepth 100000 in
set_option maxHeartbeats 2000000 in
theorem twice_nil (h : OwnIn w gn cb m s r []) : Calls Try.prog 17 #[.pointer (some ⟨gn, 0, none⟩)] w fun e w' => e = .returned (.int .i64 4) ∧ OwnIn w' gn cb m s r [] ∧ Below w.heap.size w w' := by
  have HT := Lib.hid (take_nil h)
  clear h
  go_enter Try.func17, Try.ntmps17
  go_wp2_with fail
  refine HT.out.mono ?_
  rintro _ w1 ⟨rfl, h1, hb1⟩
  rw [show ltV zeroL (.slice none 0 0) = .agg #[.string ⟨#[]⟩, .string ⟨#[]⟩, .slice none 0 0] from rfl]
  have HB2 := Lib.hid (hb1.alloc hb1.size (.cells #[.string ⟨#[]⟩, .string ⟨#[]⟩, .slice none 0 0] 34))
  have H2 := Lib.hid (h1.keep (W' := w1.alloc (.cells #[.string ⟨#[]⟩, .string ⟨#[]⟩, .slice none 0 0] 34)) (fun b hb => ((Below.refl _ w1).alloc (Nat.le_refl _) _).block b (h1.lt b hb)))
  clear h1 hb1 HT
  go_wp2_with fail
  go_ret
  exact ⟨rfl, H2.out, HB2.out⟩
set_option maxRecDepth 100000 in
set_option maxHeartbeats 2000000 in
theorem twice_cons (h : OwnIn w gn cb m s r ((x, bv) :: ps)) : Calls Try.prog 17 #[.pointer (some ⟨gn, 0, none⟩)] w fun e w' => e = .returned (.int .i64 (sendC m (((x, bv) :: ps).map (·.1)))) ∧ ∃ s' r' cv, OwnIn w' gn cb m s' r' (putP m ((x, bv) :: ps) (x, cv)) ∧ Cache.Leaves (fun b => b = cb) w w' ∧ ∀ b, cv.ownBlock = some b → w.heap.size ≤ b := by
  have HT := Lib.hid (take_cons h)
  have hap := h.first_apart
  have hlen : ps.length < m := by have := h.ch.len; simp at this; omega
  have hm : m ≤ 1000 := h.most.2
  have hx : x.n ≤ 2000 := (h.ch.own _ (List.mem_cons_self ..)).2
  have hcb : cb < w.heap.size := h.lt cb (.inr (.inl rfl))
  obtain ⟨A, c, rfl, -, -⟩ := own_shape (show Own w 0 x.n x.e bv from (h.ch.own _ (List.mem_cons_self ..)).1)
  have HAP := Lib.hid hap
  have HMM := Lib.hid hm
  have HCB := Lib.hid hcb
  clear h hap hm hcb
  go_enter Try.func17, Try.ntmps17
  go_wp2_with fail
  refine HT.out.mono ?_
  rintro _ w1 ⟨rfl, h1, hl1, ho1⟩
  have H1 := Lib.hid h1
  have HL1 := Lib.hid hl1
  have HO1 := Lib.hid ho1
  clear h1 hl1 ho1 HT
  unfold ltV
  have b2 : Below w1.heap.size w1 (w1.alloc (.cells #[.string x.f, .string x.t, .slice A x.n c] 34)) := (Below.refl _ _).alloc (Nat.le_refl _) _
  have h2 := H1.out.keep (fun b hb => b2.block b (H1.out.lt b hb))
  have HP := Lib.hid (put_own h2 x (.slice A x.n c) (HO1.out.below b2) hx HAP.out)
  have HL2 : Hid (Cache.Leaves (fun b => b = cb) w (w1.alloc (.cells #[.string x.f, .string x.t, .slice A x.n c] 34))) := Lib.hid (HL1.out.trans (Cache.Leaves.of_below b2) (fun _ h _ => h))
  have R2 := row_new w1 #[.string x.f, .string x.t, .slice A x.n c] 34 3 (letF x.f x.t (.slice A x.n c)) rfl (let_at _ _ _)
  have HR2 := Lib.hid R2
  have HK : Hid (w1.heap.size ≠ cb ∧ w1.heap.size < (w1.alloc (.cells #[.string x.f, .string x.t, .slice A x.n c] 34)).heap.size ∧ w.heap.size ≤ w1.heap.size) := Lib.hid ⟨by have := HL1.out.size; have := HCB.out; omega, by simp, HL1.out.size⟩
  clear b2 h2 HO1 HL1 R2 H1
  go_wp2_with fail
  refine Calls.mono (show Calls Try.prog 21 #[.pointer (some ⟨gn, 0, none⟩), ltV x (.slice A x.n c)] _ _ from HP.out) ?_
  rintro _ w3 ⟨rfl, s', h3, hl3⟩
  have e : putP m ps (x, .slice A x.n c) = ps ++ [(x, .slice A x.n c)] := by unfold putP; rw [if_pos hlen]
  rw [e] at h3
  have H3 := Lib.hid h3
  have HR3 := Lib.hid (HR2.out.of_block (hl3.block w1.heap.size HK.out.2.1 HK.out.1))
  have HL3 := Lib.hid (HL2.out.trans hl3 (fun _ h _ => h))
  have HK3 : Hid (w1.heap.size ≠ cb ∧ w1.heap.size < w3.heap.size ∧ w.heap.size ≤ w1.heap.size) := Lib.hid ⟨HK.out.1, Nat.lt_of_lt_of_le HK.out.2.1 hl3.size, HK.out.2.2⟩
  clear h3 hl3 HP HL2 e HR2 HK
  generalize w1.heap.size = k at *
  go_wp2_with fail
  refine (len_step H3.out).mono ?_
  rintro _ _ ⟨rfl, rfl⟩
  have e1 : wrap64 (ps.length : Int) = (ps.length : Int) := wrap64_own (by omega) (by have := HMM.out; omega)
  go_wp2_with fail
  rw [e1]
  clear e1
  go_loopw [18] (fun i wr => ∃ (j : Nat), i = .int .i64 (j : Int) ∧ j ≤ ps.length ∧ Hid (∃ (a b : List (Lt × Value)) (s' r' : Nat), ps = a ++ b ∧ a.length = j ∧ OwnIn wr gn cb m s' r' (b ++ (x, .slice A x.n c) :: a)) ∧ Hid (wr.rowIs k 34 3 (letF x.f x.t (.slice A x.n c))) ∧ Hid (Cache.Leaves (fun b => b = cb) w wr) ∧ Hid (k ≠ cb ∧ k < wr.heap.size ∧ w.heap.size ≤ k)) (fun i _ => ps.length - (intOf i).toNat)
  case atStart => exact ⟨0, rfl, Nat.zero_le _, Lib.hid ⟨[], ps, s', r + 1, rfl, rfl, H3.out⟩, HR3, HL3, HK3⟩
  case round =>
    clear H3 HR3 HL3 HK3
    obtain ⟨j, rfl, hj, H4, HR4, HL4, HK4⟩ := hrel
    by_cases hlt : j < ps.length
    · have q1 : (j : Int) < (ps.length : Int) := by omega
      have CALL : Calls Try.prog 15 #[.pointer (some ⟨gn, 0, none⟩)] wr fun e w' => e = .returned (.bool true) ∧ (∃ (a b : List (Lt × Value)) (s' r' : Nat), ps = a ++ b ∧ a.length = j + 1 ∧ OwnIn w' gn cb m s' r' (b ++ (x, .slice A x.n c) :: a)) ∧ Cache.Leaves (fun b => b = cb) wr w' := by
        obtain ⟨a, b, s1, r1, hab, ha, h4⟩ := H4.out
        cases b with
        | nil => rw [hab] at hlt; simp at hlt; omega
        | cons p b =>
          obtain ⟨y, yv⟩ := p
          exact (later_cons h4).mono (fun e w' ⟨h1, s2, h2, h3⟩ => ⟨h1, ⟨a ++ [(y, yv)], b, s2, _, by rw [hab]; simp, by simp [ha], by simpa using h2⟩, h3⟩)
      have HC := Lib.hid CALL
      have w1 : wrap64 ((j : Int) + 1) = ((j + 1 : Nat) : Int) := (wrap64_own (by omega) (by have := HMM.out; omega)).trans (by omega)
      clear CALL H4
      go_wp2_with fail
      refine HC.out.mono ?_
      rintro _ w5 ⟨rfl, h5, hl5⟩
      have HR5 := Lib.hid (HR4.out.of_block (hl5.block k HK4.out.2.1 HK4.out.1))
      have HL5 := Lib.hid (HL4.out.trans hl5 (fun _ h _ => h))
      have HK5 : Hid (k ≠ cb ∧ k < w5.heap.size ∧ w.heap.size ≤ k) := Lib.hid ⟨HK4.out.1, Nat.lt_of_lt_of_le HK4.out.2.1 hl5.size, HK4.out.2.2⟩
      have H5 := Lib.hid h5
      clear h5 hl5 HC HR4 HL4 HK4
      go_wp2
      rw [w1]
      exact ⟨⟨j + 1, rfl, by omega, H5, HR5, HL5, HK5⟩, by simp [intOf]; omega⟩
    · obtain rfl : j = ps.length := by omega
      have h5 : ∃ s1 r1, OwnIn wr gn cb m s1 r1 ((x, .slice A x.n c) :: ps) := by
        obtain ⟨a, b, s1, r1, hab, ha, h4⟩ := H4.out
        have hb0 : b = [] := by
          have := congrArg List.length hab
          simp at this
          exact List.length_eq_zero_iff.1 (by omega)
        subst hb0
        simp at hab
        subst hab
        exact ⟨s1, r1, h4⟩
      obtain ⟨s1, r1, h5⟩ := h5
      have c0 := HR4.out.cell (i := 0) (by omega)
      have c1 := HR4.out.cell (i := 1) (by omega)
      have c2 := HR4.out.cell (i := 2) (by omega)
      simp only [let0, let1, let2] at c0 c1 c2
      have hs5 : SliceOf wr wr.heap.size x.n x.e (.slice A x.n c) := (show Own wr 0 x.n x.e (.slice A x.n c) from (h5.ch.own _ (List.mem_cons_self ..)).1).slice (.inr (Nat.le_refl _))
      have HS := Lib.hid (send_own h5 x (.slice A x.n c) hs5 hx)
      have HSZ : Hid (w.heap.size ≤ wr.heap.size) := Lib.hid HL4.out.size
      clear h5 hs5 H4 HR4 HK4
      go_wp2_with fail
      refine Calls.mono (show Calls Try.prog 10 #[.pointer (some ⟨gn, 0, none⟩), ltV x (.slice A x.n c)] _ _ from HS.out) ?_
      rintro _ w6 ⟨rfl, s2, cv, h6, hl6, hn6⟩
      have H6 := Lib.hid h6
      have HL6 := Lib.hid (HL4.out.trans hl6 (fun _ h _ => h))
      have HN6 : Hid (∀ b, cv.ownBlock = some b → w.heap.size ≤ b) := Lib.hid (fun b hb => Nat.le_trans HSZ.out (hn6 b hb))
      clear h6 hl6 hn6 HS HL4
      go_wp2
      go_ret
      exact ⟨rfl, s2, r1, cv, H6.out, HL6.out, HN6.out⟩
end
theorem info_letter : (Try.prog.info? 34).map (fun i => i.bytes) = some 56 := by kernel_rfl
theorem mk_chan (n : Nat) (hn : n ≤ 1000) (w : World) : (Instr.makeChan 55 (.int .i64 (n : Int))).run Try.prog w = .ok (.chan (some w.heap.size)) (w.alloc (.chan n #[] false 0 0 false)) := by
  obtain ⟨i, hi, hb⟩ := Option.map_eq_some_iff.1 info_letter
  exact run_makeChan (P := Try.prog) (w := w) Try.underlying55 hi .i64 n (by omega) (by rw [hb]; omega)
theorem newNet_no (room : Int) (w : World) (h : ¬ (1 ≤ room ∧ room ≤ 1000)) : Calls Try.prog 8 #[.int .i64 room] w fun x w' => x = .returned (.tuple #[.pointer none, .int .i64 1]) ∧ Below w.heap.size w w' := by
  by_cases h1 : room < 1
  · clear h
    go_enter Try.func8, Try.ntmps8
    go_wp2
    go_ret2
    exact ⟨rfl, Below.refl _ _⟩
  · have h2 : (1000 : Int) < room := by omega
    clear h
    go_enter Try.func8, Try.ntmps8
    go_wp2
    go_ret2
    exact ⟨rfl, Below.refl _ _⟩
theorem newNet_ok (room : Nat) (w : World) (h : 1 ≤ room ∧ room ≤ 1000) : Calls Try.prog 8 #[.int .i64 (room : Int)] w fun x w' => ∃ v F, x = .returned (.tuple #[v, .int .i64 0]) ∧ RepOwn w' F v room [] ∧ (∀ b, F b → w.heap.size ≤ b) ∧ Below w.heap.size w w' := by
  have h1 : ¬ (room : Int) < 1 := by omega
  have h2 : ¬ (1000 : Int) < (room : Int) := by omega
  have hmk := mk_chan room h.2 w
  have b1 := (Below.refl w.heap.size w).alloc (Nat.le_refl _) (.chan room #[] false 0 0 false)
  have b2 := b1.alloc (by simp) (.cells #[.chan (some w.heap.size)] 57)
  have hr : RepOwn ((w.alloc (.chan room #[] false 0 0 false)).alloc (.cells #[.chan (some w.heap.size)] 57)) (fun b => b = w.heap.size + 1 ∨ chanF w.heap.size [] b) (.pointer (some ⟨w.heap.size + 1, 0, none⟩)) room [] := by
    refine ⟨w.heap.size + 1, w.heap.size, 0, 0, [], rfl, rfl, fun _ => Iff.rfl, ⟨?_, ⟨?_, (fun p hp => by cases hp), List.Pairwise.nil, (fun p hp => by cases hp), Nat.zero_le _⟩, ?_, h⟩⟩
    · have := row_new (w.alloc (.chan room #[] false 0 0 false)) #[.chan (some w.heap.size)] 57 1 (fun _ => .chan (some w.heap.size)) rfl (fun i hi => by
        obtain rfl : i = 0 := by simp at hi; omega
        rfl)
      simpa using this
    · rw [((Below.refl _ _).alloc (Nat.le_refl _) (.cells #[.chan (some w.heap.size)] 57) : Below (w.alloc (.chan room #[] false 0 0 false)).heap.size _ _).block w.heap.size (by simp)]
      exact heap_alloc_new w _
    · rintro (e | ⟨p, hp, _⟩)
      · omega
      · cases hp
  have HR := Lib.hid hr
  have HB := Lib.hid b2
  have HF : Hid (∀ b, (b = w.heap.size + 1 ∨ chanF w.heap.size [] b) → w.heap.size ≤ b) := Lib.hid (by
    rintro b (rfl | rfl | ⟨p, hp, _⟩)
    · omega
    · exact Nat.le_refl _
    · cases hp)
  clear hr b1 b2 h
  go_enter Try.func8, Try.ntmps8
  go_wp2
  go_ret2
  exact ⟨_, rfl, _, HR.out, HF.out, HB.out⟩
theorem putP_fst (m : Nat) (ps : List (Lt × Value)) (x : Lt) (cv : Value) : (putP m ps (x, cv)).map (·.1) = sendL m (ps.map (·.1)) x := by
  unfold putP sendL
  rw [List.length_map]
  split <;> simp
section
variable {w w' : World} {F : Nat → Prop} {v : Value} {m : Nat} {l : List Lt} {gn cb s r s' r' : Nat} {ps ps' : List (Lt × Value)}
theorem leaves_cb (hF : ∀ b, F b ↔ ownF gn cb ps b) (hl : Cache.Leaves (fun b => b = cb) w w') : Cache.Leaves F w w' :=
  ⟨hl.os, hl.tape, hl.output, hl.size, fun k hk hn => hl.block k hk (fun e => hn ((hF k).2 (.inr (.inl e))))⟩
theorem moved_own (hF : ∀ b, F b ↔ ownF gn cb ps b) (hl : Cache.Leaves (fun b => b = cb) w w') (h' : OwnIn w' gn cb m s' r' ps') (hb : ∀ q ∈ ps', ∀ b, q.2.ownBlock = some b → F b ∨ w.heap.size ≤ b) :
    Moved RepOwn F w w' (.pointer (some ⟨gn, 0, none⟩)) m (ps'.map (·.1)) :=
  ⟨ownF gn cb ps', h'.rep, leaves_cb hF hl, fun b h => by
    rcases h with e | e | ⟨q, hq, hqb⟩
    · exact .inl ((hF b).2 (.inl e))
    · exact .inl ((hF b).2 (.inr (.inl e)))
    · exact hb q hq b hqb⟩
theorem old_blocks (hF : ∀ b, F b ↔ ownF gn cb ps b) : ∀ q ∈ ps, ∀ b, q.2.ownBlock = some b → F b := fun q hq b hqb => (hF b).2 (.inr (.inr ⟨q, hq, hqb⟩))
theorem putP_blocks (hF : ∀ b, F b ↔ ownF gn cb ps b) {x : Lt} {cv : Value} (hn : ∀ b, cv.ownBlock = some b → w.heap.size ≤ b) : ∀ q ∈ putP m ps (x, cv), ∀ b, q.2.ownBlock = some b → F b ∨ w.heap.size ≤ b := fun q hq b hqb => by
  unfold putP at hq
  split at hq
  · rcases List.mem_append.1 hq with h | h
    · exact .inl (old_blocks hF q h b hqb)
    · obtain rfl := List.mem_singleton.1 h
      exact .inr (hn b hqb)
  · exact .inl (old_blocks hF q hq b hqb)
theorem own_take (h : RepOwn w F v m l) : Calls Try.prog 12 #[v] w fun e w' => ∃ bv F', e = .returned (.tuple #[ltV (l.headD zeroL) bv, .bool (decide (0 < l.length))]) ∧ RepOwn w' F' v m l.tail ∧ Cache.Leaves F w w' ∧ (∀ b, F' b → F b ∨ w.heap.size ≤ b) ∧ TakenOwn w w' F F' (l.headD zeroL).n (l.headD zeroL).e bv ∧ SliceOf w' w'.heap.size (l.headD zeroL).n (l.headD zeroL).e bv := by
  obtain ⟨gn, cb, s, r, ps, rfl, rfl, hF, hin⟩ := h
  cases ps with
  | nil =>
    refine (take_nil hin).mono ?_
    rintro _ w1 ⟨rfl, h1, hb⟩
    exact ⟨_, ownF gn cb [], rfl, h1.rep, Cache.Leaves.of_below hb, fun b hb => .inl ((hF b).2 hb), ⟨none, 0, rfl, Nat.le_refl _, fun h => absurd h (Nat.lt_irrefl _)⟩, ⟨none, 0, rfl, Nat.le_refl _, fun h => absurd h (Nat.lt_irrefl _)⟩⟩
  | cons p ps =>
    obtain ⟨x, bv⟩ := p
    have hap := hin.first_apart
    refine (take_cons hin).mono ?_
    rintro _ w1 ⟨rfl, h1, hl, ho⟩
    refine ⟨bv, ownF gn cb ps, rfl, h1.rep, leaves_cb hF hl, fun b hb => .inl ((hF b).2 ?_), ?_, ho.slice (.inr (Nat.le_refl _))⟩
    · rcases hb with e | e | ⟨q, hq, hqb⟩
      · exact .inl e
      · exact .inr (.inl e)
      · exact .inr (.inr ⟨q, List.mem_cons_of_mem _ hq, hqb⟩)
    · show TakenOwn w w1 F (ownF gn cb ps) x.n x.e bv
      rcases ho.form with ⟨rfl, hz⟩ | ⟨g, cap, cur, rfl, _, hglt, hc, hh, _, hj⟩
      · rw [hz]; exact ⟨none, 0, rfl, Nat.le_refl _, fun h => absurd h (Nat.lt_irrefl _)⟩
      · exact ⟨_, cap, rfl, hc, fun _ => ⟨g, 0, rfl, .inl ((hF g).2 (.inr (.inr ⟨_, List.mem_cons_self .., rfl⟩))), fun h => h.elim (hap g rfl).1 (hap g rfl).2, fun j hjn => by rw [Nat.zero_add, cell_of_row _ g j cur _ _ hh]; exact hj j hjn, fun j => by simp [World.frozen?, hh]⟩⟩
/-- The program's own net is one. -/
theorem netOwn : NetHas RepOwn where
  form := {
    keep := fun W W' F v m l h hk => by
      obtain ⟨gn, cb, s, r, ps, rfl, rfl, hF, hin⟩ := h
      exact ⟨gn, cb, s, r, ps, rfl, rfl, hF, hin.keep (fun b hb => hk b ((hF b).2 hb))⟩
    lt := fun h b hb => by
      obtain ⟨gn, cb, s, r, ps, rfl, rfl, hF, hin⟩ := h
      exact hin.lt b ((hF b).1 hb)
    ptr := fun h => by
      obtain ⟨gn, cb, s, r, ps, rfl, rfl, hF, hin⟩ := h
      exact ⟨_, rfl⟩
    fits := fun h => by
      obtain ⟨gn, cb, s, r, ps, rfl, rfl, hF, hin⟩ := h
      exact ⟨by rw [List.length_map]; exact hin.ch.len, hin.most.1, hin.most.2⟩
    small := fun h => by
      obtain ⟨gn, cb, s, r, ps, rfl, rfl, hF, hin⟩ := h
      cases ps with
      | nil => exact Nat.zero_le _
      | cons p ps => exact (hin.ch.own p (List.mem_cons_self ..)).2
    new_no := newNet_no
    new_ok := newNet_ok
    send := fun x bv h hs hx => by
      obtain ⟨gn, cb, s, r, ps, rfl, rfl, hF, hin⟩ := h
      refine (send_own hin x bv hs hx).mono ?_
      rintro _ w1 ⟨rfl, s', cv, h1, hl, hn⟩
      have := moved_own hF hl h1 (putP_blocks hF hn)
      rw [putP_fst] at this
      exact ⟨rfl, this⟩
    take := fun h => (own_take h).mono (fun e w' ⟨bv, F', h1, h2, h3, h4, h5, h6⟩ => ⟨bv, h1, ⟨F', h2, h3, h4⟩, h6⟩)
    later := fun h => by
      obtain ⟨gn, cb, s, r, ps, rfl, rfl, hF, hin⟩ := h
      cases ps with
      | nil =>
        refine (later_nil hin).mono ?_
        rintro _ w1 ⟨rfl, h1, hb⟩
        exact ⟨rfl, ownF gn cb [], h1.rep, Cache.Leaves.of_below hb, fun b hb => .inl ((hF b).2 hb)⟩
      | cons p ps =>
        obtain ⟨x, bv⟩ := p
        refine (later_cons hin).mono ?_
        rintro _ w1 ⟨rfl, s', h1, hl⟩
        have := moved_own hF hl h1 (fun q hq b hqb => .inl (by
          rcases List.mem_append.1 hq with h | h
          · exact old_blocks hF q (List.mem_cons_of_mem _ h) b hqb
          · obtain rfl := List.mem_singleton.1 h
            exact old_blocks hF _ (List.mem_cons_self ..) b hqb))
        rw [List.map_append] at this
        exact ⟨rfl, this⟩
    twice := fun h => by
      obtain ⟨gn, cb, s, r, ps, rfl, rfl, hF, hin⟩ := h
      cases ps with
      | nil =>
        refine (twice_nil hin).mono ?_
        rintro _ w1 ⟨rfl, h1, hb⟩
        exact ⟨rfl, ownF gn cb [], h1.rep, Cache.Leaves.of_below hb, fun b hb => .inl ((hF b).2 hb)⟩
      | cons p ps =>
        obtain ⟨x, bv⟩ := p
        refine (twice_cons hin).mono ?_
        rintro _ w1 ⟨rfl, s', r', cv, h1, hl, hn⟩
        have := moved_own hF hl h1 (putP_blocks hF hn)
        rw [putP_fst] at this
        exact ⟨rfl, this⟩ }
  len := fun h => by
    obtain ⟨gn, cb, s, r, ps, rfl, rfl, hF, hin⟩ := h
    refine (len_step hin).mono ?_
    rintro _ _ ⟨rfl, rfl⟩
    exact ⟨by rw [List.length_map], ownF gn cb ps, hin.rep, Cache.Leaves.refl _ _, fun b hb => .inl ((hF b).2 hb)⟩
  own := fun h => (own_take h).mono (fun e w' ⟨bv, F', h1, h2, h3, h4, h5, h6⟩ => ⟨bv, F', h1, h2, h3, h4, h5⟩)
end
end Go.Proofs.Ytefghgoeppfpfaa.Net
