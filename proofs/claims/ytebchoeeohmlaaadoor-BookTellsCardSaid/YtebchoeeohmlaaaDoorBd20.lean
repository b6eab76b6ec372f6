/-
  What Dead does: the library's search for a word. What Same does: the library's Equal of entries and of words. What the document's 'at' and Dead do of a book.
-/
import Derived.Test.YtebchoeeohmlaaaDoorBd11
import Derived.Test.YtebchoeeohmlaaaDoorBd19
import Derived.Test.YtebchoeeohmlaaaDoorBd06
import Derived.Test.YtebchoeeohmlaaaDoorBd04
import Derived.Test.YtebchoeeohmlaaaDoorBd08
import Derived.Test.YtebchoeeohmlaaaDoorBd01
import Derived.Test.YtebchoeeohmlaaaDoorBd28
import Derived.WalkSmall
import Derived.WalkMore
import Derived.OwnWalk
import Derived.BigQuiet
import Derived.Deep.DeepCutAuto
namespace Go.Proofs.YtebchoeeohmlaaaDoor.Book
open Go Go.RowKit Go.Proofs.YtebchoeeohmlaaaDoor.Aid
open Go.Proofs.YtebchoeeohmlaaaDoor.Cache (idxK)

theorem idx_mem {c : List Wd} {k : Wd} : decide (0 ≤ idxK c k) = decide (k ∈ c) := by
  have e : idxK c k = if k ∈ c then (Cache.atN c k : Int) else -1 := by
    unfold idxK Cache.hasK
    by_cases h : k ∈ c
    · have hd : ∀ i : Decidable (k ∈ c), @decide _ i = true := fun i => @decide_eq_true _ i h
      exact (if_pos (hd _)).trans (if_pos h).symm
    · have hd : ∀ i : Decidable (k ∈ c), ¬ @decide _ i = true := fun i e => h (@of_decide_eq_true _ i e)
      exact (if_neg (hd _)).trans (if_neg h).symm
  rw [e]
  by_cases h : k ∈ c
  · rw [if_pos h, decide_eq_true h]
    exact decide_eq_true (Int.natCast_nonneg _)
  · rw [if_neg h, decide_eq_false h]
    rfl
set_option maxRecDepth 100000 in
set_option maxHeartbeats 2000000 in
theorem index_word (L : List Wd) (hN : L.length ≤ 100000) (hW : ∀ k ∈ L, k.length = 16) (kw : Wd) (hkw : kw.length = 16) (v : Value) (w : World) (hv : RowsAt w 16 L.length (fun i => wordR (L.getD i zw)) v) :
    Calls Tryd.prog 69 #[v, wordV kw] w fun x w' => x = .returned (.int .i64 (idxK L kw)) ∧ Below w.heap.size w w' := by
  have hb := (Below.refl w.heap.size w).alloc (Nat.le_refl _) (.cells (cellsOf 16 (wordF kw)) 26)
  have HK := Lib.hid (row_new w (cellsOf 16 (wordF kw)) 26 16 (wordF kw) (size_cellsOf _ _) (cellsOf_at _ _))
  have hV := rows_below hv hb
  have HB := Lib.hid hb
  obtain ⟨A, c, rfl, hr⟩ := hV
  have HV := Lib.hid hr
  have HW := Lib.hid hW
  have HKW := Lib.hid hkw
  obtain ⟨N, hNN⟩ : ∃ N, N = L.length := ⟨_, rfl⟩
  have HNN := Lib.hid hNN
  rw [← hNN] at hN ⊢
  clear hr hb hv hNN hW hkw
  unfold wordV
  go_enter Tryd.func69, Tryd.ntmps69
  generalize cellsOf 16 (wordF kw) = C at *
  go_upto_region 1 with fail
  generalize w.alloc (.cells C 26) = w1 at *
  go_wp2_with fail
  go_loopw [5, 8] (fun _ i wr => ∃ k : Nat, k ≤ N ∧ i = .int .i64 (k : Int) ∧ Hid (∀ j, j < k → L[j]? ≠ some kw) ∧ (∃ q, wr = w1.drewN q)) (fun _ i _ => N - (intOf i).toNat)
  case atStart => exact ⟨0, by omega, rfl, Lib.hid (fun j hj => by omega), ⟨0, rfl⟩⟩
  case round =>
    obtain ⟨k, hk, rfl, hall, q, hwr⟩ := hrel
    have HBW : Hid (Below w.heap.size w wr) := Lib.hid (by rw [hwr]; exact HB.out.trans ⟨rfl, rfl, rfl, Nat.le_refl _, fun _ _ => rfl⟩)
    have HWR := Lib.hid hwr
    by_cases hlt : k < N
    · obtain ⟨b, o, rfl, hbA, hcc⟩ := HV.out (by have := HNN.out; omega)
      have hkl : k < L.length := by have := HNN.out; omega
      have hget := List.getElem?_eq_getElem hkl
      have hq : L.getD k zw = L[k] := by rw [List.getD_eq_getElem?_getD, hget]; rfl
      have HR : Hid (wr.rangeAt b (o + k * 16) ((List.range 16).map (wordF L[k]))) := Lib.hid (fun j u hu => by
        have h1 := hcc k hkl j u (by show (wordR (L.getD k zw))[j]? = _; rw [hq]; exact hu)
        rw [HWR.out]
        exact h1)
      have HKR : Hid (wr.rangeAt w.heap.size 0 ((List.range 16).map (wordF kw))) := Lib.hid (by rw [HWR.out]; exact range_row HK.out)
      have HLK := Lib.hid (HW.out _ (List.getElem_mem hkl))
      have HX := Lib.hid hget
      have q0 : (0 : Int) ≤ (k : Int) := by omega
      have q1 : (k : Int) < (N : Int) := by omega
      clear hget hq hcc hwr
      generalize L[k] = p at *
      clear hkl
      have HQ := Lib.hid (fun W => key_eql kw p HKW.out HLK.out W)
      go_upto_region 4 with fail
      refine region_mix (fun W => ∃ q, W = wr.drewN q) [(0, true), (1, true), (2, true), (3, true), (4, true), (5, true)] (by kernel_rfl) (by kernel_rfl) ⟨1, rfl⟩ ?_
      refine m_range rfl (by rfl) 26 (.tmp 3) (by rfl) w.heap.size 0 16 (wordF kw) (fun W ⟨q, hW⟩ => by subst hW; exact HKR.out) (by rfl) _ Tryd.underlying26 (by rfl) (by kernel_rfl) ?_
      simp only [Act.put, List.setIfInBounds_toArray, List.set_cons_zero, List.set_cons_succ]
      refine m_val rfl (by rfl) (.slice (some ⟨b, o, none⟩) N c) (fun W ⟨q, hW⟩ => by subst hW; go_simp) ?_
      simp only [Act.put, List.setIfInBounds_toArray, List.set_cons_zero, List.set_cons_succ]
      refine m_val rfl (by rfl) (.int .i64 (k : Int)) (fun W ⟨q, hW⟩ => by subst hW; go_simp) ?_
      simp only [Act.put, List.setIfInBounds_toArray, List.set_cons_zero, List.set_cons_succ]
      refine m_val rfl (by rfl) (.pointer (some ⟨b, o + k * 16, none⟩)) (fun W ⟨q, hW⟩ => by subst hW; go_simp) ?_
      simp only [Act.put, List.setIfInBounds_toArray, List.set_cons_zero, List.set_cons_succ]
      refine m_range rfl (by rfl) 26 (.tmp 14) (by rfl) b (o + k * 16) 16 (wordF p) (fun W ⟨q, hW⟩ => by subst hW; exact HR.out) (by rfl) _ Tryd.underlying26 (by rfl) (by kernel_rfl) ?_
      simp only [Act.put, List.setIfInBounds_toArray, List.set_cons_zero, List.set_cons_succ]
      have hq := HQ.out
      refine m_val rfl (by rfl) (.bool (decide (kw = p))) (fun W _ => by go_simp) ?_
      simp only [Act.put, List.setIfInBounds_toArray, List.set_cons_zero, List.set_cons_succ]
      refine m_end ?_
      clear hq HQ
      have HD : Hid (∃ q, wr.drew = w1.drewN q) := Lib.hid ⟨q + 1, by rw [HWR.out]; rfl⟩
      have HBD : Hid (Below w.heap.size w wr.drew) := Lib.hid (HBW.out.trans ⟨rfl, rfl, rfl, Nat.le_refl _, fun _ _ => rfl⟩)
      by_cases he : kw = p
      · have hr := Lib.hid (idx_at (HX.out.trans (congrArg some he.symm)) hall.out)
        rw [decide_eq_true he]
        clear hall he HWR
        go_wp2
        go_ret
        exact ⟨by rw [hr.out] <;> rfl, HBD.out⟩
      · have hall' : Hid (∀ j, j < k + 1 → L[j]? ≠ some kw) := Lib.hid (fun j hj => by
          by_cases e1 : j = k
          · subst e1
            rw [HX.out]
            exact fun e => he (Option.some.inj e).symm
          · exact hall.out j (by omega))
        rw [decide_eq_false he]
        clear hall he HWR
        go_wp2
        exact ⟨⟨k + 1, by omega, congrArg (Value.int .i64) (by omega), hall', HD.out⟩, by simp [intOf]; omega⟩
    · obtain rfl : k = N := by omega
      have hr := Lib.hid (idx_no (c := L) (k := kw) (fun j hj => hall.out j (by have := HNN.out; omega)))
      clear hall HV hwr HWR
      go_wp2
      go_ret
      exact ⟨by rw [hr.out] <;> rfl, HBW.out⟩
set_option maxRecDepth 100000 in
theorem contains_word (L : List Wd) (hN : L.length ≤ 100000) (hW : ∀ k ∈ L, k.length = 16) (kw : Wd) (hkw : kw.length = 16) (v : Value) (w : World) (hv : RowsAt w 16 L.length (fun i => wordR (L.getD i zw)) v) :
    Calls Tryd.prog 50 #[v, wordV kw] w fun x w' => x = .returned (.bool (decide (kw ∈ L))) ∧ Below w.heap.size w w' := by
  have hb := (Below.refl w.heap.size w).alloc (Nat.le_refl _) (.cells (cellsOf 16 (wordF kw)) 26)
  have HK := Lib.hid (row_new w (cellsOf 16 (wordF kw)) 26 16 (wordF kw) (size_cellsOf _ _) (cellsOf_at _ _))
  have HI := Lib.hid (index_word L hN hW kw hkw v _ (rows_below hv hb))
  have HB := Lib.hid hb
  have hm := idx_mem (c := L) (k := kw)
  obtain ⟨A, c, rfl, -⟩ := hv
  clear hb hW hkw
  unfold wordV at *
  go_enter Tryd.func50, Tryd.ntmps50
  go_upto_region 1 with fail
  generalize w.alloc (.cells (cellsOf 16 (wordF kw)) 26) = w1 at *
  go_wp2_with first
    | (refine load_whole (by rfl) 26 (.tmp 3) (by rfl) w.heap.size _ 16 _ HK.out (by rfl) _ Tryd.underlying26 (by rfl) (by kernel_rfl) ?_)
    | (go_at_call 69; refine HI.out.mono ?_; rintro _ w2 ⟨rfl, hb2⟩; have HB2 := Lib.hid (HB.out.trans (hb2.mono HB.out.size)); clear hb2)
  go_ret
  exact ⟨rfl, HB2.out⟩
set_option maxRecDepth 100000 in
set_option maxHeartbeats 1000000 in
theorem dead_any {w : World} (b : Bk) (Lv Rv : Value) (hR : RowsAt w 16 b.rev.length (revsL b) Rv) (hN : b.rev.length ≤ 100000) (hW : ∀ k ∈ b.rev, k.length = 16) (kw : Wd) (hkw : kw.length = 16) :
    Calls Tryd.prog 23 #[bookV b Lv Rv, wordV kw] w fun y w' => y = .returned (.bool (decide (kw ∈ b.rev))) ∧ Below w.heap.size w w' := by
  have hr := row_new w (cellsOf 19 (bookF b Lv Rv)) 38 19 (bookF b Lv Rv) (size_cellsOf _ _) (cellsOf_at _ _)
  have hb := (Below.refl w.heap.size w).alloc (Nat.le_refl _) (.cells (cellsOf 19 (bookF b Lv Rv)) 38)
  have c0 := hr.cell (i := 1) (by omega)
  have e0 : bookF b Lv Rv 1 = Rv := rfl
  rw [e0] at c0
  have HB := Lib.hid hb
  have HL := Lib.hid (rows_below hR hb)
  have HSZ : Hid ((w.alloc (.cells (cellsOf 19 (bookF b Lv Rv)) 38)).heap.size = w.heap.size + 1) := Lib.hid (by simp)
  have HW := Lib.hid hW
  have HKW := Lib.hid hkw
  obtain ⟨A, c, rfl, -⟩ := hR
  clear hr e0 hb hW hkw
  unfold bookV wordV
  generalize cellsOf 19 (bookF b Lv (.slice A b.rev.length c)) = C at *
  go_enter Tryd.func23, Tryd.ntmps23
  go_upto_region 1 with fail
  generalize w.alloc (.cells C 38) = w1 at *
  have hb2 : Below w1.heap.size w1 (w1.alloc (.cells (cellsOf 16 (wordF kw)) 26)) := (Below.refl _ _).alloc (Nat.le_refl _) _
  have HK := Lib.hid (row_new w1 (cellsOf 16 (wordF kw)) 26 16 (wordF kw) (size_cellsOf _ _) (cellsOf_at _ _))
  rw [HSZ.out] at HK
  have c1 := (hb2.cell (p := ⟨w.heap.size, 1, none⟩) (block_lt_of_cell c0)).trans c0
  have HI := Lib.hid (contains_word b.rev hN HW.out kw HKW.out _ _ (rows_below HL.out hb2))
  have HB2 := Lib.hid (HB.out.trans (hb2.mono HB.out.size))
  clear c0 HL HB HSZ hb2
  unfold wordV at *
  generalize w1.alloc (.cells (cellsOf 16 (wordF kw)) 26) = w2 at *
  go_wp2_with first
    | (refine load_whole (by rfl) 26 (.tmp 3) (by rfl) (w.heap.size + 1) _ 16 _ HK.out (by rfl) _ Tryd.underlying26 (by rfl) (by kernel_rfl) ?_)
    | (go_at_call 50; refine HI.out.mono ?_; rintro _ w3 ⟨rfl, hb3⟩; have HB3 := Lib.hid (HB2.out.trans (hb3.mono HB2.out.size)); clear hb3)
  go_ret
  exact ⟨rfl, HB3.out⟩
end Go.Proofs.YtebchoeeohmlaaaDoor.Book
namespace Go.Proofs.YtebchoeeohmlaaaDoor.Book
open Go Go.RowKit Go.Proofs.YtebchoeeohmlaaaDoor.Aid

theorem entq_neq (p q : ByteArray × Wd) (hp : p.2.length = 16) (hq : q.2.length = 16) (W : World) : (binOp .neq 95 (.agg (cellsOf 17 (entF p))) (.agg (cellsOf 17 (entF q)))).run Tryd.prog W = .ok (.bool (!decide (p = q))) W := by
  have hS : Tryd.prog.underlying 95 = some (.struct (Tryd.prog.fieldsOf 95)) := by kernel_rfl
  have hP : Tryd.prog.stoodInHeld 95 = false := by kernel_rfl
  have hk := word_same 9997 p.2 q.2 hp hq W
  have e1 : ∀ r : ByteArray × Wd, (cellsOf 17 (entF r)).extract 1 17 = cellsOf 16 (wordF r.2) := fun r => rfl
  have e0 : ∀ r : ByteArray × Wd, (cellsOf 17 (entF r))[0]? = some (.string r.1) := fun r => rfl
  rw [run_neq_struct, show (10000 : Nat) = 9999 + 1 from rfl, run_equalIn_struct W 9999 95 _ _ hS hP]
  simp only [Program.fieldsOf, Tryd.underlying95]
  go_simp
  have hs : (p.1.toList = q.1.toList) = (p.1 = q.1) := propext ⟨fun h => of_decide_eq_true ((str_beq p.1 q.1).symm.trans (beq_iff_eq.2 h)), fun h => by rw [h]⟩
  simp only [hs]
  obtain ⟨a, b⟩ := p
  obtain ⟨c, d⟩ := q
  by_cases h1 : a = c <;> by_cases h2 : b = d <;> simp [h1, h2]
set_option maxRecDepth 100000 in
set_option maxHeartbeats 2000000 in
theorem equalE (L M : List (ByteArray × Wd)) (hN : L.length ≤ 100000) (hL : ∀ k ∈ L, k.2.length = 16) (hM : ∀ k ∈ M, k.2.length = 16) (u v : Value) (w : World) (hu : RowsAt w 17 L.length (fun i => entR (L.getD i (nos, zw))) u) (hv : RowsAt w 17 M.length (fun i => entR (M.getD i (nos, zw))) v) :
    Calls Tryd.prog 47 #[u, v] w fun x w' => x = .returned (.bool (decide (L = M))) ∧ Below w.heap.size w w' := by
  obtain ⟨A, c, rfl, hu⟩ := hu
  obtain ⟨A', c', rfl, hv⟩ := hv
  have HU := Lib.hid hu
  have HV := Lib.hid hv
  have HL := Lib.hid hL
  have HM := Lib.hid hM
  obtain ⟨N, hNN⟩ : ∃ N, N = L.length := ⟨_, rfl⟩
  obtain ⟨N', hNN'⟩ : ∃ N, N = M.length := ⟨_, rfl⟩
  have HNN := Lib.hid hNN
  rw [← hNN] at hN ⊢
  clear hu hv hL hM
  by_cases hne : N = N'
  rotate_left
  · have HX : Hid (decide (L = M) = false) := Lib.hid (decide_eq_false (fun h => hne (by rw [hNN, hNN', h])))
    have q : ((N : Int) == (N' : Int)) = false := by simp; omega
    rw [← hNN']
    clear HU HV hne hNN hNN'
    go_enter Tryd.func47, Tryd.ntmps47
    go_wp2
    go_ret
    exact ⟨by rw [HX.out] <;> rfl, Below.refl _ _⟩
  rw [← hne] at hNN'
  have HMM := Lib.hid hNN'
  rw [← hNN']
  clear hne hNN hNN'
  have q : ((N : Int) == (N : Int)) = true := by simp
  go_enter Tryd.func47, Tryd.ntmps47
  go_wp2_with fail
  go_loopw [5, 13] (fun _ i wr => ∃ k : Nat, k ≤ N ∧ i = .int .i64 (k : Int) ∧ Hid (L.take k = M.take k) ∧ (∃ q, wr = w.drewN q)) (fun _ i _ => N - (intOf i).toNat)
  case atStart => exact ⟨0, by omega, rfl, Lib.hid rfl, ⟨0, rfl⟩⟩
  case round =>
    obtain ⟨k, hk, rfl, hall, qn, hwr⟩ := hrel
    have HBW : Hid (Below w.heap.size w wr) := Lib.hid (by rw [hwr]; exact ⟨rfl, rfl, rfl, Nat.le_refl _, fun _ _ => rfl⟩)
    have HWR := Lib.hid hwr
    by_cases hlt : k < N
    · obtain ⟨b, o, rfl, -, hcc⟩ := HU.out (by have := HNN.out; omega)
      obtain ⟨b', o', rfl, -, hcc'⟩ := HV.out (by have := HMM.out; omega)
      have hkl : k < L.length := by have := HNN.out; omega
      have hkm : k < M.length := by have := HMM.out; omega
      have hget := List.getElem?_eq_getElem hkl
      have hgem := List.getElem?_eq_getElem hkm
      have hq : L.getD k (nos, zw) = L[k] := by rw [List.getD_eq_getElem?_getD, hget]; rfl
      have hqm : M.getD k (nos, zw) = M[k] := by rw [List.getD_eq_getElem?_getD, hgem]; rfl
      have HR : Hid (wr.rangeAt b (o + k * 17) ((List.range 17).map (entF L[k]))) := Lib.hid (fun j u hu => by
        have h1 := hcc k hkl j u (by show (entR (L.getD k (nos, zw)))[j]? = _; rw [hq]; exact hu)
        rw [HWR.out]
        exact h1)
      have HR' : Hid (wr.rangeAt b' (o' + k * 17) ((List.range 17).map (entF M[k]))) := Lib.hid (fun j u hu => by
        have h1 := hcc' k hkm j u (by show (entR (M.getD k (nos, zw)))[j]? = _; rw [hqm]; exact hu)
        rw [HWR.out]
        exact h1)
      have HLK := Lib.hid (HL.out _ (List.getElem_mem hkl))
      have HMK := Lib.hid (HM.out _ (List.getElem_mem hkm))
      have HX : Hid (L.take (k + 1) = L.take k ++ [L[k]]) := Lib.hid (List.take_succ_eq_append_getElem hkl)
      have HY : Hid (M.take (k + 1) = M.take k ++ [M[k]]) := Lib.hid (List.take_succ_eq_append_getElem hkm)
      have HNE : Hid (L[k] ≠ M[k] → L ≠ M) := Lib.hid (fun h e => h (by subst e; rfl))
      have q0 : (0 : Int) ≤ (k : Int) := by omega
      have q1 : (k : Int) < (N : Int) := by omega
      clear hget hgem hq hqm hcc hcc' hwr
      generalize L[k] = p at *
      generalize M[k] = r at *
      clear hkl hkm
      have HQ := Lib.hid (fun W => entq_neq p r HLK.out HMK.out W)
      go_upto_region 6 with fail
      refine region_mix (fun W => ∃ q, W = wr.drewN q) [(0, true), (1, true), (2, true), (3, true), (4, true), (5, true), (6, true), (7, true), (8, true)] (by kernel_rfl) (by kernel_rfl) ⟨1, rfl⟩ ?_
      refine m_val rfl (by rfl) (.slice (some ⟨b, o, none⟩) N c) (fun W ⟨q, hW⟩ => by subst hW; go_simp) ?_
      simp only [Act.put, List.setIfInBounds_toArray, List.set_cons_zero, List.set_cons_succ]
      refine m_val rfl (by rfl) (.int .i64 (k : Int)) (fun W ⟨q, hW⟩ => by subst hW; go_simp) ?_
      simp only [Act.put, List.setIfInBounds_toArray, List.set_cons_zero, List.set_cons_succ]
      refine m_val rfl (by rfl) (.pointer (some ⟨b, o + k * 17, none⟩)) (fun W ⟨q, hW⟩ => by subst hW; go_simp) ?_
      simp only [Act.put, List.setIfInBounds_toArray, List.set_cons_zero, List.set_cons_succ]
      refine m_range rfl (by rfl) 95 (.tmp 18) (by rfl) b (o + k * 17) 17 (entF p) (fun W ⟨q, hW⟩ => by subst hW; exact HR.out) (by rfl) _ Tryd.underlying95 (by rfl) (by kernel_rfl) ?_
      simp only [Act.put, List.setIfInBounds_toArray, List.set_cons_zero, List.set_cons_succ]
      refine m_val rfl (by rfl) (.slice (some ⟨b', o', none⟩) N c') (fun W ⟨q, hW⟩ => by subst hW; go_simp) ?_
      simp only [Act.put, List.setIfInBounds_toArray, List.set_cons_zero, List.set_cons_succ]
      refine m_val rfl (by rfl) (.int .i64 (k : Int)) (fun W ⟨q, hW⟩ => by subst hW; go_simp) ?_
      simp only [Act.put, List.setIfInBounds_toArray, List.set_cons_zero, List.set_cons_succ]
      refine m_val rfl (by rfl) (.pointer (some ⟨b', o' + k * 17, none⟩)) (fun W ⟨q, hW⟩ => by subst hW; go_simp) ?_
      simp only [Act.put, List.setIfInBounds_toArray, List.set_cons_zero, List.set_cons_succ]
      refine m_range rfl (by rfl) 95 (.tmp 22) (by rfl) b' (o' + k * 17) 17 (entF r) (fun W ⟨q, hW⟩ => by subst hW; exact HR'.out) (by rfl) _ Tryd.underlying95 (by rfl) (by kernel_rfl) ?_
      simp only [Act.put, List.setIfInBounds_toArray, List.set_cons_zero, List.set_cons_succ]
      have hq := HQ.out
      refine m_val rfl (by rfl) (.bool (!decide (p = r))) (fun W _ => by go_simp) ?_
      simp only [Act.put, List.setIfInBounds_toArray, List.set_cons_zero, List.set_cons_succ]
      refine m_end ?_
      clear hq HQ
      have HD : Hid (∃ q, wr.drew = w.drewN q) := Lib.hid ⟨qn + 1, by rw [HWR.out]; rfl⟩
      have HBD : Hid (Below w.heap.size w wr.drew) := Lib.hid (HBW.out.trans ⟨rfl, rfl, rfl, Nat.le_refl _, fun _ _ => rfl⟩)
      by_cases he : p = r
      · have hall' : Hid (L.take (k + 1) = M.take (k + 1)) := Lib.hid (by rw [HX.out, HY.out, hall.out, he])
        rw [decide_eq_true he, show (!true) = false from rfl]
        clear hall he HWR
        go_wp2
        exact ⟨⟨k + 1, by omega, congrArg (Value.int .i64) (by omega), hall', HD.out⟩, by simp [intOf]; omega⟩
      · have hr : Hid (decide (L = M) = false) := Lib.hid (decide_eq_false (HNE.out he))
        rw [decide_eq_false he, show (!false) = true from rfl]
        clear hall he HWR
        go_wp2
        go_ret
        exact ⟨by rw [hr.out] <;> rfl, HBD.out⟩
    · obtain rfl : k = N := by omega
      have hr : Hid (decide (L = M) = true) := Lib.hid (decide_eq_true (by
        have := hall.out
        rw [List.take_of_length_le (by have := HNN.out; omega), List.take_of_length_le (by have := HMM.out; omega)] at this
        exact this))
      clear hall HV HU hwr HWR
      go_wp2
      go_ret
      exact ⟨by rw [hr.out] <;> rfl, HBW.out⟩
set_option maxRecDepth 100000 in
set_option maxHeartbeats 2000000 in
theorem equalW (L M : List Wd) (hN : L.length ≤ 100000) (hL : ∀ k ∈ L, k.length = 16) (hM : ∀ k ∈ M, k.length = 16) (u v : Value) (w : World) (hu : RowsAt w 16 L.length (fun i => wordR (L.getD i zw)) u) (hv : RowsAt w 16 M.length (fun i => wordR (M.getD i zw)) v) :
    Calls Tryd.prog 48 #[u, v] w fun x w' => x = .returned (.bool (decide (L = M))) ∧ Below w.heap.size w w' := by
  obtain ⟨A, c, rfl, hu⟩ := hu
  obtain ⟨A', c', rfl, hv⟩ := hv
  have HU := Lib.hid hu
  have HV := Lib.hid hv
  have HL := Lib.hid hL
  have HM := Lib.hid hM
  obtain ⟨N, hNN⟩ : ∃ N, N = L.length := ⟨_, rfl⟩
  obtain ⟨N', hNN'⟩ : ∃ N, N = M.length := ⟨_, rfl⟩
  have HNN := Lib.hid hNN
  rw [← hNN] at hN ⊢
  clear hu hv hL hM
  by_cases hne : N = N'
  rotate_left
  · have HX : Hid (decide (L = M) = false) := Lib.hid (decide_eq_false (fun h => hne (by rw [hNN, hNN', h])))
    have q : ((N : Int) == (N' : Int)) = false := by simp; omega
    rw [← hNN']
    clear HU HV hne hNN hNN'
    go_enter Tryd.func48, Tryd.ntmps48
    go_wp2
    go_ret
    exact ⟨by rw [HX.out] <;> rfl, Below.refl _ _⟩
  rw [← hne] at hNN'
  have HMM := Lib.hid hNN'
  rw [← hNN']
  clear hne hNN hNN'
  have q : ((N : Int) == (N : Int)) = true := by simp
  go_enter Tryd.func48, Tryd.ntmps48
  go_wp2_with fail
  go_loopw [5, 13] (fun _ i wr => ∃ k : Nat, k ≤ N ∧ i = .int .i64 (k : Int) ∧ Hid (L.take k = M.take k) ∧ (∃ q, wr = w.drewN q)) (fun _ i _ => N - (intOf i).toNat)
  case atStart => exact ⟨0, by omega, rfl, Lib.hid rfl, ⟨0, rfl⟩⟩
  case round =>
    obtain ⟨k, hk, rfl, hall, qn, hwr⟩ := hrel
    have HBW : Hid (Below w.heap.size w wr) := Lib.hid (by rw [hwr]; exact ⟨rfl, rfl, rfl, Nat.le_refl _, fun _ _ => rfl⟩)
    have HWR := Lib.hid hwr
    by_cases hlt : k < N
    · obtain ⟨b, o, rfl, -, hcc⟩ := HU.out (by have := HNN.out; omega)
      obtain ⟨b', o', rfl, -, hcc'⟩ := HV.out (by have := HMM.out; omega)
      have hkl : k < L.length := by have := HNN.out; omega
      have hkm : k < M.length := by have := HMM.out; omega
      have hget := List.getElem?_eq_getElem hkl
      have hgem := List.getElem?_eq_getElem hkm
      have hq : L.getD k zw = L[k] := by rw [List.getD_eq_getElem?_getD, hget]; rfl
      have hqm : M.getD k zw = M[k] := by rw [List.getD_eq_getElem?_getD, hgem]; rfl
      have HR : Hid (wr.rangeAt b (o + k * 16) ((List.range 16).map (wordF L[k]))) := Lib.hid (fun j u hu => by
        have h1 := hcc k hkl j u (by show (wordR (L.getD k zw))[j]? = _; rw [hq]; exact hu)
        rw [HWR.out]
        exact h1)
      have HR' : Hid (wr.rangeAt b' (o' + k * 16) ((List.range 16).map (wordF M[k]))) := Lib.hid (fun j u hu => by
        have h1 := hcc' k hkm j u (by show (wordR (M.getD k zw))[j]? = _; rw [hqm]; exact hu)
        rw [HWR.out]
        exact h1)
      have HLK := Lib.hid (HL.out _ (List.getElem_mem hkl))
      have HMK := Lib.hid (HM.out _ (List.getElem_mem hkm))
      have HX : Hid (L.take (k + 1) = L.take k ++ [L[k]]) := Lib.hid (List.take_succ_eq_append_getElem hkl)
      have HY : Hid (M.take (k + 1) = M.take k ++ [M[k]]) := Lib.hid (List.take_succ_eq_append_getElem hkm)
      have HNE : Hid (L[k] ≠ M[k] → L ≠ M) := Lib.hid (fun h e => h (by subst e; rfl))
      have q0 : (0 : Int) ≤ (k : Int) := by omega
      have q1 : (k : Int) < (N : Int) := by omega
      clear hget hgem hq hqm hcc hcc' hwr
      generalize L[k] = p at *
      generalize M[k] = r at *
      clear hkl hkm
      have HQ := Lib.hid (fun W => word_neq p r HLK.out HMK.out W)
      go_upto_region 6 with fail
      refine region_mix (fun W => ∃ q, W = wr.drewN q) [(0, true), (1, true), (2, true), (3, true), (4, true), (5, true), (6, true), (7, true), (8, true)] (by kernel_rfl) (by kernel_rfl) ⟨1, rfl⟩ ?_
      refine m_val rfl (by rfl) (.slice (some ⟨b, o, none⟩) N c) (fun W ⟨q, hW⟩ => by subst hW; go_simp) ?_
      simp only [Act.put, List.setIfInBounds_toArray, List.set_cons_zero, List.set_cons_succ]
      refine m_val rfl (by rfl) (.int .i64 (k : Int)) (fun W ⟨q, hW⟩ => by subst hW; go_simp) ?_
      simp only [Act.put, List.setIfInBounds_toArray, List.set_cons_zero, List.set_cons_succ]
      refine m_val rfl (by rfl) (.pointer (some ⟨b, o + k * 16, none⟩)) (fun W ⟨q, hW⟩ => by subst hW; go_simp) ?_
      simp only [Act.put, List.setIfInBounds_toArray, List.set_cons_zero, List.set_cons_succ]
      refine m_range rfl (by rfl) 26 (.tmp 18) (by rfl) b (o + k * 16) 16 (wordF p) (fun W ⟨q, hW⟩ => by subst hW; exact HR.out) (by rfl) _ Tryd.underlying26 (by rfl) (by kernel_rfl) ?_
      simp only [Act.put, List.setIfInBounds_toArray, List.set_cons_zero, List.set_cons_succ]
      refine m_val rfl (by rfl) (.slice (some ⟨b', o', none⟩) N c') (fun W ⟨q, hW⟩ => by subst hW; go_simp) ?_
      simp only [Act.put, List.setIfInBounds_toArray, List.set_cons_zero, List.set_cons_succ]
      refine m_val rfl (by rfl) (.int .i64 (k : Int)) (fun W ⟨q, hW⟩ => by subst hW; go_simp) ?_
      simp only [Act.put, List.setIfInBounds_toArray, List.set_cons_zero, List.set_cons_succ]
      refine m_val rfl (by rfl) (.pointer (some ⟨b', o' + k * 16, none⟩)) (fun W ⟨q, hW⟩ => by subst hW; go_simp) ?_
      simp only [Act.put, List.setIfInBounds_toArray, List.set_cons_zero, List.set_cons_succ]
      refine m_range rfl (by rfl) 26 (.tmp 22) (by rfl) b' (o' + k * 16) 16 (wordF r) (fun W ⟨q, hW⟩ => by subst hW; exact HR'.out) (by rfl) _ Tryd.underlying26 (by rfl) (by kernel_rfl) ?_
      simp only [Act.put, List.setIfInBounds_toArray, List.set_cons_zero, List.set_cons_succ]
      have hq := HQ.out
      refine m_val rfl (by rfl) (.bool (!decide (p = r))) (fun W _ => by go_simp) ?_
      simp only [Act.put, List.setIfInBounds_toArray, List.set_cons_zero, List.set_cons_succ]
      refine m_end ?_
      clear hq HQ
      have HD : Hid (∃ q, wr.drew = w.drewN q) := Lib.hid ⟨qn + 1, by rw [HWR.out]; rfl⟩
      have HBD : Hid (Below w.heap.size w wr.drew) := Lib.hid (HBW.out.trans ⟨rfl, rfl, rfl, Nat.le_refl _, fun _ _ => rfl⟩)
      by_cases he : p = r
      · have hall' : Hid (L.take (k + 1) = M.take (k + 1)) := Lib.hid (by rw [HX.out, HY.out, hall.out, he])
        rw [decide_eq_true he, show (!true) = false from rfl]
        clear hall he HWR
        go_wp2
        exact ⟨⟨k + 1, by omega, congrArg (Value.int .i64) (by omega), hall', HD.out⟩, by simp [intOf]; omega⟩
      · have hr : Hid (decide (L = M) = false) := Lib.hid (decide_eq_false (HNE.out he))
        rw [decide_eq_false he, show (!false) = true from rfl]
        clear hall he HWR
        go_wp2
        go_ret
        exact ⟨by rw [hr.out] <;> rfl, HBD.out⟩
    · obtain rfl : k = N := by omega
      have hr : Hid (decide (L = M) = true) := Lib.hid (decide_eq_true (by
        have := hall.out
        rw [List.take_of_length_le (by have := HNN.out; omega), List.take_of_length_le (by have := HMM.out; omega)] at this
        exact this))
      clear hall HV HU hwr HWR
      go_wp2
      go_ret
      exact ⟨by rw [hr.out] <;> rfl, HBW.out⟩
set_option maxRecDepth 100000 in
set_option maxHeartbeats 2000000 in
theorem same_any {w : World} (b c : Bk) (Lv Rv Lw Rw : Value) (hL : RowsAt w 17 b.L.length (entsL b) Lv) (hR : RowsAt w 16 b.rev.length (revsL b) Rv) (hL' : RowsAt w 17 c.L.length (entsL c) Lw) (hR' : RowsAt w 16 c.rev.length (revsL c) Rw) (rb : Reach b) (rc : Reach c) :
    Calls Tryd.prog 18 #[bookV b Lv Rv, bookV c Lw Rw] w fun y w' => y = .returned (.bool (decide (b.L = c.L) && (decide (b.rev = c.rev) && (decide (b.gen = c.gen) && decide (b.own = c.own))))) ∧ Below w.heap.size w w' := by
  have hb := (Below.refl w.heap.size w).alloc (Nat.le_refl _) (.cells (cellsOf 19 (bookF b Lv Rv)) 38)
  have HROW := Lib.hid (row_new w (cellsOf 19 (bookF b Lv Rv)) 38 19 (bookF b Lv Rv) (size_cellsOf _ _) (cellsOf_at _ _))
  have HSZ : Hid ((w.alloc (.cells (cellsOf 19 (bookF b Lv Rv)) 38)).heap.size = w.heap.size + 1) := Lib.hid (by simp)
  have HL := Lib.hid (rows_below hL hb)
  have HR := Lib.hid (rows_below hR hb)
  have HL' := Lib.hid (rows_below hL' hb)
  have HR' := Lib.hid (rows_below hR' hb)
  have HB := Lib.hid hb
  obtain ⟨A1, c1, rfl, -⟩ := hL
  obtain ⟨A2, c2, rfl, -⟩ := hR
  obtain ⟨A3, c3, rfl, -⟩ := hL'
  obtain ⟨A4, c4, rfl, -⟩ := hR'
  have HRB := Lib.hid rb
  have HRC := Lib.hid rc
  clear hb rb rc
  unfold bookV
  generalize hC : cellsOf 19 (bookF b (.slice A1 b.L.length c1) (.slice A2 b.rev.length c2)) = C at *
  clear hC
  go_enter Tryd.func18, Tryd.ntmps18
  go_upto_region 1 with fail
  generalize w.alloc (.cells C 38) = w1 at *
  have hb2 := (Below.refl w1.heap.size w1).alloc (Nat.le_refl _) (.cells (cellsOf 19 (bookF c (.slice A3 c.L.length c3) (.slice A4 c.rev.length c4))) 38)
  have HROW' := Lib.hid (row_new w1 (cellsOf 19 (bookF c (.slice A3 c.L.length c3) (.slice A4 c.rev.length c4))) 38 19 (bookF c (.slice A3 c.L.length c3) (.slice A4 c.rev.length c4)) (size_cellsOf _ _) (cellsOf_at _ _))
  rw [HSZ.out] at HROW'
  have HROW2 := Lib.hid (HROW.out.of_block (hb2.block w.heap.size (by have := HSZ.out; omega)))
  have HL2 := Lib.hid (rows_below HL.out hb2)
  have HR2 := Lib.hid (rows_below HR.out hb2)
  have HL2' := Lib.hid (rows_below HL'.out hb2)
  have HR2' := Lib.hid (rows_below HR'.out hb2)
  have HB2 := Lib.hid (HB.out.trans (hb2.mono HB.out.size))
  have HS2 : Hid (w.heap.size + 2 ≤ (w1.alloc (.cells (cellsOf 19 (bookF c (.slice A3 c.L.length c3) (.slice A4 c.rev.length c4))) 38)).heap.size) := Lib.hid (by have := HSZ.out; simp; omega)
  clear hb2 HROW HL HR HL' HR' HB HSZ
  generalize w1.alloc (.cells (cellsOf 19 (bookF c (.slice A3 c.L.length c3) (.slice A4 c.rev.length c4))) 38) = w2 at *
  have k0 := HROW2.out.cell (i := 0) (by omega)
  rw [show bookF b (.slice A1 b.L.length c1) (.slice A2 b.rev.length c2) 0 = .slice A1 b.L.length c1 from rfl] at k0
  have m0 := HROW'.out.cell (i := 0) (by omega)
  rw [show bookF c (.slice A3 c.L.length c3) (.slice A4 c.rev.length c4) 0 = .slice A3 c.L.length c3 from rfl] at m0
  have HE := Lib.hid (equalE b.L c.L (by have := HRB.out.most; omega) (fun p hp => (HRB.out.right p hp).2) (fun p hp => (HRC.out.right p hp).2) _ _ w2 HL2.out HL2'.out)
  go_wp2_with fail
  refine HE.out.mono ?_
  rintro _ w3 ⟨rfl, hb3⟩
  have HROW3 := Lib.hid (HROW2.out.of_block (hb3.block w.heap.size (by have := HS2.out; omega)))
  have HROW3' := Lib.hid (HROW'.out.of_block (hb3.block (w.heap.size + 1) (by have := HS2.out; omega)))
  have HR3 := Lib.hid (rows_below HR2.out hb3)
  have HR3' := Lib.hid (rows_below HR2'.out hb3)
  have HB3 := Lib.hid (HB2.out.trans (hb3.mono HB2.out.size))
  have HS3 : Hid (w.heap.size + 2 ≤ w3.heap.size) := Lib.hid (Nat.le_trans HS2.out hb3.size)
  clear hb3 HE HROW2 HROW' HL2 HL2' HR2 HR2' HB2 HS2 k0 m0
  have k1 := HROW3.out.cell (i := 1) (by omega)
  rw [show bookF b (.slice A1 b.L.length c1) (.slice A2 b.rev.length c2) 1 = .slice A2 b.rev.length c2 from rfl] at k1
  have m1 := HROW3'.out.cell (i := 1) (by omega)
  rw [show bookF c (.slice A3 c.L.length c3) (.slice A4 c.rev.length c4) 1 = .slice A4 c.rev.length c4 from rfl] at m1
  by_cases h1 : b.L = c.L
  rotate_left
  · have HD : Hid (decide (b.L = c.L) = false) := Lib.hid (decide_eq_false h1)
    rw [HD.out]
    clear h1
    go_wp2
    go_ret
    exact ⟨by rw [HD.out] <;> rfl, HB3.out⟩
  have HD1 : Hid (decide (b.L = c.L) = true) := Lib.hid (decide_eq_true h1)
  rw [HD1.out]
  clear h1
  have HE := Lib.hid (equalW b.rev c.rev (by have := HRB.out.revs; omega) HRB.out.words HRC.out.words _ _ w3 HR3.out HR3'.out)
  go_wp2_with fail
  refine HE.out.mono ?_
  rintro _ w4 ⟨rfl, hb4⟩
  have HROW4 := Lib.hid (HROW3.out.of_block (hb4.block w.heap.size (by have := HS3.out; omega)))
  have HROW4' := Lib.hid (HROW3'.out.of_block (hb4.block (w.heap.size + 1) (by have := HS3.out; omega)))
  have HB4 := Lib.hid (HB3.out.trans (hb4.mono HB3.out.size))
  clear hb4 HE HROW3 HROW3' HR3 HR3' HB3 HS3 k1 m1
  have k2 := HROW4.out.cell (i := 2) (by omega)
  rw [show bookF b (.slice A1 b.L.length c1) (.slice A2 b.rev.length c2) 2 = .int .i64 b.gen from rfl] at k2
  have m2 := HROW4'.out.cell (i := 2) (by omega)
  rw [show bookF c (.slice A3 c.L.length c3) (.slice A4 c.rev.length c4) 2 = .int .i64 c.gen from rfl] at m2
  by_cases h2 : b.rev = c.rev
  rotate_left
  · have HD : Hid (decide (b.rev = c.rev) = false) := Lib.hid (decide_eq_false h2)
    rw [HD.out]
    clear h2
    go_wp2
    go_ret
    exact ⟨by rw [HD1.out, HD.out] <;> rfl, HB4.out⟩
  have HD2 : Hid (decide (b.rev = c.rev) = true) := Lib.hid (decide_eq_true h2)
  rw [HD2.out]
  clear h2
  by_cases h3 : b.gen = c.gen
  rotate_left
  · have HD : Hid (decide (b.gen = c.gen) = false) := Lib.hid (decide_eq_false h3)
    have q : (b.gen == c.gen) = false := by simpa using h3
    clear h3
    go_wp2
    go_ret
    exact ⟨by rw [HD1.out, HD2.out, HD.out] <;> rfl, HB4.out⟩
  have HD3 : Hid (decide (b.gen = c.gen) = true) := Lib.hid (decide_eq_true h3)
  have q : (b.gen == c.gen) = true := by simpa using h3
  have HO1 := own_cells b (.slice A1 b.L.length c1) (.slice A2 b.rev.length c2)
  have HO2 := own_cells c (.slice A3 c.L.length c3) (.slice A4 c.rev.length c4)
  have hq := fun W => key_eql b.own c.own HRB.out.ownLen HRC.out.ownLen W
  clear h3
  go_wp2_with first
    | (refine load_as (by rfl) 26 (.tmp 25) (by rfl) w.heap.size 3 _ 19 16 _ _ HO1 HROW4.out (by rfl) _ Tryd.underlying26 (by rfl) (by kernel_rfl) (by omega) ?_)
    | (refine load_as (by rfl) 26 (.tmp 27) (by rfl) (w.heap.size + 1) 3 _ 19 16 _ _ HO2 HROW4'.out (by rfl) _ Tryd.underlying26 (by rfl) (by kernel_rfl) (by omega) ?_)
  go_ret
  exact ⟨by rw [HD1.out, HD2.out, HD3.out] <;> rfl, HB4.out⟩
end Go.Proofs.YtebchoeeohmlaaaDoor.Book
namespace Go.Proofs.YtebchoeeohmlaaaDoor.Book
open Go Go.RowKit Go.Proofs.YtebchoeeohmlaaaDoor.Aid Go.Proofs.YtebchoeeohmlaaaDoor.Field

/-- Where the first entry of that name is. -/
def AtSpec (L : List (ByteArray × Wd)) (n : ByteArray) (r : Int) : Prop := (n ∉ namesB L ∧ r = -1) ∨ ∃ A p B, L = A ++ p :: B ∧ p.1 = n ∧ n ∉ namesB A ∧ r = (A.length : Int)
theorem at_no {L : List (ByteArray × Wd)} {n : ByteArray} {r : Int} (h : AtSpec L n r) (hh : hasN L n = false) : r = -1 := by
  rcases h with ⟨_, h⟩ | ⟨A, p, B, rfl, hp, _, _⟩
  · exact h
  · exact absurd (by unfold namesB; rw [List.map_append, List.map_cons, hp]; simp) (hasG_no hh)
theorem at_yes {L : List (ByteArray × Wd)} {n : ByteArray} {r : Int} (h : AtSpec L n r) (hh : hasN L n = true) : ∃ A p B, L = A ++ p :: B ∧ p.1 = n ∧ n ∉ namesB A ∧ r = (A.length : Int) := by
  rcases h with ⟨h, _⟩ | h
  · exact absurd (by simpa [hasN, hasG] using hh) h
  · exact h
theorem rm_at (n : ByteArray) (p : ByteArray × Wd) (B : List (ByteArray × Wd)) (hp : p.1 = n) : ∀ A : List (ByteArray × Wd), n ∉ namesB A → rmN n (A ++ p :: B) = A ++ B
  | [], _ => by show (if p.1 = n then B else _) = B; rw [if_pos hp]
  | q :: A, h => by
    unfold namesB at h
    rw [List.map_cons, List.mem_cons, not_or] at h
    show (if q.1 = n then A ++ p :: B else q :: rmN n (A ++ p :: B)) = q :: (A ++ B)
    rw [if_neg (fun e => h.1 e.symm), rm_at n p B hp A h.2]
theorem re_at (n : ByteArray) (k : Wd) (p : ByteArray × Wd) (B : List (ByteArray × Wd)) (hp : p.1 = n) : ∀ A : List (ByteArray × Wd), n ∉ namesB A → reN n k (A ++ p :: B) = A ++ (p.1, k) :: B
  | [], _ => by show (if p.1 = n then (p.1, k) :: B else _) = _; rw [if_pos hp]; rfl
  | q :: A, h => by
    unfold namesB at h
    rw [List.map_cons, List.mem_cons, not_or] at h
    show (if q.1 = n then (q.1, k) :: (A ++ p :: B) else q :: reN n k (A ++ p :: B)) = q :: (A ++ (p.1, k) :: B)
    rw [if_neg (fun e => h.1 e.symm), re_at n k p B hp A h.2]
theorem key_at (n : ByteArray) (p : ByteArray × Wd) (B : List (ByteArray × Wd)) (hp : p.1 = n) : ∀ A : List (ByteArray × Wd), n ∉ namesB A → keyB n (A ++ p :: B) = p.2
  | [], _ => by show (if p.1 = n then p.2 else _) = _; rw [if_pos hp]
  | q :: A, h => by
    unfold namesB at h
    rw [List.map_cons, List.mem_cons, not_or] at h
    show (if q.1 = n then q.2 else keyB n (A ++ p :: B)) = p.2
    rw [if_neg (fun e => h.1 e.symm), key_at n p B hp A h.2]
theorem key_no (n : ByteArray) : ∀ L : List (ByteArray × Wd), n ∉ namesB L → keyB n L = zw
  | [], _ => rfl
  | q :: L, h => by
    unfold namesB at h
    rw [List.map_cons, List.mem_cons, not_or] at h
    show (if q.1 = n then q.2 else keyB n L) = zw
    rw [if_neg (fun e => h.1 e.symm), key_no n L h.2]
set_option maxRecDepth 100000 in
set_option maxHeartbeats 8000000 in
theorem refAt_any {w : World} {b : Bk} {Lv Rv : Value} (n : ByteArray) (h : BookAt w b Lv Rv) : Calls Tryd.prog 46 #[bookV b Lv Rv, .string n] w fun y w' => (∃ r, y = .returned (.int .i64 r) ∧ AtSpec b.L n r) ∧ Below w.heap.size w w' := by
  have hr := row_new w (cellsOf 19 (bookF b Lv Rv)) 41 19 (bookF b Lv Rv) (size_cellsOf _ _) (cellsOf_at _ _)
  have hb := Lib.hid ((Below.refl w.heap.size w).alloc (Nat.le_refl _) (.cells (cellsOf 19 (bookF b Lv Rv)) 41))
  have hL := rows_below h.ents hb.out
  have hm := h.reach.most
  obtain ⟨A, c, rfl, hE⟩ := hL
  have HE := Lib.hid hE
  have c0 := hr.cell (i := 0) (by omega)
  have e0 : bookF b (.slice A b.L.length c) Rv 0 = .slice A b.L.length c := rfl
  rw [e0] at c0
  unfold bookV
  generalize hf : bookF b (.slice A b.L.length c) Rv = f at *
  clear hf hE h hr e0
  go_enter Tryd.func46, Tryd.ntmps46
  generalize cellsOf 19 f = C at *
  go_upto_region 1 with fail
  generalize w.alloc (.cells C 41) = w1 at *
  go_wp2_with fail
  go_loopw [5] (fun iv wr => ∃ k : Nat, k ≤ b.L.length ∧ iv = .int .i64 (k : Int) ∧ wr = w1 ∧ Hid (n ∉ namesB (b.L.take k))) (fun i _ => b.L.length - (intOf i).toNat)
  case atStart => exact ⟨0, by omega, rfl, rfl, Lib.hid (by simp [namesB])⟩
  case round =>
    obtain ⟨k, hk, rfl, rfl, hno⟩ := hrel
    by_cases hlt : k < b.L.length
    · have q1 : (k : Int) < (b.L.length : Int) := by omega
      have q0 : (0 : Int) ≤ (k : Int) := by omega
      obtain ⟨bA, o, rfl, hbA, hc⟩ := HE.out (by omega)
      have cn := ent_name rfl hc k hlt
      clear hc HE
      have hget : b.L[k]? = some (b.L.getD k (nos, zw)) := by rw [List.getD_eq_getElem?_getD, List.getElem?_eq_getElem hlt]; rfl
      have hspl : b.L = b.L.take k ++ b.L.getD k (nos, zw) :: b.L.drop (k + 1) := by
        rw [List.getElem?_eq_getElem hlt] at hget
        rw [← Option.some.inj hget, ← List.drop_eq_getElem_cons hlt, List.take_append_drop]
      have htk : b.L.take (k + 1) = b.L.take k ++ [b.L.getD k (nos, zw)] := by rw [List.take_add_one, hget]; rfl
      have HSP := Lib.hid hspl
      have HTK := Lib.hid htk
      have HLT := Lib.hid (show k + 1 ≤ b.L.length ∧ (b.L.take k).length = k from ⟨by omega, List.length_take_of_le (by omega)⟩)
      clear hget hspl htk hlt
      generalize b.L.getD k (nos, zw) = p at *
      have hbq := str_beq p.1 n
      have hw : wrap64 ((k : Int) + 1) = ((k + 1 : Nat) : Int) := by unfold wrap64; omega
      by_cases hpn : p.1 = n
      · rw [decide_eq_true hpn] at hbq
        have HPN := Lib.hid hpn
        clear hpn
        go_wp2
        go_ret
        exact ⟨⟨_, rfl, .inr ⟨_, p, _, HSP.out, HPN.out, hno.out, by rw [HLT.out.2]⟩⟩, hb.out⟩
      · rw [decide_eq_false hpn] at hbq
        have HPN := Lib.hid hpn
        clear hpn
        go_wp2
        refine ⟨⟨k + 1, HLT.out.1, by rw [Int.natCast_add]; rfl, trivial, Lib.hid ?_⟩, ?_⟩
        · rw [HTK.out]
          unfold namesB
          rw [List.map_append, List.mem_append, not_or]
          exact ⟨hno.out, by simpa using fun e => HPN.out e.symm⟩
        · have := HLT.out.1
          simp [intOf]
          omega
    · have q1 : ¬ (k : Int) < (b.L.length : Int) := by omega
      have HNO : Hid (n ∉ namesB b.L) := Lib.hid (by have := hno.out; rwa [List.take_of_length_le (by omega)] at this)
      go_wp2
      go_ret
      exact ⟨⟨_, rfl, .inl ⟨HNO.out, rfl⟩⟩, hb.out⟩
set_option maxRecDepth 100000 in
set_option maxHeartbeats 8000000 in
theorem refDead_any {w : World} {b : Bk} {Lv Rv : Value} (kw : Wd) (h : BookAt w b Lv Rv) (hkw : kw.length = 16) : Calls Tryd.prog 24 #[bookV b Lv Rv, wordV kw] w fun y w' => y = .returned (.bool (decide (kw ∈ b.rev))) ∧ Below w.heap.size w w' := by
  have hr := row_new w (cellsOf 19 (bookF b Lv Rv)) 41 19 (bookF b Lv Rv) (size_cellsOf _ _) (cellsOf_at _ _)
  have hb := (Below.refl w.heap.size w).alloc (Nat.le_refl _) (.cells (cellsOf 19 (bookF b Lv Rv)) 41)
  have hm := h.reach.revs
  have hwd := h.reach.words
  have hsz : w.heap.size < (w.alloc (.cells (cellsOf 19 (bookF b Lv Rv)) 41)).heap.size := World.rowIs.lt hr
  have hR := rows_below h.revs hb
  have c1 := hr.cell (i := 1) (by omega)
  have e1 : bookF b Lv Rv 1 = Rv := rfl
  rw [e1] at c1
  have HW : Hid (∀ k ∈ b.rev, k.length = 16) := Lib.hid hwd
  unfold bookV wordV
  generalize hf : bookF b Lv Rv = f at *
  clear hf h hr e1 hwd
  go_enter Tryd.func24, Tryd.ntmps24
  generalize cellsOf 19 f = C at *
  go_upto_region 1 with fail
  have hk2 := row_new (w.alloc (.cells C 41)) (cellsOf 16 (wordF kw)) 26 16 (wordF kw) (size_cellsOf _ _) (cellsOf_at _ _)
  have hb2 : Below (w.alloc (.cells C 41)).heap.size (w.alloc (.cells C 41)) ((w.alloc (.cells C 41)).alloc (.cells (cellsOf 16 (wordF kw)) 26)) := (Below.refl _ _).alloc (Nat.le_refl _) _
  have hs1 : (w.alloc (.cells C 41)).heap.size = w.heap.size + 1 := by simp
  have c1' := (hb2.cell (p := ⟨w.heap.size, 1, none⟩) hsz).trans c1
  have hR2 := rows_below hR hb2
  have hB := hb.trans (hb2.mono hb.size)
  rw [hs1] at hk2
  clear c1 hR hb hb2 hs1 hsz
  generalize (w.alloc (.cells C 41)).alloc (.cells (cellsOf 16 (wordF kw)) 26) = W0 at *
  generalize w.heap.size + 1 = gk at *
  have HB := Lib.hid hB
  obtain ⟨A, c, rfl, hE⟩ := hR2
  have HE := Lib.hid hE
  have HK2 := Lib.hid hk2
  have HC1 := Lib.hid c1'
  clear hE hB hk2 c1'
  go_wp2_with fail
  go_loopw [5] (fun iv wr => ∃ k : Nat, k ≤ b.rev.length ∧ iv = .int .i64 (k : Int) ∧ (∃ q, wr = W0.drewN q) ∧ Hid (kw ∉ b.rev.take k)) (fun i _ => b.rev.length - (intOf i).toNat)
  case atStart => exact ⟨0, by omega, rfl, ⟨0, rfl⟩, Lib.hid (by simp)⟩
  case round =>
    obtain ⟨k, hk, rfl, ⟨q, hwr⟩, hno⟩ := hrel
    have c1 : wr.cell? ⟨w.heap.size, 1, none⟩ = some (.slice A b.rev.length c) := by rw [hwr]; exact HC1.out
    have HBW : Hid (Below w.heap.size w wr) := Lib.hid (by rw [hwr]; exact HB.out.trans ⟨rfl, rfl, rfl, Nat.le_refl _, fun _ _ => rfl⟩)
    have HWR := Lib.hid hwr
    by_cases hlt : k < b.rev.length
    · have q1 : (k : Int) < (b.rev.length : Int) := by omega
      have q0 : (0 : Int) ≤ (k : Int) := by omega
      obtain ⟨bA, o, rfl, hbA, hc⟩ := HE.out (by omega)
      have cn := rev_key rfl hc k hlt
      have hget : b.rev[k]? = some (b.rev.getD k zw) := by rw [List.getD_eq_getElem?_getD, List.getElem?_eq_getElem hlt]; rfl
      have HTK : Hid (b.rev.take (k + 1) = b.rev.take k ++ [b.rev.getD k zw]) := Lib.hid (by rw [List.take_add_one, hget]; rfl)
      have HIN : Hid (b.rev.getD k zw ∈ b.rev) := Lib.hid (List.mem_of_getElem? hget)
      have HQ := Lib.hid (fun W => key_eql (b.rev.getD k zw) kw (HW.out _ HIN.out) hkw W)
      have HLT := Lib.hid (show k + 1 ≤ b.rev.length from hlt)
      have HCN := Lib.hid cn
      clear hget cn hwr hc hlt HE
      generalize b.rev.getD k zw = p at *
      go_upto_region 4 with fail
      refine region_mix (fun W => ∃ q, W = wr.drewN q) [(0, true), (1, true), (2, true), (3, true), (4, true), (5, true), (6, true)] (by kernel_rfl) (by kernel_rfl) ⟨1, rfl⟩ ?_
      refine m_val rfl (by rfl) (.pointer (some ⟨w.heap.size, 1, none⟩)) (fun W ⟨q, hW⟩ => by subst hW; go_simp) ?_
      simp only [Act.put, List.setIfInBounds_toArray, List.set_cons_zero, List.set_cons_succ]
      refine m_val rfl (by rfl) (.slice (some ⟨bA, o, none⟩) b.rev.length c) (fun W ⟨q, hW⟩ => by subst hW; go_simp) ?_
      simp only [Act.put, List.setIfInBounds_toArray, List.set_cons_zero, List.set_cons_succ]
      refine m_val rfl (by rfl) (.int .i64 (k : Int)) (fun W ⟨q, hW⟩ => by subst hW; go_simp) ?_
      simp only [Act.put, List.setIfInBounds_toArray, List.set_cons_zero, List.set_cons_succ]
      refine m_val rfl (by rfl) (.pointer (some ⟨bA, o + k * 16, none⟩)) (fun W ⟨q, hW⟩ => by subst hW; go_simp) ?_
      simp only [Act.put, List.setIfInBounds_toArray, List.set_cons_zero, List.set_cons_succ]
      refine m_range rfl (by rfl) 26 (.tmp 16) (by rfl) bA (o + k * 16) 16 (wordF p) (fun W ⟨q, hW⟩ => by subst hW; rw [HWR.out]; exact HCN.out) (by rfl) _ Tryd.underlying26 (by rfl) (by kernel_rfl) ?_
      simp only [Act.put, List.setIfInBounds_toArray, List.set_cons_zero, List.set_cons_succ]
      refine m_range rfl (by rfl) 26 (.tmp 3) (by rfl) gk 0 16 (wordF kw) (fun W ⟨q, hW⟩ => by subst hW; rw [HWR.out]; exact range_row HK2.out) (by rfl) _ Tryd.underlying26 (by rfl) (by kernel_rfl) ?_
      simp only [Act.put, List.setIfInBounds_toArray, List.set_cons_zero, List.set_cons_succ]
      have hq := HQ.out
      refine m_val rfl (by rfl) (.bool (decide (p = kw))) (fun W _ => by go_simp) ?_
      simp only [Act.put, List.setIfInBounds_toArray, List.set_cons_zero, List.set_cons_succ]
      refine m_end ?_
      have hw : wrap64 ((k : Int) + 1) = ((k + 1 : Nat) : Int) := by unfold wrap64; omega
      by_cases hpn : p = kw
      · have HM : Hid (kw ∈ b.rev) := Lib.hid (by rw [← hpn]; exact HIN.out)
        have HBD : Hid (Below w.heap.size w wr.drew) := Lib.hid (HBW.out.trans ⟨rfl, rfl, rfl, Nat.le_refl _, fun _ _ => rfl⟩)
        rw [decide_eq_true hpn]
        clear hpn hq c1
        generalize wr.drew = W1 at *
        go_wp2
        go_ret
        exact ⟨by rw [decide_eq_true HM.out]; rfl, HBD.out⟩
      · rw [decide_eq_false hpn]
        have HPN := Lib.hid hpn
        clear hpn hq
        go_wp2
        refine ⟨⟨k + 1, HLT.out, by rw [Int.natCast_add]; rfl, ⟨q + 1, by rw [HWR.out]; rfl⟩, Lib.hid ?_⟩, ?_⟩
        · rw [HTK.out, List.mem_append, not_or]
          exact ⟨hno.out, by simpa using fun e => HPN.out e.symm⟩
        · have := HLT.out
          simp [intOf]
          omega
    · have q1 : ¬ (k : Int) < (b.rev.length : Int) := by omega
      clear hwr
      have HNO : Hid (kw ∉ b.rev) := Lib.hid (by have := hno.out; rwa [List.take_of_length_le (by omega)] at this)
      go_wp2
      go_ret
      exact ⟨by rw [decide_eq_false HNO.out]; rfl, HBW.out⟩
end Go.Proofs.YtebchoeeohmlaaaDoor.Book
