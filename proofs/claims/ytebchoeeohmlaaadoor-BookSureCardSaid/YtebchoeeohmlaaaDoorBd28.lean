/-
  What Key does. What Ops does.
-/
import Derived.Test.YtebchoeeohmlaaaDoorBd15
import Derived.Test.YtebchoeeohmlaaaDoorBd19
import Derived.Test.YtebchoeeohmlaaaDoorBd11
import Derived.Test.YtebchoeeohmlaaaDoorBd09
import Derived.Test.YtebchoeeohmlaaaDoorBd07
import Derived.WalkSmall
import Derived.WalkMore
import Derived.OwnWalk
import Derived.Deep.DeepCutAuto
namespace Go.Proofs.YtebchoeeohmlaaaDoor.Book
open Go Go.RowKit Go.Proofs.YtebchoeeohmlaaaDoor.Aid
open Go.Proofs.YtebchoeeohmlaaaDoor.Cache (idxK)

set_option maxRecDepth 100000 in
set_option maxHeartbeats 2000000 in
theorem key_any {w : World} (b : Bk) (Lv Rv : Value) (hL : RowsAt w 17 b.L.length (entsL b) Lv) (hN : b.L.length ≤ 100000) (n : ByteArray) :
    Calls Tryd.prog 21 #[bookV b Lv Rv, .string n] w fun y w' => y = .returned (.tuple #[wordV (keyB n b.L), .bool (hasN b.L n)]) ∧ Below w.heap.size w w' := by
  have hb := (Below.refl w.heap.size w).alloc (Nat.le_refl _) (.cells (cellsOf 19 (bookF b Lv Rv)) 38)
  have HROW := Lib.hid (row_new w (cellsOf 19 (bookF b Lv Rv)) 38 19 (bookF b Lv Rv) (size_cellsOf _ _) (cellsOf_at _ _))
  have HB := Lib.hid hb
  have HL := Lib.hid (rows_below hL hb)
  have HSZ : Hid ((w.alloc (.cells (cellsOf 19 (bookF b Lv Rv)) 38)).heap.size = w.heap.size + 1) := Lib.hid (by simp)
  obtain ⟨A, c, rfl, -⟩ := hL
  clear hb
  unfold bookV
  generalize cellsOf 19 (bookF b (.slice A b.L.length c) Rv) = C at *
  go_enter Tryd.func21, Tryd.ntmps21
  go_upto_region 1 with fail
  generalize w.alloc (.cells C 38) = w1 at *
  have HZ := Lib.hid (row_new w1 _ 26 16 (fun _ => .int .u8 0) (by rfl) lit16z)
  have hb2 : Below w1.heap.size w1 (w1.alloc (.cells #[.int .u8 0, .int .u8 0, .int .u8 0, .int .u8 0, .int .u8 0, .int .u8 0, .int .u8 0, .int .u8 0, .int .u8 0, .int .u8 0, .int .u8 0, .int .u8 0, .int .u8 0, .int .u8 0, .int .u8 0, .int .u8 0] 26)) := (Below.refl _ _).alloc (Nat.le_refl _) _
  rw [HSZ.out] at HZ
  have HROW2 := Lib.hid (HROW.out.of_block (hb2.block w.heap.size (by have := HSZ.out; omega)))
  have HL2 := Lib.hid (rows_below HL.out hb2)
  have HB2 := Lib.hid (HB.out.trans (hb2.mono HB.out.size))
  have HS2 : Hid (w.heap.size + 2 ≤ (w1.alloc (.cells #[.int .u8 0, .int .u8 0, .int .u8 0, .int .u8 0, .int .u8 0, .int .u8 0, .int .u8 0, .int .u8 0, .int .u8 0, .int .u8 0, .int .u8 0, .int .u8 0, .int .u8 0, .int .u8 0, .int .u8 0, .int .u8 0] 26)).heap.size) := Lib.hid (by have := HSZ.out; simp; omega)
  clear hb2 HB HL HROW HSZ
  generalize w1.alloc (.cells #[.int .u8 0, .int .u8 0, .int .u8 0, .int .u8 0, .int .u8 0, .int .u8 0, .int .u8 0, .int .u8 0, .int .u8 0, .int .u8 0, .int .u8 0, .int .u8 0, .int .u8 0, .int .u8 0, .int .u8 0, .int .u8 0] 26) = w2 at *
  have HP := Lib.hid (place_any (w := w2) b (.slice A b.L.length c) Rv HL2.out hN n)
  unfold bookV at HP
  go_wp2_with first
    | (refine load_whole (by rfl) 38 (.tmp 2) (by rfl) w.heap.size _ 19 _ HROW2.out (by rfl) _ Tryd.underlying38 (by rfl) (by kernel_rfl) ?_)
    | fail
  refine HP.out.mono ?_
  rintro _ w3 ⟨rfl, hb3⟩
  have HL3 := Lib.hid (rows_below HL2.out hb3)
  have HROW3 := Lib.hid (HROW2.out.of_block (hb3.block w.heap.size (by have := HS2.out; omega)))
  have HZ3 := Lib.hid (HZ.out.of_block (hb3.block (w.heap.size + 1) (by have := HS2.out; omega)))
  have HB3 := Lib.hid (HB2.out.trans (hb3.mono HB2.out.size))
  clear hb3 HP HL2 HROW2 HZ HB2 HS2
  have c0 := HROW3.out.cell (i := 0) (by omega)
  rw [show bookF b (.slice A b.L.length c) Rv 0 = .slice A b.L.length c from rfl] at c0
  cases hh : hasN b.L n with
  | false =>
    rw [idx_not hh]
    have HE := Lib.hid (keyN_none hh)
    have HH := Lib.hid hh
    have HZW : Hid (∀ i, i < 16 → (#[.int .u8 0, .int .u8 0, .int .u8 0, .int .u8 0, .int .u8 0, .int .u8 0, .int .u8 0, .int .u8 0, .int .u8 0, .int .u8 0, .int .u8 0, .int .u8 0, .int .u8 0, .int .u8 0, .int .u8 0, .int .u8 0] : Array Value)[i]? = some (wordF zw i)) := Lib.hid (fun i hi => by
      rw [lit16z i hi]
      unfold wordF zw
      rw [List.getD_eq_getElem?_getD, List.getElem?_replicate, if_pos hi]
      rfl)
    clear hh
    go_wp2_with (refine store_whole (by rfl) 26 (.tmp 4) (.tmp 12) (by rfl) (w.heap.size + 1) _ 16 _ (wordF zw) HZ3.out (by rfl) _ (by rfl) (by kernel_rfl) (by rfl) HZW.out (fun _ _ => rfl) ?_; intro w7 hr7 ho7)
    have HB7 := Lib.hid (ho7.below HB3.out (Nat.le_succ _))
    have HR7 := Lib.hid hr7
    clear hr7 ho7 HB3 HZ3 HROW3
    refine bodyPost_ret (results_row_tmp rfl _ (w.heap.size + 1) _ 16 _ _ rfl HR7.out Tryd.underlying26 (by rfl) (by kernel_rfl)) rfl ?_
    exact ⟨by rw [HE.out, HH.out]; rfl, HB7.out⟩
  | true =>
    obtain ⟨e1, hlt⟩ := idx_has hh
    rw [e1]
    have HE := Lib.hid (keyN_at (n := n) hh)
    have HH := Lib.hid hh
    have HLT := Lib.hid hlt
    obtain ⟨A', c', he, hr⟩ := HL3.out
    simp only [Value.slice.injEq, true_and] at he
    obtain ⟨rfl, rfl⟩ := he
    obtain ⟨sb, so, rfl, hsb, hc⟩ := hr (by omega)
    generalize atL b.L n = k at *
    have HC : Hid (w3.rangeAt sb (so + k * 17 + 1) ((List.range 16).map (wordF (b.L.getD k (nos, zw)).2))) := Lib.hid (fun j u hu => by
      have hj : j < 16 := by simpa using (List.getElem?_eq_some_iff.1 hu).1
      have := hc k hlt (j + 1) u (by
        unfold entsL
        rw [List.getElem?_map, List.getElem?_range (by omega)]
        rw [List.getElem?_map, List.getElem?_range hj] at hu
        exact hu)
      rw [show so + k * 17 + 1 + j = so + k * 17 + (j + 1) by omega]
      exact this)
    have q0 : (0 : Int) ≤ (k : Int) := by omega
    have q1 : (k : Int) < (b.L.length : Int) := by omega
    have q2 : ¬ (k : Int) < 0 := by omega
    clear hc hr hh e1
    go_wp2_with first
      | (refine wpList_load_mid (by rfl) 26 (.tmp 17) (by rfl) sb (so + k * 17 + 1) (by rfl) _ _ HC.out Tryd.underlying26 (by rfl) (by kernel_rfl) ?_)
      | (refine store_whole (by rfl) 26 (.tmp 4) (.tmp 18) (by rfl) (w.heap.size + 1) _ 16 _ (wordF (b.L.getD k (nos, zw)).2) HZ3.out (by rfl) _ (by rfl) (by kernel_rfl) (size_cellsOf _ _) (cellsOf_at _ _) (fun _ _ => rfl) ?_; intro w7 hr7 ho7)
    have HB7 := Lib.hid (ho7.below HB3.out (Nat.le_succ _))
    have HR7 := Lib.hid hr7
    clear hr7 ho7 HB3 HZ3 HROW3
    refine bodyPost_ret (results_row_tmp rfl _ (w.heap.size + 1) _ 16 _ _ rfl HR7.out Tryd.underlying26 (by rfl) (by kernel_rfl)) rfl ?_
    exact ⟨by rw [HE.out, HH.out]; rfl, HB7.out⟩
end Go.Proofs.YtebchoeeohmlaaaDoor.Book
namespace Go.Proofs.YtebchoeeohmlaaaDoor.Book
open Go Go.RowKit Go.Proofs.YtebchoeeohmlaaaDoor.Aid

theorem info_op : (Tryd.prog.info? 28).map (fun i => (i.zero, i.size, i.bytes)) = some (some (.agg #[.int .i64 0, .string ⟨#[]⟩, .int .u8 0, .int .u8 0, .int .u8 0, .int .u8 0, .int .u8 0, .int .u8 0, .int .u8 0, .int .u8 0, .int .u8 0, .int .u8 0, .int .u8 0, .int .u8 0, .int .u8 0, .int .u8 0, .int .u8 0, .int .u8 0, .int .i64 0]), 19, 48) := by kernel_rfl
theorem ox_len (x : OpB) : (ox x).length = 19 := by unfold ox; simp
theorem ox_one (x : OpB) : ∀ q ∈ ox x, q.oneCell' = true := fun q hq => by
  obtain ⟨j, _, rfl⟩ := List.mem_map.1 hq
  unfold opF wordF
  repeat' split
  all_goals rfl
theorem entF_one1 (p : ByteArray × Wd) (i : Nat) : (entF p i).oneCell' = true := by
  unfold entF wordF
  split
  · rfl
  · rfl
def addO (p : ByteArray × Wd) : OpB := ⟨1, p.1, p.2, 0⟩
def revO (k : Wd) : OpB := ⟨4, nos, k, 0⟩
theorem ops_eq (b : Bk) : opsB b = b.L.map addO ++ (b.rev.map revO ++ if 0 < b.gen then [⟨5, nos, b.own, b.gen⟩] else []) := rfl
theorem zeroE_at : ∀ i, i < 17 → (#[.string ⟨#[]⟩, .int .u8 0, .int .u8 0, .int .u8 0, .int .u8 0, .int .u8 0, .int .u8 0, .int .u8 0, .int .u8 0, .int .u8 0, .int .u8 0, .int .u8 0, .int .u8 0, .int .u8 0, .int .u8 0, .int .u8 0, .int .u8 0] : Array Value)[i]? = some (if i = 0 then .string ⟨#[]⟩ else .int .u8 0) := fun i hi => by
  match i, hi with
  | 0, _ => rfl
  | 1, _ => rfl
  | 2, _ => rfl
  | 3, _ => rfl
  | 4, _ => rfl
  | 5, _ => rfl
  | 6, _ => rfl
  | 7, _ => rfl
  | 8, _ => rfl
  | 9, _ => rfl
  | 10, _ => rfl
  | 11, _ => rfl
  | 12, _ => rfl
  | 13, _ => rfl
  | 14, _ => rfl
  | 15, _ => rfl
  | 16, _ => rfl
  | _ + 17, hi => exact absurd hi (by omega)
set_option maxRecDepth 100000 in
set_option maxHeartbeats 4000000 in
theorem ops_any {w : World} (b : Bk) (Lv Rv : Value) (h : BookAt w b Lv Rv) :
    Calls Tryd.prog 19 #[bookV b Lv Rv] w fun y w' => ∃ v, y = .returned v ∧ OwnE w' w.heap.size 28 19 ((opsB b).map ox) v ∧ Below w.heap.size w w' := by
  have hb := (Below.refl w.heap.size w).alloc (Nat.le_refl _) (.cells (cellsOf 19 (bookF b Lv Rv)) 38)
  have HROW := Lib.hid (row_new w (cellsOf 19 (bookF b Lv Rv)) 38 19 (bookF b Lv Rv) (size_cellsOf _ _) (cellsOf_at _ _))
  have HBK := Lib.hid (h.below hb)
  have HB := Lib.hid hb
  have hshL := h.ents
  have hshR := h.revs
  obtain ⟨A, c, rfl, -⟩ := hshL
  obtain ⟨A', c', rfl, -⟩ := hshR
  clear hb h
  unfold bookV
  go_enter Tryd.func19, Tryd.ntmps19
  generalize cellsOf 19 (bookF b (.slice A b.L.length c) (.slice A' b.rev.length c')) = C at *
  go_upto_region 1 with fail
  generalize w.alloc (.cells C 38) = w1 at *
  have c0 := HROW.out.cell (i := 0) (by omega)
  rw [show bookF b (.slice A b.L.length c) (.slice A' b.rev.length c') 0 = .slice A b.L.length c from rfl] at c0
  have HN : Hid (b.L.length ≤ 50) := Lib.hid HBK.out.reach.most
  obtain ⟨N, hNN⟩ : ∃ N, N = b.L.length := ⟨_, rfl⟩
  have HNN := Lib.hid hNN
  rw [← hNN] at c0 HN
  clear hNN
  go_wp2_with fail
  go_loopw [3, 11] (fun v i wr => ∃ k : Nat, k ≤ N ∧ i = .int .i64 (k : Int) ∧ Hid (OwnE wr w1.heap.size 28 19 (((b.L.take k).map addO).map ox) v) ∧ Hid (Below w1.heap.size w1 wr)) (fun _ i _ => N - (intOf i).toNat)
  case atStart => exact ⟨0, by omega, rfl, Lib.hid (OwnE.nil _ _ _ _), Lib.hid (Below.refl _ _)⟩
  case round =>
    obtain ⟨k, hk, rfl, hO, hB⟩ := hrel
    by_cases hlt : k < N
    · have hkl : k < b.L.length := by have := HNN.out; omega
      obtain ⟨A1, c1, he, hr⟩ := rows_below HBK.out.ents hB.out
      rw [← HNN.out] at he
      simp only [Value.slice.injEq, true_and] at he
      obtain ⟨rfl, rfl⟩ := he
      obtain ⟨sb, so, rfl, -, hcc⟩ := hr (by omega)
      have hget := List.getElem?_eq_getElem hkl
      have hq : b.L.getD k (nos, zw) = b.L[k] := by rw [List.getD_eq_getElem?_getD, hget]; rfl
      have HR : Hid (wr.rangeAt sb (so + k * 17) ((List.range 17).map (entF b.L[k]))) := Lib.hid (fun j u hu => hcc k hkl j u (by show (entR (b.L.getD k (nos, zw)))[j]? = _; rw [hq]; exact hu))
      have HX : Hid (((b.L.take (k + 1)).map addO).map ox = ((b.L.take k).map addO).map ox ++ [ox (addO b.L[k])]) := Lib.hid (by rw [List.take_succ_eq_append_getElem hkl, List.map_append, List.map_append]; rfl)
      have HLEN : Hid ((((b.L.take k).map addO).map ox).length ≤ 50) := Lib.hid (by rw [List.length_map, List.length_map, List.length_take]; have := HN.out; omega)
      have q0 : (0 : Int) ≤ (k : Int) := by omega
      have q1 : (k : Int) < (N : Int) := by omega
      have hw : wrap64 ((k : Int) + 1) = (k : Int) + 1 := wrap64_id (by omega) (by have := HN.out; omega)
      have HW := Lib.hid hw
      clear hget hq hcc hr hw
      generalize b.L[k] = p at *
      clear hkl
      have hal : Below wr.heap.size wr (wr.alloc (.cells #[.string ⟨#[]⟩, .int .u8 0, .int .u8 0, .int .u8 0, .int .u8 0, .int .u8 0, .int .u8 0, .int .u8 0, .int .u8 0, .int .u8 0, .int .u8 0, .int .u8 0, .int .u8 0, .int .u8 0, .int .u8 0, .int .u8 0, .int .u8 0] 95)) := (Below.refl _ _).alloc (Nat.le_refl _) _
      have HZE := Lib.hid (row_new wr _ 95 17 (fun i => if i = 0 then .string ⟨#[]⟩ else .int .u8 0) (by rfl) zeroE_at)
      have HO1 := Lib.hid (hO.out.below hal)
      have HB1 := Lib.hid (hB.out.trans (hal.mono hB.out.size))
      have HS1 : Hid (w1.heap.size ≤ wr.heap.size) := Lib.hid hB.out.size
      have HOL : Hid (∀ j, u3.ownBlock = some j → j < wr.heap.size) := Lib.hid (fun j hj => (hO.out.lt j hj).2)
      clear hal hO hB
      go_upto_region 5 with first
        | (refine wpList_load_mid (by rfl) 95 (.tmp 13) (by rfl) sb (so + k * 17) (by rfl) _ _ HR.out Tryd.underlying95 (by rfl) (by kernel_rfl) ?_)
        | (refine store_whole (by rfl) 95 (.tmp 5) (.tmp 14) (by rfl) wr.heap.size _ 17 _ (entF p) HZE.out (by rfl) _ (by rfl) (by kernel_rfl) (by rfl) (cellsOf_at 17 (entF p)) (fun i _ => entF_one1 p i) ?_; intro w2 hr2 ho2)
      have HO2 := Lib.hid (HO1.out.keep (W' := w2) (fun j hj => ho2.block j (by have := HOL.out j hj; omega)))
      have HB2 := Lib.hid (ho2.below HB1.out HS1.out)
      have HR2 := Lib.hid hr2
      have HK2 : Hid (cellsOf 16 (fun j => entF p (1 + j)) = #[wordF p.2 0, wordF p.2 1, wordF p.2 2, wordF p.2 3, wordF p.2 4, wordF p.2 5, wordF p.2 6, wordF p.2 7, wordF p.2 8, wordF p.2 9, wordF p.2 10, wordF p.2 11, wordF p.2 12, wordF p.2 13, wordF p.2 14, wordF p.2 15]) := Lib.hid rfl
      have c2 := hr2.cell (i := 0) (by omega)
      rw [show entF p 0 = .string p.1 from rfl] at c2
      clear hr2 ho2 HO1 HB1 HZE HOL HS1 HR
      generalize wr.heap.size = gE at *
      have HNEW : Hid (RowsAt (w2.alloc (.cells #[.int .i64 1, .string p.1, wordF p.2 0, wordF p.2 1, wordF p.2 2, wordF p.2 3, wordF p.2 4, wordF p.2 5, wordF p.2 6, wordF p.2 7, wordF p.2 8, wordF p.2 9, wordF p.2 10, wordF p.2 11, wordF p.2 12, wordF p.2 13, wordF p.2 14, wordF p.2 15, .int .i64 0] 28)) 19 1 (fun _ => ox (addO p)) (.slice (some ⟨w2.heap.size, 0, none⟩) 1 1)) := Lib.hid (row_one w2 _ 28 19 (ox (addO p)) rfl)
      have hal : Below w2.heap.size w2 (w2.alloc (.cells #[.int .i64 1, .string p.1, wordF p.2 0, wordF p.2 1, wordF p.2 2, wordF p.2 3, wordF p.2 4, wordF p.2 5, wordF p.2 6, wordF p.2 7, wordF p.2 8, wordF p.2 9, wordF p.2 10, wordF p.2 11, wordF p.2 12, wordF p.2 13, wordF p.2 14, wordF p.2 15, .int .i64 0] 28)) := (Below.refl _ _).alloc (Nat.le_refl _) _
      have HO3 := Lib.hid (HO2.out.below hal)
      have HB3 := Lib.hid (HB2.out.trans (hal.mono HB2.out.size))
      clear hal
      go_wp2_with first
        | (refine load_as (by rfl) 26 (.tmp 18) (by rfl) gE 1 _ 17 16 _ _ HK2.out HR2.out (by rfl) _ Tryd.underlying26 (by rfl) (by kernel_rfl) (by omega) ?_)
        | (at_builtin
           refine append_rows (by rfl) (.tmp 15) (.tmp 21) 22 (by rfl) w1.heap.size 28 19 48 _ Tryd.underlying22 info_op (by rfl) (by omega) _ _ (by rfl) HO3.out 1 _ _ (by rfl) HNEW.out (fun i _ => ⟨ox_len _, ox_one _⟩) (by have := HLEN.out; omega) (by omega) HB3.out.size ?_
           intro v4 w4 ho4 hg4 hv4
           have HO4 : Hid (OwnE w4 w1.heap.size 28 19 (((b.L.take (k + 1)).map addO).map ox) v4) := Lib.hid (by rw [HX.out]; exact ho4)
           have HB4 : Hid (Below w1.heap.size w1 w4) := Lib.hid (HB3.out.grown hg4 HB3.out.size (fun j hj => (HO3.out.lt j hj).1))
           clear ho4 hg4 hv4 HO3 HB3 HNEW HO2 HB2 c2)
      rw [HW.out]
      exact ⟨⟨k + 1, by omega, congrArg (Value.int .i64) (by omega), HO4.out, HB4.out⟩, by show N - ((k : Int) + 1).toNat < N - (k : Int).toNat; omega⟩
    · obtain rfl : k = N := by omega
      have HOL : Hid (OwnE wr w1.heap.size 28 19 ((b.L.map addO ++ (b.rev.take 0).map revO).map ox) u3) := Lib.hid (by
        have := hO.out
        rw [List.take_of_length_le (by have := HNN.out; omega)] at this
        simpa using this)
      have HROW1 := Lib.hid (HROW.out.of_block (hB.out.block w.heap.size (World.rowIs.lt HROW.out)))
      have HB1 := Lib.hid hB.out
      have HBK1 := Lib.hid (HBK.out.below hB.out)
      have HLEN0 : Hid (b.L.length ≤ 50) := Lib.hid HBK.out.reach.most
      clear hlt hk hO hB c0 HNN HN
      generalize wr = w2 at *
      have c1 := HROW1.out.cell (i := 1) (by omega)
      rw [show bookF b (.slice A b.L.length c) (.slice A' b.rev.length c') 1 = .slice A' b.rev.length c' from rfl] at c1
      have HM : Hid (b.rev.length ≤ 200) := Lib.hid HBK1.out.reach.revs
      obtain ⟨M, hMM⟩ : ∃ M, M = b.rev.length := ⟨_, rfl⟩
      have HMM := Lib.hid hMM
      rw [← hMM] at c1 HM
      clear hMM
      go_wp2_with fail
      go_loopw [3, 27] (fun v i wr => ∃ k : Nat, k ≤ M ∧ i = .int .i64 (k : Int) ∧ Hid (OwnE wr w1.heap.size 28 19 ((b.L.map addO ++ (b.rev.take k).map revO).map ox) v) ∧ Hid (Below w1.heap.size w1 wr)) (fun _ i _ => M - (intOf i).toNat)
      case atStart => exact ⟨0, by omega, rfl, HOL, HB1⟩
      case round =>
        obtain ⟨k, hk, rfl, hO, hB⟩ := hrel
        by_cases hlt : k < M
        · have hkl : k < b.rev.length := by have := HMM.out; omega
          obtain ⟨A1, c1', he, hr⟩ := rows_below HBK.out.revs hB.out
          rw [← HMM.out] at he
          simp only [Value.slice.injEq, true_and] at he
          obtain ⟨rfl, rfl⟩ := he
          obtain ⟨sb, so, rfl, -, hcc⟩ := hr (by omega)
          have hget := List.getElem?_eq_getElem hkl
          have hq : b.rev.getD k zw = b.rev[k] := by rw [List.getD_eq_getElem?_getD, hget]; rfl
          have HR : Hid (wr.rangeAt sb (so + k * 16) ((List.range 16).map (wordF b.rev[k]))) := Lib.hid (fun j u hu => hcc k hkl j u (by show (wordR (b.rev.getD k zw))[j]? = _; rw [hq]; exact hu))
          have HX : Hid ((b.L.map addO ++ (b.rev.take (k + 1)).map revO).map ox = (b.L.map addO ++ (b.rev.take k).map revO).map ox ++ [ox (revO b.rev[k])]) := Lib.hid (by rw [List.take_succ_eq_append_getElem hkl, List.map_append, List.map_append, List.map_append, List.map_append, List.append_assoc]; rfl)
          have HLEN : Hid (((b.L.map addO ++ (b.rev.take k).map revO).map ox).length ≤ 250) := Lib.hid (by rw [List.length_map, List.length_append, List.length_map, List.length_map, List.length_take]; have := HM.out; have := HLEN0.out; omega)
          have q0 : (0 : Int) ≤ (k : Int) := by omega
          have q1 : (k : Int) < (M : Int) := by omega
          have hw : wrap64 ((k : Int) + 1) = (k : Int) + 1 := wrap64_id (by omega) (by have := HM.out; omega)
          have HW := Lib.hid hw
          clear hget hq hcc hr hw
          generalize b.rev[k] = p at *
          clear hkl
          have hal : Below wr.heap.size wr (wr.alloc (.cells #[.int .u8 0, .int .u8 0, .int .u8 0, .int .u8 0, .int .u8 0, .int .u8 0, .int .u8 0, .int .u8 0, .int .u8 0, .int .u8 0, .int .u8 0, .int .u8 0, .int .u8 0, .int .u8 0, .int .u8 0, .int .u8 0] 26)) := (Below.refl _ _).alloc (Nat.le_refl _) _
          have HZE := Lib.hid (row_new wr _ 26 16 (fun _ => .int .u8 0) (by rfl) lit16z)
          have HO1 := Lib.hid (hO.out.below hal)
          have HB2 := Lib.hid (hB.out.trans (hal.mono hB.out.size))
          have HS1 : Hid (w1.heap.size ≤ wr.heap.size) := Lib.hid hB.out.size
          have HOL2 : Hid (∀ j, u3.ownBlock = some j → j < wr.heap.size) := Lib.hid (fun j hj => (hO.out.lt j hj).2)
          clear hal hO hB HOL
          go_upto_region 10 with first
            | (refine wpList_load_mid (by rfl) 26 (.tmp 29) (by rfl) sb (so + k * 16) (by rfl) _ _ HR.out Tryd.underlying26 (by rfl) (by kernel_rfl) ?_)
            | (refine store_whole (by rfl) 26 (.tmp 7) (.tmp 30) (by rfl) wr.heap.size _ 16 _ (wordF p) HZE.out (by rfl) _ (by rfl) (by kernel_rfl) (by rfl) (cellsOf_at 16 (wordF p)) (fun i _ => rfl) ?_; intro w3 hr3 ho3)
          have HO2 := Lib.hid (HO1.out.keep (W' := w3) (fun j hj => ho3.block j (by have := HOL2.out j hj; omega)))
          have HB3 := Lib.hid (ho3.below HB2.out HS1.out)
          have HR3 := Lib.hid hr3
          have HK3 : Hid (cellsOf 16 (fun j => wordF p (0 + j)) = #[wordF p 0, wordF p 1, wordF p 2, wordF p 3, wordF p 4, wordF p 5, wordF p 6, wordF p 7, wordF p 8, wordF p 9, wordF p 10, wordF p 11, wordF p 12, wordF p 13, wordF p 14, wordF p 15]) := Lib.hid rfl
          clear hr3 ho3 HO1 HB2 HZE HOL2 HS1 HR
          generalize wr.heap.size = gE at *
          have HNEW : Hid (RowsAt (w3.alloc (.cells #[.int .i64 4, .string ⟨#[]⟩, wordF p 0, wordF p 1, wordF p 2, wordF p 3, wordF p 4, wordF p 5, wordF p 6, wordF p 7, wordF p 8, wordF p 9, wordF p 10, wordF p 11, wordF p 12, wordF p 13, wordF p 14, wordF p 15, .int .i64 0] 28)) 19 1 (fun _ => ox (revO p)) (.slice (some ⟨w3.heap.size, 0, none⟩) 1 1)) := Lib.hid (row_one w3 _ 28 19 (ox (revO p)) rfl)
          have hal : Below w3.heap.size w3 (w3.alloc (.cells #[.int .i64 4, .string ⟨#[]⟩, wordF p 0, wordF p 1, wordF p 2, wordF p 3, wordF p 4, wordF p 5, wordF p 6, wordF p 7, wordF p 8, wordF p 9, wordF p 10, wordF p 11, wordF p 12, wordF p 13, wordF p 14, wordF p 15, .int .i64 0] 28)) := (Below.refl _ _).alloc (Nat.le_refl _) _
          have HO4 := Lib.hid (HO2.out.below hal)
          have HB4 := Lib.hid (HB3.out.trans (hal.mono HB3.out.size))
          clear hal
          go_wp2_with first
            | (refine load_as (by rfl) 26 (.tmp 7) (by rfl) gE 0 _ 16 16 _ _ HK3.out HR3.out (by rfl) _ Tryd.underlying26 (by rfl) (by kernel_rfl) (by omega) ?_)
            | (at_builtin
               refine append_rows (by rfl) (.tmp 31) (.tmp 34) 22 (by rfl) w1.heap.size 28 19 48 _ Tryd.underlying22 info_op (by rfl) (by omega) _ _ (by rfl) HO4.out 1 _ _ (by rfl) HNEW.out (fun i _ => ⟨ox_len _, ox_one _⟩) (by have := HLEN.out; omega) (by omega) HB4.out.size ?_
               intro v5 w5 ho5 hg5 hv5
               have HO5 : Hid (OwnE w5 w1.heap.size 28 19 ((b.L.map addO ++ (b.rev.take (k + 1)).map revO).map ox) v5) := Lib.hid (by rw [HX.out]; exact ho5)
               have HB5 : Hid (Below w1.heap.size w1 w5) := Lib.hid (HB4.out.grown hg5 HB4.out.size (fun j hj => (HO4.out.lt j hj).1))
               clear ho5 hg5 hv5 HO4 HB4 HNEW HO2 HB3)
          rw [HW.out]
          exact ⟨⟨k + 1, by omega, congrArg (Value.int .i64) (by omega), HO5.out, HB5.out⟩, by show M - ((k : Int) + 1).toNat < M - (k : Int).toNat; omega⟩
        · obtain rfl : k = M := by omega
          have HOM : Hid (OwnE wr w1.heap.size 28 19 ((b.L.map addO ++ b.rev.map revO).map ox) u3) := Lib.hid (by
            have := hO.out
            rw [List.take_of_length_le (by have := HMM.out; omega)] at this
            exact this)
          have HB3 := Lib.hid hB.out
          have HROW3 := Lib.hid (HROW.out.of_block (hB.out.block w.heap.size (World.rowIs.lt HROW.out)))
          have HLM : Hid (((b.L.map addO ++ b.rev.map revO).map ox).length ≤ 250) := Lib.hid (by rw [List.length_map, List.length_append, List.length_map, List.length_map]; have := HM.out; have := HMM.out; have := HLEN0.out; omega)
          have HSW : Hid (w.heap.size ≤ w1.heap.size) := Lib.hid HB.out.size
          clear hlt hk hO hB HOL HROW1 HB1 HBK1 c1 HMM HM HROW
          have c2 := HROW3.out.cell (i := 2) (by omega)
          rw [show bookF b (.slice A b.L.length c) (.slice A' b.rev.length c') 2 = .int .i64 b.gen from rfl] at c2
          by_cases hg : 0 < b.gen
          · have HE : Hid ((opsB b).map ox = (b.L.map addO ++ b.rev.map revO).map ox ++ [ox ⟨5, nos, b.own, b.gen⟩]) := Lib.hid (by rw [ops_eq, if_pos hg, ← List.append_assoc, List.map_append]; rfl)
            have HOC := Lib.hid (own_cells b (.slice A b.L.length c) (.slice A' b.rev.length c'))
            have HKL : Hid (cellsOf 16 (fun j => bookF b (.slice A b.L.length c) (.slice A' b.rev.length c') (3 + j)) = #[wordF b.own 0, wordF b.own 1, wordF b.own 2, wordF b.own 3, wordF b.own 4, wordF b.own 5, wordF b.own 6, wordF b.own 7, wordF b.own 8, wordF b.own 9, wordF b.own 10, wordF b.own 11, wordF b.own 12, wordF b.own 13, wordF b.own 14, wordF b.own 15]) := Lib.hid (HOC.out.trans rfl)
            have HNEW : Hid (RowsAt (wr.alloc (.cells #[.int .i64 5, .string ⟨#[]⟩, wordF b.own 0, wordF b.own 1, wordF b.own 2, wordF b.own 3, wordF b.own 4, wordF b.own 5, wordF b.own 6, wordF b.own 7, wordF b.own 8, wordF b.own 9, wordF b.own 10, wordF b.own 11, wordF b.own 12, wordF b.own 13, wordF b.own 14, wordF b.own 15, .int .i64 b.gen] 28)) 19 1 (fun _ => ox ⟨5, nos, b.own, b.gen⟩) (.slice (some ⟨wr.heap.size, 0, none⟩) 1 1)) := Lib.hid (row_one wr _ 28 19 (ox ⟨5, nos, b.own, b.gen⟩) rfl)
            have hal : Below wr.heap.size wr (wr.alloc (.cells #[.int .i64 5, .string ⟨#[]⟩, wordF b.own 0, wordF b.own 1, wordF b.own 2, wordF b.own 3, wordF b.own 4, wordF b.own 5, wordF b.own 6, wordF b.own 7, wordF b.own 8, wordF b.own 9, wordF b.own 10, wordF b.own 11, wordF b.own 12, wordF b.own 13, wordF b.own 14, wordF b.own 15, .int .i64 b.gen] 28)) := (Below.refl _ _).alloc (Nat.le_refl _) _
            have HO4 := Lib.hid (HOM.out.below hal)
            have HB4 := Lib.hid (HB3.out.trans (hal.mono HB3.out.size))
            clear hal HOC
            go_wp2_with first
              | (refine load_as (by rfl) 26 (.tmp 41) (by rfl) w.heap.size 3 _ 19 16 _ _ HKL.out HROW3.out (by rfl) _ Tryd.underlying26 (by rfl) (by kernel_rfl) (by omega) ?_)
              | (at_builtin
                 refine append_rows (by rfl) (.tmp 40) (.tmp 46) 22 (by rfl) w1.heap.size 28 19 48 _ Tryd.underlying22 info_op (by rfl) (by omega) _ _ (by rfl) HO4.out 1 _ _ (by rfl) HNEW.out (fun i _ => ⟨ox_len _, ox_one _⟩) (by have := HLM.out; omega) (by omega) HB4.out.size ?_
                 intro v5 w5 ho5 hg5 hv5
                 have HO5 : Hid (OwnE w5 w1.heap.size 28 19 ((opsB b).map ox) v5) := Lib.hid (by rw [HE.out]; exact ho5)
                 have HB5 : Hid (Below w1.heap.size w1 w5) := Lib.hid (HB4.out.grown hg5 HB4.out.size (fun j hj => (HO4.out.lt j hj).1))
                 clear ho5 hg5 hv5 HO4 HB4 HNEW HOM HB3 c2)
            go_ret
            exact ⟨_, rfl, HO5.out.base_ HSW.out, HB.out.trans (HB5.out.mono HSW.out)⟩
          · have HE : Hid ((opsB b).map ox = (b.L.map addO ++ b.rev.map revO).map ox) := Lib.hid (by rw [ops_eq, if_neg hg, List.append_nil])
            go_wp2
            go_ret
            rw [HE.out]
            exact ⟨_, rfl, HOM.out.base_ HSW.out, HB.out.trans (HB3.out.mono HSW.out)⟩
end Go.Proofs.YtebchoeeohmlaaaDoor.Book
