/-
  What Key does. What Ops does. What the document's Right of an operation does. What the document's Put of an operation does.
-/
import Derived.Test.YtebchoeeohmlaaaDoorBd15
import Derived.Test.YtebchoeeohmlaaaDoorBd19
import Derived.Test.YtebchoeeohmlaaaDoorBd11
import Derived.Test.YtebchoeeohmlaaaDoorBd09
import Derived.Test.YtebchoeeohmlaaaDoorBd07
import Derived.Test.YtebchoeeohmlaaaDoorBd04
import Derived.Test.YtebchoeeohmlaaaDoorBd18
import Derived.Test.YtebchoeeohmlaaaDoorBd24
import Derived.Test.YtebchoeeohmlaaaDoorBd23
import Derived.Test.YtebchoeeohmlaaaDoorBd01
import Derived.Test.YtebchoeeohmlaaaDoorBd06
import Derived.Test.YtebchoeeohmlaaaDoorBd29
import Derived.Test.YtebchoeeohmlaaaDoorBd30
import Derived.WalkSmall
import Derived.WalkMore
import Derived.OwnWalk
import Derived.Deep.DeepCutAuto
namespace Go.Proofs.YtebchoeeohmlaaaDoor.Book
open Go Go.RowKit Go.Proofs.YtebchoeeohmlaaaDoor.Aid
open Go.Proofs.YtebchoeeohmlaaaDoor.Cache (idxK)

set_option maxRecDepth 100000 in
set_option maxHeartbeats 2000000 in
theorem key_any {w : World} (b : Bk) (Lv Rv : Value) (hL : RowsAt w 17 b.L.length (entsL b) Lv) (hN : b.L.length ≤ 100000) (n : ByteArray) :
    Calls Tryd.prog 21 #[bookV b Lv Rv, .string n] w fun y w' => y = .returned (.tuple #[wordV (keyB n b.L), .bool (hasN b.L n)]) ∧ Below w.heap.size w w' := by
  have hb := (Below.refl w.heap.size w).alloc (Nat.le_refl _) (.cells (cellsOf 19 (bookF b Lv Rv)) 38)
  have HROW := Lib.hid (row_new w (cellsOf 19 (bookF b Lv Rv)) 38 19 (bookF b Lv Rv) (size_cellsOf _ _) (cellsOf_at _ _))
  have HB := Lib.hid hb
  have HL := Lib.hid (rows_below hL hb)
  have HSZ : Hid ((w.alloc (.cells (cellsOf 19 (bookF b Lv Rv)) 38)).heap.size = w.heap.size + 1) := Lib.hid (by simp)
  obtain ⟨A, c, rfl, -⟩ := hL
  clear hb
  unfold bookV
  generalize cellsOf 19 (bookF b (.slice A b.L.length c) Rv) = C at *
  go_enter Tryd.func21, Tryd.ntmps21
  go_upto_region 1 with fail
  generalize w.alloc (.cells C 38) = w1 at *
  have HZ := Lib.hid (row_new w1 _ 26 16 (fun _ => .int .u8 0) (by rfl) lit16z)
  have hb2 : Below w1.heap.size w1 (w1.alloc (.cells #[.int .u8 0, .int .u8 0, .int .u8 0, .int .u8 0, .int .u8 0, .int .u8 0, .int .u8 0, .int .u8 0, .int .u8 0, .int .u8 0, .int .u8 0, .int .u8 0, .int .u8 0, .int .u8 0, .int .u8 0, .int .u8 0] 26)) := (Below.refl _ _).alloc (Nat.le_refl _) _
  rw [HSZ.out] at HZ
  have HROW2 := Lib.hid (HROW.out.of_block (hb2.block w.heap.size (by have := HSZ.out; omega)))
  have HL2 := Lib.hid (rows_below HL.out hb2)
  have HB2 := Lib.hid (HB.out.trans (hb2.mono HB.out.size))
  have HS2 : Hid (w.heap.size + 2 ≤ (w1.alloc (.cells #[.int .u8 0, .int .u8 0, .int .u8 0, .int .u8 0, .int .u8 0, .int .u8 0, .int .u8 0, .int .u8 0, .int .u8 0, .int .u8 0, .int .u8 0, .int .u8 0, .int .u8 0, .int .u8 0, .int .u8 0, .int .u8 0] 26)).heap.size) := Lib.hid (by have := HSZ.out; simp; omega)
  clear hb2 HB HL HROW HSZ
  generalize w1.alloc (.cells #[.int .u8 0, .int .u8 0, .int .u8 0, .int .u8 0, .int .u8 0, .int .u8 0, .int .u8 0, .int .u8 0, .int .u8 0, .int .u8 0, .int .u8 0, .int .u8 0, .int .u8 0, .int .u8 0, .int .u8 0, .int .u8 0] 26) = w2 at *
  have HP := Lib.hid (place_any (w := w2) b (.slice A b.L.length c) Rv HL2.out hN n)
  unfold bookV at HP
  go_wp2_with first
    | (refine load_whole (by rfl) 38 (.tmp 2) (by rfl) w.heap.size _ 19 _ HROW2.out (by rfl) _ Tryd.underlying38 (by rfl) (by kernel_rfl) ?_)
    | fail
  refine HP.out.mono ?_
  rintro _ w3 ⟨rfl, hb3⟩
  have HL3 := Lib.hid (rows_below HL2.out hb3)
  have HROW3 := Lib.hid (HROW2.out.of_block (hb3.block w.heap.size (by have := HS2.out; omega)))
  have HZ3 := Lib.hid (HZ.out.of_block (hb3.block (w.heap.size + 1) (by have := HS2.out; omega)))
  have HB3 := Lib.hid (HB2.out.trans (hb3.mono HB2.out.size))
  clear hb3 HP HL2 HROW2 HZ HB2 HS2
  have c0 := HROW3.out.cell (i := 0) (by omega)
  rw [show bookF b (.slice A b.L.length c) Rv 0 = .slice A b.L.length c from rfl] at c0
  cases hh : hasN b.L n with
  | false =>
    rw [idx_not hh]
    have HE := Lib.hid (keyN_none hh)
    have HH := Lib.hid hh
    have HZW : Hid (∀ i, i < 16 → (#[.int .u8 0, .int .u8 0, .int .u8 0, .int .u8 0, .int .u8 0, .int .u8 0, .int .u8 0, .int .u8 0, .int .u8 0, .int .u8 0, .int .u8 0, .int .u8 0, .int .u8 0, .int .u8 0, .int .u8 0, .int .u8 0] : Array Value)[i]? = some (wordF zw i)) := Lib.hid (fun i hi => by
      rw [lit16z i hi]
      unfold wordF zw
      rw [List.getD_eq_getElem?_getD, List.getElem?_replicate, if_pos hi]
      rfl)
    clear hh
    go_wp2_with (refine store_whole (by rfl) 26 (.tmp 4) (.tmp 12) (by rfl) (w.heap.size + 1) _ 16 _ (wordF zw) HZ3.out (by rfl) _ (by rfl) (by kernel_rfl) (by rfl) HZW.out (fun _ _ => rfl) ?_; intro w7 hr7 ho7)
    have HB7 := Lib.hid (ho7.below HB3.out (Nat.le_succ _))
    have HR7 := Lib.hid hr7
    clear hr7 ho7 HB3 HZ3 HROW3
    refine bodyPost_ret (results_row_tmp rfl _ (w.heap.size + 1) _ 16 _ _ rfl HR7.out Tryd.underlying26 (by rfl) (by kernel_rfl)) rfl ?_
    exact ⟨by rw [HE.out, HH.out]; rfl, HB7.out⟩
  | true =>
    obtain ⟨e1, hlt⟩ := idx_has hh
    rw [e1]
    have HE := Lib.hid (keyN_at (n := n) hh)
    have HH := Lib.hid hh
    have HLT := Lib.hid hlt
    obtain ⟨A', c', he, hr⟩ := HL3.out
    simp only [Value.slice.injEq, true_and] at he
    obtain ⟨rfl, rfl⟩ := he
    obtain ⟨sb, so, rfl, hsb, hc⟩ := hr (by omega)
    generalize atL b.L n = k at *
    have HC : Hid (w3.rangeAt sb (so + k * 17 + 1) ((List.range 16).map (wordF (b.L.getD k (nos, zw)).2))) := Lib.hid (fun j u hu => by
      have hj : j < 16 := by simpa using (List.getElem?_eq_some_iff.1 hu).1
      have := hc k hlt (j + 1) u (by
        unfold entsL
        rw [List.getElem?_map, List.getElem?_range (by omega)]
        rw [List.getElem?_map, List.getElem?_range hj] at hu
        exact hu)
      rw [show so + k * 17 + 1 + j = so + k * 17 + (j + 1) by omega]
      exact this)
    have q0 : (0 : Int) ≤ (k : Int) := by omega
    have q1 : (k : Int) < (b.L.length : Int) := by omega
    have q2 : ¬ (k : Int) < 0 := by omega
    clear hc hr hh e1
    go_wp2_with first
      | (refine wpList_load_mid (by rfl) 26 (.tmp 17) (by rfl) sb (so + k * 17 + 1) (by rfl) _ _ HC.out Tryd.underlying26 (by rfl) (by kernel_rfl) ?_)
      | (refine store_whole (by rfl) 26 (.tmp 4) (.tmp 18) (by rfl) (w.heap.size + 1) _ 16 _ (wordF (b.L.getD k (nos, zw)).2) HZ3.out (by rfl) _ (by rfl) (by kernel_rfl) (size_cellsOf _ _) (cellsOf_at _ _) (fun _ _ => rfl) ?_; intro w7 hr7 ho7)
    have HB7 := Lib.hid (ho7.below HB3.out (Nat.le_succ _))
    have HR7 := Lib.hid hr7
    clear hr7 ho7 HB3 HZ3 HROW3
    refine bodyPost_ret (results_row_tmp rfl _ (w.heap.size + 1) _ 16 _ _ rfl HR7.out Tryd.underlying26 (by rfl) (by kernel_rfl)) rfl ?_
    exact ⟨by rw [HE.out, HH.out]; rfl, HB7.out⟩
end Go.Proofs.YtebchoeeohmlaaaDoor.Book
namespace Go.Proofs.YtebchoeeohmlaaaDoor.Book
open Go Go.RowKit Go.Proofs.YtebchoeeohmlaaaDoor.Aid

theorem info_op : (Tryd.prog.info? 28).map (fun i => (i.zero, i.size, i.bytes)) = some (some (.agg #[.int .i64 0, .string ⟨#[]⟩, .int .u8 0, .int .u8 0, .int .u8 0, .int .u8 0, .int .u8 0, .int .u8 0, .int .u8 0, .int .u8 0, .int .u8 0, .int .u8 0, .int .u8 0, .int .u8 0, .int .u8 0, .int .u8 0, .int .u8 0, .int .u8 0, .int .i64 0]), 19, 48) := by kernel_rfl
theorem ox_len (x : OpB) : (ox x).length = 19 := by unfold ox; simp
theorem ox_one (x : OpB) : ∀ q ∈ ox x, q.oneCell' = true := fun q hq => by
  obtain ⟨j, _, rfl⟩ := List.mem_map.1 hq
  unfold opF wordF
  repeat' split
  all_goals rfl
theorem entF_one1 (p : ByteArray × Wd) (i : Nat) : (entF p i).oneCell' = true := by
  unfold entF wordF
  split
  · rfl
  · rfl
def adO (p : ByteArray × Wd) : OpB := ⟨1, p.1, p.2, 0⟩
def rvO (k : Wd) : OpB := ⟨4, nos, k, 0⟩
theorem ops_eq (b : Bk) : opsB b = b.L.map adO ++ (b.rev.map rvO ++ if 0 < b.gen then [⟨5, nos, b.own, b.gen⟩] else []) := rfl
theorem zeroE_at : ∀ i, i < 17 → (#[.string ⟨#[]⟩, .int .u8 0, .int .u8 0, .int .u8 0, .int .u8 0, .int .u8 0, .int .u8 0, .int .u8 0, .int .u8 0, .int .u8 0, .int .u8 0, .int .u8 0, .int .u8 0, .int .u8 0, .int .u8 0, .int .u8 0, .int .u8 0] : Array Value)[i]? = some (if i = 0 then .string ⟨#[]⟩ else .int .u8 0) := fun i hi => by
  match i, hi with
  | 0, _ => rfl
  | 1, _ => rfl
  | 2, _ => rfl
  | 3, _ => rfl
  | 4, _ => rfl
  | 5, _ => rfl
  | 6, _ => rfl
  | 7, _ => rfl
  | 8, _ => rfl
  | 9, _ => rfl
  | 10, _ => rfl
  | 11, _ => rfl
  | 12, _ => rfl
  | 13, _ => rfl
  | 14, _ => rfl
  | 15, _ => rfl
  | 16, _ => rfl
  | _ + 17, hi => exact absurd hi (by omega)
set_option maxRecDepth 100000 in
set_option maxHeartbeats 4000000 in
theorem ops_any {w : World} (b : Bk) (Lv Rv : Value) (h : BookAt w b Lv Rv) :
    Calls Tryd.prog 19 #[bookV b Lv Rv] w fun y w' => ∃ v, y = .returned v ∧ OwnE w' w.heap.size 28 19 ((opsB b).map ox) v ∧ Below w.heap.size w w' := by
  have hb := (Below.refl w.heap.size w).alloc (Nat.le_refl _) (.cells (cellsOf 19 (bookF b Lv Rv)) 38)
  have HROW := Lib.hid (row_new w (cellsOf 19 (bookF b Lv Rv)) 38 19 (bookF b Lv Rv) (size_cellsOf _ _) (cellsOf_at _ _))
  have HBK := Lib.hid (h.below hb)
  have HB := Lib.hid hb
  have hshL := h.ents
  have hshR := h.revs
  obtain ⟨A, c, rfl, -⟩ := hshL
  obtain ⟨A', c', rfl, -⟩ := hshR
  clear hb h
  unfold bookV
  go_enter Tryd.func19, Tryd.ntmps19
  generalize cellsOf 19 (bookF b (.slice A b.L.length c) (.slice A' b.rev.length c')) = C at *
  go_upto_region 1 with fail
  generalize w.alloc (.cells C 38) = w1 at *
  have c0 := HROW.out.cell (i := 0) (by omega)
  rw [show bookF b (.slice A b.L.length c) (.slice A' b.rev.length c') 0 = .slice A b.L.length c from rfl] at c0
  have HN : Hid (b.L.length ≤ 50) := Lib.hid HBK.out.reach.most
  obtain ⟨N, hNN⟩ : ∃ N, N = b.L.length := ⟨_, rfl⟩
  have HNN := Lib.hid hNN
  rw [← hNN] at c0 HN
  clear hNN
  go_wp2_with fail
  go_loopw [3, 11] (fun v i wr => ∃ k : Nat, k ≤ N ∧ i = .int .i64 (k : Int) ∧ Hid (OwnE wr w1.heap.size 28 19 (((b.L.take k).map adO).map ox) v) ∧ Hid (Below w1.heap.size w1 wr)) (fun _ i _ => N - (intOf i).toNat)
  case atStart => exact ⟨0, by omega, rfl, Lib.hid (OwnE.nil _ _ _ _), Lib.hid (Below.refl _ _)⟩
  case round =>
    obtain ⟨k, hk, rfl, hO, hB⟩ := hrel
    by_cases hlt : k < N
    · have hkl : k < b.L.length := by have := HNN.out; omega
      obtain ⟨A1, c1, he, hr⟩ := rows_below HBK.out.ents hB.out
      rw [← HNN.out] at he
      simp only [Value.slice.injEq, true_and] at he
      obtain ⟨rfl, rfl⟩ := he
      obtain ⟨sb, so, rfl, -, hcc⟩ := hr (by omega)
      have hget := List.getElem?_eq_getElem hkl
      have hq : b.L.getD k (nos, zw) = b.L[k] := by rw [List.getD_eq_getElem?_getD, hget]; rfl
      have HR : Hid (wr.rangeAt sb (so + k * 17) ((List.range 17).map (entF b.L[k]))) := Lib.hid (fun j u hu => hcc k hkl j u (by show (entR (b.L.getD k (nos, zw)))[j]? = _; rw [hq]; exact hu))
      have HX : Hid (((b.L.take (k + 1)).map adO).map ox = ((b.L.take k).map adO).map ox ++ [ox (adO b.L[k])]) := Lib.hid (by rw [List.take_succ_eq_append_getElem hkl, List.map_append, List.map_append]; rfl)
      have HLEN : Hid ((((b.L.take k).map adO).map ox).length ≤ 50) := Lib.hid (by rw [List.length_map, List.length_map, List.length_take]; have := HN.out; omega)
      have q0 : (0 : Int) ≤ (k : Int) := by omega
      have q1 : (k : Int) < (N : Int) := by omega
      have hw : wrap64 ((k : Int) + 1) = (k : Int) + 1 := wrap64_id (by omega) (by have := HN.out; omega)
      have HW := Lib.hid hw
      clear hget hq hcc hr hw
      generalize b.L[k] = p at *
      clear hkl
      have hal : Below wr.heap.size wr (wr.alloc (.cells #[.string ⟨#[]⟩, .int .u8 0, .int .u8 0, .int .u8 0, .int .u8 0, .int .u8 0, .int .u8 0, .int .u8 0, .int .u8 0, .int .u8 0, .int .u8 0, .int .u8 0, .int .u8 0, .int .u8 0, .int .u8 0, .int .u8 0, .int .u8 0] 95)) := (Below.refl _ _).alloc (Nat.le_refl _) _
      have HZE := Lib.hid (row_new wr _ 95 17 (fun i => if i = 0 then .string ⟨#[]⟩ else .int .u8 0) (by rfl) zeroE_at)
      have HO1 := Lib.hid (hO.out.below hal)
      have HB1 := Lib.hid (hB.out.trans (hal.mono hB.out.size))
      have HS1 : Hid (w1.heap.size ≤ wr.heap.size) := Lib.hid hB.out.size
      have HOL : Hid (∀ j, u3.ownBlock = some j → j < wr.heap.size) := Lib.hid (fun j hj => (hO.out.lt j hj).2)
      clear hal hO hB
      go_upto_region 5 with first
        | (refine wpList_load_mid (by rfl) 95 (.tmp 13) (by rfl) sb (so + k * 17) (by rfl) _ _ HR.out Tryd.underlying95 (by rfl) (by kernel_rfl) ?_)
        | (refine store_whole (by rfl) 95 (.tmp 5) (.tmp 14) (by rfl) wr.heap.size _ 17 _ (entF p) HZE.out (by rfl) _ (by rfl) (by kernel_rfl) (by rfl) (cellsOf_at 17 (entF p)) (fun i _ => entF_one1 p i) ?_; intro w2 hr2 ho2)
      have HO2 := Lib.hid (HO1.out.keep (W' := w2) (fun j hj => ho2.block j (by have := HOL.out j hj; omega)))
      have HB2 := Lib.hid (ho2.below HB1.out HS1.out)
      have HR2 := Lib.hid hr2
      have HK2 : Hid (cellsOf 16 (fun j => entF p (1 + j)) = #[wordF p.2 0, wordF p.2 1, wordF p.2 2, wordF p.2 3, wordF p.2 4, wordF p.2 5, wordF p.2 6, wordF p.2 7, wordF p.2 8, wordF p.2 9, wordF p.2 10, wordF p.2 11, wordF p.2 12, wordF p.2 13, wordF p.2 14, wordF p.2 15]) := Lib.hid rfl
      have c2 := hr2.cell (i := 0) (by omega)
      rw [show entF p 0 = .string p.1 from rfl] at c2
      clear hr2 ho2 HO1 HB1 HZE HOL HS1 HR
      generalize wr.heap.size = gE at *
      have HNEW : Hid (RowsAt (w2.alloc (.cells #[.int .i64 1, .string p.1, wordF p.2 0, wordF p.2 1, wordF p.2 2, wordF p.2 3, wordF p.2 4, wordF p.2 5, wordF p.2 6, wordF p.2 7, wordF p.2 8, wordF p.2 9, wordF p.2 10, wordF p.2 11, wordF p.2 12, wordF p.2 13, wordF p.2 14, wordF p.2 15, .int .i64 0] 28)) 19 1 (fun _ => ox (adO p)) (.slice (some ⟨w2.heap.size, 0, none⟩) 1 1)) := Lib.hid (row_one w2 _ 28 19 (ox (adO p)) rfl)
      have hal : Below w2.heap.size w2 (w2.alloc (.cells #[.int .i64 1, .string p.1, wordF p.2 0, wordF p.2 1, wordF p.2 2, wordF p.2 3, wordF p.2 4, wordF p.2 5, wordF p.2 6, wordF p.2 7, wordF p.2 8, wordF p.2 9, wordF p.2 10, wordF p.2 11, wordF p.2 12, wordF p.2 13, wordF p.2 14, wordF p.2 15, .int .i64 0] 28)) := (Below.refl _ _).alloc (Nat.le_refl _) _
      have HO3 := Lib.hid (HO2.out.below hal)
      have HB3 := Lib.hid (HB2.out.trans (hal.mono HB2.out.size))
      clear hal
      go_wp2_with first
        | (refine load_as (by rfl) 26 (.tmp 18) (by rfl) gE 1 _ 17 16 _ _ HK2.out HR2.out (by rfl) _ Tryd.underlying26 (by rfl) (by kernel_rfl) (by omega) ?_)
        | (at_builtin
           refine append_rows (by rfl) (.tmp 15) (.tmp 21) 22 (by rfl) w1.heap.size 28 19 48 _ Tryd.underlying22 info_op (by rfl) (by omega) _ _ (by rfl) HO3.out 1 _ _ (by rfl) HNEW.out (fun i _ => ⟨ox_len _, ox_one _⟩) (by have := HLEN.out; omega) (by omega) HB3.out.size ?_
           intro v4 w4 ho4 hg4 hv4
           have HO4 : Hid (OwnE w4 w1.heap.size 28 19 (((b.L.take (k + 1)).map adO).map ox) v4) := Lib.hid (by rw [HX.out]; exact ho4)
           have HB4 : Hid (Below w1.heap.size w1 w4) := Lib.hid (HB3.out.grown hg4 HB3.out.size (fun j hj => (HO3.out.lt j hj).1))
           clear ho4 hg4 hv4 HO3 HB3 HNEW HO2 HB2 c2)
      rw [HW.out]
      exact ⟨⟨k + 1, by omega, congrArg (Value.int .i64) (by omega), HO4.out, HB4.out⟩, by show N - ((k : Int) + 1).toNat < N - (k : Int).toNat; omega⟩
    · obtain rfl : k = N := by omega
      have HOL : Hid (OwnE wr w1.heap.size 28 19 ((b.L.map adO ++ (b.rev.take 0).map rvO).map ox) u3) := Lib.hid (by
        have := hO.out
        rw [List.take_of_length_le (by have := HNN.out; omega)] at this
        simpa using this)
      have HROW1 := Lib.hid (HROW.out.of_block (hB.out.block w.heap.size (World.rowIs.lt HROW.out)))
      have HB1 := Lib.hid hB.out
      have HBK1 := Lib.hid (HBK.out.below hB.out)
      have HLEN0 : Hid (b.L.length ≤ 50) := Lib.hid HBK.out.reach.most
      clear hlt hk hO hB c0 HNN HN
      generalize wr = w2 at *
      have c1 := HROW1.out.cell (i := 1) (by omega)
      rw [show bookF b (.slice A b.L.length c) (.slice A' b.rev.length c') 1 = .slice A' b.rev.length c' from rfl] at c1
      have HM : Hid (b.rev.length ≤ 200) := Lib.hid HBK1.out.reach.revs
      obtain ⟨M, hMM⟩ : ∃ M, M = b.rev.length := ⟨_, rfl⟩
      have HMM := Lib.hid hMM
      rw [← hMM] at c1 HM
      clear hMM
      go_wp2_with fail
      go_loopw [3, 27] (fun v i wr => ∃ k : Nat, k ≤ M ∧ i = .int .i64 (k : Int) ∧ Hid (OwnE wr w1.heap.size 28 19 ((b.L.map adO ++ (b.rev.take k).map rvO).map ox) v) ∧ Hid (Below w1.heap.size w1 wr)) (fun _ i _ => M - (intOf i).toNat)
      case atStart => exact ⟨0, by omega, rfl, HOL, HB1⟩
      case round =>
        obtain ⟨k, hk, rfl, hO, hB⟩ := hrel
        by_cases hlt : k < M
        · have hkl : k < b.rev.length := by have := HMM.out; omega
          obtain ⟨A1, c1', he, hr⟩ := rows_below HBK.out.revs hB.out
          rw [← HMM.out] at he
          simp only [Value.slice.injEq, true_and] at he
          obtain ⟨rfl, rfl⟩ := he
          obtain ⟨sb, so, rfl, -, hcc⟩ := hr (by omega)
          have hget := List.getElem?_eq_getElem hkl
          have hq : b.rev.getD k zw = b.rev[k] := by rw [List.getD_eq_getElem?_getD, hget]; rfl
          have HR : Hid (wr.rangeAt sb (so + k * 16) ((List.range 16).map (wordF b.rev[k]))) := Lib.hid (fun j u hu => hcc k hkl j u (by show (wordR (b.rev.getD k zw))[j]? = _; rw [hq]; exact hu))
          have HX : Hid ((b.L.map adO ++ (b.rev.take (k + 1)).map rvO).map ox = (b.L.map adO ++ (b.rev.take k).map rvO).map ox ++ [ox (rvO b.rev[k])]) := Lib.hid (by rw [List.take_succ_eq_append_getElem hkl, List.map_append, List.map_append, List.map_append, List.map_append, List.append_assoc]; rfl)
          have HLEN : Hid (((b.L.map adO ++ (b.rev.take k).map rvO).map ox).length ≤ 250) := Lib.hid (by rw [List.length_map, List.length_append, List.length_map, List.length_map, List.length_take]; have := HM.out; have := HLEN0.out; omega)
          have q0 : (0 : Int) ≤ (k : Int) := by omega
          have q1 : (k : Int) < (M : Int) := by omega
          have hw : wrap64 ((k : Int) + 1) = (k : Int) + 1 := wrap64_id (by omega) (by have := HM.out; omega)
          have HW := Lib.hid hw
          clear hget hq hcc hr hw
          generalize b.rev[k] = p at *
          clear hkl
          have hal : Below wr.heap.size wr (wr.alloc (.cells #[.int .u8 0, .int .u8 0, .int .u8 0, .int .u8 0, .int .u8 0, .int .u8 0, .int .u8 0, .int .u8 0, .int .u8 0, .int .u8 0, .int .u8 0, .int .u8 0, .int .u8 0, .int .u8 0, .int .u8 0, .int .u8 0] 26)) := (Below.refl _ _).alloc (Nat.le_refl _) _
          have HZE := Lib.hid (row_new wr _ 26 16 (fun _ => .int .u8 0) (by rfl) lit16z)
          have HO1 := Lib.hid (hO.out.below hal)
          have HB2 := Lib.hid (hB.out.trans (hal.mono hB.out.size))
          have HS1 : Hid (w1.heap.size ≤ wr.heap.size) := Lib.hid hB.out.size
          have HOL2 : Hid (∀ j, u3.ownBlock = some j → j < wr.heap.size) := Lib.hid (fun j hj => (hO.out.lt j hj).2)
          clear hal hO hB HOL
          go_upto_region 10 with first
            | (refine wpList_load_mid (by rfl) 26 (.tmp 29) (by rfl) sb (so + k * 16) (by rfl) _ _ HR.out Tryd.underlying26 (by rfl) (by kernel_rfl) ?_)
            | (refine store_whole (by rfl) 26 (.tmp 7) (.tmp 30) (by rfl) wr.heap.size _ 16 _ (wordF p) HZE.out (by rfl) _ (by rfl) (by kernel_rfl) (by rfl) (cellsOf_at 16 (wordF p)) (fun i _ => rfl) ?_; intro w3 hr3 ho3)
          have HO2 := Lib.hid (HO1.out.keep (W' := w3) (fun j hj => ho3.block j (by have := HOL2.out j hj; omega)))
          have HB3 := Lib.hid (ho3.below HB2.out HS1.out)
          have HR3 := Lib.hid hr3
          have HK3 : Hid (cellsOf 16 (fun j => wordF p (0 + j)) = #[wordF p 0, wordF p 1, wordF p 2, wordF p 3, wordF p 4, wordF p 5, wordF p 6, wordF p 7, wordF p 8, wordF p 9, wordF p 10, wordF p 11, wordF p 12, wordF p 13, wordF p 14, wordF p 15]) := Lib.hid rfl
          clear hr3 ho3 HO1 HB2 HZE HOL2 HS1 HR
          generalize wr.heap.size = gE at *
          have HNEW : Hid (RowsAt (w3.alloc (.cells #[.int .i64 4, .string ⟨#[]⟩, wordF p 0, wordF p 1, wordF p 2, wordF p 3, wordF p 4, wordF p 5, wordF p 6, wordF p 7, wordF p 8, wordF p 9, wordF p 10, wordF p 11, wordF p 12, wordF p 13, wordF p 14, wordF p 15, .int .i64 0] 28)) 19 1 (fun _ => ox (rvO p)) (.slice (some ⟨w3.heap.size, 0, none⟩) 1 1)) := Lib.hid (row_one w3 _ 28 19 (ox (rvO p)) rfl)
          have hal : Below w3.heap.size w3 (w3.alloc (.cells #[.int .i64 4, .string ⟨#[]⟩, wordF p 0, wordF p 1, wordF p 2, wordF p 3, wordF p 4, wordF p 5, wordF p 6, wordF p 7, wordF p 8, wordF p 9, wordF p 10, wordF p 11, wordF p 12, wordF p 13, wordF p 14, wordF p 15, .int .i64 0] 28)) := (Below.refl _ _).alloc (Nat.le_refl _) _
          have HO4 := Lib.hid (HO2.out.below hal)
          have HB4 := Lib.hid (HB3.out.trans (hal.mono HB3.out.size))
          clear hal
          go_wp2_with first
            | (refine load_as (by rfl) 26 (.tmp 7) (by rfl) gE 0 _ 16 16 _ _ HK3.out HR3.out (by rfl) _ Tryd.underlying26 (by rfl) (by kernel_rfl) (by omega) ?_)
            | (at_builtin
               refine append_rows (by rfl) (.tmp 31) (.tmp 34) 22 (by rfl) w1.heap.size 28 19 48 _ Tryd.underlying22 info_op (by rfl) (by omega) _ _ (by rfl) HO4.out 1 _ _ (by rfl) HNEW.out (fun i _ => ⟨ox_len _, ox_one _⟩) (by have := HLEN.out; omega) (by omega) HB4.out.size ?_
               intro v5 w5 ho5 hg5 hv5
               have HO5 : Hid (OwnE w5 w1.heap.size 28 19 ((b.L.map adO ++ (b.rev.take (k + 1)).map rvO).map ox) v5) := Lib.hid (by rw [HX.out]; exact ho5)
               have HB5 : Hid (Below w1.heap.size w1 w5) := Lib.hid (HB4.out.grown hg5 HB4.out.size (fun j hj => (HO4.out.lt j hj).1))
               clear ho5 hg5 hv5 HO4 HB4 HNEW HO2 HB3)
          rw [HW.out]
          exact ⟨⟨k + 1, by omega, congrArg (Value.int .i64) (by omega), HO5.out, HB5.out⟩, by show M - ((k : Int) + 1).toNat < M - (k : Int).toNat; omega⟩
        · obtain rfl : k = M := by omega
          have HOM : Hid (OwnE wr w1.heap.size 28 19 ((b.L.map adO ++ b.rev.map rvO).map ox) u3) := Lib.hid (by
            have := hO.out
            rw [List.take_of_length_le (by have := HMM.out; omega)] at this
            exact this)
          have HB3 := Lib.hid hB.out
          have HROW3 := Lib.hid (HROW.out.of_block (hB.out.block w.heap.size (World.rowIs.lt HROW.out)))
          have HLM : Hid (((b.L.map adO ++ b.rev.map rvO).map ox).length ≤ 250) := Lib.hid (by rw [List.length_map, List.length_append, List.length_map, List.length_map]; have := HM.out; have := HMM.out; have := HLEN0.out; omega)
          have HSW : Hid (w.heap.size ≤ w1.heap.size) := Lib.hid HB.out.size
          clear hlt hk hO hB HOL HROW1 HB1 HBK1 c1 HMM HM HROW
          have c2 := HROW3.out.cell (i := 2) (by omega)
          rw [show bookF b (.slice A b.L.length c) (.slice A' b.rev.length c') 2 = .int .i64 b.gen from rfl] at c2
          by_cases hg : 0 < b.gen
          · have HE : Hid ((opsB b).map ox = (b.L.map adO ++ b.rev.map rvO).map ox ++ [ox ⟨5, nos, b.own, b.gen⟩]) := Lib.hid (by rw [ops_eq, if_pos hg, ← List.append_assoc, List.map_append]; rfl)
            have HOC := Lib.hid (own_cells b (.slice A b.L.length c) (.slice A' b.rev.length c'))
            have HKL : Hid (cellsOf 16 (fun j => bookF b (.slice A b.L.length c) (.slice A' b.rev.length c') (3 + j)) = #[wordF b.own 0, wordF b.own 1, wordF b.own 2, wordF b.own 3, wordF b.own 4, wordF b.own 5, wordF b.own 6, wordF b.own 7, wordF b.own 8, wordF b.own 9, wordF b.own 10, wordF b.own 11, wordF b.own 12, wordF b.own 13, wordF b.own 14, wordF b.own 15]) := Lib.hid (HOC.out.trans rfl)
            have HNEW : Hid (RowsAt (wr.alloc (.cells #[.int .i64 5, .string ⟨#[]⟩, wordF b.own 0, wordF b.own 1, wordF b.own 2, wordF b.own 3, wordF b.own 4, wordF b.own 5, wordF b.own 6, wordF b.own 7, wordF b.own 8, wordF b.own 9, wordF b.own 10, wordF b.own 11, wordF b.own 12, wordF b.own 13, wordF b.own 14, wordF b.own 15, .int .i64 b.gen] 28)) 19 1 (fun _ => ox ⟨5, nos, b.own, b.gen⟩) (.slice (some ⟨wr.heap.size, 0, none⟩) 1 1)) := Lib.hid (row_one wr _ 28 19 (ox ⟨5, nos, b.own, b.gen⟩) rfl)
            have hal : Below wr.heap.size wr (wr.alloc (.cells #[.int .i64 5, .string ⟨#[]⟩, wordF b.own 0, wordF b.own 1, wordF b.own 2, wordF b.own 3, wordF b.own 4, wordF b.own 5, wordF b.own 6, wordF b.own 7, wordF b.own 8, wordF b.own 9, wordF b.own 10, wordF b.own 11, wordF b.own 12, wordF b.own 13, wordF b.own 14, wordF b.own 15, .int .i64 b.gen] 28)) := (Below.refl _ _).alloc (Nat.le_refl _) _
            have HO4 := Lib.hid (HOM.out.below hal)
            have HB4 := Lib.hid (HB3.out.trans (hal.mono HB3.out.size))
            clear hal HOC
            go_wp2_with first
              | (refine load_as (by rfl) 26 (.tmp 41) (by rfl) w.heap.size 3 _ 19 16 _ _ HKL.out HROW3.out (by rfl) _ Tryd.underlying26 (by rfl) (by kernel_rfl) (by omega) ?_)
              | (at_builtin
                 refine append_rows (by rfl) (.tmp 40) (.tmp 46) 22 (by rfl) w1.heap.size 28 19 48 _ Tryd.underlying22 info_op (by rfl) (by omega) _ _ (by rfl) HO4.out 1 _ _ (by rfl) HNEW.out (fun i _ => ⟨ox_len _, ox_one _⟩) (by have := HLM.out; omega) (by omega) HB4.out.size ?_
                 intro v5 w5 ho5 hg5 hv5
                 have HO5 : Hid (OwnE w5 w1.heap.size 28 19 ((opsB b).map ox) v5) := Lib.hid (by rw [HE.out]; exact ho5)
                 have HB5 : Hid (Below w1.heap.size w1 w5) := Lib.hid (HB4.out.grown hg5 HB4.out.size (fun j hj => (HO4.out.lt j hj).1))
                 clear ho5 hg5 hv5 HO4 HB4 HNEW HOM HB3 c2)
            go_ret
            exact ⟨_, rfl, HO5.out.base_ HSW.out, HB.out.trans (HB5.out.mono HSW.out)⟩
          · have HE : Hid ((opsB b).map ox = (b.L.map adO ++ b.rev.map rvO).map ox) := Lib.hid (by rw [ops_eq, if_neg hg, List.append_nil])
            go_wp2
            go_ret
            rw [HE.out]
            exact ⟨_, rfl, HOM.out.base_ HSW.out, HB.out.trans (HB3.out.mono HSW.out)⟩
end Go.Proofs.YtebchoeeohmlaaaDoor.Book
namespace Go.Proofs.YtebchoeeohmlaaaDoor.Book
open Go Go.RowKit Go.Proofs.YtebchoeeohmlaaaDoor.Aid Go.Proofs.YtebchoeeohmlaaaDoor.Field

set_option maxRecDepth 100000 in
set_option maxHeartbeats 8000000 in
theorem refRight15_any (x : OpB) (hk : x.key.length = 16) (hs : x.name.size ≤ 9000000000000000000) (w : World) : Calls Tryd.prog 13 #[opV x] w fun y w' => y = .returned (.bool (rightB x)) ∧ Below w.heap.size w w' := by
  have hr := row_new w (cellsOf 19 (opF x)) 32 19 (opF x) (size_cellsOf _ _) (cellsOf_at _ _)
  have hb := Lib.hid ((Below.refl w.heap.size w).alloc (Nat.le_refl _) (.cells (cellsOf 19 (opF x)) 32))
  have HROW := Lib.hid hr
  have hkz := fun W => key_neq_zero x.key hk _ lit16z W
  have hok := op_key x
  have MN := Lib.hid (fun W => refName_any x.name hs W)
  have he := empty_is x.name
  have HRB : Hid (rightB x = (decide (1 ≤ x.kind ∧ x.kind ≤ 5) && ((if x.kind ≤ 3 then nameB x.name else decide (x.name = nos)) && (decide (x.kind = 2 → x.key = zw) && (if x.kind = 5 then decide (1 ≤ x.gen ∧ x.gen ≤ 2147483647) else decide (x.gen = 0)))))) := rfl
  have c0 := hr.cell (i := 0) (by omega)
  have c1 := hr.cell (i := 1) (by omega)
  have c2 := hr.cell (i := 18) (by omega)
  have e0 : opF x 0 = .int .i64 x.kind := rfl
  have e1 : opF x 1 = .string x.name := rfl
  have e2 : opF x 18 = .int .i64 x.gen := rfl
  rw [e0] at c0
  rw [e1] at c1
  rw [e2] at c2
  unfold opV
  clear e0 e1 e2
  generalize hf : opF x = f at *
  clear hf
  obtain ⟨k, n, key, gen⟩ := x
  dsimp only at *
  go_enter Tryd.func13, Tryd.ntmps13
  generalize cellsOf 19 f = C at *
  go_upto_region 1 with fail
  generalize w.alloc (.cells C 32) = w1 at *
  by_cases k1 : k < 1
  · have HE : Hid (rightB ⟨k, n, key, gen⟩ = false) := Lib.hid (by rw [HRB.out, decide_eq_false (by omega)]; rfl)
    clear HRB
    go_wp2
    go_ret
    exact ⟨by rw [HE.out]; rfl, hb.out⟩
  by_cases k5 : 5 < k
  · have HE : Hid (rightB ⟨k, n, key, gen⟩ = false) := Lib.hid (by rw [HRB.out, decide_eq_false (by omega)]; rfl)
    clear HRB
    go_wp2
    go_ret
    exact ⟨by rw [HE.out]; rfl, hb.out⟩
  have hk15 : 1 ≤ k ∧ k ≤ 5 := by omega
  have h1 : (decide (1 ≤ k ∧ k ≤ 5)) = true := decide_eq_true hk15
  rw [h1, Bool.true_and] at HRB
  clear h1 hr
  by_cases k3 : k ≤ 3
  · rw [if_pos k3, if_neg (show ¬ k = 5 by omega)] at HRB
    go_wp2_with fail
    refine (MN.out _).mono ?_
    rintro _ w2 ⟨rfl, rfl⟩
    cases hnb : nameB n with
    | false =>
      have HE : Hid (rightB ⟨k, n, key, gen⟩ = false) := Lib.hid (by rw [HRB.out, hnb]; rfl)
      clear HRB
      go_wp2
      go_ret
      exact ⟨by rw [HE.out]; rfl, hb.out⟩
    | true =>
      rw [hnb, Bool.true_and] at HRB
      by_cases k2 : k = 2
      · subst k2
        rw [show decide ((2 : Int) = 2 → key = zw) = decide (key = zw) from by simp] at HRB
        cases hz : decide (key = zw) with
        | false =>
          rw [hz] at hkz HRB
          have HE := Lib.hid HRB.out
          clear HRB he
          go_wp2_with (refine load_as (by rfl) 26 (.tmp 34) (by rfl) w.heap.size 2 _ 19 16 f (cellsOf 16 (wordF key)) hok HROW.out (by rfl) _ Tryd.underlying26 (by rfl) (by kernel_rfl) (by omega) ?_)
          go_ret
          exact ⟨by rw [HE.out]; rfl, hb.out⟩
        | true =>
          rw [hz] at hkz HRB
          have HE := Lib.hid HRB.out
          clear HRB he
          have hg : (gen == 0) = decide (gen = 0) := rfl
          go_wp2_with (refine load_as (by rfl) 26 (.tmp 34) (by rfl) w.heap.size 2 _ 19 16 f (cellsOf 16 (wordF key)) hok HROW.out (by rfl) _ Tryd.underlying26 (by rfl) (by kernel_rfl) (by omega) ?_)
          go_ret
          exact ⟨by rw [HE.out]; rfl, hb.out⟩
      · rw [decide_eq_true (show k = 2 → key = zw from fun h => absurd h k2), Bool.true_and] at HRB
        have HE := Lib.hid HRB.out
        clear HRB
        have qk : (k == 2) = false := by simpa using k2
        have qk5 : (k == 5) = false := by simp; omega
        have hg : (gen == 0) = decide (gen = 0) := rfl
        go_wp2
        go_ret
        exact ⟨by rw [HE.out]; rfl, hb.out⟩
  · rw [if_neg k3, decide_eq_true (show k = 2 → key = zw from fun h => by omega), Bool.true_and] at HRB
    cases hne : decide (n = nos) with
    | false =>
      rw [hne] at he HRB
      have HE : Hid (rightB ⟨k, n, key, gen⟩ = false) := Lib.hid (by rw [HRB.out]; rfl)
      clear HRB
      go_wp2
      go_ret
      exact ⟨by rw [HE.out]; rfl, hb.out⟩
    | true =>
      rw [hne] at he HRB
      rw [Bool.true_and] at HRB
      by_cases kk : k = 5
      · rw [if_pos kk] at HRB
        subst kk
        have HE := Lib.hid HRB.out
        clear HRB
        by_cases g1 : 1 ≤ gen
        · have hgd : decide (1 ≤ gen ∧ gen ≤ 2147483647) = decide (gen ≤ 2147483647) := decide_eq_decide.2 (by omega)
          rw [hgd] at HE
          go_wp2
          go_ret
          exact ⟨by rw [HE.out]; rfl, hb.out⟩
        · have hgd : decide (1 ≤ gen ∧ gen ≤ 2147483647) = false := decide_eq_false (by omega)
          rw [hgd] at HE
          go_wp2
          go_ret
          exact ⟨by rw [HE.out]; rfl, hb.out⟩
      · rw [if_neg kk] at HRB
        have HE := Lib.hid HRB.out
        clear HRB
        have qk : (k == 2) = false := by simp; omega
        have qk5 : (k == 5) = false := by simp; omega
        go_wp2
        go_ret
        exact ⟨by rw [HE.out]; rfl, hb.out⟩
end Go.Proofs.YtebchoeeohmlaaaDoor.Book
namespace Go.Proofs.YtebchoeeohmlaaaDoor.Book
open Go Go.RowKit Go.Proofs.YtebchoeeohmlaaaDoor.Aid Go.Proofs.YtebchoeeohmlaaaDoor.Field Go.Proofs.YtebchoeeohmlaaaDoor.Law01

set_option maxRecDepth 100000 in
set_option maxHeartbeats 8000000 in
theorem refPut15_any (x : OpB) (hk : x.key.length = 16) (hs : x.name.size ≤ 9000000000000000000) (w : World) : Calls Tryd.prog 10 #[opV x] w fun y w' => ∃ v, y = .returned (.tuple #[v, .int .i64 (if rightB x = true then 0 else 3)]) ∧ Own w' w.heap.size (if rightB x = true then encNO x else 0) (encEO x) v ∧ Below w.heap.size w w' := by
  have hr := row_new w (cellsOf 19 (opF x)) 32 19 (opF x) (size_cellsOf _ _) (cellsOf_at _ _)
  have hb := Lib.hid ((Below.refl w.heap.size w).alloc (Nat.le_refl _) (.cells (cellsOf 19 (opF x)) 32))
  have HROW := Lib.hid hr
  obtain ⟨cc, hcc⟩ : ∃ cc : Int, cc = if rightB x = true then 0 else 3 := ⟨_, rfl⟩
  obtain ⟨nn, hnn⟩ : ∃ nn : Nat, nn = if rightB x = true then encNO x else 0 := ⟨_, rfl⟩
  rw [← hcc, ← hnn]
  have HCC := Lib.hid hcc
  have HNN := Lib.hid hnn
  clear hcc hnn
  have HRT := Lib.hid (fun W => refRight15_any x hk hs W)
  unfold opV at HRT ⊢
  clear hr
  go_enter Tryd.func10, Tryd.ntmps10
  go_upto_region 1 with fail
  generalize hC : cellsOf 19 (opF x) = C at *
  generalize w.alloc (.cells C 32) = w1 at *
  go_wp2_with (refine load_whole_met (by rfl) 32 (.tmp 1) (by rfl) _ _ _ _ HROW.out (by rfl) _ Tryd.underlying32 (by rfl) (by kernel_rfl) ?_; rw [hC])
  refine (HRT.out w1).mono ?_
  rintro _ w2 ⟨rfl, hb2⟩
  have hbw : Below w.heap.size w w2 := hb.out.trans (hb2.mono hb.out.size)
  have HR2 := Lib.hid (HROW.out.of_block (hb2.block _ (World.rowIs.lt HROW.out)))
  have HB2 := Lib.hid hbw
  clear hb2 hbw HROW hb HRT hC
  cases hrb : rightB x with
  | false =>
    go_wp2
    go_ret2
    refine ⟨.slice none 0 0, ?_, ?_, HB2.out⟩
    · rw [HCC.out, hrb]; rfl
    · rw [HNN.out, hrb]; exact ⟨by simp, .inl ⟨rfl, rfl⟩⟩
  | true =>
    have HSZ := Lib.hid (right_size hrb)
    go_upto_region 3 with fail
    have HROWS : Hid (∀ W, Below w2.drew.heap.size w2.drew W → W.rowIs w.heap.size 32 19 (opF x)) := Lib.hid fun W hW => HR2.out.of_block (hW.block _ (World.rowIs.lt HR2.out))
    have KA := Lib.hid (fun (W : World) => Lib.run_convert_string_bytes (P := Tryd.prog) W 9 23 5 x.name Tryd.underlying9 Tryd.underlying23 Tryd.underlying5)
    refine region_inv_all (postP x w.heap.size w.heap.size) 15 (by kernel_rfl) (by kernel_rfl) (by kernel_rfl) (postP_mono x _ _) ?_ ?_
    · refine ⟨⟨⟨⟨⟨⟨⟨⟨⟨⟨⟨⟨⟨⟨⟨trivial, ?_⟩, ?_⟩, ?_⟩, ?_⟩, ?_⟩, ?_⟩, ?_⟩, ?_⟩, ?_⟩, ?_⟩, ?_⟩, ?_⟩, ?_⟩, ?_⟩, ?_⟩
      · refine ⟨_, rfl, fun xs W hW hd => ?_⟩
        clear hd
        simp only [fillI, List.take, List.setIfInBounds_toArray, List.set_cons_zero, List.set_cons_succ, Nat.reduceAdd, Nat.zero_add]
        go_wp2_with fail
        refine ⟨_, by (simp only [upd, Nat.reduceEqDiff, reduceIte]; rfl), ?_, ?_⟩
        · rfl
        · exact Below.refl _ _
      · refine ⟨_, rfl, fun xs W hW hd => ?_⟩
        have h0 : xs 0 = .pointer (some ⟨w.heap.size, 1, none⟩) := hd 0 (by kernel_rfl)
        have c1 := (HROWS.out W hW).cell (i := 1) (by omega)
        rw [show opF x 1 = .string x.name from rfl] at c1
        clear hd
        rw [upd_self h0]
        simp only [fillI, List.take, List.setIfInBounds_toArray, List.set_cons_zero, List.set_cons_succ, Nat.reduceAdd, Nat.zero_add, upd, Nat.reduceEqDiff, reduceIte]
        go_wp2_with fail
        refine ⟨_, by (simp only [upd, Nat.reduceEqDiff, reduceIte]; rfl), ?_, ?_⟩
        · rfl
        · exact Below.refl _ _
      · refine ⟨_, rfl, fun xs W hW hd => ?_⟩
        have h0 : xs 1 = .string x.name := hd 1 (by kernel_rfl)
        clear hd
        rw [upd_self h0]
        simp only [fillI, List.take, List.setIfInBounds_toArray, List.set_cons_zero, List.set_cons_succ, Nat.reduceAdd, Nat.zero_add, upd, Nat.reduceEqDiff, reduceIte]
        have kx := KA.out
        go_wp2_with fail
        refine ⟨_, by (simp only [upd, Nat.reduceEqDiff, reduceIte]; rfl), ?_, ?_⟩
        · exact strB_slice W x.name _ (by rw [Lib.bytesWorld_size]; omega)
        · exact strB_below W x.name
      · refine ⟨_, rfl, fun xs W hW hd => ?_⟩
        clear hd
        simp only [fillI, List.take, List.setIfInBounds_toArray, List.set_cons_zero, List.set_cons_succ, Nat.reduceAdd, Nat.zero_add]
        go_wp2_with fail
        refine ⟨_, by (simp only [upd, Nat.reduceEqDiff, reduceIte]; rfl), ?_, ?_⟩
        · rfl
        · exact Below.refl _ _
      · refine ⟨_, rfl, fun xs W hW hd => ?_⟩
        have h0 : xs 3 = .pointer (some ⟨w.heap.size, 2, none⟩) := hd 3 (by kernel_rfl)
        have hsl : SliceOf W W.heap.size 16 (keyE x.key) (.slice (some ⟨w.heap.size, 2, none⟩) 16 16) := op_slice (HROWS.out W hW)
        have HSL := Lib.hid hsl
        have ka := fun W => arr_whole (P := Tryd.prog) 26 5 16 Tryd.underlying26 (by kernel_rfl) w.heap.size 2 W
        clear hd hsl
        rw [upd_self h0]
        simp only [fillI, List.take, List.setIfInBounds_toArray, List.set_cons_zero, List.set_cons_succ, Nat.reduceAdd, Nat.zero_add, upd, Nat.reduceEqDiff, reduceIte]
        go_wp2_with fail
        refine ⟨_, by (simp only [upd, Nat.reduceEqDiff, reduceIte]; rfl), ?_, ?_⟩
        · exact HSL.out
        · exact Below.refl _ _
      · refine ⟨_, rfl, fun xs W hW hd => ?_⟩
        clear hd
        simp only [fillI, List.take, List.setIfInBounds_toArray, List.set_cons_zero, List.set_cons_succ, Nat.reduceAdd, Nat.zero_add]
        go_wp2_with fail
        refine ⟨_, by (simp only [upd, Nat.reduceEqDiff, reduceIte]; rfl), ?_, ?_⟩
        · rfl
        · exact Below.refl _ _
      · refine ⟨_, rfl, fun xs W hW hd => ?_⟩
        have h0 : xs 5 = .pointer (some ⟨w.heap.size, 18, none⟩) := hd 5 (by kernel_rfl)
        have c1 := (HROWS.out W hW).cell (i := 18) (by omega)
        rw [show opF x 18 = .int .i64 x.gen from rfl] at c1
        clear hd
        rw [upd_self h0]
        simp only [fillI, List.take, List.setIfInBounds_toArray, List.set_cons_zero, List.set_cons_succ, Nat.reduceAdd, Nat.zero_add, upd, Nat.reduceEqDiff, reduceIte]
        go_wp2_with fail
        refine ⟨_, by (simp only [upd, Nat.reduceEqDiff, reduceIte]; rfl), ?_, ?_⟩
        · rfl
        · exact Below.refl _ _
      · refine ⟨_, rfl, fun xs W hW hd => ?_⟩
        have h0 : xs 6 = .int .i64 x.gen := hd 6 (by kernel_rfl)
        clear hd
        rw [upd_self h0]
        simp only [fillI, List.take, List.setIfInBounds_toArray, List.set_cons_zero, List.set_cons_succ, Nat.reduceAdd, Nat.zero_add, upd, Nat.reduceEqDiff, reduceIte]
        go_wp2_with fail
        refine (refNumber_any x.gen W).mono ?_
        rintro _ W' ⟨v, rfl, ho, hb'⟩
        have HO := Lib.hid ho
        have HB' := Lib.hid hb'
        clear ho hb'
        go_wp2_with fail
        refine ⟨_, by (simp only [upd, Nat.reduceEqDiff, reduceIte]; rfl), ?_, ?_⟩
        · exact HO.out.slice (.inr (Nat.le_refl _))
        · exact HB'.out
      · refine ⟨_, rfl, fun xs W hW hd => ?_⟩
        have h0 : SliceOf W W.heap.size x.name.size (strB x.name) (xs 2) := hd 2 (by kernel_rfl)
        have h1 : SliceOf W W.heap.size 16 (keyE x.key) (xs 4) := hd 4 (by kernel_rfl)
        have h2 : SliceOf W W.heap.size 8 (numB x.gen) (xs 7) := hd 7 (by kernel_rfl)
        have H0 := Lib.hid h0
        have H1 := Lib.hid h1
        have H2 := Lib.hid h2
        obtain ⟨A0, c0, e0⟩ := slice_shape h0
        obtain ⟨A1, c1, e1⟩ := slice_shape h1
        obtain ⟨A2, c2, e2⟩ := slice_shape h2
        clear hd h0 h1 h2
        rw [e0] at H0
        rw [e1] at H1
        rw [e2] at H2
        rw [upd_self e0, upd_self e1, upd_self e2]
        simp only [fillI, List.take, List.setIfInBounds_toArray, List.set_cons_zero, List.set_cons_succ, Nat.reduceAdd, Nat.zero_add, upd, Nat.reduceEqDiff, reduceIte]
        go_wp2_with fail
        refine ⟨_, by (simp only [upd, Nat.reduceEqDiff, reduceIte]; rfl), ?_, ?_⟩
        · exact parts_three W x.name.size (strB x.name) (keyE x.key) (numB x.gen) _ _ _ H0.out H1.out H2.out (mO x) (eO x) rfl rfl rfl rfl rfl rfl
        · exact (Below.refl _ _).alloc (Nat.le_refl _) _
      · refine ⟨_, rfl, fun xs W hW hd => ?_⟩
        have h0 : PartsOf W 3 (mO x) (eO x) (xs 8) := hd 8 (by kernel_rfl)
        have H0 := Lib.hid h0
        have HSW : Hid (w.heap.size ≤ W.heap.size) := Lib.hid (Nat.le_trans HB2.out.size hW.size)
        generalize hx8 : xs 8 = p8 at *
        clear hd h0
        rw [upd_self hx8]
        simp only [fillI, List.take, List.setIfInBounds_toArray, List.set_cons_zero, List.set_cons_succ, Nat.reduceAdd, Nat.zero_add, upd, Nat.reduceEqDiff, reduceIte]
        go_wp2_with fail
        refine (refPut_any 3 (mO x) (eO x) p8 W H0.out (by rw [off_op]; have := HSZ.out; omega)).mono ?_
        rintro _ W' ⟨r, rfl, ho, hb'⟩
        have hc : putC 3 (mO x) = 0 := by unfold putC; rw [putB_op (by have := HSZ.out; omega)]; rfl
        have hn : putN 3 (mO x) = encN (mO x) 3 := by unfold putN; rw [putB_op (by have := HSZ.out; omega)]; rfl
        rw [hn] at ho
        rw [hc]
        have HO := Lib.hid (own_base ho HSW.out)
        have HB' := Lib.hid hb'
        clear ho hb' hn hc
        go_wp2_with fail
        refine ⟨_, by (simp only [upd, Nat.reduceEqDiff, reduceIte]; rfl), ?_, ?_⟩
        · exact ⟨r, rfl, HO.out⟩
        · exact HB'.out
      · refine ⟨_, rfl, fun xs W hW hd => ?_⟩
        obtain ⟨r, h0, ho⟩ : ∃ r, xs 9 = .tuple #[r, .int .i64 0] ∧ Own W w.heap.size (encN (mO x) 3) (encB (mO x) (eO x) 3) r := hd 9 (by kernel_rfl)
        have HO := Lib.hid ho
        clear hd ho
        rw [upd_self h0]
        simp only [fillI, List.take, List.setIfInBounds_toArray, List.set_cons_zero, List.set_cons_succ, Nat.reduceAdd, Nat.zero_add, upd, Nat.reduceEqDiff, reduceIte]
        go_wp2_with fail
        refine ⟨_, by (simp only [upd, Nat.reduceEqDiff, reduceIte]; rfl), ?_, ?_⟩
        · exact ⟨r, rfl, HO.out⟩
        · exact Below.refl _ _
      · refine ⟨_, rfl, fun xs W hW hd => ?_⟩
        obtain ⟨r, h0, ho⟩ : ∃ r, xs 10 = .tuple #[r, .int .i64 0] ∧ Own W w.heap.size (encN (mO x) 3) (encB (mO x) (eO x) 3) r := hd 10 (by kernel_rfl)
        have HO := Lib.hid ho
        clear hd ho
        rw [upd_self h0]
        simp only [fillI, List.take, List.setIfInBounds_toArray, List.set_cons_zero, List.set_cons_succ, Nat.reduceAdd, Nat.zero_add, upd, Nat.reduceEqDiff, reduceIte]
        go_wp2_with fail
        refine ⟨_, by (simp only [upd, Nat.reduceEqDiff, reduceIte]; rfl), ?_, ?_⟩
        · exact HO.out
        · exact Below.refl _ _
      · refine ⟨_, rfl, fun xs W hW hd => ?_⟩
        obtain ⟨r, h0, ho⟩ : ∃ r, xs 10 = .tuple #[r, .int .i64 0] ∧ Own W w.heap.size (encN (mO x) 3) (encB (mO x) (eO x) 3) r := hd 10 (by kernel_rfl)
        clear hd ho
        rw [upd_self h0]
        simp only [fillI, List.take, List.setIfInBounds_toArray, List.set_cons_zero, List.set_cons_succ, Nat.reduceAdd, Nat.zero_add, upd, Nat.reduceEqDiff, reduceIte]
        go_wp2_with fail
        refine ⟨_, by (simp only [upd, Nat.reduceEqDiff, reduceIte]; rfl), ?_, ?_⟩
        · rfl
        · exact Below.refl _ _
      · refine ⟨_, rfl, fun xs W hW hd => ?_⟩
        have h0 : Own W w.heap.size (encN (mO x) 3) (encB (mO x) (eO x) 3) (xs 11) := hd 11 (by kernel_rfl)
        have H0 := Lib.hid h0
        generalize hx : xs 11 = p11 at *
        clear hd h0
        rw [upd_self hx]
        simp only [fillI, List.take, List.setIfInBounds_toArray, List.set_cons_zero, List.set_cons_succ, Nat.reduceAdd, Nat.zero_add, upd, Nat.reduceEqDiff, reduceIte]
        go_wp2_with fail
        refine ⟨_, by (simp only [upd, Nat.reduceEqDiff, reduceIte]; rfl), ?_, ?_⟩
        · exact H0.out
        · exact Below.refl _ _
      · refine ⟨_, rfl, fun xs W hW hd => ?_⟩
        clear hd
        simp only [fillI, List.take, List.setIfInBounds_toArray, List.set_cons_zero, List.set_cons_succ, Nat.reduceAdd, Nat.zero_add]
        go_wp2_with fail
        refine ⟨_, by (simp only [upd, Nat.reduceEqDiff, reduceIte]; rfl), ?_, ?_⟩
        · trivial
        · exact Below.refl _ _
    · intro xs W hW hp
      have h13 : Own W w.heap.size (encN (mO x) 3) (encB (mO x) (eO x) 3) (xs 13) := hp 13 (by omega)
      have HO := Lib.hid h13
      have HW := Lib.hid (HB2.out.trans ((undrew hW).mono HB2.out.size))
      obtain ⟨A, c, e13, hAc, -⟩ := own_shape h13
      have c0 := (HROWS.out W hW).cell (i := 0) (by omega)
      rw [show opF x 0 = .int .i64 x.kind from rfl] at c0
      have HNX : Hid (encN (mO x) 3 ≤ 100) := Lib.hid (by rw [encN3]; show x.name.size + 16 + 8 + 6 ≤ 100; have := HSZ.out; omega)
      clear hp hW h13
      rw [e13] at HO
      rw [upd_self e13]
      simp only [fillI, List.take, List.setIfInBounds_toArray, List.set_cons_zero, List.set_cons_succ, Nat.reduceAdd, Nat.zero_add, upd, Nat.reduceEqDiff, reduceIte]
      clear e13 HROWS KA HR2
      generalize hE : encN (mO x) 3 = NE at *
      generalize xs 14 = y14 at *
      generalize xs 10 = y10 at *
      generalize xs 0 = y0 at *
      generalize xs 1 = y1 at *
      generalize xs 2 = y2 at *
      generalize xs 3 = y3 at *
      generalize xs 4 = y4 at *
      generalize xs 5 = y5 at *
      generalize xs 6 = y6 at *
      generalize xs 7 = y7 at *
      generalize xs 8 = y8 at *
      generalize xs 9 = y9 at *
      generalize xs 11 = y11 at *
      generalize xs 12 = y12 at *
      clear xs
      have hk8 := right_kind hrb
      have hw8 : IntKind.u8.wrap x.kind = ((bt x.kind.toNat).toNat : Int) := by rw [bt_toNat (by omega), u8_in _ (by omega)]; omega
      obtain ⟨z8, hz8⟩ : ∃ z8, z8 = IntKind.u8.wrap x.kind := ⟨_, rfl⟩
      have hz9 : z8 = ((bt x.kind.toNat).toNat : Int) := hz8.trans hw8
      have hz8' : IntKind.u8.wrap x.kind = z8 := hz8.symm
      have HKK := Lib.hid (own_byte W (bt x.kind.toNat) z8 hz9)
      have hal : Below W.heap.size W (W.alloc (.cells #[.int .u8 z8] 5)) := (Below.refl _ _).alloc (Nat.le_refl _) _
      have HS2 := Lib.hid (slice_below (HO.out.slice (g' := W.heap.size) (.inr (Nat.le_refl _))) hal)
      have HSZ2 : Hid (W.heap.size ≤ (W.alloc (.cells #[.int .u8 z8] 5)).heap.size) := Lib.hid hal.size
      have HAL := Lib.hid hal
      have hn1 := HNX.out
      have HE := Lib.hid hE
      clear hw8 hal HO hE hk8 hz8 hz9
      go_wp2_with (at_builtin
                   refine append_bytes (by rfl) (.tmp 25) (.tmp 26) (by rfl) W.heap.size 1 (fun _ => bt x.kind.toNat) _ (by rfl) HKK.out W.heap.size NE (encB (mO x) (eO x) 3) _ (by rfl) HS2.out (by omega) HSZ2.out ?_
                   intro v2 w3 ho2 hg2 _
                   have HB3 : Hid (Below W.heap.size W w3) := Lib.hid (HAL.out.grown hg2 HSZ2.out (fun b hb => (HKK.out.lt hb).1))
                   have HO2 := Lib.hid ho2
                   have hsh := own_shape ho2
                   clear ho2 hg2 HKK HS2 HSZ2 HAL
                   obtain ⟨sA, sc, hss, -, -⟩ := hsh
                   subst hss)
      go_ret2
      refine ⟨_, by rw [HCC.out, hrb]; rfl, ?_, HW.out.trans (HB3.out.mono HW.out.size)⟩
      have hnn : nn = 1 + NE := by rw [HNN.out, hrb, if_pos rfl]; unfold encNO; rw [HE.out]; omega
      rw [hnn]
      refine own_base (HO2.out.congr' (fun j _ => ?_)) HW.out.size
      unfold cat encEO
      by_cases hj : j < 1
      · rw [if_pos hj, if_pos (by omega)]
      · rw [if_neg hj, if_neg (by omega)]
end Go.Proofs.YtebchoeeohmlaaaDoor.Book
