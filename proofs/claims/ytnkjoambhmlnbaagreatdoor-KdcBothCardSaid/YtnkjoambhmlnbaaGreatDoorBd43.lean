/-
  What place does: the library's search for an entry, and the closure that it asks.
-/
import Derived.Test.YtnkjoambhmlnbaaGreatDoorBd42
import Derived.WalkSmall
import Derived.WalkMore
import Derived.OwnWalk
import Derived.Deep.DeepCutAuto
namespace Go.Proofs.YtnkjoambhmlnbaaGreatDoor.Book
open Go Go.RowKit Go.Proofs.YtnkjoambhmlnbaaGreatDoor.Aid
open Go.Proofs.YtnkjoambhmlnbaaGreatDoor.Cache (idxK list_eq)

def entV (p : ByteArray × Wd) : Value := .agg (cellsOf 17 (entF p))
set_option maxRecDepth 100000 in
theorem placeFn_any (p : ByteArray × Wd) (n : ByteArray) (g : Nat) (w : World) (hc : w.cell? ⟨g, 0, none⟩ = some (.string n)) :
    Calls Tryz.prog 46 #[entV p, .pointer (some ⟨g, 0, none⟩)] w fun e w' => e = .returned (.bool (decide (p.1 = n))) ∧ Below w.heap.size w w' := by
  have hb := (Below.refl w.heap.size w).alloc (Nat.le_refl _) (.cells (cellsOf 17 (entF p)) 47)
  have c1 := (hb.cell (p := ⟨g, 0, none⟩) (block_lt_of_cell hc)).trans hc
  have hr := row_new w (cellsOf 17 (entF p)) 47 17 (entF p) (size_cellsOf _ _) (cellsOf_at _ _)
  have c0 := hr.cell (i := 0) (by omega)
  have e0 : entF p 0 = .string p.1 := rfl
  rw [e0] at c0
  have HB := Lib.hid hb
  have hl := list_eq p.1 n
  clear hc hr e0 hb
  unfold entV
  generalize cellsOf 17 (entF p) = C at *
  go_enter Tryz.func46, Tryz.ntmps46
  go_upto_region 1 with fail
  generalize w.alloc (.cells C 47) = w1 at *
  go_wp2
  go_ret
  exact ⟨rfl, HB.out⟩
set_option maxRecDepth 100000 in
set_option maxHeartbeats 1000000 in
theorem index_ent (L : List (ByteArray × Wd)) (hN : L.length ≤ 100000) (n : ByteArray) (g : Nat) (v : Value) (w : World) (hv : RowsAt w 17 L.length (fun i => entR (L.getD i (nos, zw))) v) (hc : w.cell? ⟨g, 0, none⟩ = some (.string n)) :
    Calls Tryz.prog 45 #[v, .func (.func 46) #[] #[.pointer (some ⟨g, 0, none⟩)]] w fun x w' => x = .returned (.int .i64 (idxK (namesB L) n)) ∧ Below w.heap.size w w' := by
  obtain ⟨A, c, rfl, hv⟩ := hv
  have HV := Lib.hid hv
  have HC := Lib.hid hc
  obtain ⟨N, hNN⟩ : ∃ N, N = L.length := ⟨_, rfl⟩
  have HNN := Lib.hid hNN
  rw [← hNN] at hN ⊢
  clear hv hc hNN
  go_enter Tryz.func45, Tryz.ntmps45
  go_wp2
  go_loopw [5, 8] (fun _ i wr => ∃ k : Nat, k ≤ N ∧ i = .int .i64 (k : Int) ∧ Hid (∀ j, j < k → (namesB L)[j]? ≠ some n) ∧ Hid (Below w.heap.size w wr)) (fun _ i _ => N - (intOf i).toNat)
  case atStart => exact ⟨0, by omega, rfl, Lib.hid (fun j hj => by omega), Lib.hid (Below.refl _ _)⟩
  case round =>
    obtain ⟨k, hk, rfl, hall, hb⟩ := hrel
    by_cases hlt : k < N
    · obtain ⟨b, o, rfl, hB, hcc⟩ := HV.out (by have := HNN.out; omega)
      have hkl : k < L.length := by have := HNN.out; omega
      have HX := Lib.hid (List.getElem?_eq_getElem hkl)
      have HNK : Hid ((namesB L)[k]? = some L[k].1) := Lib.hid (names_at (List.getElem?_eq_getElem hkl))
      have hq : L.getD k (nos, zw) = L[k] := by rw [List.getD_eq_getElem?_getD, List.getElem?_eq_getElem hkl]; rfl
      have HR : Hid (wr.rangeAt b (o + k * 17) ((List.range 17).map (entF L[k]))) := Lib.hid (fun j u hu => by
        have h1 := hcc k hkl j u (by show (entR (L.getD k (nos, zw)))[j]? = _; rw [hq]; exact hu)
        exact (hb.out.cell (p := ⟨b, o + k * 17 + j, none⟩) hB).trans h1)
      obtain ⟨p, hp⟩ : ∃ p, p = L[k] := ⟨_, rfl⟩
      rw [← hp] at HR HNK
      have c0 := (hb.out.cell (p := ⟨g, 0, none⟩) (block_lt_of_cell HC.out)).trans HC.out
      have HF := Lib.hid (placeFn_any p n g wr c0)
      have q0 : (0 : Int) ≤ (k : Int) := by omega
      have q1 : (k : Int) < (N : Int) := by omega
      have hs1 : Hid (w.heap.size ≤ wr.heap.size) := Lib.hid hb.out.size
      clear hcc hp hq hkl HX c0
      unfold entV at HF
      by_cases he : p.1 = n
      · have hr := Lib.hid (idx_at (HNK.out.trans (congrArg some he)) hall.out)
        rw [decide_eq_true he] at HF
        clear hall he
        go_wp2_with first | (refine wpList_load_mid (by rfl) 47 (.tmp 14) (by rfl) b (o + k * 17) (by rfl) _ _ HR.out Tryz.underlying47 (by rfl) (by kernel_rfl) ?_) | (go_at_call 46; refine HF.out.mono ?_; rintro _ w1 ⟨rfl, hb1⟩; have HB1 := Lib.hid hb1; clear hb1)
        go_ret
        exact ⟨by rw [hr.out] <;> rfl, hb.out.trans (HB1.out.mono hs1.out)⟩
      · have hall' : Hid (∀ j, j < k + 1 → (namesB L)[j]? ≠ some n) := Lib.hid (fun j hj => by
          by_cases e1 : j = k
          · subst e1
            rw [HNK.out]
            exact fun e => he (Option.some.inj e)
          · exact hall.out j (by omega))
        rw [decide_eq_false he] at HF
        clear hall he
        go_wp2_with first | (refine wpList_load_mid (by rfl) 47 (.tmp 14) (by rfl) b (o + k * 17) (by rfl) _ _ HR.out Tryz.underlying47 (by rfl) (by kernel_rfl) ?_) | (go_at_call 46; refine HF.out.mono ?_; rintro _ w1 ⟨rfl, hb1⟩; have HB1 := Lib.hid hb1; clear hb1)
        exact ⟨⟨k + 1, by omega, congrArg (Value.int .i64) (by omega), hall', Lib.hid (hb.out.trans (HB1.out.mono hs1.out))⟩, by simp [intOf]; omega⟩
    · obtain rfl : k = N := by omega
      have hr := Lib.hid (idx_no (c := namesB L) (k := n) (fun j hj => hall.out j (by have := HNN.out; rw [names_len] at hj; omega)))
      clear hall HV
      go_wp2
      go_ret
      exact ⟨by rw [hr.out] <;> rfl, hb.out⟩
set_option maxRecDepth 100000 in
theorem place_any {w : World} (b : Bk) (Lv Rv : Value) (h : RowsAt w 17 b.L.length (entsL b) Lv) (hN : b.L.length ≤ 100000) (n : ByteArray) :
    Calls Tryz.prog 21 #[bookV b Lv Rv, .string n] w fun x w' => x = .returned (.int .i64 (idxK (namesB b.L) n)) ∧ Below w.heap.size w w' := by
  have hr := row_new w (cellsOf 19 (bookF b Lv Rv)) 27 19 (bookF b Lv Rv) (size_cellsOf _ _) (cellsOf_at _ _)
  have hb := (Below.refl w.heap.size w).alloc (Nat.le_refl _) (.cells (cellsOf 19 (bookF b Lv Rv)) 27)
  have c0 := hr.cell (i := 0) (by omega)
  have e0 : bookF b Lv Rv 0 = Lv := rfl
  rw [e0] at c0
  have HB := Lib.hid hb
  have HL := Lib.hid (rows_below h hb)
  obtain ⟨A, c, rfl, -⟩ := h
  clear hr e0 hb
  unfold bookV
  generalize cellsOf 19 (bookF b (.slice A b.L.length c) Rv) = C at *
  go_enter Tryz.func21, Tryz.ntmps21
  go_upto_region 1 with fail
  have HSZ : Hid ((w.alloc (.cells C 27)).heap.size = w.heap.size + 1) := Lib.hid (by simp)
  generalize w.alloc (.cells C 27) = w1 at *
  have HN2 : Hid ((w1.alloc (.cells #[.string n] 9)).cell? ⟨w.heap.size + 1, 0, none⟩ = some (.string n)) := Lib.hid (by
    rw [← HSZ.out]
    exact (cell_of_row _ _ 0 _ _ _ (heap_alloc_new w1 _)).trans rfl)
  have hb2 : Below w1.heap.size w1 (w1.alloc (.cells #[.string n] 9)) := (Below.refl _ _).alloc (Nat.le_refl _) _
  have c1 := (hb2.cell (p := ⟨w.heap.size, 0, none⟩) (block_lt_of_cell c0)).trans c0
  have HL2 := Lib.hid (rows_below HL.out hb2)
  have HB2 := Lib.hid (HB.out.trans (hb2.mono HB.out.size))
  clear c0 HL HB HSZ hb2
  generalize w1.alloc (.cells #[.string n] 9) = w2 at *
  have HI := Lib.hid (index_ent b.L hN n (w.heap.size + 1) _ w2 HL2.out HN2.out)
  go_wp2_with fail
  refine HI.out.mono ?_
  rintro _ w3 ⟨rfl, hb3⟩
  have HB3 := Lib.hid (HB2.out.trans (hb3.mono HB2.out.size))
  clear hb3
  go_wp2
  go_ret
  exact ⟨rfl, HB3.out⟩
end Go.Proofs.YtnkjoambhmlnbaaGreatDoor.Book
