/-
  What the program's Right and Same do. What the program's Same does. What the program's Right does.
-/
import Derived.Test.YtnkjoambhmlnbaaGreatDoorBd21
import Derived.Test.YtnkjoambhmlnbaaGreatDoorBd50
import Derived.Lib.OthersKept
namespace Go.Proofs.YtnkjoambhmlnbaaGreatDoor.Note
open Go Go.RowKit Go.Proofs.YtnkjoambhmlnbaaGreatDoor.Aid Go.Proofs.YtnkjoambhmlnbaaGreatDoor.Law01 Go.Proofs.YtnkjoambhmlnbaaGreatDoor.Field

theorem kind_any (k : Int) (w : World) : Calls Tryz.prog 19 #[.int .i64 k] w fun x w' => x = .returned (.bool (decide (1 ≤ k ∧ k < 17))) ∧ w' = w := by
  go_enter Tryz.func19, Tryz.ntmps19
  by_cases h1 : 1 ≤ k
  · have e1 : decide (1 ≤ k ∧ k < 17) = decide (k < 17) := decide_eq_decide.2 (by omega)
    go_wp2
    go_ret
    exact ⟨by rw [e1]; rfl, rfl⟩
  · have e1 : decide (1 ≤ k ∧ k < 17) = false := decide_eq_false (by omega)
    go_wp2
    go_ret
    exact ⟨by first | rfl | (rw [e1]; rfl), rfl⟩
def all7 : List Nat := [65, 66, 88, 89, 80, 81, 82]
def s7 : ByteArray := ⟨#[65, 66, 88, 89, 80, 81, 82]⟩
theorem all7_seven (j : Nat) (h : j < 7) : seven (all7.getD j 0) := by
  unfold seven
  match j, h with
  | 0, _ => simp [all7]
  | 1, _ => simp [all7]
  | 2, _ => simp [all7]
  | 3, _ => simp [all7]
  | 4, _ => simp [all7]
  | 5, _ => simp [all7]
  | 6, _ => simp [all7]
theorem s7_at (j : Nat) (h : j < s7.size) : s7[j].toNat = all7.getD j 0 := by
  have h' : j < 7 := h
  match j, h' with
  | 0, _ => rfl
  | 1, _ => rfl
  | 2, _ => rfl
  | 3, _ => rfl
  | 4, _ => rfl
  | 5, _ => rfl
  | 6, _ => rfl
def okC (c : Nat) (N : NoteP) : Bool := if inL N.kind c then validC c N else sameC c N (blank 0)
theorem kind_has (k : Int) : decide (1 ≤ k ∧ k < 17) = !(hasL k).isEmpty := by
  by_cases h : 1 ≤ k ∧ k < 17
  · obtain ⟨h1, h2⟩ := h
    rw [decide_eq_true ⟨h1, h2⟩]
    obtain rfl | rfl | rfl | rfl | rfl | rfl | rfl | rfl | rfl | rfl | rfl | rfl | rfl | rfl | rfl | rfl : k = 1 ∨ k = 2 ∨ k = 3 ∨ k = 4 ∨ k = 5 ∨ k = 6 ∨ k = 7 ∨ k = 8 ∨ k = 9 ∨ k = 10 ∨ k = 11 ∨ k = 12 ∨ k = 13 ∨ k = 14 ∨ k = 15 ∨ k = 16 := by omega
    all_goals rfl
  · rw [decide_eq_false h]
    unfold hasL
    rw [if_pos (by omega)]
    rfl
theorem ok_a (N : NoteP) : okC 65 N = (!(inL N.kind 65 != decide (0 < N.a.size)) && !(decide (0 < N.a.size) && !nameB N.a)) := by
  have h0 : sameC 65 N (blank 0) = decide (N.a.size = 0) := toList_empty N.a
  have h1 : validC 65 N = nameB N.a := rfl
  have h2 : nameB N.a = true → 0 < N.a.size := fun h => by have := (of_decide_eq_true h).1; omega
  unfold okC
  rw [h0, h1]
  by_cases hz : N.a.size = 0
  · have hn : nameB N.a = false := by
      rw [Bool.eq_false_iff]
      intro h
      have := h2 h
      omega
    rw [hn, decide_eq_true hz, decide_eq_false (by omega)]
    cases inL N.kind 65 <;> rfl
  · rw [decide_eq_false hz, decide_eq_true (p := 0 < N.a.size) (by omega)]
    cases inL N.kind 65 <;> cases nameB N.a <;> rfl
theorem ok_b (N : NoteP) : okC 66 N = (!(inL N.kind 66 != decide (0 < N.b.size)) && !(decide (0 < N.b.size) && !nameB N.b)) := by
  have h0 : sameC 66 N (blank 0) = decide (N.b.size = 0) := toList_empty N.b
  have h1 : validC 66 N = nameB N.b := rfl
  have h2 : nameB N.b = true → 0 < N.b.size := fun h => by have := (of_decide_eq_true h).1; omega
  unfold okC
  rw [h0, h1]
  by_cases hz : N.b.size = 0
  · have hn : nameB N.b = false := by
      rw [Bool.eq_false_iff]
      intro h
      have := h2 h
      omega
    rw [hn, decide_eq_true hz, decide_eq_false (by omega)]
    cases inL N.kind 66 <;> rfl
  · rw [decide_eq_false hz, decide_eq_true (p := 0 < N.b.size) (by omega)]
    cases inL N.kind 66 <;> cases nameB N.b <;> rfl
theorem ok_x (N : NoteP) : okC 88 N = !(!inL N.kind 88 && !zeroB N.x) := by
  have h0 : sameC 88 N (blank 0) = zeroB N.x := rfl
  have h1 : validC 88 N = true := rfl
  unfold okC
  rw [h0, h1]
  cases inL N.kind 88 <;> simp
theorem ok_y (N : NoteP) : okC 89 N = !(!inL N.kind 89 && !zeroB N.y) := by
  have h0 : sameC 89 N (blank 0) = zeroB N.y := rfl
  have h1 : validC 89 N = true := rfl
  unfold okC
  rw [h0, h1]
  cases inL N.kind 89 <;> simp
theorem same_zero (n : Nat) (e f : Nat → BitVec 8) : Mac.sameBytes n 0 e f = decide (n = 0) := by
  unfold Mac.sameBytes
  by_cases h : n = 0
  · subst h; rfl
  · simp [h]
theorem ok_p (N : NoteP) : okC 80 N = (!(!inL N.kind 80 && decide (0 < N.pn)) && decide (N.pn ≤ 500)) := by
  have h0 : sameC 80 N (blank 0) = decide (N.pn = 0) := same_zero _ _ _
  have h1 : validC 80 N = decide (N.pn ≤ 500) := rfl
  unfold okC
  rw [h0, h1]
  cases inL N.kind 80 <;> by_cases hz : N.pn = 0 <;> simp_all <;> omega
theorem ok_q (N : NoteP) : okC 81 N = (!(!inL N.kind 81 && decide (0 < N.qn)) && decide (N.qn ≤ 500)) := by
  have h0 : sameC 81 N (blank 0) = decide (N.qn = 0) := same_zero _ _ _
  have h1 : validC 81 N = decide (N.qn ≤ 500) := rfl
  unfold okC
  rw [h0, h1]
  cases inL N.kind 81 <;> by_cases hz : N.qn = 0 <;> simp_all <;> omega
theorem ok_r (N : NoteP) : okC 82 N = (!(!inL N.kind 82 && decide (0 < N.rn)) && decide (N.rn ≤ 500)) := by
  have h0 : sameC 82 N (blank 0) = decide (N.rn = 0) := same_zero _ _ _
  have h1 : validC 82 N = decide (N.rn ≤ 500) := rfl
  unfold okC
  rw [h0, h1]
  cases inL N.kind 82 <;> by_cases hz : N.rn = 0 <;> simp_all <;> omega
/-- A note is right just if its kind is one and each of its fields is as the kind asks. -/
theorem right_ok (N : NoteP) : rightN N = (decide (1 ≤ N.kind ∧ N.kind < 17) && okC 65 N && okC 66 N && okC 88 N && okC 89 N && okC 80 N && okC 81 N && okC 82 N) := by
  rw [kind_has, ok_a, ok_b, ok_x, ok_y, ok_p, ok_q, ok_r]
  unfold rightN firstB wordsB blobsB smallB
  generalize (inL N.kind 65 != decide (0 < N.a.size)) = b1
  generalize (inL N.kind 66 != decide (0 < N.b.size)) = b2
  generalize (decide (0 < N.a.size) && !nameB N.a) = b3
  generalize (decide (0 < N.b.size) && !nameB N.b) = b4
  generalize (!inL N.kind 88 && !zeroB N.x) = b5
  generalize (!inL N.kind 89 && !zeroB N.y) = b6
  generalize (!inL N.kind 80 && decide (0 < N.pn)) = b7
  generalize (!inL N.kind 81 && decide (0 < N.qn)) = b8
  generalize (!inL N.kind 82 && decide (0 < N.rn)) = b9
  generalize (hasL N.kind).isEmpty = b0
  cases b0 <;> cases b1 <;> cases b2 <;> cases b3 <;> cases b4 <;> cases b5 <;> cases b6 <;> cases b7 <;> cases b8 <;> cases b9 <;> simp [Bool.and_assoc]
theorem contains_in (l : List Nat) (hl : ∀ x ∈ l, x < 128) (c : Nat) (hc : c < 128) : decide (0 ≤ Lib.indexByte (strL l).data.toList (c : Int).toNat.toUInt8) = l.contains c := by
  have key : ∀ l : List Nat, (∀ x ∈ l, x < 128) → (0 ≤ Lib.indexByte (l.map UInt8.ofNat) c.toUInt8 ↔ c ∈ l) := by
    intro l
    induction l with
    | nil => intro _; simp [Lib.indexByte]
    | cons x l ih =>
      intro h
      have hx := h x (by simp)
      have ih' := ih (fun y hy => h y (by simp [hy]))
      have hge := Lib.indexByte_ge (l.map UInt8.ofNat) c.toUInt8
      have hxc : (UInt8.ofNat x == c.toUInt8) = decide (x = c) := by
        rw [Bool.eq_iff_iff, beq_iff_eq, decide_eq_true_iff]
        constructor
        · intro h
          have := congrArg UInt8.toNat h
          simp at this
          omega
        · rintro rfl; rfl
      simp only [List.map_cons, Lib.indexByte, hxc, List.mem_cons]
      by_cases e : x = c
      · simp [e]
      · rw [decide_eq_false e]
        simp only [Bool.false_eq_true, if_false]
        by_cases e1 : Lib.indexByte (l.map UInt8.ofNat) c.toUInt8 = -1
        · rw [e1] at ih' ⊢
          simp only [beq_self_eq_true, if_true]
          constructor
          · intro h; omega
          · rintro (h | h)
            · exact absurd h.symm e
            · exact ih'.2 h
        · have : (Lib.indexByte (l.map UInt8.ofNat) c.toUInt8 == -1) = false := by simp [e1]
          rw [this]
          simp only [Bool.false_eq_true, if_false]
          constructor
          · intro _; exact .inr (ih'.1 (by omega))
          · intro _; omega
  have hd : (strL l).data.toList = l.map UInt8.ofNat := by simp [strL]
  rw [hd, Int.toNat_natCast]
  rw [Bool.eq_iff_iff, decide_eq_true_iff, key l hl, List.contains_iff_mem]
end Go.Proofs.YtnkjoambhmlnbaaGreatDoor.Note

namespace Go.Proofs.YtnkjoambhmlnbaaGreatDoor.Note
open Go Go.RowKit Go.Proofs.YtnkjoambhmlnbaaGreatDoor.Aid Go.Proofs.YtnkjoambhmlnbaaGreatDoor.Law01 Go.Proofs.YtnkjoambhmlnbaaGreatDoor.Field

def and7 (f : Nat → Bool) : Bool := f 65 && f 66 && f 88 && f 89 && f 80 && f 81 && f 82
theorem and7_true {f : Nat → Bool} (h : ∀ j, j < 7 → f (all7.getD j 0) = true) : and7 f = true := by
  have h0 : f 65 = true := h 0 (by omega)
  have h1 : f 66 = true := h 1 (by omega)
  have h2 : f 88 = true := h 2 (by omega)
  have h3 : f 89 = true := h 3 (by omega)
  have h4 : f 80 = true := h 4 (by omega)
  have h5 : f 81 = true := h 5 (by omega)
  have h6 : f 82 = true := h 6 (by omega)
  unfold and7
  rw [h0, h1, h2, h3, h4, h5, h6]
  rfl
theorem and7_false {f : Nat → Bool} (c : Nat) (hc : seven c) (h : f c = false) : and7 f = false := by
  unfold and7
  rcases hc with rfl | rfl | rfl | rfl | rfl | rfl | rfl
  all_goals rw [h]; simp
theorem same_ok (N M : NoteP) : sameN N M = (and7 (fun c => sameC c N M) && (N.kind == M.kind)) := by
  have h : and7 (fun c => sameC c N M) = ((N.a.toList == M.a.toList) && (N.b.toList == M.b.toList) && sameUpto N.x M.x 16 && sameUpto N.y M.y 16 && Mac.sameBytes N.pn M.pn N.p M.p && Mac.sameBytes N.qn M.qn N.q M.q && Mac.sameBytes N.rn M.rn N.r M.r) := rfl
  rw [h]
  unfold sameN
  generalize (N.kind == M.kind) = b0
  generalize (N.a.toList == M.a.toList) = b1
  cases b0 <;> simp [Bool.and_assoc]
theorem s7_size : s7.size = 7 := rfl
set_option maxRecDepth 100000 in
set_option maxHeartbeats 1000000 in
theorem same_own (N M : NoteP) (P Q R P' Q' R' : Value) (w : World) (hn : NoteAt w N P Q R) (hm : NoteAt w M P' Q' R') :
    Calls Tryz.prog 7 #[noteV N P Q R, noteV M P' Q' R'] w fun x w' => x = .returned (.bool (sameN N M)) ∧ Below w.heap.size w w' := by
  have h0 := (row_new w (cellsOf 38 (noteF N P Q R)) 30 38 _ (size_cellsOf _ _) (cellsOf_at _ _)).alloc (.cells (cellsOf 38 (noteF M P' Q' R')) 30)
  have h1 := row_new (w.alloc (.cells (cellsOf 38 (noteF N P Q R)) 30)) (cellsOf 38 (noteF M P' Q' R')) 30 38 _ (size_cellsOf _ _) (cellsOf_at _ _)
  have hsz : ((w.alloc (.cells (cellsOf 38 (noteF N P Q R)) 30)).alloc (.cells (cellsOf 38 (noteF M P' Q' R')) 30)).heap.size = w.heap.size + 2 := by simp
  rw [World.size_alloc] at h1
  have hb0 : Below w.heap.size w ((w.alloc (.cells (cellsOf 38 (noteF N P Q R)) 30)).alloc (.cells (cellsOf 38 (noteF M P' Q' R')) 30)) := ((Below.refl _ _).alloc (Nat.le_refl _) _).alloc (by simp) _
  have HO := Lib.hid (same_ok N M)
  have HN := Lib.hid hn
  have HM := Lib.hid hm
  have HK : Hid (∃ F : Nat → Value, F = noteF N P Q R) := ⟨_, rfl⟩
  unfold noteV
  clear hn hm
  go_enter Tryz.func7, Tryz.ntmps7
  generalize cellsOf 38 (noteF N P Q R) = C at *
  generalize cellsOf 38 (noteF M P' Q' R') = D at *
  go_upto_region 1 with fail
  generalize (w.alloc (.cells C 30)).alloc (.cells D 30) = w1 at *
  have hit := World.iter_heap w1 s7 0
  have hbi : Below w1.heap.size w1 (w1.iter s7 0) := (Below.refl _ _).alloc (Nat.le_refl _) _
  have H0 := Lib.hid h0
  have H1 := Lib.hid h1
  have HZ := Lib.hid hsz
  have HB0 := Lib.hid hb0
  clear h0 h1 hsz hb0 HK
  go_wp2
  go_loopw [6] (fun _ wr => ∃ j : Nat, j ≤ 7 ∧ wr.heap[w1.heap.size]? = some (.stringIter s7 j) ∧ Hid (∀ i, i < j → sameC (all7.getD i 0) N M = true) ∧ Hid (Below w1.heap.size w1 wr)) (fun _ wr => 7 - wr.iterPos w1.heap.size)
  case atStart => exact ⟨0, by omega, hit, fun i hi => by omega, hbi⟩
  case round =>
    clear hit hbi
    obtain ⟨j, hj, hk, hall, hbw⟩ := hrel
    have hmu : wr.iterPos w1.heap.size = j := by simp [World.iterPos, hk]
    by_cases hlt : j < 7
    · have h7 := all7_seven j hlt
      have h128 : (s7[j]'hlt).toNat < 128 := by
        rw [s7_at j hlt]
        rcases h7 with h | h | h | h | h | h | h <;> omega
      have hnext : ∀ ty, (Instr.next (.pointer (some ⟨w1.heap.size, 0, none⟩)) true ty).run Tryz.prog wr = _ := fun ty => Lib.run_next_ascii_at wr w1.heap.size s7 j ty hk hlt h128
      rw [s7_at j hlt] at hnext
      have hk1 := Lib.iterAt_heap wr w1.heap.size s7 j (j + 1) hk
      have HB1 := Lib.hid (Lib.below_iterAt hbw.out (Nat.le_refl _) s7 (j + 1))
      have hc : Hid (∀ b, sameC (all7.getD j 0) N M = b → b = true → ∀ i, i < j + 1 → sameC (all7.getD i 0) N M = true) := Lib.hid (fun b hb hbt i hi => by
        by_cases e : i = j
        · subst e; rw [hb, hbt]
        · exact hall.out i (by omega))
      generalize all7.getD j 0 = c at *
      have HT := Lib.hid (fun W => treat_any c h7 W)
      have HK1 := Lib.hid hk1
      have eS := sam_enters h7
      unfold Enters at eS
      clear hk hk1 h128
      generalize wr.iterAt w1.heap.size s7 (j + 1) = W1 at *
      go_wp2_with fail
      refine (HT.out _).mono ?_
      rintro _ w2 ⟨a, rfl, ha2, hb2⟩
      have hal := HB1.out.trans (hb2.mono HB1.out.size)
      have HR0 := World.rowIs.of_block H0.out (hal.block _ (World.rowIs.lt H0.out))
      have HR1 := World.rowIs.of_block H1.out (hal.block _ (World.rowIs.lt H1.out))
      have hbA := HB0.out.trans (hal.mono HB0.out.size)
      have HS := Lib.hid (same_any c h7 w.heap.size (w.heap.size + 1) a N M P Q R P' Q' R' w2 ha2 HR0 HR1 (HN.out.below hbA) (HM.out.below hbA))
      have HK2 := Lib.hid ((hb2.block _ (Array.getElem?_eq_some_iff.1 HK1.out).1).trans HK1.out)
      have HBA := Lib.hid hal
      have HF : Hid (sameC c N M = false → sameN N M = false) := Lib.hid (fun h => by rw [HO.out, and7_false c h7 h]; rfl)
      clear hb2 ha2 hal HR0 HR1 hbA HT hnext HK1 HB1 h7
      unfold treatV samV
      rw [tfn_cells]
      have kf := field_1
      go_wp2_with fail
      refine HS.out.mono ?_
      rintro _ w3 ⟨rfl, hb3⟩
      have HK3 := Lib.hid ((hb3.block _ (Array.getElem?_eq_some_iff.1 HK2.out).1).trans HK2.out)
      have HB3 := Lib.hid (HBA.out.trans (hb3.mono HBA.out.size))
      clear hb3 HK2 HBA HS eS
      generalize hb : sameC c N M = b at *
      have HC := Lib.hid (hc.out b rfl)
      clear hc
      rcases b with _ | _
      · have HE := Lib.hid (HF.out rfl)
        have HBE := Lib.hid (HB0.out.trans (HB3.out.mono HB0.out.size))
        clear HF HC HK3 HB3
        go_wp2
        go_ret
        exact ⟨by rw [HE.out]; rfl, HBE.out⟩
      · have HE := Lib.hid (HC.out rfl)
        have hm2 : w3.iterPos w1.heap.size = j + 1 := by simp [World.iterPos, HK3.out]
        clear HF HC
        go_wp2
        go_roundw
        case rel => exact ⟨j + 1, by omega, HK3.out, HE, HB3⟩
        case measure => rw [hmu, hm2]; omega
    · obtain rfl : j = 7 := by omega
      have hnext : ∀ ty, (Instr.next (.pointer (some ⟨w1.heap.size, 0, none⟩)) true ty).run Tryz.prog wr = _ := fun ty => Lib.run_next_end_at wr w1.heap.size s7 7 ty hk (by decide)
      have HE : Hid (sameN N M = (N.kind == M.kind)) := Lib.hid (by rw [HO.out, and7_true hall.out]; rfl)
      have hr0 := World.rowIs.of_block H0.out (hbw.out.block _ (World.rowIs.lt H0.out))
      have hr1 := World.rowIs.of_block H1.out (hbw.out.block _ (World.rowIs.lt H1.out))
      have c0 : wr.cell? ⟨w.heap.size, 0, none⟩ = some (.int .i64 N.kind) := hr0.cell (i := 0) (by omega)
      have c1 : wr.cell? ⟨w.heap.size + 1, 0, none⟩ = some (.int .i64 M.kind) := hr1.cell (i := 0) (by omega)
      have HBE := Lib.hid (HB0.out.trans (hbw.out.mono HB0.out.size))
      clear hall hbw hr0 hr1 hk hmu
      go_wp2
      go_ret
      exact ⟨by rw [HE.out]; rfl, HBE.out⟩
end Go.Proofs.YtnkjoambhmlnbaaGreatDoor.Note

namespace Go.Proofs.YtnkjoambhmlnbaaGreatDoor.Note
open Go Go.RowKit Go.Proofs.YtnkjoambhmlnbaaGreatDoor.Aid Go.Proofs.YtnkjoambhmlnbaaGreatDoor.Law01 Go.Proofs.YtnkjoambhmlnbaaGreatDoor.Field

theorem right_ok7 (N : NoteP) : rightN N = (decide (1 ≤ N.kind ∧ N.kind < 17) && and7 (fun c => okC c N)) := by
  rw [right_ok]
  unfold and7
  simp [Bool.and_assoc]
theorem hasL_table {k : Int} (h : 1 ≤ k ∧ k < 17) : table.getD k.toNat [] = hasL k := by
  unfold hasL
  rw [if_neg (by omega)]
theorem has_small (k : Int) : ∀ x ∈ hasL k, x < 128 := fun x hx => by
  have := hasL_seven k x hx
  simp at this
  omega
set_option maxRecDepth 100000 in
set_option maxHeartbeats 1000000 in
theorem right_own (N : NoteP) (P Q R : Value) (w : World) (ht : Table10 w) (la : N.a.size ≤ 1000000) (lb : N.b.size ≤ 1000000) (hn : NoteAt w N P Q R) :
    Calls Tryz.prog 8 #[noteV N P Q R] w fun x w' => x = .returned (.bool (rightN N)) ∧ Below w.heap.size w w' := by
  have h0 := row_new w (cellsOf 38 (noteF N P Q R)) 30 38 _ (size_cellsOf _ _) (cellsOf_at _ _)
  have hb0 : Below w.heap.size w (w.alloc (.cells (cellsOf 38 (noteF N P Q R)) 30)) := (Below.refl _ _).alloc (Nat.le_refl _) _
  have HO := Lib.hid (right_ok7 N)
  have HN := Lib.hid hn
  have HT := Lib.hid ht
  unfold noteV
  clear hn ht
  go_enter Tryz.func8, Tryz.ntmps8
  generalize cellsOf 38 (noteF N P Q R) = C at *
  go_upto_region 1 with fail
  generalize w.alloc (.cells C 30) = w1 at *
  have c0 : w1.cell? ⟨w.heap.size, 0, none⟩ = some (.int .i64 N.kind) := h0.cell (i := 0) (by omega)
  have H0 := Lib.hid h0
  have HB0 := Lib.hid hb0
  clear h0 hb0
  go_wp2_with fail
  refine (kind_any N.kind _).mono ?_
  rintro _ wq ⟨rfl, hq⟩
  subst wq
  by_cases hkin : 1 ≤ N.kind ∧ N.kind < 17
  rotate_left
  · have HE : Hid (rightN N = false) := Lib.hid (by rw [HO.out, decide_eq_false hkin]; rfl)
    rw [decide_eq_false hkin]
    clear c0
    go_wp2
    go_ret
    exact ⟨by rw [HE.out]; rfl, HB0.out⟩
  rw [decide_eq_true hkin]
  have HOK : Hid (rightN N = and7 (fun c => okC c N)) := Lib.hid (by rw [HO.out, decide_eq_true hkin]; rfl)
  have HKN := Lib.hid hkin
  have HKS : Hid (∃ k : Nat, k < 17 ∧ N.kind = (k : Int)) := Lib.hid ⟨N.kind.toNat, by omega, by omega⟩
  have HIT := World.iter_heap w1 s7 0
  have hbi : Below w1.heap.size w1 (w1.iter s7 0) := (Below.refl _ _).alloc (Nat.le_refl _) _
  clear HO hkin c0
  go_wp2
  go_loopw [4, 5] (fun _ _ wr => ∃ j : Nat, j ≤ 7 ∧ wr.heap[w1.heap.size]? = some (.stringIter s7 j) ∧ Hid (∀ i, i < j → okC (all7.getD i 0) N = true) ∧ Hid (Below w1.heap.size w1 wr)) (fun _ _ wr => 7 - wr.iterPos w1.heap.size)
  case atStart => exact ⟨0, by omega, HIT, fun i hi => by omega, hbi⟩
  case round =>
    clear HIT hbi
    obtain ⟨j, hj, hk, hall, hbw⟩ := hrel
    have hmu : wr.iterPos w1.heap.size = j := by simp [World.iterPos, hk]
    by_cases hlt : j < 7
    · have h7 := all7_seven j hlt
      have h128 : (s7[j]'hlt).toNat < 128 := by
        rw [s7_at j hlt]
        rcases h7 with h | h | h | h | h | h | h <;> omega
      have hnext : ∀ ty, (Instr.next (.pointer (some ⟨w1.heap.size, 0, none⟩)) true ty).run Tryz.prog wr = _ := fun ty => Lib.run_next_ascii_at wr w1.heap.size s7 j ty hk hlt h128
      rw [s7_at j hlt] at hnext h128
      have hk1 := Lib.iterAt_heap wr w1.heap.size s7 j (j + 1) hk
      have HB1 := Lib.hid (Lib.below_iterAt hbw.out (Nat.le_refl _) s7 (j + 1))
      have hc : Hid (∀ b, okC (all7.getD j 0) N = b → b = true → ∀ i, i < j + 1 → okC (all7.getD i 0) N = true) := Lib.hid (fun b hb hbt i hi => by
        by_cases e : i = j
        · subst e; rw [hb, hbt]
        · exact hall.out i (by omega))
      generalize all7.getD j 0 = c at *
      have HTR := Lib.hid (fun W => treat_any c h7 W)
      have HK1 := Lib.hid hk1
      have eS := sam_enters h7
      have eV := val_enters h7
      unfold Enters at eS eV
      have H7 := Lib.hid h7
      have H128 := Lib.hid h128
      clear hk hk1 h128 h7
      generalize wr.iterAt w1.heap.size s7 (j + 1) = W1 at *
      go_wp2_with fail
      refine (HTR.out _).mono ?_
      rintro _ w2 ⟨a, rfl, ha2, hb2⟩
      have HK2 := Lib.hid ((hb2.block _ (Array.getElem?_eq_some_iff.1 HK1.out).1).trans HK1.out)
      have HB2 := Lib.hid (HB1.out.trans (hb2.mono HB1.out.size))
      have HA2 := Lib.hid ha2
      have HZ2 := Lib.hid (nil4 w2)
      clear hb2 ha2 HTR hnext HK1 HB1
      unfold treatV
      go_upto_region 7 with (refine store_whole (by rfl) 57 (.tmp 5) (.tmp 15) (by rfl) w2.heap.size _ 4 _ _ HZ2.out (by rfl) _ (by rfl) (by kernel_rfl) (size_cellsOf _ _) (cellsOf_at _ _) (fun i _ => tfn_one _ _ _ _ rfl rfl rfl rfl i) ?_
                             intro w3 hr3 ho3)
      have hal : Below w2.heap.size w2 w3 := ho3.below ((Below.refl _ _).alloc (Nat.le_refl _) _) (Nat.le_refl _)
      have HB3 := Lib.hid (HB2.out.trans (hal.mono HB2.out.size))
      have HK3 := Lib.hid ((hal.block _ (Array.getElem?_eq_some_iff.1 HK2.out).1).trans HK2.out)
      have HA3 := Lib.hid ((hal.cell (p := ⟨a, 0, none⟩) (block_lt_of_cell HA2.out)).trans HA2.out)
      have HZ3 := Lib.hid hr3
      have HR3 := Lib.hid (World.rowIs.of_block H0.out (HB3.out.block _ (World.rowIs.lt H0.out)))
      have HBA := Lib.hid (HB0.out.trans (HB3.out.mono HB0.out.size))
      have HN3 := Lib.hid (HN.out.below HBA.out)
      have HT3 := Lib.hid (HT.out.below HBA.out (Nat.le_refl _))
      have HF : Hid (okC c N = false → rightN N = false) := Lib.hid (fun h => by rw [HOK.out, and7_false c H7.out h])
      have HIN := Lib.hid (contains_in (hasL N.kind) (has_small N.kind) c H128.out)
      obtain ⟨k, hk17, hkk⟩ := HKS.out
      have c0 : w3.cell? ⟨w.heap.size, 0, none⟩ = some (.int .i64 (k : Int)) := by rw [← hkk]; exact HR3.out.cell (i := 0) (by omega)
      have ct : w3.cell? ⟨0, k, none⟩ = some (.string (strL (hasL N.kind))) := by
        rw [HT3.out.c k hk17, ← hasL_table HKN.out, hkk, Int.toNat_natCast]
      have q0 : (0 : Int) ≤ (k : Int) := by omega
      have q1 : (k : Int) < 17 := by omega
      have hc0 : (0 : Int) ≤ (c : Int) := by omega
      have HKK := Lib.hid hkk
      clear ho3 hr3 hal HB2 HK2 HA2 HZ2 hkk
      generalize w2.heap.size = z at *
      generalize strL (hasL N.kind) = sL at *
      go_wp2_with fail
      refine (YtnkjoambhmlnbaaGreatDoor.contains_rune sL (c : Int) w3 hc0 (by have := H128.out; omega)).mono ?_
      rintro _ wq ⟨rfl, hq⟩
      subst wq
      rw [HIN.out, show (hasL N.kind).contains c = inL N.kind c from rfl]
      clear ct c0 HIN HT3 HKK q0 q1 hc0 hk17
      generalize hin : inL N.kind c = bin at *
      rcases bin with _ | _
      · have HOC : Hid (okC c N = sameC c N (blank 0)) := Lib.hid (by unfold okC; rw [hin]; rfl)
        have v1 : w3.cell? ⟨z, 1, none⟩ = some (.func (.func (samF c)) #[] #[ptr a 0]) := HZ3.out.cell (i := 1) (by omega)
        have HBK := Lib.hid (row_new w3 (zeroCells 0) 30 38 _ (by rfl) (zeroCells_at 0 _ rfl))
        have hbl : Hid (Below w3.heap.size w3 (w3.alloc (.cells (zeroCells 0) 30))) := Lib.hid ((Below.refl _ _).alloc (Nat.le_refl _) _)
        have HBA4 := Lib.hid (HBA.out.trans (hbl.out.mono HBA.out.size))
        have HSA := Lib.hid (same_any c H7.out w.heap.size w3.heap.size a N (blank 0) P Q R (.slice none 0 0) (.slice none 0 0) (.slice none 0 0) _ ((hbl.out.cell (p := ⟨a, 0, none⟩) (block_lt_of_cell HA3.out)).trans HA3.out) (World.rowIs.of_block HR3.out (hbl.out.block _ (World.rowIs.lt HR3.out))) HBK.out (HN3.out.below hbl.out) ⟨SliceOf.nil _ _ _, SliceOf.nil _ _ _, SliceOf.nil _ _ _⟩)
        have HK4 := Lib.hid ((hbl.out.block _ (Array.getElem?_eq_some_iff.1 HK3.out).1).trans HK3.out)
        have HB4 := Lib.hid (HB3.out.trans (hbl.out.mono HB3.out.size))
        clear hin HBK hbl HBA HA3 HR3 HN3 HK3 HB3 HZ3
        unfold zeroCells at *
        go_wp2_with fail
        refine HSA.out.mono ?_
        rintro _ w5 ⟨rfl, hb5⟩
        have HK5 := Lib.hid ((hb5.block _ (Array.getElem?_eq_some_iff.1 HK4.out).1).trans HK4.out)
        have HB5 := Lib.hid (HB4.out.trans (hb5.mono HB4.out.size))
        have HC := Lib.hid (fun b (hb : sameC c N (blank 0) = b) => hc.out b (HOC.out.trans hb))
        have HF5 := Lib.hid (fun (hb : sameC c N (blank 0) = false) => HF.out (HOC.out.trans hb))
        clear hb5 HSA HF HOC hc hall hbw
        generalize sameC c N (blank 0) = b at *
        rcases b with _ | _
        · have HE := Lib.hid (HF5.out rfl)
          have HBE := Lib.hid (HB0.out.trans (HB5.out.mono HB0.out.size))
          clear HF5 HC HK5 HB5
          go_wp2
          go_ret
          exact ⟨by rw [HE.out]; rfl, HBE.out⟩
        · have HE := Lib.hid (HC.out _ rfl rfl)
          have hm2 : w5.iterPos w1.heap.size = j + 1 := by simp [World.iterPos, HK5.out]
          clear HF5 HC
          go_wp2
          go_roundw
          case rel => exact ⟨j + 1, by omega, HK5.out, HE, HB5⟩
          case measure => rw [hmu, hm2]; omega
      · have HOC : Hid (okC c N = validC c N) := Lib.hid (by unfold okC; rw [hin]; rfl)
        have v0 : w3.cell? ⟨z, 0, none⟩ = some (.func (.func (valF c)) #[] (valCap c a)) := HZ3.out.cell (i := 0) (by omega)
        have HVA := Lib.hid (valid_any c H7.out w.heap.size a N P Q R w3 HA3.out HR3.out HN3.out la lb)
        clear hin HR3 HN3 HA3 HZ3
        go_wp2_with fail
        refine HVA.out.mono ?_
        rintro _ w5 ⟨rfl, hb5⟩
        have HK5 := Lib.hid ((hb5.block _ (Array.getElem?_eq_some_iff.1 HK3.out).1).trans HK3.out)
        have HB5 := Lib.hid (HB3.out.trans (hb5.mono HB3.out.size))
        have HC := Lib.hid (fun b (hb : validC c N = b) => hc.out b (HOC.out.trans hb))
        have HF5 := Lib.hid (fun (hb : validC c N = false) => HF.out (HOC.out.trans hb))
        clear hb5 HVA HF HOC hc hall hbw
        generalize validC c N = b at *
        rcases b with _ | _
        · have HE := Lib.hid (HF5.out rfl)
          have HBE := Lib.hid (HB0.out.trans (HB5.out.mono HB0.out.size))
          clear HF5 HC HK5 HB5
          go_wp2
          go_ret
          exact ⟨by rw [HE.out]; rfl, HBE.out⟩
        · have HE := Lib.hid (HC.out _ rfl rfl)
          have hm2 : w5.iterPos w1.heap.size = j + 1 := by simp [World.iterPos, HK5.out]
          clear HF5 HC
          go_wp2
          go_roundw
          case rel => exact ⟨j + 1, by omega, HK5.out, HE, HB5⟩
          case measure => rw [hmu, hm2]; omega
    · obtain rfl : j = 7 := by omega
      have hnext : ∀ ty, (Instr.next (.pointer (some ⟨w1.heap.size, 0, none⟩)) true ty).run Tryz.prog wr = _ := fun ty => Lib.run_next_end_at wr w1.heap.size s7 7 ty hk (by decide)
      have HE : Hid (rightN N = true) := Lib.hid (by rw [HOK.out, and7_true hall.out])
      have HBE := Lib.hid (HB0.out.trans (hbw.out.mono HB0.out.size))
      clear hall hbw hk hmu
      go_wp2
      go_ret
      exact ⟨by rw [HE.out]; rfl, HBE.out⟩
end Go.Proofs.YtnkjoambhmlnbaaGreatDoor.Note
