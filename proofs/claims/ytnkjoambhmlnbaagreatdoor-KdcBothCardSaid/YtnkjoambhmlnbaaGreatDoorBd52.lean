/-
  The walk of bartizanlaw16.KdcBoth: for every book, note and draws it returns true, and writes nothing that was there.
-/
import Derived.Test.YtnkjoambhmlnbaaGreatDoorBd39
import Derived.Test.YtnkjoambhmlnbaaGreatDoorBd49
import Derived.Test.YtnkjoambhmlnbaaGreatDoorBd51
import Derived.Test.YtnkjoambhmlnbaaGreatDoorBd45
import Derived.Test.YtnkjoambhmlnbaaGreatDoorBd10
import Derived.Test.YtnkjoambhmlnbaaGreatDoorBd13
import Derived.Deep.DeepCutAuto
namespace Go.Proofs.YtnkjoambhmlnbaaGreatDoor.Kdc
open Go Go.RowKit Go.Proofs.YtnkjoambhmlnbaaGreatDoor.Aid Go.Proofs.YtnkjoambhmlnbaaGreatDoor.Sha Go.Proofs.YtnkjoambhmlnbaaGreatDoor.Law01 Go.Proofs.YtnkjoambhmlnbaaGreatDoor.Field Go.Proofs.YtnkjoambhmlnbaaGreatDoor.Law05
open Go.Proofs.YtnkjoambhmlnbaaGreatDoor.Seal (keysB formB openB okB)
open Go.Proofs.YtnkjoambhmlnbaaGreatDoor.Note (NoteP NoteFits noteF noteV NoteAt zeroCells zeroCells_eq sameN rightN Table10)
open Go.Proofs.YtnkjoambhmlnbaaGreatDoor.Book (Bk Wd keyB hasN BookIs BookRaw bookF bookV wordF)

structure BothA (b : Bk) (N : NoteP) (D : Nat → BitVec 8) (P Q R Lv Rv : Value) (w W : World) : Prop where
  bk : W.rowIs w.heap.size 27 19 (bookF b Lv Rv)
  nt : W.rowIs (w.heap.size + 1) 30 38 (noteF N P Q R)
  dr : W.rowIs (w.heap.size + 1 + 1) 31 48 (byteF D)
  raw : BookRaw W b Lv Rv
  at_ : NoteAt W N P Q R
  hk : Consts W
  ht : Table10 W
  hb : Below w.heap.size w W
theorem BothA.step {b : Bk} {N : NoteP} {D : Nat → BitVec 8} {P Q R Lv Rv : Value} {w W W' : World} (h : BothA b N D P Q R Lv Rv w W) (hb : Below W.heap.size W W') : BothA b N D P Q R Lv Rv w W' :=
  ⟨h.bk.of_block (hb.block _ (World.rowIs.lt h.bk)), h.nt.of_block (hb.block _ (World.rowIs.lt h.nt)), h.dr.of_block (hb.block _ (World.rowIs.lt h.dr)), h.raw.below hb, h.at_.below hb, h.hk.below hb (Nat.le_refl _), h.ht.below hb (Nat.le_refl _), h.hb.trans (hb.mono h.hb.size)⟩
theorem both_new (b : Bk) (N : NoteP) (D : Nat → BitVec 8) (P Q R Lv Rv : Value) (CD : Array Value) (hCD : CD.size = 48) (hCDi : ∀ i, i < 48 → CD[i]? = some (.int .u8 ((D i).toNat : Int))) (w : World) (hk : Consts w) (ht : Table10 w) (hb : BookRaw w b Lv Rv) (hn : NoteAt w N P Q R) :
    ∃ W, W = ((w.alloc (.cells (cellsOf 19 (bookF b Lv Rv)) 27)).alloc (.cells (cellsOf 38 (noteF N P Q R)) 30)).alloc (.cells CD 31) ∧ BothA b N D P Q R Lv Rv w W := by
  have r1 := row_new w (cellsOf 19 (bookF b Lv Rv)) 27 19 _ (size_cellsOf _ _) (cellsOf_at _ _)
  have b1 : Below w.heap.size w (w.alloc (.cells (cellsOf 19 (bookF b Lv Rv)) 27)) := (Below.refl _ _).alloc (Nat.le_refl _) _
  have s1 : (w.alloc (.cells (cellsOf 19 (bookF b Lv Rv)) 27)).heap.size = w.heap.size + 1 := by simp
  generalize w.alloc (.cells (cellsOf 19 (bookF b Lv Rv)) 27) = w1 at *
  have r2 := row_new w1 (cellsOf 38 (noteF N P Q R)) 30 38 _ (size_cellsOf _ _) (cellsOf_at _ _)
  have b2 : Below w1.heap.size w1 (w1.alloc (.cells (cellsOf 38 (noteF N P Q R)) 30)) := (Below.refl _ _).alloc (Nat.le_refl _) _
  have s2 : (w1.alloc (.cells (cellsOf 38 (noteF N P Q R)) 30)).heap.size = w1.heap.size + 1 := by simp
  generalize w1.alloc (.cells (cellsOf 38 (noteF N P Q R)) 30) = w2 at *
  have r3 := row_new w2 CD 31 48 (byteF D) hCD hCDi
  have b3 : Below w2.heap.size w2 (w2.alloc (.cells CD 31)) := (Below.refl _ _).alloc (Nat.le_refl _) _
  generalize w2.alloc (.cells CD 31) = w3 at *
  have b23 := b2.trans (b3.mono b2.size)
  have b13 := b1.trans (b23.mono b1.size)
  rw [s2, s1] at r3
  rw [s1] at r2
  exact ⟨w3, rfl, r1.of_block (b23.block _ (World.rowIs.lt r1)), r2.of_block (b3.block _ (World.rowIs.lt r2)), r3, hb.below b13, hn.below b13, hk.below b13 (Nat.le_refl _), ht.below b13 (Nat.le_refl _), b13⟩
theorem zero_both : ∀ i, i < 16 → (#[.int .u8 0, .int .u8 0, .int .u8 0, .int .u8 0, .int .u8 0, .int .u8 0, .int .u8 0, .int .u8 0, .int .u8 0, .int .u8 0, .int .u8 0, .int .u8 0, .int .u8 0, .int .u8 0, .int .u8 0, .int .u8 0] : Array Value)[i]? = some (wordF Book.zw i) := fun i hi => by
  rw [Book.lit16z i hi]
  unfold wordF Book.zw
  rw [List.getD_eq_getElem?_getD, List.getElem?_replicate, if_pos hi]
  rfl
theorem sameN_self (N : NoteP) : sameN N N = true := by
  unfold Note.sameN Aid.sameUpto
  rw [Mac.same_refl N.p N.p N.pn (fun _ _ => rfl), Mac.same_refl N.q N.q N.qn (fun _ _ => rfl), Mac.same_refl N.r N.r N.rn (fun _ _ => rfl)]
  simp
theorem past_both (b : Bk) (N : NoteP) (D : Nat → BitVec 8) : PastN (ansN b N D (fun j => D (16 + j)) (fun j => D (32 + j))) := by
  by_cases h2 : N.kind = 2
  · rw [(ans_ns D h2).2.2]; exact past_ns b N D
  · by_cases h7 : N.kind = 7
    · rw [(ans_ksl D h7).2.2]; exact past_ksl b N D
    · rw [(ans_other D h2 h7).2.2]; exact past_zero
theorem drewN_both (w : World) : ∀ q, Below w.heap.size w (w.drewN q)
  | 0 => Below.refl _ _
  | q + 1 => (drewN_both w q).drew
/-- 'bartizanref01.Same' of the same bytes. -/
theorem same_both (A B : Option Addr) (n c d : Nat) (e f : Nat → BitVec 8) (g g' : Nat) (w : World) (h1 : SliceOf w g n e (.slice A n c)) (h2 : SliceOf w g' n f (.slice B n d)) (hn : n ≤ 1000000) (hef : ∀ j, j < n → e j = f j) :
    Calls Tryz.prog 11 #[.slice A n c, .slice B n d] w fun x w' => x = .returned (.bool true) ∧ Below w.heap.size w w' :=
  (Mac.same_gen A B n n c d e f g g' w h1 h2 hn hn).mono (fun x w' ⟨hx, q, hw⟩ => ⟨by rw [hx, Mac.same_refl e f n hef], by rw [hw]; exact drewN_both w q⟩)
/-- What an answer is: an error, NS or KSL. -/
theorem both_cases (b : Bk) (N : NoteP) (d0 d1 d2 : Nat → BitVec 8) (hA : N.a.size ≤ 20) (hB : N.b.size ≤ 20) :
    (ansC b N ≠ 0 ∧ ansTo b N = ⟨#[]⟩ ∧ ansN b N d0 d1 d2 = zeroN)
    ∨ (ansC b N = 0 ∧ ansTo b N = nsA b N ∧ ansN b N d0 d1 d2 = nsN b N d0 d1 d2 ∧ rightN (nsN b N d0 d1 d2) = true ∧ hasN b.L (nsA b N) = true ∧ hasN b.L N.b = true ∧ (nsA b N).size ≤ 20)
    ∨ (ansC b N = 0 ∧ ansTo b N = N.b ∧ ansN b N d0 d1 d2 = kslN b N d0 d1 d2 ∧ rightN (kslN b N d0 d1 d2) = true ∧ hasN b.L N.a = true ∧ hasN b.L N.b = true) := by
  by_cases h0 : ansC b N = 0
  · refine .inr ?_
    unfold ansTo ansN
    rw [if_pos h0, if_pos h0]
    by_cases h2 : N.kind = 2
    · refine .inl ?_
      rw [if_pos h2, if_pos h2]
      have h3 : nsC b N = 0 := by unfold ansC at h0; rw [if_pos h2] at h0; exact h0
      have h4 := ns_ok h3
      refine ⟨h0, rfl, rfl, ?_, h4.2.1, h4.1, h4.2.2⟩
      exact right_three _ _ _ _ _ (blob_small (nsP b N d0) (by show 4 ≤ 4; omega) (by show off (fldM [(N.b.size, strB N.b), (16, fieldE (nsE b N) 1), (16, d0), (8, fieldE (nsE b N) 2)]) 4 ≤ 200; rw [off4]; omega)) (blob_small (nsQ b N d0) (by show 3 ≤ 4; omega) (by show off (fldM [((nsA b N).size, strB (nsA b N)), (16, d0), (8, fieldE (nsE b N) 2)]) 3 ≤ 200; rw [off3]; have := h4.2.2; omega))
    · refine .inr ?_
      rw [if_neg h2, if_neg h2]
      have h3 : kslC b N = 0 := by
        unfold ansC at h0
        rw [if_neg h2] at h0
        by_cases h7 : N.kind = 7
        · rw [if_pos h7] at h0; exact h0
        · rw [if_neg h7] at h0; cases h0
      have h4 := ksl_ok h3
      refine ⟨h0, rfl, rfl, ?_, h4.1, h4.2⟩
      exact right_eight _ _ _ _ (blob_small (kslP N d0) (by show 3 ≤ 4; omega) (by show off (fldM [(16, N.y), (N.a.size, strB N.a), (16, d0)]) 3 ≤ 200; rw [off3]; omega)) (blob_small (kslQ N d0) (by show 3 ≤ 4; omega) (by show off (fldM [(16, N.x), (N.b.size, strB N.b), (16, d0)]) 3 ≤ 200; rw [off3]; omega))
  · refine .inl ⟨h0, ?_, ?_⟩
    · unfold ansTo; rw [if_neg h0]
    · unfold ansN; rw [if_neg h0]
theorem small_both {b : Bk} {N : NoteP} (h : small16B b N = true) : b.L.length ≤ 60 ∧ b.rev.length ≤ 60 ∧ N.a.size ≤ 20 ∧ N.b.size ≤ 20 := by
  unfold small16B at h
  simp only [Bool.and_eq_true, decide_eq_true_eq] at h
  exact ⟨h.1, h.2.1, right_sizes h.2.2.2⟩
/-- Two parts of what was opened, in every world behind: a word, and a text. -/
theorem both_parts {w : World} {base k : Nat} {m : Nat → Nat} {E : Nat → Nat → BitVec 8} {R : Nat → Value} {Av : Option Addr} {cv : Nat} (ho : OwnParts w base k m E R (.slice Av k cv)) (i j : Nat) (hi : i < k) (hj : j < k) (s : ByteArray) (hs : m j = s.size) (hE : ∀ x, x < m j → E j x = strB s x) :
    ∃ sb so Ai ci Aj cj, Av = some ⟨sb, so, none⟩ ∧ ∀ W, Below w.heap.size w W → W.cell? ⟨sb, so + i, none⟩ = some (.slice Ai (m i) ci) ∧ SliceOf W W.heap.size (m i) (E i) (.slice Ai (m i) ci) ∧ W.cell? ⟨sb, so + j, none⟩ = some (.slice Aj (m j) cj) ∧ (convert 28 9 (.slice Aj (m j) cj)).run Tryz.prog W = .ok (.string s) W := by
  obtain ⟨sb, so, Ai, ci, rfl, p1, s1⟩ := own_parts_at ho i hi
  obtain ⟨sb', so', Aj, cj, e, p2, s2⟩ := own_parts_at ho j hj
  simp only [Option.some.injEq, Addr.mk.injEq, and_true] at e
  obtain ⟨rfl, rfl⟩ := e
  refine ⟨sb, so, Ai, ci, Aj, cj, rfl, fun W hW => ⟨(hW.cell (p := ⟨sb, so + i, none⟩) (block_lt_of_cell p1)).trans p1, ?_, (hW.cell (p := ⟨sb, so + j, none⟩) (block_lt_of_cell p2)).trans p2, ?_⟩⟩
  · exact (s1.below hW).slice (g' := W.heap.size) (.inr (Nat.le_refl _))
  · have h1 := str_run _ _ _ _ _ _ ((s2.below hW).slice (g' := W.heap.size) (.inr (Nat.le_refl _)))
    rw [strOf_strB s (E j) (m j) hs hE] at h1
    exact h1
theorem word_self (C : Array Value) (y : Nat → BitVec 8) (hC : ∀ i, i < 16 → C[i]? = some (.int .u8 ((y i).toNat : Int))) (W : World) : (Op.equalIn 10000 25 (.agg C) (.agg C)).run Tryz.prog W = .ok true W := by
  have h := run_equalIn_bytes (P := Tryz.prog) (len := 16) 9998 Tryz.underlying25 Tryz.underlying5 (by kernel_rfl) C C y y hC hC W
  rw [show sameUpto y y 16 = true from by unfold Aid.sameUpto; simp] at h
  exact h
theorem noteF_y_both (N : NoteP) (P Q R : Value) (j : Nat) (hj : j < 16) : noteF N P Q R (19 + j) = .int .u8 ((N.y j).toNat : Int) := by
  unfold noteF
  rw [if_neg (by omega), if_neg (by omega), if_neg (by omega), if_neg (by omega), if_pos (by omega), Nat.add_sub_cancel_left]
/-- A part and the new key, compared: what each operation yields. -/
def postW (v u : Value) (sb so g : Nat) (i : Nat) (x : Value) (_ : World) : Prop :=
  match i with
  | 0 => x = v
  | 1 => x = .pointer (some ⟨sb, so, none⟩)
  | 2 => x = u
  | 3 => x = .pointer (some ⟨g, 0, none⟩)
  | 4 => x = .slice (some ⟨g, 0, none⟩) 16 16
  | 5 => x = .bool true
  | 6 => x = .bool true
  | _ => True
theorem postW_mono (v u : Value) (sb so g : Nat) : ∀ i x w w', Below w.heap.size w w' → postW v u sb so g i x w → postW v u sb so g i x w' := fun _ _ _ _ _ h => h

structure BothN (b : Bk) (N : NoteP) (D : Nat → BitVec 8) (P Q R Lv Rv : Value) (M : NoteP) (P1 Q1 R1 : Value) (g : Nat) (w W : World) : Prop where
  a : BothA b N D P Q R Lv Rv w W
  is_ : BookIs W b Lv Rv
  mr : W.rowIs g 30 38 (noteF M P1 Q1 R1)
  ma : NoteAt W M P1 Q1 R1
theorem BothN.step {b : Bk} {N : NoteP} {D : Nat → BitVec 8} {P Q R Lv Rv : Value} {M : NoteP} {P1 Q1 R1 : Value} {g : Nat} {w W W' : World} (h : BothN b N D P Q R Lv Rv M P1 Q1 R1 g w W) (hb : Below W.heap.size W W') : BothN b N D P Q R Lv Rv M P1 Q1 R1 g w W' :=
  ⟨h.a.step hb, h.is_.below hb, h.mr.of_block (hb.block _ (World.rowIs.lt h.mr)), h.ma.below hb⟩
set_option maxRecDepth 100000 in
set_option maxHeartbeats 2000000 in
theorem both_any (b : Bk) (N : NoteP) (D : Nat → BitVec 8) (P Q R Lv Rv : Value) (CD : Array Value) (hCD : CD.size = 48) (hCDi : ∀ i, i < 48 → CD[i]? = some (.int .u8 ((D i).toNat : Int))) (w : World) (hk : Consts w) (ht : Table10 w) (hb : BookRaw w b Lv Rv) (hn : NoteAt w N P Q R) (hf : NoteFits N) :
    Calls Tryz.prog 3 #[bookV b Lv Rv, noteV N P Q R, .agg CD] w fun x w' => x = .returned (.bool true) ∧ Below w.heap.size w w' := by
  obtain ⟨W, hW, h0⟩ := both_new b N D P Q R Lv Rv CD hCD hCDi w hk ht hb hn
  have H0 := Lib.hid h0
  obtain ⟨CD2, hCD2, zCD2, iCD2⟩ := cells_named 48 (byteF D) D (fun _ _ => rfl)
  have HCD2 := Lib.hid hCD2
  have HSM := Lib.hid (fun (W : World) h1 h2 => small16_any b N P Q R Lv Rv W h1 h2 hf)
  have HAN := Lib.hid (fun (W : World) h1 h2 h3 h4 h5 => answer_any b N D P Q R Lv Rv CD2 zCD2 iCD2 W h1 h2 h3 h4 h5)
  have HKY := Lib.hid (fun (W : World) (h1 : BookIs W b Lv Rv) (s : ByteArray) => Book.key_any b Lv Rv h1.ents h1.few.1 s)
  have HPM : Hid (PastN (ansN b N D (fun j => D (16 + j)) (fun j => D (32 + j)))) := Lib.hid (past_both b N D)
  have HCS := Lib.hid (fun hA hB => both_cases b N D (fun j => D (16 + j)) (fun j => D (32 + j)) hA hB)
  obtain ⟨CB, hCB⟩ : ∃ C, C = cellsOf 19 (bookF b Lv Rv) := ⟨_, rfl⟩
  obtain ⟨CN, hCN⟩ : ∃ C, C = cellsOf 38 (noteF N P Q R) := ⟨_, rfl⟩
  have eB : bookV b Lv Rv = .agg CB := by rw [hCB]; rfl
  have eN : noteV N P Q R = .agg CN := by rw [hCN]; rfl
  rw [← hCB, ← hCN] at hW
  rw [eB, eN] at HSM HAN ⊢
  rw [eB] at HKY
  have HCB := Lib.hid hCB.symm
  have HCN := Lib.hid hCN.symm
  obtain ⟨nm, hnm⟩ : ∃ x, x = ansTo b N := ⟨_, rfl⟩
  obtain ⟨M, hM⟩ : ∃ x, x = ansN b N D (fun j => D (16 + j)) (fun j => D (32 + j)) := ⟨_, rfl⟩
  obtain ⟨c, hc⟩ : ∃ x, x = ansC b N := ⟨_, rfl⟩
  rw [← hnm, ← hM, ← hc] at HAN HCS
  rw [← hM] at HPM
  clear hCD hCDi hk ht hb hn hf h0 hCD2 zCD2 iCD2 hCB hCN eB eN hnm hM hc
  go_enter Tryz.func3, Tryz.ntmps3
  go_upto_region 1 with fail
  rw [← hW]
  clear hW
  go_wp2_with fail
  refine (awake16_any W H0.out.hk).mono ?_
  rintro _ w1 ⟨rfl, hb1⟩
  have H1 := Lib.hid (H0.out.step hb1)
  clear hb1 H0
  have r0 := H1.out.bk
  have r1 := H1.out.nt
  go_wp2_with (first
    | (refine load_as (by rfl) 27 (.tmp 3) (by rfl) w.heap.size 0 _ 19 19 _ CB ((cells_zero _ _).trans HCB.out) r0 (by rfl) _ Tryz.underlying27 (by rfl) (by kernel_rfl) (by omega) ?_)
    | (refine load_as (by rfl) 30 (.tmp 4) (by rfl) (w.heap.size + 1) 0 _ 38 38 _ CN ((cells_zero _ _).trans HCN.out) r1 (by rfl) _ Tryz.underlying30 (by rfl) (by kernel_rfl) (by omega) ?_))
  refine (HSM.out w1 H1.out.raw H1.out.at_).mono ?_
  rintro _ w2 ⟨rfl, hb2⟩
  have H2 := Lib.hid (H1.out.step hb2)
  clear hb2 H1 r0 r1 HSM
  cases hs : small16B b N with
  | false =>
    clear hs
    go_wp2
    go_ret
    exact ⟨rfl, H2.out.hb⟩
  | true =>
    have HFIT := Lib.hid (small_both hs)
    clear hs
    have HBK := Lib.hid (fun (W : World) (h : Below w2.heap.size w2 W) => (H2.out.step h).raw.is_ (by have := HFIT.out.1; omega) (by have := HFIT.out.2.1; omega))
    have HCALL := Lib.hid (HAN.out w2 H2.out.hk (HBK.out w2 (Below.refl _ _)) H2.out.at_ HFIT.out.2.2.1 HFIT.out.2.2.2)
    have r0 := H2.out.bk
    have r1 := H2.out.nt
    have r2 := H2.out.dr
    go_wp2_with (first
      | (refine load_as (by rfl) 27 (.tmp 3) (by rfl) w.heap.size 0 _ 19 19 _ CB ((cells_zero _ _).trans HCB.out) r0 (by rfl) _ Tryz.underlying27 (by rfl) (by kernel_rfl) (by omega) ?_)
      | (refine load_as (by rfl) 30 (.tmp 4) (by rfl) (w.heap.size + 1) 0 _ 38 38 _ CN ((cells_zero _ _).trans HCN.out) r1 (by rfl) _ Tryz.underlying30 (by rfl) (by kernel_rfl) (by omega) ?_)
      | (refine load_as (by rfl) 31 (.tmp 5) (by rfl) (w.heap.size + 1 + 1) 0 _ 48 48 _ CD2 ((cells_zero _ _).trans HCD2.out) r2 (by rfl) _ Tryz.underlying31 (by rfl) (by kernel_rfl) (by omega) ?_))
    refine HCALL.out.mono ?_
    rintro _ w5 ⟨P1, Q1, R1, rfl, hn5, hb5⟩
    have H5 := Lib.hid (H2.out.step hb5)
    have HB5 := Lib.hid (fun (W : World) (h : Below w5.heap.size w5 W) => HBK.out W (hb5.trans (h.mono hb5.size)))
    have HN5 := Lib.hid hn5
    have op := (slice_one_cell hn5.p)
    have oq := (slice_one_cell hn5.q)
    have or_ := (slice_one_cell hn5.r)
    have hz5 := row_new w5 (zeroCells 0) 30 38 _ (by rfl) zero_note_at
    have hal : Below w5.heap.size w5 (w5.alloc (.cells (zeroCells 0) 30)) := (Below.refl _ _).alloc (Nat.le_refl _) _
    have HNA := Lib.hid (hn5.below hal)
    have HAL := Lib.hid hal
    clear r0 r1 r2 hn5 hb5 HCALL H2 HBK hal HAN
    go_upto_region 6 with (refine store_whole (by rfl) 30 (.tmp 10) (.tmp 43) (by rfl) w5.heap.size _ 38 _ (noteF M P1 Q1 R1) (by exact hz5) (by rfl) _ (by rfl) (by kernel_rfl) (size_cellsOf _ _) (cellsOf_at _ _) (note_cells_one _ _ _ _ op oq or_) ?_; intro w6 hr6 ho6)
    have hb6 : Below w5.heap.size w5 w6 := ho6.below HAL.out (Nat.le_refl _)
    have H6 := Lib.hid (H5.out.step hb6)
    have HB6 := Lib.hid (fun (W : World) (h : Below w6.heap.size w6 W) => HB5.out W (hb6.trans (h.mono hb6.size)))
    have HN6 : Hid (NoteAt w6 M P1 Q1 R1) := Lib.hid (note_past HNA.out (by exact hz5) HPM.out ho6)
    have HT6 := Lib.hid hr6
    clear hz5 op oq or_ hr6 ho6 hb6 HN5 HB5 H5 HNA HAL HPM
    generalize w5.heap.size = g10 at *
    obtain ⟨CM, hCM⟩ : ∃ C, C = cellsOf 38 (noteF M P1 Q1 R1) := ⟨_, rfl⟩
    have HCM := Lib.hid hCM.symm
    clear hCM
    rcases HCS.out HFIT.out.2.2.1 HFIT.out.2.2.2 with ⟨hc, hnm, hM⟩ | ⟨hc, hnm, hM, hr, hk1, hk2, hsz⟩ | ⟨hc, hnm, hM, hr, hk1, hk2⟩
    · have qc : (c == 0) = false := by simpa using hc
      have HSAME := Lib.hid (Note.same_own M M P1 Q1 R1 nilV nilV nilV w6 HN6.out (by rw [hM]; exact nil_at _ _ rfl rfl rfl))
      rw [sameN_self] at HSAME
      have eZ : noteV M nilV nilV nilV = .agg (zeroCells 0) := by rw [hM]; unfold noteV; rw [zeroCells_eq]; rfl
      rw [eZ] at HSAME
      have eM : noteV M P1 Q1 R1 = .agg CM := by rw [← HCM.out]; rfl
      rw [eM] at HSAME
      have r10 := HT6.out
      subst hnm
      clear hc hM HCS HKY eZ eM
      go_wp2_with (refine load_as (by rfl) 30 (.tmp 10) (by rfl) g10 0 _ 38 38 _ CM ((cells_zero _ _).trans HCM.out) r10 (by rfl) _ Tryz.underlying30 (by rfl) (by kernel_rfl) (by omega) ?_)
      refine HSAME.out.mono ?_
      rintro _ w7 ⟨rfl, hb7⟩
      have H7 := Lib.hid (H6.out.step hb7)
      clear r10 hb7 HSAME H6 HN6 HT6 HB6
      go_wp2
      go_ret
      exact ⟨rfl, H7.out.hb⟩
    · rw [← hnm] at hk1 hsz
      have eM : noteV M P1 Q1 R1 = .agg CM := by rw [← HCM.out]; rfl
      have hrt := Note.right_own M P1 Q1 R1 w6 H6.out.ht (by rw [hM]; exact Nat.zero_le _) (by rw [hM]; exact Nat.zero_le _) HN6.out
      rw [show rightN M = true from by rw [hM]; exact hr, eM] at hrt
      have HRT := Lib.hid hrt
      have HM := Lib.hid hM
      have HNM := Lib.hid hnm
      have r10 := HT6.out
      clear hM hnm hr eM HCS hrt
      subst hc
      go_wp2_with (refine load_as (by rfl) 30 (.tmp 10) (by rfl) g10 0 _ 38 38 _ CM ((cells_zero _ _).trans HCM.out) r10 (by rfl) _ Tryz.underlying30 (by rfl) (by kernel_rfl) (by omega) ?_)
      refine HRT.out.mono ?_
      rintro _ w7 ⟨rfl, hb7⟩
      have S7 : Hid (BothN b N D P Q R Lv Rv M P1 Q1 R1 g10 w w7) := Lib.hid (BothN.step ⟨H6.out, HB6.out w6 (Below.refl _ _), HT6.out, HN6.out⟩ hb7)
      clear hb7 HRT r10 H6 HB6 HT6 HN6

      have r0 := S7.out.a.bk

      have HK7 := Lib.hid (HKY.out w7 S7.out.is_ nm)
      rw [hk1] at HK7
      unfold Book.wordV at HK7
      obtain ⟨K1, hK1, zK1, iK1⟩ := cells_named 16 (fun j => wordF (keyB nm b.L) (0 + j)) (keyF (keyB nm b.L)) (fun i _ => by rw [Nat.zero_add]; rfl)
      have HK1 : Hid (cellsOf 16 (fun j => wordF (keyB nm b.L) (0 + j)) = K1 ∧ K1.size = 16 ∧ ∀ i, i < 16 → K1[i]? = some (.int .u8 ((keyF (keyB nm b.L) i).toNat : Int))) := Lib.hid ⟨hK1, zK1, iK1⟩
      clear hK1 zK1 iK1
      go_wp2_with (refine load_as (by rfl) 27 (.tmp 3) (by rfl) w.heap.size 0 _ 19 19 _ CB ((cells_zero _ _).trans HCB.out) r0 (by rfl) _ Tryz.underlying27 (by rfl) (by kernel_rfl) (by omega) ?_)
      refine HK7.out.mono ?_
      rintro _ w8 ⟨rfl, hb8⟩

      have S8 := Lib.hid (S7.out.step hb8)
      have HZ := Lib.hid (row_new w8 #[.int .u8 0, .int .u8 0, .int .u8 0, .int .u8 0, .int .u8 0, .int .u8 0, .int .u8 0, .int .u8 0, .int .u8 0, .int .u8 0, .int .u8 0, .int .u8 0, .int .u8 0, .int .u8 0, .int .u8 0, .int .u8 0] 25 16 (wordF Book.zw) rfl zero_both)
      have HAL : Hid (Below w8.heap.size w8 (w8.alloc (.cells #[.int .u8 0, .int .u8 0, .int .u8 0, .int .u8 0, .int .u8 0, .int .u8 0, .int .u8 0, .int .u8 0, .int .u8 0, .int .u8 0, .int .u8 0, .int .u8 0, .int .u8 0, .int .u8 0, .int .u8 0, .int .u8 0] 25))) := Lib.hid ((Below.refl _ _).alloc (Nat.le_refl _) _)
      clear r0 hb8 HK7 S7
      go_upto_region 11 with ((with_reducible refine (?_ : wpList _ _ _ _ _ _)); refine store_whole (by rfl) 25 (.tmp 12) (.tmp 64) (by rfl) w8.heap.size _ 16 _ (wordF (keyB nm b.L)) HZ.out (by kernel_rfl) (cellsOf 16 (wordF (keyB nm b.L))) (by kernel_rfl) (by kernel_rfl) (size_cellsOf _ _) (cellsOf_at _ _) (fun _ _ => rfl) ?_; intro w9 hrs hos)
      have hbs : Below w8.heap.size w8 w9 := hos.below HAL.out (Nat.le_refl _)

      have S9 := Lib.hid (S8.out.step hbs)
      have HW9 := Lib.hid hrs
      clear hrs hos hbs HZ HAL S8 
      generalize w8.heap.size = g9 at *

      have r0 := S9.out.a.bk
      have d1 : w9.cell? ⟨g10, 0, none⟩ = some (.int .i64 3) := by
        have := S9.out.mr.cell (i := 0) (by omega)
        rw [show noteF M P1 Q1 R1 0 = .int .i64 M.kind from rfl, HM.out] at this
        exact this
      have d2 : w9.cell? ⟨w.heap.size + 1, 2, none⟩ = some (.string N.b) := S9.out.a.nt.cell (i := 2) (by omega)
      have HK9 := Lib.hid (HKY.out w9 S9.out.is_ N.b)
      rw [hk2] at HK9
      unfold Book.wordV at HK9
      obtain ⟨K2, hK2, zK2, iK2⟩ := cells_named 16 (fun j => wordF (keyB N.b b.L) (0 + j)) (keyF (keyB N.b b.L)) (fun i _ => by rw [Nat.zero_add]; rfl)
      have HK2 : Hid (cellsOf 16 (fun j => wordF (keyB N.b b.L) (0 + j)) = K2 ∧ K2.size = 16 ∧ ∀ i, i < 16 → K2[i]? = some (.int .u8 ((keyF (keyB N.b b.L) i).toNat : Int))) := Lib.hid ⟨hK2, zK2, iK2⟩
      clear hK2 zK2 iK2
      go_wp2_with (refine load_as (by rfl) 27 (.tmp 3) (by rfl) w.heap.size 0 _ 19 19 _ CB ((cells_zero _ _).trans HCB.out) r0 (by rfl) _ Tryz.underlying27 (by rfl) (by kernel_rfl) (by omega) ?_)
      refine HK9.out.mono ?_
      rintro _ w10 ⟨rfl, hb10⟩
      have HW9x := Lib.hid (HW9.out.of_block (hb10.block _ (World.rowIs.lt HW9.out)))
      have S10 := Lib.hid (S9.out.step hb10)
      have HZ := Lib.hid (row_new w10 #[.int .u8 0, .int .u8 0, .int .u8 0, .int .u8 0, .int .u8 0, .int .u8 0, .int .u8 0, .int .u8 0, .int .u8 0, .int .u8 0, .int .u8 0, .int .u8 0, .int .u8 0, .int .u8 0, .int .u8 0, .int .u8 0] 25 16 (wordF Book.zw) rfl zero_both)
      have HAL : Hid (Below w10.heap.size w10 (w10.alloc (.cells #[.int .u8 0, .int .u8 0, .int .u8 0, .int .u8 0, .int .u8 0, .int .u8 0, .int .u8 0, .int .u8 0, .int .u8 0, .int .u8 0, .int .u8 0, .int .u8 0, .int .u8 0, .int .u8 0, .int .u8 0, .int .u8 0] 25))) := Lib.hid ((Below.refl _ _).alloc (Nat.le_refl _) _)
      clear r0 hb10 HK9 S9
      go_upto_region 15 with ((with_reducible refine (?_ : wpList _ _ _ _ _ _)); refine store_whole (by rfl) 25 (.tmp 14) (.tmp 76) (by rfl) w10.heap.size _ 16 _ (wordF (keyB N.b b.L)) HZ.out (by kernel_rfl) (cellsOf 16 (wordF (keyB N.b b.L))) (by kernel_rfl) (by kernel_rfl) (size_cellsOf _ _) (cellsOf_at _ _) (fun _ _ => rfl) ?_; intro w11 hrs hos)
      have hbs : Below w10.heap.size w10 w11 := hos.below HAL.out (Nat.le_refl _)
      have HW911 := Lib.hid (HW9x.out.of_block (hbs.block _ (World.rowIs.lt HW9x.out)))
      have S11 := Lib.hid (S10.out.step hbs)
      have HW11 := Lib.hid hrs
      clear hrs hos hbs HZ HAL S10 HW9x
      generalize w10.heap.size = g11 at *

      obtain ⟨AP, cP, rfl⟩ := slice_shape S11.out.ma.p
      obtain ⟨AQ, cQ, rfl⟩ := slice_shape S11.out.ma.q
      clear HCM

      have hbl := blob_len lNs3 (nsP b N D) rfl (by show 4 ≤ 4; omega) (by show off (fldM [(N.b.size, strB N.b), (16, fieldE (nsE b N) 1), (16, D), (8, fieldE (nsE b N) 2)]) 4 ≤ 200; rw [off4]; have := HFIT.out.2.2.1; have := HFIT.out.2.2.2; omega)
      have HPB := Lib.hid (parts_back (keyF (keyB nm b.L)) (fun j => D (16 + j)) lNs3 (nsP b N D) M.p K1 HK1.out.2.1 HK1.out.2.2 AP M.pn cP 4 w11 S11.out.a.hk S11.out.ma.p (by rw [HM.out]; rfl) (fun j _ => by rw [HM.out, HNM.out]; rfl) rfl (by decide) hbl.1 hbl.2.1)
      have dd : w11.cell? ⟨g10, 35, none⟩ = some (.slice AP M.pn cP) := S11.out.mr.cell (i := 35) (by omega)
      have rr := HW911.out
      clear hbl
      go_wp2_with (refine load_as (by rfl) 25 (.tmp 12) (by rfl) g9 0 _ 16 16 _ K1 HK1.out.1 rr (by rfl) _ Tryz.underlying25 (by rfl) (by kernel_rfl) (by omega) ?_)
      refine HPB.out.mono ?_
      rintro _ w12 ⟨v12, R12, rfl, ho12, hb12⟩
      rw [show (nsP b N D).length = 4 from rfl] at ho12
      obtain ⟨Av12, cvp, rfl⟩ := ho12.shape
      obtain ⟨pbp, pop, Aip, cip, Ajp, cjp, rfl, hp⟩ := both_parts ho12 2 0 (by omega) (by omega) N.b rfl (fun _ _ => rfl)
      rw [show fldM (nsP b N D) 2 = 16 from rfl, show fldE (nsP b N D) 2 = D from rfl] at hp
      have HW11p := Lib.hid (HW11.out.of_block (hb12.block _ (World.rowIs.lt HW11.out)))
      have HPp := Lib.hid hp
      have S12 := Lib.hid (S11.out.step hb12)
      clear dd rr hp hb12 ho12 HPB S11 HW911 

      have hbl := blob_len lNst (nsQ b N D) rfl (by show 3 ≤ 4; omega) (by show off (fldM [((nsA b N).size, strB (nsA b N)), (16, D), (8, fieldE (nsE b N) 2)]) 3 ≤ 200; rw [off3]; have := HFIT.out.2.2.1; have := HFIT.out.2.2.2; have := hsz; rw [HNM.out] at this; omega)
      have HPB := Lib.hid (parts_back (keyF (keyB N.b b.L)) (fun j => D (32 + j)) lNst (nsQ b N D) M.q K2 HK2.out.2.1 HK2.out.2.2 AQ M.qn cQ 3 w12 S12.out.a.hk S12.out.ma.q (by rw [HM.out]; rfl) (fun j _ => by rw [HM.out]; rfl) rfl (by decide) hbl.1 hbl.2.1)
      have dd : w12.cell? ⟨g10, 36, none⟩ = some (.slice AQ M.qn cQ) := S12.out.mr.cell (i := 36) (by omega)
      have rr := HW11p.out
      clear hbl
      go_wp2_with (refine load_as (by rfl) 25 (.tmp 14) (by rfl) g11 0 _ 16 16 _ K2 HK2.out.1 rr (by rfl) _ Tryz.underlying25 (by rfl) (by kernel_rfl) (by omega) ?_)
      refine HPB.out.mono ?_
      rintro _ w13 ⟨v13, R13, rfl, ho13, hb13⟩
      rw [show (nsQ b N D).length = 3 from rfl] at ho13
      obtain ⟨Av13, cvq, rfl⟩ := ho13.shape
      obtain ⟨pbq, poq, Aiq, ciq, Ajq, cjq, rfl, hp⟩ := both_parts ho13 1 0 (by omega) (by omega) nm (by rw [HNM.out]; rfl) (fun _ _ => by rw [HNM.out]; rfl)
      rw [show fldM (nsQ b N D) 1 = 16 from rfl, show fldE (nsQ b N D) 1 = D from rfl] at hp
      have HPpn : Hid (∀ W, Below w13.heap.size w13 W → _) := Lib.hid (fun W hW => HPp.out W (hb13.trans (hW.mono hb13.size)))
      have HPq := Lib.hid hp
      have S13 := Lib.hid (S12.out.step hb13)
      clear dd rr hp hb13 ho13 HPB S12 HW11p HPp
      have HPp := Lib.hid HPpn.out
      clear HPpn
      go_upto_region 19 with fail

      refine region_inv_all (postW (.slice (some ⟨pbp, pop, none⟩) 4 cvp) (.slice Aip 16 cip) pbp (pop + 2) (w.heap.size + 1 + 1)) 7 (by kernel_rfl) (by kernel_rfl) (by kernel_rfl) (postW_mono _ _ _ _ _) ?_ ?_
      · refine ⟨⟨⟨⟨⟨⟨⟨trivial, ?_⟩, ?_⟩, ?_⟩, ?_⟩, ?_⟩, ?_⟩, ?_⟩
        · refine ⟨_, rfl, fun xs W hW hd => ?_⟩
          clear hd
          simp only [fillI, List.take, List.setIfInBounds_toArray, List.set_cons_zero, List.set_cons_succ, Nat.reduceAdd, Nat.zero_add]
          go_wp2_with fail
          refine ⟨_, by (simp only [upd, Nat.reduceEqDiff, reduceIte]; rfl), ?_, ?_⟩
          · rfl
          · exact Below.refl _ _
        · refine ⟨_, rfl, fun xs W hW hd => ?_⟩
          have h0 : xs 0 = .slice (some ⟨pbp, pop, none⟩) 4 cvp := hd 0 (by kernel_rfl)
          clear hd
          rw [upd_self h0]
          simp only [fillI, List.take, List.setIfInBounds_toArray, List.set_cons_zero, List.set_cons_succ, Nat.reduceAdd, Nat.zero_add, upd, Nat.reduceEqDiff, reduceIte]
          go_wp2_with fail
          refine ⟨_, by (simp only [upd, Nat.reduceEqDiff, reduceIte]; rfl), ?_, ?_⟩
          · rfl
          · exact Below.refl _ _
        · refine ⟨_, rfl, fun xs W hW hd => ?_⟩
          have h1 : xs 1 = .pointer (some ⟨pbp, pop + 2, none⟩) := hd 1 (by kernel_rfl)
          have cc := (HPp.out W (undrew hW)).1
          clear hd
          rw [upd_self h1]
          simp only [fillI, List.take, List.setIfInBounds_toArray, List.set_cons_zero, List.set_cons_succ, Nat.reduceAdd, Nat.zero_add, upd, Nat.reduceEqDiff, reduceIte]
          go_wp2_with fail
          refine ⟨_, by (simp only [upd, Nat.reduceEqDiff, reduceIte]; rfl), ?_, ?_⟩
          · rfl
          · exact Below.refl _ _
        · refine ⟨_, rfl, fun xs W hW hd => ?_⟩
          clear hd
          simp only [fillI, List.take, List.setIfInBounds_toArray, List.set_cons_zero, List.set_cons_succ, Nat.reduceAdd, Nat.zero_add]
          go_wp2_with fail
          refine ⟨_, by (simp only [upd, Nat.reduceEqDiff, reduceIte]; rfl), ?_, ?_⟩
          · rfl
          · exact Below.refl _ _
        · refine ⟨_, rfl, fun xs W hW hd => ?_⟩
          have h3 : xs 3 = .pointer (some ⟨w.heap.size + 1 + 1, 0, none⟩) := hd 3 (by kernel_rfl)
          clear hd
          rw [upd_self h3]
          simp only [fillI, List.take, List.setIfInBounds_toArray, List.set_cons_zero, List.set_cons_succ, Nat.reduceAdd, Nat.zero_add, upd, Nat.reduceEqDiff, reduceIte]
          go_wp2_with fail
          refine ⟨_, by (simp only [upd, Nat.reduceEqDiff, reduceIte]; rfl), ?_, ?_⟩
          · rfl
          · exact Below.refl _ _
        · refine ⟨_, rfl, fun xs W hW hd => ?_⟩
          have h2 : xs 2 = .slice Aip 16 cip := hd 2 (by kernel_rfl)
          have h4 : xs 4 = .slice (some ⟨w.heap.size + 1 + 1, 0, none⟩) 16 16 := hd 4 (by kernel_rfl)
          have HC := Lib.hid (same_both Aip (some ⟨w.heap.size + 1 + 1, 0, none⟩) 16 cip 16 _ _ _ _ W (HPp.out W (undrew hW)).2.1 (Seal.row_slice (S13.out.a.step (undrew hW)).dr 0 16 16 0 (fun _ => rfl) (by omega) (by omega)) (by omega) (fun j _ => by rw [Nat.zero_add]))
          clear hd
          rw [upd_self h2]
          rw [upd_self h4]
          simp only [fillI, List.take, List.setIfInBounds_toArray, List.set_cons_zero, List.set_cons_succ, Nat.reduceAdd, Nat.zero_add, upd, Nat.reduceEqDiff, reduceIte]
          go_wp2_with fail
          refine HC.out.mono ?_
          rintro _ W2 ⟨rfl, hb2⟩
          have HB2 := Lib.hid hb2
          clear hb2
          go_wp2_with fail
          refine ⟨_, by (simp only [upd, Nat.reduceEqDiff, reduceIte]; rfl), ?_, ?_⟩
          · rfl
          · exact HB2.out
        · refine ⟨_, rfl, fun xs W hW hd => ?_⟩
          have h5 : xs 5 = .bool true := hd 5 (by kernel_rfl)
          clear hd
          rw [upd_self h5]
          simp only [fillI, List.take, List.setIfInBounds_toArray, List.set_cons_zero, List.set_cons_succ, Nat.reduceAdd, Nat.zero_add, upd, Nat.reduceEqDiff, reduceIte]
          go_wp2_with fail
          refine ⟨_, by (simp only [upd, Nat.reduceEqDiff, reduceIte]; rfl), ?_, ?_⟩
          · rfl
          · exact Below.refl _ _
      · intro xs w14 hW hp
        have h6 : xs 6 = .bool true := hp 6 (by omega)
        have hbz := undrew hW
        have S14 := Lib.hid (S13.out.step hbz)
        have HPpn : Hid (∀ W, Below w14.heap.size w14 W → _) := Lib.hid (fun W hW => HPp.out W (hbz.trans (hW.mono hbz.size)))
        have HPqn : Hid (∀ W, Below w14.heap.size w14 W → _) := Lib.hid (fun W hW => HPq.out W (hbz.trans (hW.mono hbz.size)))
        rw [upd_self h6]
        simp only [fillI, List.take, List.setIfInBounds_toArray, List.set_cons_zero, List.set_cons_succ, Nat.reduceAdd, Nat.zero_add, upd, Nat.reduceEqDiff, reduceIte]
        clear hp hW h6 hbz S13 HPp HPq
        have HPp := Lib.hid HPpn.out
        have HPq := Lib.hid HPqn.out
        clear HPpn HPqn
        generalize xs 0 = ya14 at *
        generalize xs 1 = yb14 at *
        generalize xs 2 = yc14 at *
        generalize xs 3 = yd14 at *
        generalize xs 4 = ye14 at *
        generalize xs 5 = yf14 at *
        clear xs
        go_upto_region 20 with fail

        refine region_inv_all (postW (.slice (some ⟨pbq, poq, none⟩) 3 cvq) (.slice Aiq 16 ciq) pbq (poq + 1) (w.heap.size + 1 + 1)) 7 (by kernel_rfl) (by kernel_rfl) (by kernel_rfl) (postW_mono _ _ _ _ _) ?_ ?_
        · refine ⟨⟨⟨⟨⟨⟨⟨trivial, ?_⟩, ?_⟩, ?_⟩, ?_⟩, ?_⟩, ?_⟩, ?_⟩
          · refine ⟨_, rfl, fun xs W hW hd => ?_⟩
            clear hd
            simp only [fillI, List.take, List.setIfInBounds_toArray, List.set_cons_zero, List.set_cons_succ, Nat.reduceAdd, Nat.zero_add]
            go_wp2_with fail
            refine ⟨_, by (simp only [upd, Nat.reduceEqDiff, reduceIte]; rfl), ?_, ?_⟩
            · rfl
            · exact Below.refl _ _
          · refine ⟨_, rfl, fun xs W hW hd => ?_⟩
            have h0 : xs 0 = .slice (some ⟨pbq, poq, none⟩) 3 cvq := hd 0 (by kernel_rfl)
            clear hd
            rw [upd_self h0]
            simp only [fillI, List.take, List.setIfInBounds_toArray, List.set_cons_zero, List.set_cons_succ, Nat.reduceAdd, Nat.zero_add, upd, Nat.reduceEqDiff, reduceIte]
            go_wp2_with fail
            refine ⟨_, by (simp only [upd, Nat.reduceEqDiff, reduceIte]; rfl), ?_, ?_⟩
            · rfl
            · exact Below.refl _ _
          · refine ⟨_, rfl, fun xs W hW hd => ?_⟩
            have h1 : xs 1 = .pointer (some ⟨pbq, poq + 1, none⟩) := hd 1 (by kernel_rfl)
            have cc := (HPq.out W (undrew hW)).1
            clear hd
            rw [upd_self h1]
            simp only [fillI, List.take, List.setIfInBounds_toArray, List.set_cons_zero, List.set_cons_succ, Nat.reduceAdd, Nat.zero_add, upd, Nat.reduceEqDiff, reduceIte]
            go_wp2_with fail
            refine ⟨_, by (simp only [upd, Nat.reduceEqDiff, reduceIte]; rfl), ?_, ?_⟩
            · rfl
            · exact Below.refl _ _
          · refine ⟨_, rfl, fun xs W hW hd => ?_⟩
            clear hd
            simp only [fillI, List.take, List.setIfInBounds_toArray, List.set_cons_zero, List.set_cons_succ, Nat.reduceAdd, Nat.zero_add]
            go_wp2_with fail
            refine ⟨_, by (simp only [upd, Nat.reduceEqDiff, reduceIte]; rfl), ?_, ?_⟩
            · rfl
            · exact Below.refl _ _
          · refine ⟨_, rfl, fun xs W hW hd => ?_⟩
            have h3 : xs 3 = .pointer (some ⟨w.heap.size + 1 + 1, 0, none⟩) := hd 3 (by kernel_rfl)
            clear hd
            rw [upd_self h3]
            simp only [fillI, List.take, List.setIfInBounds_toArray, List.set_cons_zero, List.set_cons_succ, Nat.reduceAdd, Nat.zero_add, upd, Nat.reduceEqDiff, reduceIte]
            go_wp2_with fail
            refine ⟨_, by (simp only [upd, Nat.reduceEqDiff, reduceIte]; rfl), ?_, ?_⟩
            · rfl
            · exact Below.refl _ _
          · refine ⟨_, rfl, fun xs W hW hd => ?_⟩
            have h2 : xs 2 = .slice Aiq 16 ciq := hd 2 (by kernel_rfl)
            have h4 : xs 4 = .slice (some ⟨w.heap.size + 1 + 1, 0, none⟩) 16 16 := hd 4 (by kernel_rfl)
            have HC := Lib.hid (same_both Aiq (some ⟨w.heap.size + 1 + 1, 0, none⟩) 16 ciq 16 _ _ _ _ W (HPq.out W (undrew hW)).2.1 (Seal.row_slice (S14.out.a.step (undrew hW)).dr 0 16 16 0 (fun _ => rfl) (by omega) (by omega)) (by omega) (fun j _ => by rw [Nat.zero_add]))
            clear hd
            rw [upd_self h2]
            rw [upd_self h4]
            simp only [fillI, List.take, List.setIfInBounds_toArray, List.set_cons_zero, List.set_cons_succ, Nat.reduceAdd, Nat.zero_add, upd, Nat.reduceEqDiff, reduceIte]
            go_wp2_with fail
            refine HC.out.mono ?_
            rintro _ W2 ⟨rfl, hb2⟩
            have HB2 := Lib.hid hb2
            clear hb2
            go_wp2_with fail
            refine ⟨_, by (simp only [upd, Nat.reduceEqDiff, reduceIte]; rfl), ?_, ?_⟩
            · rfl
            · exact HB2.out
          · refine ⟨_, rfl, fun xs W hW hd => ?_⟩
            have h5 : xs 5 = .bool true := hd 5 (by kernel_rfl)
            clear hd
            rw [upd_self h5]
            simp only [fillI, List.take, List.setIfInBounds_toArray, List.set_cons_zero, List.set_cons_succ, Nat.reduceAdd, Nat.zero_add, upd, Nat.reduceEqDiff, reduceIte]
            go_wp2_with fail
            refine ⟨_, by (simp only [upd, Nat.reduceEqDiff, reduceIte]; rfl), ?_, ?_⟩
            · rfl
            · exact Below.refl _ _
        · intro xs w15 hW hp
          have h6 : xs 6 = .bool true := hp 6 (by omega)
          have hbz := undrew hW
          have S15 := Lib.hid (S14.out.step hbz)
          have HPqn : Hid (∀ W, Below w15.heap.size w15 W → _) := Lib.hid (fun W hW => HPq.out W (hbz.trans (hW.mono hbz.size)))
          have HPpn : Hid (∀ W, Below w15.heap.size w15 W → _) := Lib.hid (fun W hW => HPp.out W (hbz.trans (hW.mono hbz.size)))
          rw [upd_self h6]
          simp only [fillI, List.take, List.setIfInBounds_toArray, List.set_cons_zero, List.set_cons_succ, Nat.reduceAdd, Nat.zero_add, upd, Nat.reduceEqDiff, reduceIte]
          clear hp hW h6 hbz S14 HPq HPp
          have HPq := Lib.hid HPqn.out
          have HPp := Lib.hid HPpn.out
          clear HPqn HPpn
          generalize xs 0 = ya15 at *
          generalize xs 1 = yb15 at *
          generalize xs 2 = yc15 at *
          generalize xs 3 = yd15 at *
          generalize xs 4 = ye15 at *
          generalize xs 5 = yf15 at *
          clear xs
          go_upto_region 21 with fail
          obtain ⟨YC, hYN, -, iYC⟩ := cells_named 16 (fun j => noteF N P Q R (19 + j)) N.y (fun i hi => noteF_y_both N P Q R i hi)
          have hYM : cellsOf 16 (fun j => noteF M (.slice AP M.pn cP) (.slice AQ M.qn cQ) R1 (19 + j)) = YC := by
            rw [← hYN]
            refine cellsOf_congr fun j hj => ?_
            rw [noteF_y_both _ _ _ _ j hj, noteF_y_both _ _ _ _ j hj, HM.out]
            rfl
          clear HM
          have hS : Below w15.heap.size w15 w15.drew := (Below.refl _ _).drew
          refine region_mix (fun W => Below w15.heap.size w15 W) [(0, true), (1, true), (2, true), (3, true), (4, true), (5, true), (6, true), (7, true), (8, true), (9, true), (10, true), (11, true), (12, true), (13, true), (14, true), (15, true), (16, true), (17, true), (18, true), (19, true), (20, true), (21, true), (22, true), (23, true), (24, true), (25, true), (26, true), (27, true), (28, true), (29, true), (30, true), (31, true)] (by kernel_rfl) (by kernel_rfl) hS ?_
          refine m_val rfl (by kernel_rfl) (.bool true) (fun W hW => by clear hW; go_simp) ?_
          simp only [Act.put, List.setIfInBounds_toArray, List.set_cons_zero, List.set_cons_succ]
          refine m_val rfl (by kernel_rfl) (.bool true) (fun W hW => by clear hW; go_simp) ?_
          simp only [Act.put, List.setIfInBounds_toArray, List.set_cons_zero, List.set_cons_succ]
          refine m_val rfl (by kernel_rfl) (.bool true) (fun W hW => by clear hW; go_simp) ?_
          simp only [Act.put, List.setIfInBounds_toArray, List.set_cons_zero, List.set_cons_succ]
          refine m_val rfl (by kernel_rfl) (.bool true) (fun W hW => by clear hW; go_simp) ?_
          simp only [Act.put, List.setIfInBounds_toArray, List.set_cons_zero, List.set_cons_succ]
          refine m_val rfl (by kernel_rfl) (.bool true) (fun W hW => by clear hW; go_simp) ?_
          simp only [Act.put, List.setIfInBounds_toArray, List.set_cons_zero, List.set_cons_succ]
          refine m_val rfl (by kernel_rfl) (.bool true) (fun W hW => by clear hW; go_simp) ?_
          simp only [Act.put, List.setIfInBounds_toArray, List.set_cons_zero, List.set_cons_succ]
          refine m_val rfl (by kernel_rfl) (.bool true) (fun W hW => by clear hW; go_simp) ?_
          simp only [Act.put, List.setIfInBounds_toArray, List.set_cons_zero, List.set_cons_succ]
          refine m_val rfl (by kernel_rfl) (.bool true) (fun W hW => by clear hW; go_simp) ?_
          simp only [Act.put, List.setIfInBounds_toArray, List.set_cons_zero, List.set_cons_succ]
          refine m_val rfl (by kernel_rfl) (.slice (some ⟨pbp, pop, none⟩) 4 cvp) (fun W hW => by clear hW; go_simp) ?_
          simp only [Act.put, List.setIfInBounds_toArray, List.set_cons_zero, List.set_cons_succ]
          refine m_val rfl (by kernel_rfl) (.pointer (some ⟨pbp, pop, none⟩)) (fun W hW => by clear hW; go_simp) ?_
          simp only [Act.put, List.setIfInBounds_toArray, List.set_cons_zero, List.set_cons_succ]
          refine m_val rfl (by kernel_rfl) (.slice Ajp (fldM (nsP b N D) 0) cjp) (fun W hW => by have h := (HPp.out W hW).2.2.1; rw [Nat.add_zero] at h; clear hW; go_simp) ?_
          simp only [Act.put, List.setIfInBounds_toArray, List.set_cons_zero, List.set_cons_succ]
          refine m_val rfl (by kernel_rfl) (.string N.b) (fun W hW => by have h := (HPp.out W hW).2.2.2; clear hW; go_simp) ?_
          simp only [Act.put, List.setIfInBounds_toArray, List.set_cons_zero, List.set_cons_succ]
          refine m_val rfl (by kernel_rfl) (.pointer (some ⟨w.heap.size + 1, 2, none⟩)) (fun W hW => by clear hW; go_simp) ?_
          simp only [Act.put, List.setIfInBounds_toArray, List.set_cons_zero, List.set_cons_succ]
          refine m_val rfl (by kernel_rfl) (.string N.b) (fun W hW => by have h : W.cell? ⟨w.heap.size + 1, 2, none⟩ = some (.string N.b) := (S15.out.a.step hW).nt.cell (i := 2) (by omega); clear hW; go_simp) ?_
          simp only [Act.put, List.setIfInBounds_toArray, List.set_cons_zero, List.set_cons_succ]
          refine m_val rfl (by kernel_rfl) (.bool true) (fun W hW => by have hl := Book.str_beq N.b N.b; rw [decide_eq_true rfl] at hl; clear hW; go_simp) ?_
          simp only [Act.put, List.setIfInBounds_toArray, List.set_cons_zero, List.set_cons_succ]
          refine m_val rfl (by kernel_rfl) (.bool true) (fun W hW => by clear hW; go_simp) ?_
          simp only [Act.put, List.setIfInBounds_toArray, List.set_cons_zero, List.set_cons_succ]
          refine m_val rfl (by kernel_rfl) (.bool true) (fun W hW => by clear hW; go_simp) ?_
          simp only [Act.put, List.setIfInBounds_toArray, List.set_cons_zero, List.set_cons_succ]
          refine m_val rfl (by kernel_rfl) (.slice (some ⟨pbq, poq, none⟩) 3 cvq) (fun W hW => by clear hW; go_simp) ?_
          simp only [Act.put, List.setIfInBounds_toArray, List.set_cons_zero, List.set_cons_succ]
          refine m_val rfl (by kernel_rfl) (.pointer (some ⟨pbq, poq, none⟩)) (fun W hW => by clear hW; go_simp) ?_
          simp only [Act.put, List.setIfInBounds_toArray, List.set_cons_zero, List.set_cons_succ]
          refine m_val rfl (by kernel_rfl) (.slice Ajq (fldM (nsQ b N D) 0) cjq) (fun W hW => by have h := (HPq.out W hW).2.2.1; rw [Nat.add_zero] at h; clear hW; go_simp) ?_
          simp only [Act.put, List.setIfInBounds_toArray, List.set_cons_zero, List.set_cons_succ]
          refine m_val rfl (by kernel_rfl) (.string nm) (fun W hW => by have h := (HPq.out W hW).2.2.2; clear hW; go_simp) ?_
          simp only [Act.put, List.setIfInBounds_toArray, List.set_cons_zero, List.set_cons_succ]
          refine m_val rfl (by kernel_rfl) (.string nm) (fun W hW => by clear hW; go_simp) ?_
          simp only [Act.put, List.setIfInBounds_toArray, List.set_cons_zero, List.set_cons_succ]
          refine m_val rfl (by kernel_rfl) (.bool true) (fun W hW => by have hl := Book.str_beq nm nm; rw [decide_eq_true rfl] at hl; clear hW; go_simp) ?_
          simp only [Act.put, List.setIfInBounds_toArray, List.set_cons_zero, List.set_cons_succ]
          refine m_val rfl (by kernel_rfl) (.bool true) (fun W hW => by clear hW; go_simp) ?_
          simp only [Act.put, List.setIfInBounds_toArray, List.set_cons_zero, List.set_cons_succ]
          refine m_val rfl (by kernel_rfl) (.bool true) (fun W hW => by clear hW; go_simp) ?_
          simp only [Act.put, List.setIfInBounds_toArray, List.set_cons_zero, List.set_cons_succ]
          refine m_val rfl (by kernel_rfl) (.pointer (some ⟨g10, 19, none⟩)) (fun W hW => by clear hW; go_simp) ?_
          simp only [Act.put, List.setIfInBounds_toArray, List.set_cons_zero, List.set_cons_succ]
          refine m_load rfl (by kernel_rfl) 25 (.tmp 139) (by rfl) (g10) 19 _ 38 16 (noteF M (.slice AP M.pn cP) (.slice AQ M.qn cQ) R1) (fun W hW => (S15.out.step hW).mr) (by rfl) _ Tryz.underlying25 (by rfl) (by kernel_rfl) (by omega) ?_
          rw [hYM]
          simp only [Act.put, List.setIfInBounds_toArray, List.set_cons_zero, List.set_cons_succ]
          refine m_val rfl (by kernel_rfl) (.pointer (some ⟨w.heap.size + 1, 19, none⟩)) (fun W hW => by clear hW; go_simp) ?_
          simp only [Act.put, List.setIfInBounds_toArray, List.set_cons_zero, List.set_cons_succ]
          refine m_load rfl (by kernel_rfl) 25 (.tmp 141) (by rfl) (w.heap.size + 1) 19 _ 38 16 (noteF N P Q R) (fun W hW => (S15.out.a.step hW).nt) (by rfl) _ Tryz.underlying25 (by rfl) (by kernel_rfl) (by omega) ?_
          rw [hYN]
          simp only [Act.put, List.setIfInBounds_toArray, List.set_cons_zero, List.set_cons_succ]
          refine m_val rfl (by kernel_rfl) (.bool true) (fun W hW => by have he := word_self YC N.y iYC W; clear hW; go_simp) ?_
          simp only [Act.put, List.setIfInBounds_toArray, List.set_cons_zero, List.set_cons_succ]
          refine m_val rfl (by kernel_rfl) (.bool true) (fun W hW => by clear hW; go_simp) ?_
          simp only [Act.put, List.setIfInBounds_toArray, List.set_cons_zero, List.set_cons_succ]
          refine m_val rfl (by kernel_rfl) (.bool true) (fun W hW => by clear hW; go_simp) ?_
          simp only [Act.put, List.setIfInBounds_toArray, List.set_cons_zero, List.set_cons_succ]
          refine m_end ?_
          have HBE : Hid (Below w.heap.size w w15.drew) := Lib.hid (S15.out.a.hb.trans (hS.mono S15.out.a.hb.size))
          clear hS S15 HPp HPq
          go_wp2
          go_ret
          exact ⟨rfl, HBE.out⟩
    · have hk3 : hasN b.L nm = true := by rw [hnm]; exact hk2
      clear hk2
      have eM : noteV M P1 Q1 R1 = .agg CM := by rw [← HCM.out]; rfl
      have hrt := Note.right_own M P1 Q1 R1 w6 H6.out.ht (by rw [hM]; exact Nat.zero_le _) (by rw [hM]; exact Nat.zero_le _) HN6.out
      rw [show rightN M = true from by rw [hM]; exact hr, eM] at hrt
      have HRT := Lib.hid hrt
      have HM := Lib.hid hM
      have HNM := Lib.hid hnm
      have r10 := HT6.out
      clear hM hnm hr eM HCS hrt
      subst hc
      go_wp2_with (refine load_as (by rfl) 30 (.tmp 10) (by rfl) g10 0 _ 38 38 _ CM ((cells_zero _ _).trans HCM.out) r10 (by rfl) _ Tryz.underlying30 (by rfl) (by kernel_rfl) (by omega) ?_)
      refine HRT.out.mono ?_
      rintro _ w7 ⟨rfl, hb7⟩
      have S7 : Hid (BothN b N D P Q R Lv Rv M P1 Q1 R1 g10 w w7) := Lib.hid (BothN.step ⟨H6.out, HB6.out w6 (Below.refl _ _), HT6.out, HN6.out⟩ hb7)
      clear hb7 HRT r10 H6 HB6 HT6 HN6

      have r0 := S7.out.a.bk

      have HK7 := Lib.hid (HKY.out w7 S7.out.is_ nm)
      rw [hk3] at HK7
      unfold Book.wordV at HK7
      obtain ⟨K1, hK1, zK1, iK1⟩ := cells_named 16 (fun j => wordF (keyB nm b.L) (0 + j)) (keyF (keyB nm b.L)) (fun i _ => by rw [Nat.zero_add]; rfl)
      have HK1 : Hid (cellsOf 16 (fun j => wordF (keyB nm b.L) (0 + j)) = K1 ∧ K1.size = 16 ∧ ∀ i, i < 16 → K1[i]? = some (.int .u8 ((keyF (keyB nm b.L) i).toNat : Int))) := Lib.hid ⟨hK1, zK1, iK1⟩
      clear hK1 zK1 iK1
      go_wp2_with (refine load_as (by rfl) 27 (.tmp 3) (by rfl) w.heap.size 0 _ 19 19 _ CB ((cells_zero _ _).trans HCB.out) r0 (by rfl) _ Tryz.underlying27 (by rfl) (by kernel_rfl) (by omega) ?_)
      refine HK7.out.mono ?_
      rintro _ w8 ⟨rfl, hb8⟩

      have S8 := Lib.hid (S7.out.step hb8)
      have HZ := Lib.hid (row_new w8 #[.int .u8 0, .int .u8 0, .int .u8 0, .int .u8 0, .int .u8 0, .int .u8 0, .int .u8 0, .int .u8 0, .int .u8 0, .int .u8 0, .int .u8 0, .int .u8 0, .int .u8 0, .int .u8 0, .int .u8 0, .int .u8 0] 25 16 (wordF Book.zw) rfl zero_both)
      have HAL : Hid (Below w8.heap.size w8 (w8.alloc (.cells #[.int .u8 0, .int .u8 0, .int .u8 0, .int .u8 0, .int .u8 0, .int .u8 0, .int .u8 0, .int .u8 0, .int .u8 0, .int .u8 0, .int .u8 0, .int .u8 0, .int .u8 0, .int .u8 0, .int .u8 0, .int .u8 0] 25))) := Lib.hid ((Below.refl _ _).alloc (Nat.le_refl _) _)
      clear r0 hb8 HK7 S7
      go_upto_region 11 with ((with_reducible refine (?_ : wpList _ _ _ _ _ _)); refine store_whole (by rfl) 25 (.tmp 12) (.tmp 64) (by rfl) w8.heap.size _ 16 _ (wordF (keyB nm b.L)) HZ.out (by kernel_rfl) (cellsOf 16 (wordF (keyB nm b.L))) (by kernel_rfl) (by kernel_rfl) (size_cellsOf _ _) (cellsOf_at _ _) (fun _ _ => rfl) ?_; intro w9 hrs hos)
      have hbs : Below w8.heap.size w8 w9 := hos.below HAL.out (Nat.le_refl _)

      have S9 := Lib.hid (S8.out.step hbs)
      have HW9 := Lib.hid hrs
      clear hrs hos hbs HZ HAL S8 
      generalize w8.heap.size = g9 at *

      have r0 := S9.out.a.bk
      have d1 : w9.cell? ⟨g10, 0, none⟩ = some (.int .i64 8) := by
        have := S9.out.mr.cell (i := 0) (by omega)
        rw [show noteF M P1 Q1 R1 0 = .int .i64 M.kind from rfl, HM.out] at this
        exact this
      have d2 : w9.cell? ⟨w.heap.size + 1, 1, none⟩ = some (.string N.a) := S9.out.a.nt.cell (i := 1) (by omega)
      have HK9 := Lib.hid (HKY.out w9 S9.out.is_ N.a)
      rw [hk1] at HK9
      unfold Book.wordV at HK9
      obtain ⟨K2, hK2, zK2, iK2⟩ := cells_named 16 (fun j => wordF (keyB N.a b.L) (0 + j)) (keyF (keyB N.a b.L)) (fun i _ => by rw [Nat.zero_add]; rfl)
      have HK2 : Hid (cellsOf 16 (fun j => wordF (keyB N.a b.L) (0 + j)) = K2 ∧ K2.size = 16 ∧ ∀ i, i < 16 → K2[i]? = some (.int .u8 ((keyF (keyB N.a b.L) i).toNat : Int))) := Lib.hid ⟨hK2, zK2, iK2⟩
      clear hK2 zK2 iK2
      go_wp2_with (refine load_as (by rfl) 27 (.tmp 3) (by rfl) w.heap.size 0 _ 19 19 _ CB ((cells_zero _ _).trans HCB.out) r0 (by rfl) _ Tryz.underlying27 (by rfl) (by kernel_rfl) (by omega) ?_)
      refine HK9.out.mono ?_
      rintro _ w10 ⟨rfl, hb10⟩
      have HW9x := Lib.hid (HW9.out.of_block (hb10.block _ (World.rowIs.lt HW9.out)))
      have S10 := Lib.hid (S9.out.step hb10)
      have HZ := Lib.hid (row_new w10 #[.int .u8 0, .int .u8 0, .int .u8 0, .int .u8 0, .int .u8 0, .int .u8 0, .int .u8 0, .int .u8 0, .int .u8 0, .int .u8 0, .int .u8 0, .int .u8 0, .int .u8 0, .int .u8 0, .int .u8 0, .int .u8 0] 25 16 (wordF Book.zw) rfl zero_both)
      have HAL : Hid (Below w10.heap.size w10 (w10.alloc (.cells #[.int .u8 0, .int .u8 0, .int .u8 0, .int .u8 0, .int .u8 0, .int .u8 0, .int .u8 0, .int .u8 0, .int .u8 0, .int .u8 0, .int .u8 0, .int .u8 0, .int .u8 0, .int .u8 0, .int .u8 0, .int .u8 0] 25))) := Lib.hid ((Below.refl _ _).alloc (Nat.le_refl _) _)
      clear r0 hb10 HK9 S9
      go_upto_region 23 with ((with_reducible refine (?_ : wpList _ _ _ _ _ _)); refine store_whole (by rfl) 25 (.tmp 22) (.tmp 150) (by rfl) w10.heap.size _ 16 _ (wordF (keyB N.a b.L)) HZ.out (by kernel_rfl) (cellsOf 16 (wordF (keyB N.a b.L))) (by kernel_rfl) (by kernel_rfl) (size_cellsOf _ _) (cellsOf_at _ _) (fun _ _ => rfl) ?_; intro w11 hrs hos)
      have hbs : Below w10.heap.size w10 w11 := hos.below HAL.out (Nat.le_refl _)
      have HW911 := Lib.hid (HW9x.out.of_block (hbs.block _ (World.rowIs.lt HW9x.out)))
      have S11 := Lib.hid (S10.out.step hbs)
      have HW11 := Lib.hid hrs
      clear hrs hos hbs HZ HAL S10 HW9x
      generalize w10.heap.size = g11 at *

      obtain ⟨AP, cP, rfl⟩ := slice_shape S11.out.ma.p
      obtain ⟨AQ, cQ, rfl⟩ := slice_shape S11.out.ma.q
      clear HCM

      have hbl := blob_len lK3b (kslP N D) rfl (by show 3 ≤ 4; omega) (by show off (fldM [(16, N.y), (N.a.size, strB N.a), (16, D)]) 3 ≤ 200; rw [off3]; have := HFIT.out.2.2.1; have := HFIT.out.2.2.2; omega)
      have HPB := Lib.hid (parts_back (keyF (keyB nm b.L)) (fun j => D (16 + j)) lK3b (kslP N D) M.p K1 HK1.out.2.1 HK1.out.2.2 AP M.pn cP 3 w11 S11.out.a.hk S11.out.ma.p (by rw [HM.out]; rfl) (fun j _ => by rw [HM.out, HNM.out]; rfl) rfl (by decide) hbl.1 hbl.2.1)
      have dd : w11.cell? ⟨g10, 35, none⟩ = some (.slice AP M.pn cP) := S11.out.mr.cell (i := 35) (by omega)
      have rr := HW911.out
      clear hbl
      go_wp2_with (refine load_as (by rfl) 25 (.tmp 12) (by rfl) g9 0 _ 16 16 _ K1 HK1.out.1 rr (by rfl) _ Tryz.underlying25 (by rfl) (by kernel_rfl) (by omega) ?_)
      refine HPB.out.mono ?_
      rintro _ w12 ⟨v12, R12, rfl, ho12, hb12⟩
      rw [show (kslP N D).length = 3 from rfl] at ho12
      obtain ⟨Av12, cvp, rfl⟩ := ho12.shape
      obtain ⟨pbp, pop, Aip, cip, Ajp, cjp, rfl, hp⟩ := both_parts ho12 2 1 (by omega) (by omega) N.a (by rfl) (fun _ _ => rfl)
      rw [show fldM (kslP N D) 2 = 16 from rfl, show fldE (kslP N D) 2 = D from rfl] at hp
      have HW11p := Lib.hid (HW11.out.of_block (hb12.block _ (World.rowIs.lt HW11.out)))
      have HPp := Lib.hid hp
      have S12 := Lib.hid (S11.out.step hb12)
      clear dd rr hp hb12 ho12 HPB S11 HW911 

      have hbl := blob_len lK3a (kslQ N D) rfl (by show 3 ≤ 4; omega) (by show off (fldM [(16, N.x), (N.b.size, strB N.b), (16, D)]) 3 ≤ 200; rw [off3]; have := HFIT.out.2.2.1; have := HFIT.out.2.2.2; omega)
      have HPB := Lib.hid (parts_back (keyF (keyB N.a b.L)) (fun j => D (32 + j)) lK3a (kslQ N D) M.q K2 HK2.out.2.1 HK2.out.2.2 AQ M.qn cQ 3 w12 S12.out.a.hk S12.out.ma.q (by rw [HM.out]; rfl) (fun j _ => by rw [HM.out]; rfl) rfl (by decide) hbl.1 hbl.2.1)
      have dd : w12.cell? ⟨g10, 36, none⟩ = some (.slice AQ M.qn cQ) := S12.out.mr.cell (i := 36) (by omega)
      have rr := HW11p.out
      clear hbl
      go_wp2_with (refine load_as (by rfl) 25 (.tmp 22) (by rfl) g11 0 _ 16 16 _ K2 HK2.out.1 rr (by rfl) _ Tryz.underlying25 (by rfl) (by kernel_rfl) (by omega) ?_)
      refine HPB.out.mono ?_
      rintro _ w13 ⟨v13, R13, rfl, ho13, hb13⟩
      rw [show (kslQ N D).length = 3 from rfl] at ho13
      obtain ⟨Av13, cvq, rfl⟩ := ho13.shape
      obtain ⟨pbq, poq, Aiq, ciq, Ajq, cjq, rfl, hp⟩ := both_parts ho13 2 1 (by omega) (by omega) nm (by rw [HNM.out]; rfl) (fun _ _ => by rw [HNM.out]; rfl)
      rw [show fldM (kslQ N D) 2 = 16 from rfl, show fldE (kslQ N D) 2 = D from rfl] at hp
      have HPpn : Hid (∀ W, Below w13.heap.size w13 W → _) := Lib.hid (fun W hW => HPp.out W (hb13.trans (hW.mono hb13.size)))
      have HPq := Lib.hid hp
      have S13 := Lib.hid (S12.out.step hb13)
      clear dd rr hp hb13 ho13 HPB S12 HW11p HPp
      have HPp := Lib.hid HPpn.out
      clear HPpn
      have d1 : w13.cell? ⟨g10, 0, none⟩ = some (.int .i64 8) := by
        have := S13.out.mr.cell (i := 0) (by omega)
        rw [show noteF M (.slice AP M.pn cP) (.slice AQ M.qn cQ) R1 0 = .int .i64 M.kind from rfl, HM.out] at this
        exact this
      go_upto_region 27 with fail

      refine region_inv_all (postW (.slice (some ⟨pbp, pop, none⟩) 3 cvp) (.slice Aip 16 cip) pbp (pop + 2) (w.heap.size + 1 + 1)) 7 (by kernel_rfl) (by kernel_rfl) (by kernel_rfl) (postW_mono _ _ _ _ _) ?_ ?_
      · refine ⟨⟨⟨⟨⟨⟨⟨trivial, ?_⟩, ?_⟩, ?_⟩, ?_⟩, ?_⟩, ?_⟩, ?_⟩
        · refine ⟨_, rfl, fun xs W hW hd => ?_⟩
          clear hd
          simp only [fillI, List.take, List.setIfInBounds_toArray, List.set_cons_zero, List.set_cons_succ, Nat.reduceAdd, Nat.zero_add]
          go_wp2_with fail
          refine ⟨_, by (simp only [upd, Nat.reduceEqDiff, reduceIte]; rfl), ?_, ?_⟩
          · rfl
          · exact Below.refl _ _
        · refine ⟨_, rfl, fun xs W hW hd => ?_⟩
          have h0 : xs 0 = .slice (some ⟨pbp, pop, none⟩) 3 cvp := hd 0 (by kernel_rfl)
          clear hd
          rw [upd_self h0]
          simp only [fillI, List.take, List.setIfInBounds_toArray, List.set_cons_zero, List.set_cons_succ, Nat.reduceAdd, Nat.zero_add, upd, Nat.reduceEqDiff, reduceIte]
          go_wp2_with fail
          refine ⟨_, by (simp only [upd, Nat.reduceEqDiff, reduceIte]; rfl), ?_, ?_⟩
          · rfl
          · exact Below.refl _ _
        · refine ⟨_, rfl, fun xs W hW hd => ?_⟩
          have h1 : xs 1 = .pointer (some ⟨pbp, pop + 2, none⟩) := hd 1 (by kernel_rfl)
          have cc := (HPp.out W (undrew hW)).1
          clear hd
          rw [upd_self h1]
          simp only [fillI, List.take, List.setIfInBounds_toArray, List.set_cons_zero, List.set_cons_succ, Nat.reduceAdd, Nat.zero_add, upd, Nat.reduceEqDiff, reduceIte]
          go_wp2_with fail
          refine ⟨_, by (simp only [upd, Nat.reduceEqDiff, reduceIte]; rfl), ?_, ?_⟩
          · rfl
          · exact Below.refl _ _
        · refine ⟨_, rfl, fun xs W hW hd => ?_⟩
          clear hd
          simp only [fillI, List.take, List.setIfInBounds_toArray, List.set_cons_zero, List.set_cons_succ, Nat.reduceAdd, Nat.zero_add]
          go_wp2_with fail
          refine ⟨_, by (simp only [upd, Nat.reduceEqDiff, reduceIte]; rfl), ?_, ?_⟩
          · rfl
          · exact Below.refl _ _
        · refine ⟨_, rfl, fun xs W hW hd => ?_⟩
          have h3 : xs 3 = .pointer (some ⟨w.heap.size + 1 + 1, 0, none⟩) := hd 3 (by kernel_rfl)
          clear hd
          rw [upd_self h3]
          simp only [fillI, List.take, List.setIfInBounds_toArray, List.set_cons_zero, List.set_cons_succ, Nat.reduceAdd, Nat.zero_add, upd, Nat.reduceEqDiff, reduceIte]
          go_wp2_with fail
          refine ⟨_, by (simp only [upd, Nat.reduceEqDiff, reduceIte]; rfl), ?_, ?_⟩
          · rfl
          · exact Below.refl _ _
        · refine ⟨_, rfl, fun xs W hW hd => ?_⟩
          have h2 : xs 2 = .slice Aip 16 cip := hd 2 (by kernel_rfl)
          have h4 : xs 4 = .slice (some ⟨w.heap.size + 1 + 1, 0, none⟩) 16 16 := hd 4 (by kernel_rfl)
          have HC := Lib.hid (same_both Aip (some ⟨w.heap.size + 1 + 1, 0, none⟩) 16 cip 16 _ _ _ _ W (HPp.out W (undrew hW)).2.1 (Seal.row_slice (S13.out.a.step (undrew hW)).dr 0 16 16 0 (fun _ => rfl) (by omega) (by omega)) (by omega) (fun j _ => by rw [Nat.zero_add]))
          clear hd
          rw [upd_self h2]
          rw [upd_self h4]
          simp only [fillI, List.take, List.setIfInBounds_toArray, List.set_cons_zero, List.set_cons_succ, Nat.reduceAdd, Nat.zero_add, upd, Nat.reduceEqDiff, reduceIte]
          go_wp2_with fail
          refine HC.out.mono ?_
          rintro _ W2 ⟨rfl, hb2⟩
          have HB2 := Lib.hid hb2
          clear hb2
          go_wp2_with fail
          refine ⟨_, by (simp only [upd, Nat.reduceEqDiff, reduceIte]; rfl), ?_, ?_⟩
          · rfl
          · exact HB2.out
        · refine ⟨_, rfl, fun xs W hW hd => ?_⟩
          have h5 : xs 5 = .bool true := hd 5 (by kernel_rfl)
          clear hd
          rw [upd_self h5]
          simp only [fillI, List.take, List.setIfInBounds_toArray, List.set_cons_zero, List.set_cons_succ, Nat.reduceAdd, Nat.zero_add, upd, Nat.reduceEqDiff, reduceIte]
          go_wp2_with fail
          refine ⟨_, by (simp only [upd, Nat.reduceEqDiff, reduceIte]; rfl), ?_, ?_⟩
          · rfl
          · exact Below.refl _ _
      · intro xs w14 hW hp
        have h6 : xs 6 = .bool true := hp 6 (by omega)
        have hbz := undrew hW
        have S14 := Lib.hid (S13.out.step hbz)
        have HPpn : Hid (∀ W, Below w14.heap.size w14 W → _) := Lib.hid (fun W hW => HPp.out W (hbz.trans (hW.mono hbz.size)))
        have HPqn : Hid (∀ W, Below w14.heap.size w14 W → _) := Lib.hid (fun W hW => HPq.out W (hbz.trans (hW.mono hbz.size)))
        rw [upd_self h6]
        simp only [fillI, List.take, List.setIfInBounds_toArray, List.set_cons_zero, List.set_cons_succ, Nat.reduceAdd, Nat.zero_add, upd, Nat.reduceEqDiff, reduceIte]
        clear hp hW h6 hbz S13 HPp HPq
        have HPp := Lib.hid HPpn.out
        have HPq := Lib.hid HPqn.out
        clear HPpn HPqn
        generalize xs 0 = ya14 at *
        generalize xs 1 = yb14 at *
        generalize xs 2 = yc14 at *
        generalize xs 3 = yd14 at *
        generalize xs 4 = ye14 at *
        generalize xs 5 = yf14 at *
        clear xs
        go_upto_region 28 with fail

        refine region_inv_all (postW (.slice (some ⟨pbq, poq, none⟩) 3 cvq) (.slice Aiq 16 ciq) pbq (poq + 2) (w.heap.size + 1 + 1)) 7 (by kernel_rfl) (by kernel_rfl) (by kernel_rfl) (postW_mono _ _ _ _ _) ?_ ?_
        · refine ⟨⟨⟨⟨⟨⟨⟨trivial, ?_⟩, ?_⟩, ?_⟩, ?_⟩, ?_⟩, ?_⟩, ?_⟩
          · refine ⟨_, rfl, fun xs W hW hd => ?_⟩
            clear hd
            simp only [fillI, List.take, List.setIfInBounds_toArray, List.set_cons_zero, List.set_cons_succ, Nat.reduceAdd, Nat.zero_add]
            go_wp2_with fail
            refine ⟨_, by (simp only [upd, Nat.reduceEqDiff, reduceIte]; rfl), ?_, ?_⟩
            · rfl
            · exact Below.refl _ _
          · refine ⟨_, rfl, fun xs W hW hd => ?_⟩
            have h0 : xs 0 = .slice (some ⟨pbq, poq, none⟩) 3 cvq := hd 0 (by kernel_rfl)
            clear hd
            rw [upd_self h0]
            simp only [fillI, List.take, List.setIfInBounds_toArray, List.set_cons_zero, List.set_cons_succ, Nat.reduceAdd, Nat.zero_add, upd, Nat.reduceEqDiff, reduceIte]
            go_wp2_with fail
            refine ⟨_, by (simp only [upd, Nat.reduceEqDiff, reduceIte]; rfl), ?_, ?_⟩
            · rfl
            · exact Below.refl _ _
          · refine ⟨_, rfl, fun xs W hW hd => ?_⟩
            have h1 : xs 1 = .pointer (some ⟨pbq, poq + 2, none⟩) := hd 1 (by kernel_rfl)
            have cc := (HPq.out W (undrew hW)).1
            clear hd
            rw [upd_self h1]
            simp only [fillI, List.take, List.setIfInBounds_toArray, List.set_cons_zero, List.set_cons_succ, Nat.reduceAdd, Nat.zero_add, upd, Nat.reduceEqDiff, reduceIte]
            go_wp2_with fail
            refine ⟨_, by (simp only [upd, Nat.reduceEqDiff, reduceIte]; rfl), ?_, ?_⟩
            · rfl
            · exact Below.refl _ _
          · refine ⟨_, rfl, fun xs W hW hd => ?_⟩
            clear hd
            simp only [fillI, List.take, List.setIfInBounds_toArray, List.set_cons_zero, List.set_cons_succ, Nat.reduceAdd, Nat.zero_add]
            go_wp2_with fail
            refine ⟨_, by (simp only [upd, Nat.reduceEqDiff, reduceIte]; rfl), ?_, ?_⟩
            · rfl
            · exact Below.refl _ _
          · refine ⟨_, rfl, fun xs W hW hd => ?_⟩
            have h3 : xs 3 = .pointer (some ⟨w.heap.size + 1 + 1, 0, none⟩) := hd 3 (by kernel_rfl)
            clear hd
            rw [upd_self h3]
            simp only [fillI, List.take, List.setIfInBounds_toArray, List.set_cons_zero, List.set_cons_succ, Nat.reduceAdd, Nat.zero_add, upd, Nat.reduceEqDiff, reduceIte]
            go_wp2_with fail
            refine ⟨_, by (simp only [upd, Nat.reduceEqDiff, reduceIte]; rfl), ?_, ?_⟩
            · rfl
            · exact Below.refl _ _
          · refine ⟨_, rfl, fun xs W hW hd => ?_⟩
            have h2 : xs 2 = .slice Aiq 16 ciq := hd 2 (by kernel_rfl)
            have h4 : xs 4 = .slice (some ⟨w.heap.size + 1 + 1, 0, none⟩) 16 16 := hd 4 (by kernel_rfl)
            have HC := Lib.hid (same_both Aiq (some ⟨w.heap.size + 1 + 1, 0, none⟩) 16 ciq 16 _ _ _ _ W (HPq.out W (undrew hW)).2.1 (Seal.row_slice (S14.out.a.step (undrew hW)).dr 0 16 16 0 (fun _ => rfl) (by omega) (by omega)) (by omega) (fun j _ => by rw [Nat.zero_add]))
            clear hd
            rw [upd_self h2]
            rw [upd_self h4]
            simp only [fillI, List.take, List.setIfInBounds_toArray, List.set_cons_zero, List.set_cons_succ, Nat.reduceAdd, Nat.zero_add, upd, Nat.reduceEqDiff, reduceIte]
            go_wp2_with fail
            refine HC.out.mono ?_
            rintro _ W2 ⟨rfl, hb2⟩
            have HB2 := Lib.hid hb2
            clear hb2
            go_wp2_with fail
            refine ⟨_, by (simp only [upd, Nat.reduceEqDiff, reduceIte]; rfl), ?_, ?_⟩
            · rfl
            · exact HB2.out
          · refine ⟨_, rfl, fun xs W hW hd => ?_⟩
            have h5 : xs 5 = .bool true := hd 5 (by kernel_rfl)
            clear hd
            rw [upd_self h5]
            simp only [fillI, List.take, List.setIfInBounds_toArray, List.set_cons_zero, List.set_cons_succ, Nat.reduceAdd, Nat.zero_add, upd, Nat.reduceEqDiff, reduceIte]
            go_wp2_with fail
            refine ⟨_, by (simp only [upd, Nat.reduceEqDiff, reduceIte]; rfl), ?_, ?_⟩
            · rfl
            · exact Below.refl _ _
        · intro xs w15 hW hp
          have h6 : xs 6 = .bool true := hp 6 (by omega)
          have hbz := undrew hW
          have S15 := Lib.hid (S14.out.step hbz)
          have HPqn : Hid (∀ W, Below w15.heap.size w15 W → _) := Lib.hid (fun W hW => HPq.out W (hbz.trans (hW.mono hbz.size)))
          have HPpn : Hid (∀ W, Below w15.heap.size w15 W → _) := Lib.hid (fun W hW => HPp.out W (hbz.trans (hW.mono hbz.size)))
          rw [upd_self h6]
          simp only [fillI, List.take, List.setIfInBounds_toArray, List.set_cons_zero, List.set_cons_succ, Nat.reduceAdd, Nat.zero_add, upd, Nat.reduceEqDiff, reduceIte]
          clear hp hW h6 hbz S14 HPq HPp
          have HPq := Lib.hid HPqn.out
          have HPp := Lib.hid HPpn.out
          clear HPqn HPpn
          generalize xs 0 = ya15 at *
          generalize xs 1 = yb15 at *
          generalize xs 2 = yc15 at *
          generalize xs 3 = yd15 at *
          generalize xs 4 = ye15 at *
          generalize xs 5 = yf15 at *
          clear xs
          go_upto_region 29 with fail
          have hS : Below w15.heap.size w15 w15.drew := (Below.refl _ _).drew
          refine region_mix (fun W => Below w15.heap.size w15 W) [(0, true), (1, true), (2, true), (3, true), (4, true), (5, true), (6, true), (7, true), (8, true), (9, true), (10, true), (11, true), (12, true), (13, true), (14, true), (15, true), (16, true), (17, true), (18, true), (19, true), (20, true), (21, true), (22, true), (23, true), (24, true), (25, true), (26, true), (27, true), (28, true), (29, true), (30, true)] (by kernel_rfl) (by kernel_rfl) hS ?_
          refine m_val rfl (by kernel_rfl) (.bool true) (fun W hW => by clear hW; go_simp) ?_
          simp only [Act.put, List.setIfInBounds_toArray, List.set_cons_zero, List.set_cons_succ]
          refine m_val rfl (by kernel_rfl) (.bool true) (fun W hW => by clear hW; go_simp) ?_
          simp only [Act.put, List.setIfInBounds_toArray, List.set_cons_zero, List.set_cons_succ]
          refine m_val rfl (by kernel_rfl) (.bool true) (fun W hW => by clear hW; go_simp) ?_
          simp only [Act.put, List.setIfInBounds_toArray, List.set_cons_zero, List.set_cons_succ]
          refine m_val rfl (by kernel_rfl) (.bool true) (fun W hW => by clear hW; go_simp) ?_
          simp only [Act.put, List.setIfInBounds_toArray, List.set_cons_zero, List.set_cons_succ]
          refine m_val rfl (by kernel_rfl) (.bool true) (fun W hW => by clear hW; go_simp) ?_
          simp only [Act.put, List.setIfInBounds_toArray, List.set_cons_zero, List.set_cons_succ]
          refine m_val rfl (by kernel_rfl) (.bool true) (fun W hW => by clear hW; go_simp) ?_
          simp only [Act.put, List.setIfInBounds_toArray, List.set_cons_zero, List.set_cons_succ]
          refine m_val rfl (by kernel_rfl) (.bool true) (fun W hW => by clear hW; go_simp) ?_
          simp only [Act.put, List.setIfInBounds_toArray, List.set_cons_zero, List.set_cons_succ]
          refine m_val rfl (by kernel_rfl) (.bool true) (fun W hW => by clear hW; go_simp) ?_
          simp only [Act.put, List.setIfInBounds_toArray, List.set_cons_zero, List.set_cons_succ]
          refine m_val rfl (by kernel_rfl) (.slice (some ⟨pbp, pop, none⟩) 3 cvp) (fun W hW => by clear hW; go_simp) ?_
          simp only [Act.put, List.setIfInBounds_toArray, List.set_cons_zero, List.set_cons_succ]
          refine m_val rfl (by kernel_rfl) (.pointer (some ⟨pbp, pop + 1, none⟩)) (fun W hW => by clear hW; go_simp) ?_
          simp only [Act.put, List.setIfInBounds_toArray, List.set_cons_zero, List.set_cons_succ]
          refine m_val rfl (by kernel_rfl) (.slice Ajp (fldM (kslP N D) 1) cjp) (fun W hW => by have h := (HPp.out W hW).2.2.1; clear hW; go_simp) ?_
          simp only [Act.put, List.setIfInBounds_toArray, List.set_cons_zero, List.set_cons_succ]
          refine m_val rfl (by kernel_rfl) (.string N.a) (fun W hW => by have h := (HPp.out W hW).2.2.2; clear hW; go_simp) ?_
          simp only [Act.put, List.setIfInBounds_toArray, List.set_cons_zero, List.set_cons_succ]
          refine m_val rfl (by kernel_rfl) (.pointer (some ⟨w.heap.size + 1, 1, none⟩)) (fun W hW => by clear hW; go_simp) ?_
          simp only [Act.put, List.setIfInBounds_toArray, List.set_cons_zero, List.set_cons_succ]
          refine m_val rfl (by kernel_rfl) (.string N.a) (fun W hW => by have h : W.cell? ⟨w.heap.size + 1, 1, none⟩ = some (.string N.a) := (S15.out.a.step hW).nt.cell (i := 1) (by omega); clear hW; go_simp) ?_
          simp only [Act.put, List.setIfInBounds_toArray, List.set_cons_zero, List.set_cons_succ]
          refine m_val rfl (by kernel_rfl) (.bool true) (fun W hW => by have hl := Book.str_beq N.a N.a; rw [decide_eq_true rfl] at hl; clear hW; go_simp) ?_
          simp only [Act.put, List.setIfInBounds_toArray, List.set_cons_zero, List.set_cons_succ]
          refine m_val rfl (by kernel_rfl) (.bool true) (fun W hW => by clear hW; go_simp) ?_
          simp only [Act.put, List.setIfInBounds_toArray, List.set_cons_zero, List.set_cons_succ]
          refine m_val rfl (by kernel_rfl) (.bool true) (fun W hW => by clear hW; go_simp) ?_
          simp only [Act.put, List.setIfInBounds_toArray, List.set_cons_zero, List.set_cons_succ]
          refine m_val rfl (by kernel_rfl) (.slice (some ⟨pbq, poq, none⟩) 3 cvq) (fun W hW => by clear hW; go_simp) ?_
          simp only [Act.put, List.setIfInBounds_toArray, List.set_cons_zero, List.set_cons_succ]
          refine m_val rfl (by kernel_rfl) (.pointer (some ⟨pbq, poq + 1, none⟩)) (fun W hW => by clear hW; go_simp) ?_
          simp only [Act.put, List.setIfInBounds_toArray, List.set_cons_zero, List.set_cons_succ]
          refine m_val rfl (by kernel_rfl) (.slice Ajq (fldM (kslQ N D) 1) cjq) (fun W hW => by have h := (HPq.out W hW).2.2.1; clear hW; go_simp) ?_
          simp only [Act.put, List.setIfInBounds_toArray, List.set_cons_zero, List.set_cons_succ]
          refine m_val rfl (by kernel_rfl) (.string nm) (fun W hW => by have h := (HPq.out W hW).2.2.2; clear hW; go_simp) ?_
          simp only [Act.put, List.setIfInBounds_toArray, List.set_cons_zero, List.set_cons_succ]
          refine m_val rfl (by kernel_rfl) (.string nm) (fun W hW => by clear hW; go_simp) ?_
          simp only [Act.put, List.setIfInBounds_toArray, List.set_cons_zero, List.set_cons_succ]
          refine m_val rfl (by kernel_rfl) (.bool true) (fun W hW => by have hl := Book.str_beq nm nm; rw [decide_eq_true rfl] at hl; clear hW; go_simp) ?_
          simp only [Act.put, List.setIfInBounds_toArray, List.set_cons_zero, List.set_cons_succ]
          refine m_val rfl (by kernel_rfl) (.bool true) (fun W hW => by clear hW; go_simp) ?_
          simp only [Act.put, List.setIfInBounds_toArray, List.set_cons_zero, List.set_cons_succ]
          refine m_val rfl (by kernel_rfl) (.bool true) (fun W hW => by clear hW; go_simp) ?_
          simp only [Act.put, List.setIfInBounds_toArray, List.set_cons_zero, List.set_cons_succ]
          refine m_val rfl (by kernel_rfl) (.string nm) (fun W hW => by clear hW; go_simp) ?_
          simp only [Act.put, List.setIfInBounds_toArray, List.set_cons_zero, List.set_cons_succ]
          refine m_val rfl (by kernel_rfl) (.pointer (some ⟨w.heap.size + 1, 2, none⟩)) (fun W hW => by clear hW; go_simp) ?_
          simp only [Act.put, List.setIfInBounds_toArray, List.set_cons_zero, List.set_cons_succ]
          refine m_val rfl (by kernel_rfl) (.string N.b) (fun W hW => by have h : W.cell? ⟨w.heap.size + 1, 2, none⟩ = some (.string N.b) := (S15.out.a.step hW).nt.cell (i := 2) (by omega); clear hW; go_simp) ?_
          simp only [Act.put, List.setIfInBounds_toArray, List.set_cons_zero, List.set_cons_succ]
          refine m_val rfl (by kernel_rfl) (.bool true) (fun W hW => by have hl := Book.str_beq nm N.b; rw [decide_eq_true HNM.out] at hl; clear hW; go_simp) ?_
          simp only [Act.put, List.setIfInBounds_toArray, List.set_cons_zero, List.set_cons_succ]
          refine m_val rfl (by kernel_rfl) (.bool true) (fun W hW => by clear hW; go_simp) ?_
          simp only [Act.put, List.setIfInBounds_toArray, List.set_cons_zero, List.set_cons_succ]
          refine m_val rfl (by kernel_rfl) (.bool true) (fun W hW => by clear hW; go_simp) ?_
          simp only [Act.put, List.setIfInBounds_toArray, List.set_cons_zero, List.set_cons_succ]
          refine m_end ?_
          have HBE : Hid (Below w.heap.size w w15.drew) := Lib.hid (S15.out.a.hb.trans (hS.mono S15.out.a.hb.size))
          clear hS S15 HPp HPq
          go_wp2
          go_ret
          exact ⟨rfl, HBE.out⟩
end Go.Proofs.YtnkjoambhmlnbaaGreatDoor.Kdc
