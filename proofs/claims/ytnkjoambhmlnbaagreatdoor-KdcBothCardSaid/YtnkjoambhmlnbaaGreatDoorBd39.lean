/-
  What kdc.Answer does. bartizanlaw16.awake: true. What an answer without an error has: who is in the book, that its note may be.
-/
import Derived.Test.YtnkjoambhmlnbaaGreatDoorBd38
import Derived.Test.YtnkjoambhmlnbaaGreatDoorBd40
import Derived.Test.YtnkjoambhmlnbaaGreatDoorBd45
import Derived.Test.YtnkjoambhmlnbaaGreatDoorBd13
import Derived.Test.YtnkjoambhmlnbaaGreatDoorBd37
import Derived.Lib.SlBytesConst
import Derived.Deep.DeepCutAuto
namespace Go.Proofs.YtnkjoambhmlnbaaGreatDoor.Kdc
open Go Go.RowKit Go.Proofs.YtnkjoambhmlnbaaGreatDoor.Aid Go.Proofs.YtnkjoambhmlnbaaGreatDoor.Sha Go.Proofs.YtnkjoambhmlnbaaGreatDoor.Law01 Go.Proofs.YtnkjoambhmlnbaaGreatDoor.Field Go.Proofs.YtnkjoambhmlnbaaGreatDoor.Law05
open Go.Proofs.YtnkjoambhmlnbaaGreatDoor.Seal (keysB formB openB okB)
open Go.Proofs.YtnkjoambhmlnbaaGreatDoor.Aes (RowB)
open Go.Proofs.YtnkjoambhmlnbaaGreatDoor.Note (NoteP noteF noteV NoteAt zeroCells zeroCells_eq)
open Go.Proofs.YtnkjoambhmlnbaaGreatDoor.Book (Bk Wd keyB hasN BookIs bookF bookV wordF)

theorem slice_one_cell {w : World} {k n : Nat} {e : Nat → BitVec 8} {v : Value} (h : SliceOf w k n e v) : v.oneCell' = true := by
  obtain ⟨A, c, e⟩ := slice_shape h
  rw [e]; rfl
/-- No bytes, or more than a note has cells. -/
def Past (n : Nat) : Prop := n = 0 ∨ 38 < n
theorem slice_past' {w w' : World} {z t n : Nat} {f : Nat → Value} {e : Nat → BitVec 8} {v : Value} (h : SliceOf w w.heap.size n e v) (hr : w.rowIs z t 38 f) (hn : Past n) (ho : Only z w w') : SliceOf w' w'.heap.size n e v := by
  rcases hn with h0 | h0
  · subst h0
    obtain ⟨A, c, hv, hc, _⟩ := h
    exact ⟨A, c, hv, hc, fun h => absurd h (by omega)⟩
  · exact slice_past h hr h0 ho
def PastN (M : NoteP) : Prop := Past M.pn ∧ Past M.qn ∧ Past M.rn
theorem note_past {w w' : World} {z t : Nat} {f : Nat → Value} {M : NoteP} {P Q R : Value} (h : NoteAt w M P Q R) (hr : w.rowIs z t 38 f) (hM : PastN M) (ho : Only z w w') : NoteAt w' M P Q R :=
  ⟨slice_past' h.p hr hM.1 ho, slice_past' h.q hr hM.2.1 ho, slice_past' h.r hr hM.2.2 ho⟩
theorem past_zero : PastN zeroN := ⟨.inl rfl, .inl rfl, .inl rfl⟩
theorem past_ns (b : Bk) (N : NoteP) (D : Nat → BitVec 8) : PastN (nsM b N D) := by
  unfold nsM
  split
  · exact ⟨.inr (blob_big _), .inr (blob_big _), .inl rfl⟩
  · exact past_zero
theorem past_ksl (b : Bk) (N : NoteP) (D : Nat → BitVec 8) : PastN (kslM b N D) := by
  unfold kslM
  split
  · exact ⟨.inr (blob_big _), .inr (blob_big _), .inl rfl⟩
  · exact past_zero
theorem ans_ns {b : Bk} {N : NoteP} (D : Nat → BitVec 8) (h : N.kind = 2) : ansC b N = nsC b N ∧ ansTo b N = nsTo b N ∧ ansN b N D (fun j => D (16 + j)) (fun j => D (32 + j)) = nsM b N D := by
  have e : ansC b N = nsC b N := by unfold ansC; rw [if_pos h]
  unfold ansTo ansN nsTo nsM
  rw [e, if_pos h, if_pos h]
  exact ⟨rfl, rfl, rfl⟩
theorem ans_ksl {b : Bk} {N : NoteP} (D : Nat → BitVec 8) (h : N.kind = 7) : ansC b N = kslC b N ∧ ansTo b N = kslTo b N ∧ ansN b N D (fun j => D (16 + j)) (fun j => D (32 + j)) = kslM b N D := by
  have h2 : ¬ N.kind = 2 := by omega
  have e : ansC b N = kslC b N := by unfold ansC; rw [if_neg h2, if_pos h]
  unfold ansTo ansN kslTo kslM
  rw [e, if_neg h2, if_neg h2]
  exact ⟨rfl, rfl, rfl⟩
theorem ans_other {b : Bk} {N : NoteP} (D : Nat → BitVec 8) (h2 : ¬ N.kind = 2) (h7 : ¬ N.kind = 7) : ansC b N = 13 ∧ ansTo b N = ⟨#[]⟩ ∧ ansN b N D (fun j => D (16 + j)) (fun j => D (32 + j)) = zeroN := by
  have e : ansC b N = 13 := by unfold ansC; rw [if_neg h2, if_neg h7]
  unfold ansTo ansN
  rw [e, if_neg (by decide), if_neg (by decide)]
  exact ⟨rfl, rfl, rfl⟩
set_option maxRecDepth 100000 in
set_option maxHeartbeats 1000000 in
theorem answer_any (b : Bk) (N : NoteP) (D : Nat → BitVec 8) (P Q R Lv Rv : Value) (CD : Array Value) (hCD : CD.size = 48) (hCDi : ∀ i, i < 48 → CD[i]? = some (.int .u8 ((D i).toNat : Int))) (w : World) (hk : Consts w) (hb : BookIs w b Lv Rv) (hn : NoteAt w N P Q R) (hA : N.a.size ≤ 20) (hB : N.b.size ≤ 20) :
    Calls Tryz.prog 6 #[bookV b Lv Rv, noteV N P Q R, .agg CD] w (AnsPost (ansTo b N) (ansN b N D (fun j => D (16 + j)) (fun j => D (32 + j))) (ansC b N) w) := by
  obtain ⟨W, hW, h0⟩ := ans_new 27 30 b N D P Q R Lv Rv CD hCD hCDi w hk hb hn
  have H1 := Lib.hid h0
  obtain ⟨CD2, hCD2, zCD2, iCD2⟩ := cells_named 48 (byteF D) D (fun _ _ => rfl)
  have HNS := Lib.hid (answerNS_any b N D P Q R Lv Rv CD2 zCD2 iCD2 W h0.hk h0.is_ h0.at_ hB)
  have HKS := Lib.hid (answerKSL_any b N D P Q R Lv Rv CD2 zCD2 iCD2 W h0.hk h0.is_ h0.at_ hA hB)
  have HCD2 := Lib.hid hCD2
  clear hCD hCDi hk hb hn h0 hA hB hCD2 zCD2 iCD2
  unfold bookV noteV at HNS HKS ⊢
  obtain ⟨CB, hCB⟩ : ∃ C, C = cellsOf 19 (bookF b Lv Rv) := ⟨_, rfl⟩
  obtain ⟨CN, hCN⟩ : ∃ C, C = cellsOf 38 (noteF N P Q R) := ⟨_, rfl⟩
  rw [← hCB, ← hCN] at hW HNS HKS ⊢
  have HCB := Lib.hid hCB.symm
  have HCN := Lib.hid hCN.symm
  clear hCB hCN
  go_enter Tryz.func6, Tryz.ntmps6
  go_upto_region 1 with fail
  rw [show (#[.int .i64 0, .string ⟨#[]⟩, .string ⟨#[]⟩, .int .u8 0, .int .u8 0, .int .u8 0, .int .u8 0, .int .u8 0, .int .u8 0, .int .u8 0, .int .u8 0, .int .u8 0, .int .u8 0, .int .u8 0, .int .u8 0, .int .u8 0, .int .u8 0, .int .u8 0, .int .u8 0, .int .u8 0, .int .u8 0, .int .u8 0, .int .u8 0, .int .u8 0, .int .u8 0, .int .u8 0, .int .u8 0, .int .u8 0, .int .u8 0, .int .u8 0, .int .u8 0, .int .u8 0, .int .u8 0, .int .u8 0, .int .u8 0, .slice none 0 0, .slice none 0 0, .slice none 0 0] : Array Value) = zeroCells 0 from rfl, ← hW]
  clear hW
  have d0 := H1.out.nt.cell (i := 0) (by omega)
  rw [show noteF N P Q R 0 = .int .i64 N.kind from rfl] at d0
  have r0 := H1.out.bk
  have r1 := H1.out.nt
  have r2 := H1.out.dr
  by_cases h2 : N.kind = 2
  · have HE := Lib.hid (ans_ns (b := b) D h2)
    rw [h2] at d0
    obtain ⟨M, hM⟩ : ∃ M, M = nsM b N D := ⟨_, rfl⟩
    have HM := Lib.hid hM
    have HSZM : Hid (PastN M) := Lib.hid (by rw [hM]; exact past_ns b N D)
    have HC := HNS
    rw [← hM] at HC
    clear h2 hM HNS HKS
    go_wp2_with (first
      | (refine load_as (by rfl) 27 (.tmp 3) (by rfl) w.heap.size 0 _ 19 19 _ CB ((cells_zero _ _).trans HCB.out) r0 (by rfl) _ Tryz.underlying27 (by rfl) (by kernel_rfl) (by omega) ?_)
      | (refine load_as (by rfl) 30 (.tmp 4) (by rfl) (w.heap.size + 1) 0 _ 38 38 _ CN ((cells_zero _ _).trans HCN.out) r1 (by rfl) _ Tryz.underlying30 (by rfl) (by kernel_rfl) (by omega) ?_)
      | (refine load_as (by rfl) 31 (.tmp 5) (by rfl) (w.heap.size + 1 + 1) 0 _ 48 48 _ CD2 ((cells_zero _ _).trans HCD2.out) r2 (by rfl) _ Tryz.underlying31 (by rfl) (by kernel_rfl) (by omega) ?_))
    refine HC.out.mono ?_
    rintro _ w2 ⟨P', Q', R', rfl, hn2, hb2⟩
    have H2 := Lib.hid (H1.out.step hb2)
    have HN2 := Lib.hid hn2
    have op := (slice_one_cell hn2.p)
    have oq := (slice_one_cell hn2.q)
    have or_ := (slice_one_cell hn2.r)
    have hz := H2.out.zr
    clear hn2 hb2 r0 r1 r2 d0 HC
    go_wp2_with (refine store_whole (by rfl) 30 (.tmp 7) (.tmp 22) (by rfl) (w.heap.size + 1 + 1 + 1) _ 38 _ (noteF M P' Q' R') hz (by rfl) _ (by rfl) (by kernel_rfl) (size_cellsOf _ _) (cellsOf_at _ _) (note_cells_one _ _ _ _ op oq or_) ?_; intro w9 hr9 ho9)
    refine bodyPost_ret (results_mid rfl _ (w.heap.size + 1 + 1 + 1) _ 38 _ _ rfl hr9 Tryz.underlying30 (by rfl) (by kernel_rfl)) rfl ?_
    rw [HE.out.1, HE.out.2.1, HE.out.2.2]
    exact ⟨P', Q', R', by rw [HM.out]; rfl, by rw [← HM.out]; exact note_past HN2.out H2.out.zr HSZM.out ho9, ho9.below H2.out.hb (by omega)⟩
  · by_cases h7 : N.kind = 7
    · have HE := Lib.hid (ans_ksl (b := b) D h7)
      rw [h7] at d0
      obtain ⟨M, hM⟩ : ∃ M, M = kslM b N D := ⟨_, rfl⟩
      have HM := Lib.hid hM
      have HSZM : Hid (PastN M) := Lib.hid (by rw [hM]; exact past_ksl b N D)
      have HC := HKS
      rw [← hM] at HC
      clear h2 h7 hM HNS HKS
      go_wp2_with (first
        | (refine load_as (by rfl) 27 (.tmp 3) (by rfl) w.heap.size 0 _ 19 19 _ CB ((cells_zero _ _).trans HCB.out) r0 (by rfl) _ Tryz.underlying27 (by rfl) (by kernel_rfl) (by omega) ?_)
        | (refine load_as (by rfl) 30 (.tmp 4) (by rfl) (w.heap.size + 1) 0 _ 38 38 _ CN ((cells_zero _ _).trans HCN.out) r1 (by rfl) _ Tryz.underlying30 (by rfl) (by kernel_rfl) (by omega) ?_)
        | (refine load_as (by rfl) 31 (.tmp 5) (by rfl) (w.heap.size + 1 + 1) 0 _ 48 48 _ CD2 ((cells_zero _ _).trans HCD2.out) r2 (by rfl) _ Tryz.underlying31 (by rfl) (by kernel_rfl) (by omega) ?_))
      refine HC.out.mono ?_
      rintro _ w2 ⟨P', Q', R', rfl, hn2, hb2⟩
      have H2 := Lib.hid (H1.out.step hb2)
      have HN2 := Lib.hid hn2
      have op := (slice_one_cell hn2.p)
      have oq := (slice_one_cell hn2.q)
      have or_ := (slice_one_cell hn2.r)
      have hz := H2.out.zr
      clear hn2 hb2 r0 r1 r2 d0 HC
      go_wp2_with (refine store_whole (by rfl) 30 (.tmp 7) (.tmp 31) (by rfl) (w.heap.size + 1 + 1 + 1) _ 38 _ (noteF M P' Q' R') hz (by rfl) _ (by rfl) (by kernel_rfl) (size_cellsOf _ _) (cellsOf_at _ _) (note_cells_one _ _ _ _ op oq or_) ?_; intro w9 hr9 ho9)
      refine bodyPost_ret (results_mid rfl _ (w.heap.size + 1 + 1 + 1) _ 38 _ _ rfl hr9 Tryz.underlying30 (by rfl) (by kernel_rfl)) rfl ?_
      rw [HE.out.1, HE.out.2.1, HE.out.2.2]
      exact ⟨P', Q', R', by rw [HM.out]; rfl, by rw [← HM.out]; exact note_past HN2.out H2.out.zr HSZM.out ho9, ho9.below H2.out.hb (by omega)⟩
    · have HE := Lib.hid (ans_other (b := b) D h2 h7)
      have q2 : (N.kind == 2) = false := by simpa using h2
      have q7 : (N.kind == 7) = false := by simpa using h7
      clear h2 h7 HNS HKS r0 r1 r2
      go_wp2_with fail
      refine (refused_any 13 _).mono ?_
      rintro _ w8 ⟨rfl, hb8⟩
      have H8 := Lib.hid (H1.out.step hb8)
      have hz8 := H8.out.zr
      clear hb8
      go_wp2_with (refine store_whole (by rfl) 30 (.tmp 7) (.tmp 13) (by rfl) (w.heap.size + 1 + 1 + 1) _ 38 _ (noteF zeroN nilV nilV nilV) hz8 (by rfl) _ (by rfl) (by kernel_rfl) (size_cellsOf _ _) (cellsOf_at _ _) (note_cells_one _ _ _ _ rfl rfl rfl) ?_; intro w9 hr9 ho9)
      refine bodyPost_ret (results_mid rfl _ (w.heap.size + 1 + 1 + 1) _ 38 _ _ rfl hr9 Tryz.underlying30 (by rfl) (by kernel_rfl)) rfl ?_
      have hb9 := ho9.below H8.out.hb (by omega)
      rw [HE.out.1, HE.out.2.1, HE.out.2.2]
      exact ans_none 13 w _ _ rfl hb9
end Go.Proofs.YtnkjoambhmlnbaaGreatDoor.Kdc
namespace Go.Proofs.YtnkjoambhmlnbaaGreatDoor.Kdc
open Go Go.RowKit Go.Proofs.YtnkjoambhmlnbaaGreatDoor.Aid Go.Proofs.YtnkjoambhmlnbaaGreatDoor.Sha Go.Proofs.YtnkjoambhmlnbaaGreatDoor.Law01 Go.Proofs.YtnkjoambhmlnbaaGreatDoor.Field Go.Proofs.YtnkjoambhmlnbaaGreatDoor.Law05
open Go.Proofs.YtnkjoambhmlnbaaGreatDoor.Seal (keysB formB openB okB)
open Go.Proofs.YtnkjoambhmlnbaaGreatDoor.Aes (RowB)
open Go.Proofs.YtnkjoambhmlnbaaGreatDoor.Note (NoteP noteF noteV NoteAt zeroCells zeroCells_eq)
open Go.Proofs.YtnkjoambhmlnbaaGreatDoor.Book (Bk Wd keyB hasN BookIs bookF bookV wordF)

def zbook : Array Value := #[.slice none 0 0, .slice none 0 0, .int .i64 0, .int .u8 0, .int .u8 0, .int .u8 0, .int .u8 0, .int .u8 0, .int .u8 0, .int .u8 0, .int .u8 0, .int .u8 0, .int .u8 0, .int .u8 0, .int .u8 0, .int .u8 0, .int .u8 0, .int .u8 0, .int .u8 0]
theorem zbook_at (i : Nat) (hi : i < 19) : zbook[i]? = some (bookF Book.bk0 nilV nilV i) := by
  rw [show zbook = cellsOf 19 (bookF Book.bk0 nilV nilV) from rfl]
  exact cellsOf_at _ _ i hi
theorem book_one (b : Bk) (Lv Rv : Value) (h1 : Lv.oneCell' = true) (h2 : Rv.oneCell' = true) (j : Nat) : (bookF b Lv Rv j).oneCell' = true := by
  unfold bookF
  split
  · exact h1
  · split
    · exact h2
    · split
      · rfl
      · rfl
def wd (x : BitVec 8) : Wd := x :: List.replicate 15 0
def wF (x : BitVec 8) (j : Nat) : BitVec 8 := if j = 0 then x else 0
def sAnn : ByteArray := ⟨#[97, 110, 110]⟩
def sBob : ByteArray := ⟨#[98, 111, 98]⟩
def sX : ByteArray := ⟨#[120]⟩
def bA : Bk := ⟨[(sAnn, wd 1), (sBob, wd 2)], [], 0, Book.zw⟩
def nA : NoteP := ⟨7, sAnn, sBob, wF 3, wF 4, 0, fun _ => 0, 0, fun _ => 0, 0, fun _ => 0⟩
def n5 : NoteP := ⟨5, ⟨#[]⟩, ⟨#[]⟩, fun _ => 0, fun _ => 0, 0, fun _ => 0, 0, fun _ => 0, 0, fun _ => 0⟩
def dA (j : Nat) : BitVec 8 := if j = 0 then 5 else if j = 16 then 6 else if j = 32 then 7 else 0
def lx : List Fld := [(1, Mac.bytesL [97]), (0, fun _ => 0)]
def zEnts : Array Value := #[.string ⟨#[97, 110, 110]⟩, .int .u8 1, .int .u8 0, .int .u8 0, .int .u8 0, .int .u8 0, .int .u8 0, .int .u8 0, .int .u8 0, .int .u8 0, .int .u8 0, .int .u8 0, .int .u8 0, .int .u8 0, .int .u8 0, .int .u8 0, .int .u8 0, .string ⟨#[98, 111, 98]⟩, .int .u8 2, .int .u8 0, .int .u8 0, .int .u8 0, .int .u8 0, .int .u8 0, .int .u8 0, .int .u8 0, .int .u8 0, .int .u8 0, .int .u8 0, .int .u8 0, .int .u8 0, .int .u8 0, .int .u8 0, .int .u8 0]
def zNote : Array Value := #[.int .i64 7, .string ⟨#[97, 110, 110]⟩, .string ⟨#[98, 111, 98]⟩, .int .u8 3, .int .u8 0, .int .u8 0, .int .u8 0, .int .u8 0, .int .u8 0, .int .u8 0, .int .u8 0, .int .u8 0, .int .u8 0, .int .u8 0, .int .u8 0, .int .u8 0, .int .u8 0, .int .u8 0, .int .u8 0, .int .u8 4, .int .u8 0, .int .u8 0, .int .u8 0, .int .u8 0, .int .u8 0, .int .u8 0, .int .u8 0, .int .u8 0, .int .u8 0, .int .u8 0, .int .u8 0, .int .u8 0, .int .u8 0, .int .u8 0, .int .u8 0, .slice none 0 0, .slice none 0 0, .slice none 0 0]
def zDraw : Array Value := #[.int .u8 5, .int .u8 0, .int .u8 0, .int .u8 0, .int .u8 0, .int .u8 0, .int .u8 0, .int .u8 0, .int .u8 0, .int .u8 0, .int .u8 0, .int .u8 0, .int .u8 0, .int .u8 0, .int .u8 0, .int .u8 0, .int .u8 6, .int .u8 0, .int .u8 0, .int .u8 0, .int .u8 0, .int .u8 0, .int .u8 0, .int .u8 0, .int .u8 0, .int .u8 0, .int .u8 0, .int .u8 0, .int .u8 0, .int .u8 0, .int .u8 0, .int .u8 0, .int .u8 7, .int .u8 0, .int .u8 0, .int .u8 0, .int .u8 0, .int .u8 0, .int .u8 0, .int .u8 0, .int .u8 0, .int .u8 0, .int .u8 0, .int .u8 0, .int .u8 0, .int .u8 0, .int .u8 0, .int .u8 0]
def zDraw0 : Array Value := #[.int .u8 0, .int .u8 0, .int .u8 0, .int .u8 0, .int .u8 0, .int .u8 0, .int .u8 0, .int .u8 0, .int .u8 0, .int .u8 0, .int .u8 0, .int .u8 0, .int .u8 0, .int .u8 0, .int .u8 0, .int .u8 0, .int .u8 0, .int .u8 0, .int .u8 0, .int .u8 0, .int .u8 0, .int .u8 0, .int .u8 0, .int .u8 0, .int .u8 0, .int .u8 0, .int .u8 0, .int .u8 0, .int .u8 0, .int .u8 0, .int .u8 0, .int .u8 0, .int .u8 0, .int .u8 0, .int .u8 0, .int .u8 0, .int .u8 0, .int .u8 0, .int .u8 0, .int .u8 0, .int .u8 0, .int .u8 0, .int .u8 0, .int .u8 0, .int .u8 0, .int .u8 0, .int .u8 0, .int .u8 0]
def zNote5 : Array Value := #[.int .i64 5, .string ⟨#[]⟩, .string ⟨#[]⟩, .int .u8 0, .int .u8 0, .int .u8 0, .int .u8 0, .int .u8 0, .int .u8 0, .int .u8 0, .int .u8 0, .int .u8 0, .int .u8 0, .int .u8 0, .int .u8 0, .int .u8 0, .int .u8 0, .int .u8 0, .int .u8 0, .int .u8 0, .int .u8 0, .int .u8 0, .int .u8 0, .int .u8 0, .int .u8 0, .int .u8 0, .int .u8 0, .int .u8 0, .int .u8 0, .int .u8 0, .int .u8 0, .int .u8 0, .int .u8 0, .int .u8 0, .int .u8 0, .slice none 0 0, .slice none 0 0, .slice none 0 0]
def zWord (x : Int) : Array Value := #[.int .u8 x, .int .u8 0, .int .u8 0, .int .u8 0, .int .u8 0, .int .u8 0, .int .u8 0, .int .u8 0, .int .u8 0, .int .u8 0, .int .u8 0, .int .u8 0, .int .u8 0, .int .u8 0, .int .u8 0, .int .u8 0]
theorem zNote_eq : zNote = cellsOf 38 (noteF nA nilV nilV nilV) := rfl
theorem zNote5_eq : zNote5 = cellsOf 38 (noteF n5 nilV nilV nilV) := rfl
theorem zDraw_eq : zDraw = cellsOf 48 (byteF dA) := rfl
theorem zDraw0_eq : zDraw0 = cellsOf 48 (byteF fun _ => 0) := rfl
theorem zWord1_eq : zWord 1 = cellsOf 16 (byteF (wF 1)) := rfl
theorem zWord2_eq : zWord 2 = cellsOf 16 (byteF (wF 2)) := rfl
theorem zEnts_eq : zEnts = cellsOf 17 (Book.entF (sAnn, wd 1)) ++ cellsOf 17 (Book.entF (sBob, wd 2)) := rfl
theorem zEnts_at (i : Nat) (hi : i < 2) (j : Nat) (u : Value) (hu : (Book.entsL bA i)[j]? = some u) : zEnts[i * 17 + j]? = some u := by
  have hj : j < 17 := by have := (List.getElem?_eq_some_iff.1 hu).1; simpa [Book.entsL] using this
  unfold Book.entsL at hu
  rw [List.getElem?_map, List.getElem?_range hj] at hu
  simp only [Option.map_some, Option.some.injEq] at hu
  rw [zEnts_eq, ← hu]
  match i, hi with
  | 0, _ =>
    rw [Array.getElem?_append_left (by rw [size_cellsOf]; omega), show 0 * 17 + j = j by omega]
    exact cellsOf_at _ _ j hj
  | 1, _ =>
    rw [Array.getElem?_append_right (by rw [size_cellsOf]; omega), size_cellsOf, show 1 * 17 + j - 17 = j by omega]
    exact cellsOf_at _ _ j hj
theorem aw_c : ansC bA nA = 0 := by decide +kernel
theorem aw_to : ansTo bA nA = sBob := by unfold ansTo; rw [aw_c]; rfl
theorem aw_n (d1 d2 : Nat → BitVec 8) : ansN bA nA dA d1 d2 = kslN bA nA dA d1 d2 := by unfold ansN; rw [aw_c]; rfl
theorem aw5_c : ansC bA n5 = 13 := by decide +kernel
theorem key_bob : keyB sBob bA.L = wd 2 := by decide +kernel
theorem keyF_wd (x : BitVec 8) (j : Nat) (hj : j < 16) : keyF (wd x) j = wF x j := by
  unfold keyF wd wF
  match j with
  | 0 => rfl
  | k + 1 =>
    rw [if_neg (by omega), List.getD_eq_getElem?_getD, List.getElem?_cons_succ, List.getElem?_replicate, if_pos (by omega)]
    rfl
theorem strOf_strB (s : ByteArray) (E : Nat → BitVec 8) (n : Nat) (hn : n = s.size) (h : ∀ j, j < n → E j = strB s j) : strOf E n = s := by
  subst hn
  unfold strOf
  apply ByteArray.ext
  apply Array.ext_getElem?
  intro i
  by_cases hi : i < s.size
  · have hi' : i < s.data.size := hi
    simp only [List.getElem?_toArray, List.getElem?_map, List.getElem?_range hi, Option.map_some]
    rw [h i hi, Array.getElem?_eq_getElem hi']
    unfold strB
    congr 1
    apply UInt8.toBitVec_inj.1
    simp
    rw [Array.getElem?_eq_getElem hi']
    rfl
  · have hi' : ¬ i < s.data.size := hi
    rw [Array.getElem?_eq_none (by simpa using hi'), Array.getElem?_eq_none (by omega)]
/-- The book of awake, where it lies. -/
theorem bookA_is (w w1 : World) (ho : Only (w.heap.size + 1) ((w.alloc (.cells zEnts 47)).alloc (.cells zbook 27)) w1) : BookIs w1 bA (.slice (some ⟨w.heap.size, 0, none⟩) 2 2) nilV := by
  have hs : w1.heap.size = w.heap.size + 2 := by rw [ho.size]; simp
  refine ⟨⟨_, 2, rfl, fun _ => ⟨w.heap.size, 0, rfl, by omega, fun i hi j u hu => ?_⟩⟩, ⟨none, 0, rfl, fun h => absurd h (by decide)⟩, ⟨by decide, by decide⟩, fun p hp => ?_, fun k hk => (by cases hk), rfl⟩
  · have h1 := zEnts_at i hi j u hu
    rw [Nat.zero_add, World.cell?_of_block (ho.block w.heap.size (by omega))]
    have h2 : (w.alloc (.cells zEnts 47)).cell? ⟨w.heap.size, i * 17 + j, none⟩ = some u := by rw [World.cell?_alloc_new]; exact h1
    exact (((Below.refl (w.alloc (.cells zEnts 47)).heap.size (w.alloc (.cells zEnts 47))).alloc (Nat.le_refl _) (.cells zbook 27)).cell (p := ⟨w.heap.size, i * 17 + j, none⟩) (by simp)).trans h2
  · simp only [bA, List.mem_cons, List.not_mem_nil, or_false] at hp
    rcases hp with rfl | rfl <;> rfl
set_option maxRecDepth 100000 in
set_option maxHeartbeats 1000000 in
theorem awake16_any (w : World) (hk : Consts w) : Calls Tryz.prog 4 #[] w fun x w' => x = .returned (.bool true) ∧ Below w.heap.size w w' := by
  have kc := fun (w : World) (C : Array Value) (n c : Nat) => Lib.run_convert_bytes_const (P := Tryz.prog) w 28 5 C n c Tryz.underlying28 Tryz.underlying5
  have HK := Lib.hid hk
  clear hk
  go_enter Tryz.func4, Tryz.ntmps4
  go_upto_region 2 with (refine store_whole (by rfl) 27 (.tmp 1) (.tmp 18) (by rfl) (w.heap.size + 1) _ 19 _ (bookF bA (.slice (some ⟨w.heap.size, 0, none⟩) 2 2) nilV) (by exact (congrArg (fun k => ((w.alloc _).alloc (.cells zbook 27)).rowIs k 27 19 (bookF Book.bk0 nilV nilV)) (World.size_alloc w _)).mp (row_new (w.alloc _) zbook 27 19 _ (by rfl) zbook_at)) (by rfl) (cellsOf 19 (bookF bA (.slice (some ⟨w.heap.size, 0, none⟩) 2 2) nilV)) (by kernel_rfl) (by kernel_rfl) (size_cellsOf _ _) (cellsOf_at _ _) (fun i _ => book_one _ _ _ rfl rfl i) ?_; intro w1 hr1 ho1)
  have HI := Lib.hid (bookA_is w w1 ho1)
  have HR := Lib.hid hr1
  have HB1 : Hid (Below w.heap.size w w1) := Lib.hid (ho1.below (((Below.refl _ _).alloc (Nat.le_refl _) _).alloc (by simp) _) (by omega))
  clear hr1 ho1
  have HA1 := answer_any bA nA dA nilV nilV nilV _ _ zDraw (by rfl) (fun i hi => by rw [zDraw_eq]; exact cellsOf_at _ _ i hi) w1 (HK.out.below HB1.out (Nat.le_refl _)) HI.out ⟨SliceOf.nil _ _ _, SliceOf.nil _ _ _, SliceOf.nil _ _ _⟩ (by decide) (by decide)
  rw [aw_c, aw_to, aw_n] at HA1
  unfold bookV noteV at HA1
  rw [← zNote_eq] at HA1
  obtain ⟨CB, hCB⟩ : ∃ C, C = cellsOf 19 (bookF bA (.slice (some ⟨w.heap.size, 0, none⟩) 2 2) nilV) := ⟨_, rfl⟩
  rw [← hCB] at HA1
  have HA := Lib.hid HA1
  have HCB := Lib.hid hCB.symm
  have r0 := HR.out
  clear HA1 hCB
  simp only [Act.put]
  go_wp2_with (refine load_as (by rfl) 27 (.tmp 1) (by rfl) (w.heap.size + 1) 0 _ 19 19 _ CB ((cells_zero _ _).trans HCB.out) r0 (by rfl) _ Tryz.underlying27 (by rfl) (by kernel_rfl) (by omega) ?_)
  refine HA.out.mono ?_
  rintro _ w2 ⟨P, Q, R, rfl, hn2, hb2⟩
  have hk2 := HK.out.below (HB1.out.trans (hb2.mono HB1.out.size)) (Nat.le_refl _)
  have HB2 : Hid (Below w.heap.size w w2) := Lib.hid (HB1.out.trans (hb2.mono HB1.out.size))
  have HI2 := Lib.hid (HI.out.below hb2)
  have HR2 := Lib.hid (HR.out.of_block (hb2.block _ (World.rowIs.lt HR.out)))
  obtain ⟨AP, cP, eP⟩ := slice_shape hn2.p
  have oq := slice_one_cell hn2.q
  have or_ := slice_one_cell hn2.r
  have HSP := Lib.hid hn2.p
  subst eP
  obtain ⟨M, hM⟩ : ∃ M, M = kslN bA nA dA (fun j => dA (16 + j)) (fun j => dA (32 + j)) := ⟨_, rfl⟩
  have HM := Lib.hid hM
  rw [← hM] at HSP ⊢
  clear HA hb2 hn2 r0 HI HR HB1 hM hk2
  go_upto_region 3 with (refine store_whole (by rfl) 30 (.tmp 3) (.tmp 30) (by rfl) w2.heap.size _ 38 _ (noteF M (.slice AP M.pn cP) Q R) (by exact row_new w2 (zeroCells 0) 30 38 _ (by rfl) zero_note_at) (by rfl) (cellsOf 38 (noteF M (.slice AP M.pn cP) Q R)) (by rfl) (by kernel_rfl) (size_cellsOf _ _) (cellsOf_at _ _) (note_cells_one _ _ _ _ rfl oq or_) ?_; intro w3 hr3 ho3)
  have hb3 : Below w2.heap.size w2 w3 := ho3.below ((Below.refl w2.heap.size w2).alloc (Nat.le_refl _) (.cells (zeroCells 0) 30)) (Nat.le_refl _)
  have HB3 : Hid (Below w.heap.size w w3) := Lib.hid (HB2.out.trans (hb3.mono HB2.out.size))
  have HI3 := Lib.hid (HI2.out.below hb3)
  have HR3 := Lib.hid (HR2.out.of_block (hb3.block _ (World.rowIs.lt HR2.out)))
  have HN3 := Lib.hid hr3
  have HSP3 := Lib.hid (slice_next HSP.out hb3)
  clear ho3 hb3 hr3 HB2 HI2 HR2 HSP
  generalize w2.heap.size = g3 at *
  have hbl := blob_len lK3b (kslP nA dA) rfl (by show 3 ≤ 4; omega) (by show off (fldM [(16, nA.y), (nA.a.size, strB nA.a), (16, dA)]) 3 ≤ 200; rw [off3]; decide)
  have HPB := Lib.hid (parts_back (keyF (keyB sBob bA.L)) (fun j => dA (16 + j)) lK3b (kslP nA dA) M.p (zWord 2) (by rfl) (fun i hi => by rw [zWord2_eq, cellsOf_at _ _ i hi, key_bob, keyF_wd _ _ hi]; rfl) AP M.pn cP 3 w3 (HK.out.below HB3.out (Nat.le_refl _)) HSP3.out (by rw [HM.out]; rfl) (fun j _ => by rw [HM.out]; rfl) rfl (by decide) hbl.1 hbl.2.1)
  have d5 := HN3.out.cell (i := 35) (by omega)
  rw [show noteF M (.slice AP M.pn cP) Q R 35 = .slice AP M.pn cP from rfl] at d5
  clear hbl
  go_wp2_with fail
  refine HPB.out.mono ?_
  rintro _ w4 ⟨v4, R4, rfl, ho4, hb4⟩
  have HB4 : Hid (Below w.heap.size w w4) := Lib.hid (HB3.out.trans (hb4.mono HB3.out.size))
  have HI4 := Lib.hid (HI3.out.below hb4)
  have HR4 := Lib.hid (HR3.out.of_block (hb4.block _ (World.rowIs.lt HR3.out)))
  have HN4 := Lib.hid (HN3.out.of_block (hb4.block _ (World.rowIs.lt HN3.out)))
  rw [show (kslP nA dA).length = 3 from rfl] at ho4
  obtain ⟨Av, cv, rfl⟩ := ho4.shape
  obtain ⟨sb, so, A1, c1, rfl, p1, s1⟩ := own_parts_at ho4 1 (by omega)
  rw [show fldM (kslP nA dA) 1 = 3 from rfl] at p1 s1
  have H14 : Hid (∀ W, Below w4.heap.size w4 W → W.cell? ⟨sb, so + 1, none⟩ = some (.slice A1 3 c1) ∧ (convert 28 9 (.slice A1 3 c1)).run Tryz.prog W = .ok (.string sAnn) W) := Lib.hid fun W hW => by
    refine ⟨(hW.cell (p := ⟨sb, so + 1, none⟩) (block_lt_of_cell p1)).trans p1, ?_⟩
    have h1 := str_run _ _ _ _ _ _ ((s1.below hW).slice (g' := W.heap.size) (.inr (Nat.le_refl _)))
    rw [strOf_strB sAnn (fldE (kslP nA dA) 1) 3 rfl (fun j _ => rfl)] at h1
    exact h1
  clear HPB d5 hb4 ho4 p1 s1 HB3 HI3 HR3 HN3 HSP3
  have HA1 := answer_any bA n5 (fun _ => 0) nilV nilV nilV _ _ zDraw0 (by rfl) (fun i hi => by rw [zDraw0_eq]; exact cellsOf_at _ _ i hi) w4 (HK.out.below HB4.out (Nat.le_refl _)) HI4.out ⟨SliceOf.nil _ _ _, SliceOf.nil _ _ _, SliceOf.nil _ _ _⟩ (by decide) (by decide)
  rw [aw5_c] at HA1
  unfold bookV noteV at HA1
  rw [← zNote5_eq, HCB.out] at HA1
  obtain ⟨to5, hto5⟩ : ∃ s, s = ansTo bA n5 := ⟨_, rfl⟩
  obtain ⟨M5, hM5⟩ : ∃ s, s = ansN bA n5 (fun _ => 0) (fun j => (fun _ => (0 : BitVec 8)) (16 + j)) (fun j => (fun _ => (0 : BitVec 8)) (32 + j)) := ⟨_, rfl⟩
  rw [← hto5, ← hM5] at HA1
  have HA5 := Lib.hid HA1
  have r0 := HR4.out
  clear HA1 hto5 hM5
  go_wp2_with (refine load_as (by rfl) 27 (.tmp 1) (by rfl) (w.heap.size + 1) 0 _ 19 19 _ CB ((cells_zero _ _).trans HCB.out) r0 (by rfl) _ Tryz.underlying27 (by rfl) (by kernel_rfl) (by omega) ?_)
  refine HA5.out.mono ?_
  rintro _ w5 ⟨P5, Q5, R5, rfl, hn5, hb5⟩
  have op5 := slice_one_cell hn5.p
  have oq5 := slice_one_cell hn5.q
  have or5 := slice_one_cell hn5.r
  have HB5 : Hid (Below w.heap.size w w5) := Lib.hid (HB4.out.trans (hb5.mono HB4.out.size))
  have HN5 := Lib.hid (HN4.out.of_block (hb5.block _ (World.rowIs.lt HN4.out)))
  have H15 : Hid (∀ W, Below w5.heap.size w5 W → W.cell? ⟨sb, so + 1, none⟩ = some (.slice A1 3 c1) ∧ (convert 28 9 (.slice A1 3 c1)).run Tryz.prog W = .ok (.string sAnn) W) := Lib.hid fun W hW => H14.out W (hb5.trans (hW.mono hb5.size))
  clear HA5 r0 hb5 hn5 HB4 HI4 HR4 HN4 H14 HCB
  go_upto_region 5 with (refine store_whole (by rfl) 30 (.tmp 8) (.tmp 45) (by rfl) w5.heap.size _ 38 _ (noteF M5 P5 Q5 R5) (by exact row_new w5 (zeroCells 0) 30 38 _ (by rfl) zero_note_at) (by rfl) (cellsOf 38 (noteF M5 P5 Q5 R5)) (by rfl) (by kernel_rfl) (size_cellsOf _ _) (cellsOf_at _ _) (note_cells_one _ _ _ _ op5 oq5 or5) ?_; intro w6 hr6 ho6)
  have hb6 : Below w5.heap.size w5 w6 := ho6.below ((Below.refl w5.heap.size w5).alloc (Nat.le_refl _) (.cells (zeroCells 0) 30)) (Nat.le_refl _)
  have HB6 : Hid (Below w.heap.size w w6) := Lib.hid (HB5.out.trans (hb6.mono HB5.out.size))
  have HN6 := Lib.hid (HN5.out.of_block (hb6.block _ (World.rowIs.lt HN5.out)))
  have H16 : Hid (∀ W, Below w6.heap.size w6 W → W.cell? ⟨sb, so + 1, none⟩ = some (.slice A1 3 c1) ∧ (convert 28 9 (.slice A1 3 c1)).run Tryz.prog W = .ok (.string sAnn) W) := Lib.hid fun W hW => H15.out W (hb6.trans (hW.mono hb6.size))
  clear ho6 hr6 hb6 HB5 HN5 H15
  generalize w5.heap.size = g8 at *
  go_wp2_with fail
  obtain ⟨W6, hW6, hpt, hbW⟩ : ∃ W, W = (w6.alloc (.cells #[.int .u8 97] 5 (1, 2))).alloc (.cells #[.slice (some ⟨w6.heap.size, 0, none⟩) 1 1, .slice none 0 0] 28) ∧ PartsOf W 2 (fldM lx) (fldE lx) (.slice (some ⟨w6.heap.size + 1, 0, none⟩) 2 2) ∧ Below w6.heap.size w6 W := by
    have h1 := parts_list (w6.alloc (.cells #[.int .u8 97] 5 (1, 2))) lx #[.slice (some ⟨w6.heap.size, 0, none⟩) 1 1, .slice none 0 0] 2 rfl rfl (fun i hi => by
      match i, hi with
      | 0, _ => exact Law02.slice_lit w6 #[.int .u8 97] (1, 2) [97] 1 _ (by simp) rfl rfl
      | 1, _ => exact SliceOf.nil _ _ _)
    have hs : (w6.alloc (.cells #[.int .u8 97] 5 (1, 2))).heap.size = w6.heap.size + 1 := by simp
    rw [hs] at h1
    exact ⟨_, rfl, h1, ((Below.refl _ _).alloc (Nat.le_refl _) _).alloc (by simp) _⟩
  rw [← hW6]
  have hbl := blob_len' sX lx (by decide) (by decide) (by decide)
  have HSE := Lib.hid (sealed_any (wF 1) (wF 2) sX (zWord 1) (zWord 2) (by rfl) (fun i hi => by rw [zWord1_eq]; exact cellsOf_at _ _ i hi) (by rfl) (fun i hi => by rw [zWord2_eq]; exact cellsOf_at _ _ i hi) 2 (fldM lx) (fldE lx) _ W6 (HK.out.below (HB6.out.trans (hbW.mono HB6.out.size)) (Nat.le_refl _)) hpt (by decide))
  have HBL := Lib.hid hbl
  have HBW := Lib.hid hbW
  clear hW6 hpt hbW hbl
  refine HSE.out.mono ?_
  rintro _ w7 ⟨A9, c9, rfl, hs9, hb7⟩
  have hbb := HBW.out.trans (hb7.mono HBW.out.size)
  have HB7 : Hid (Below w.heap.size w w7) := Lib.hid (HB6.out.trans (hbb.mono HB6.out.size))
  have HN7 := Lib.hid (HN6.out.of_block (hbb.block _ (World.rowIs.lt HN6.out)))
  have H17 : Hid (∀ W, Below w7.heap.size w7 W → W.cell? ⟨sb, so + 1, none⟩ = some (.slice A1 3 c1) ∧ (convert 28 9 (.slice A1 3 c1)).run Tryz.prog W = .ok (.string sAnn) W) := Lib.hid fun W hW => H16.out W (hbb.trans (hW.mono hbb.size))
  obtain ⟨n9, hn9⟩ : ∃ n, n = sealedN sX 2 (fldM lx) := ⟨_, rfl⟩
  rw [← hn9] at hs9 ⊢
  have HPB := Lib.hid (parts_back (wF 1) (wF 2) sX lx (sealedB (wF 1) (wF 2) sX 2 (fldM lx) (fldE lx)) (zWord 1) (by rfl) (fun i hi => by rw [zWord1_eq]; exact cellsOf_at _ _ i hi) A9 n9 c9 2 w7 (HK.out.below HB7.out (Nat.le_refl _)) hs9 (by rw [hn9]; exact HBL.out.2.2) (fun j _ => rfl) rfl (by decide) HBL.out.1 HBL.out.2.1)
  clear hb7 hs9 hbb hn9 HSE HBW HB6 HN6 H16
  go_wp2_with fail
  refine HPB.out.mono ?_
  rintro _ w8 ⟨v8, R8, rfl, ho8, hb8⟩
  have HB8 : Hid (Below w.heap.size w w8) := Lib.hid (HB7.out.trans (hb8.mono HB7.out.size))
  have HN8 := Lib.hid (HN7.out.of_block (hb8.block _ (World.rowIs.lt HN7.out)))
  obtain ⟨h81, h82⟩ := H17.out w8 hb8
  rw [show lx.length = 2 from rfl] at ho8
  obtain ⟨A8, c8, rfl⟩ := ho8.shape
  have d0 := HN8.out.cell (i := 0) (by omega)
  rw [show noteF M (.slice AP M.pn cP) Q R 0 = .int .i64 M.kind from rfl, HM.out] at d0
  have d0' : w8.cell? ⟨g3, 0, none⟩ = some (.int .i64 8) := d0
  have l1 : sBob.toList = [98, 111, 98] := by decide +kernel
  have l2 : sAnn.toList = [97, 110, 110] := by decide +kernel
  clear HPB hb8 ho8 HB7 HN7 H17 HN8 d0 HM kc
  go_wp2
  go_ret
  exact ⟨rfl, HB8.out⟩
end Go.Proofs.YtnkjoambhmlnbaaGreatDoor.Kdc
namespace Go.Proofs.YtnkjoambhmlnbaaGreatDoor.Kdc
open Go Go.RowKit Go.Proofs.YtnkjoambhmlnbaaGreatDoor.Aid Go.Proofs.YtnkjoambhmlnbaaGreatDoor.Law01 Go.Proofs.YtnkjoambhmlnbaaGreatDoor.Field
open Go.Proofs.YtnkjoambhmlnbaaGreatDoor.Note (NoteP rightN firstB wordsB blobsB smallB inL hasL zeroB)
open Go.Proofs.YtnkjoambhmlnbaaGreatDoor.Book (Bk hasN keyB)

theorem name_short {s : ByteArray} (h : nameB s = true) : s.size ≤ 20 := by
  unfold nameB at h
  exact (of_decide_eq_true h).2.1
theorem right_sizes {N : NoteP} (h : rightN N = true) : N.a.size ≤ 20 ∧ N.b.size ≤ 20 := by
  unfold Note.rightN at h
  simp only [Bool.and_eq_true] at h
  have h1 := h.1.1.1.2
  unfold Note.firstB at h1
  simp only [Bool.not_eq_true', Bool.or_eq_false_iff, Bool.and_eq_false_iff, decide_eq_false_iff_not] at h1
  refine ⟨?_, ?_⟩
  · rcases h1.1.2 with h2 | h2
    · omega
    · exact name_short (by simpa using h2)
  · rcases h1.2 with h2 | h2
    · omega
    · exact name_short (by simpa using h2)
theorem req_ok {ks e : Nat → BitVec 8} {m : Nat} (h : reqC ks e m = 0) : reqF (Seal.openB ks e) = true := by
  unfold reqC at h
  by_cases h1 : partsC ks e lNs2 m 3 = 0
  · rw [if_pos h1] at h
    cases hr : reqF (Seal.openB ks e) with
    | true => rfl
    | false => rw [hr] at h; cases h
  · rw [if_neg h1] at h
    exact absurd h h1
theorem ns_ok {b : Bk} {N : NoteP} (h : nsC b N = 0) : hasN b.L N.b = true ∧ hasN b.L (nsA b N) = true ∧ (nsA b N).size ≤ 20 := by
  unfold nsC at h
  cases h1 : hasN b.L N.b with
  | false => rw [if_pos h1] at h; cases h
  | true =>
    rw [if_neg (by rw [h1]; decide)] at h
    by_cases h2 : reqC (nsKs b N) N.p N.pn ≠ 0
    · rw [if_pos h2] at h
      exact absurd h h2
    · rw [if_neg h2] at h
      by_cases h3 : nsA b N = N.b
      · rw [if_pos h3] at h; cases h
      · rw [if_neg h3] at h
        cases h4 : hasN b.L (nsA b N) with
        | false => rw [if_pos h4] at h; cases h
        | true =>
          refine ⟨rfl, rfl, ?_⟩
          have h5 := req_ok (Decidable.not_not.1 h2)
          unfold reqF at h5
          simp only [Bool.and_eq_true] at h5
          exact name_short h5.1.1
theorem ksl_ok {b : Bk} {N : NoteP} (h : kslC b N = 0) : hasN b.L N.a = true ∧ hasN b.L N.b = true := by
  unfold kslC at h
  by_cases h1 : N.a = N.b
  · rw [if_pos h1] at h; cases h
  · rw [if_neg h1] at h
    by_cases h2 : hasN b.L N.a = false ∨ hasN b.L N.b = false
    · rw [if_pos h2] at h; cases h
    · constructor
      · cases h3 : hasN b.L N.a with
        | true => rfl
        | false => exact absurd (.inl h3) h2
      · cases h3 : hasN b.L N.b with
        | true => rfl
        | false => exact absurd (.inr h3) h2
theorem blob_small (l : List (Nat × (Nat → BitVec 8))) (hl : l.length ≤ 4) (h : off (fldM l) l.length ≤ 200) : blobN l ≤ 500 := by
  unfold blobN encN
  rw [off_m2]
  omega
theorem right_three (y : Nat → BitVec 8) (pn qn : Nat) (p q : Nat → BitVec 8) (hp : pn ≤ 500) (hq : qn ≤ 500) : rightN ⟨3, ⟨#[]⟩, ⟨#[]⟩, fun _ => 0, y, pn, p, qn, q, 0, fun _ => 0⟩ = true := by
  unfold Note.rightN Note.firstB Note.wordsB Note.blobsB Note.smallB
  have e1 : Note.inL 3 65 = false := by decide
  have e2 : Note.inL 3 66 = false := by decide
  have e3 : Note.inL 3 88 = false := by decide
  have e4 : Note.inL 3 89 = true := by decide
  have e5 : Note.inL 3 80 = true := by decide
  have e6 : Note.inL 3 81 = true := by decide
  have e7 : Note.inL 3 82 = false := by decide
  have e8 : (Note.hasL 3).isEmpty = false := by decide
  have e9 : Note.zeroB (fun _ => 0) = true := by decide
  simp [e1, e2, e3, e4, e5, e6, e7, e8, hp, hq]
  exact ⟨⟨rfl, .inl rfl⟩, e9⟩
theorem right_eight (pn qn : Nat) (p q : Nat → BitVec 8) (hp : pn ≤ 500) (hq : qn ≤ 500) : rightN ⟨8, ⟨#[]⟩, ⟨#[]⟩, fun _ => 0, fun _ => 0, pn, p, qn, q, 0, fun _ => 0⟩ = true := by
  unfold Note.rightN Note.firstB Note.wordsB Note.blobsB Note.smallB
  have e1 : Note.inL 8 65 = false := by decide
  have e2 : Note.inL 8 66 = false := by decide
  have e3 : Note.inL 8 88 = false := by decide
  have e4 : Note.inL 8 89 = false := by decide
  have e5 : Note.inL 8 80 = true := by decide
  have e6 : Note.inL 8 81 = true := by decide
  have e7 : Note.inL 8 82 = false := by decide
  have e8 : (Note.hasL 8).isEmpty = false := by decide
  have e9 : Note.zeroB (fun _ => 0) = true := by decide
  simp [e1, e2, e3, e4, e5, e6, e7, e8, hp, hq]
  exact ⟨⟨rfl, .inl rfl⟩, e9⟩
end Go.Proofs.YtnkjoambhmlnbaaGreatDoor.Kdc
