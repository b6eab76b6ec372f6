/-
  What kdc.Answer does. bartizanlaw16.awake: true. The walk of bartizanlaw16.KdcSeals: for every two words, label and parts it returns true, and writes nothing that was there.
-/
import Derived.Test.YtaakhldhmoaplaaDoorBd37
import Derived.Test.YtaakhldhmoaplaaDoorBd39
import Derived.Test.YtaakhldhmoaplaaDoorBd44
import Derived.Test.YtaakhldhmoaplaaDoorBd17
import Derived.Test.YtaakhldhmoaplaaDoorBd32
import Derived.Test.YtaakhldhmoaplaaDoorBd26
import Derived.Test.YtaakhldhmoaplaaDoorBd15
import Derived.Lib.SlBytesConst
import Derived.Deep.DeepCutAuto
namespace Go.Proofs.YtaakhldhmoaplaaDoor.Kdc
open Go Go.RowKit Go.Proofs.YtaakhldhmoaplaaDoor.Aid Go.Proofs.YtaakhldhmoaplaaDoor.Sha Go.Proofs.YtaakhldhmoaplaaDoor.Law01 Go.Proofs.YtaakhldhmoaplaaDoor.Field Go.Proofs.YtaakhldhmoaplaaDoor.Law05
open Go.Proofs.YtaakhldhmoaplaaDoor.Seal (keysB formB openB okB)
open Go.Proofs.YtaakhldhmoaplaaDoor.Aes (RowB)
open Go.Proofs.YtaakhldhmoaplaaDoor.Note (NoteP noteF noteV NoteAt zeroCells zeroCells_eq)
open Go.Proofs.YtaakhldhmoaplaaDoor.Book (Bk Wd keyB hasN BookIs bookF bookV wordF)

theorem slice_one_cell {w : World} {k n : Nat} {e : Nat → BitVec 8} {v : Value} (h : SliceOf w k n e v) : v.oneCell' = true := by
  obtain ⟨A, c, e⟩ := slice_shape h
  rw [e]; rfl
/-- No bytes, or more than a note has cells. -/
def Past (n : Nat) : Prop := n = 0 ∨ 38 < n
theorem slice_past' {w w' : World} {z t n : Nat} {f : Nat → Value} {e : Nat → BitVec 8} {v : Value} (h : SliceOf w w.heap.size n e v) (hr : w.rowIs z t 38 f) (hn : Past n) (ho : Only z w w') : SliceOf w' w'.heap.size n e v := by
  rcases hn with h0 | h0
  · subst h0
    obtain ⟨A, c, hv, hc, _⟩ := h
    exact ⟨A, c, hv, hc, fun h => absurd h (by omega)⟩
  · exact slice_past h hr h0 ho
def PastN (M : NoteP) : Prop := Past M.pn ∧ Past M.qn ∧ Past M.rn
theorem note_past {w w' : World} {z t : Nat} {f : Nat → Value} {M : NoteP} {P Q R : Value} (h : NoteAt w M P Q R) (hr : w.rowIs z t 38 f) (hM : PastN M) (ho : Only z w w') : NoteAt w' M P Q R :=
  ⟨slice_past' h.p hr hM.1 ho, slice_past' h.q hr hM.2.1 ho, slice_past' h.r hr hM.2.2 ho⟩
theorem past_zero : PastN zeroN := ⟨.inl rfl, .inl rfl, .inl rfl⟩
theorem past_ns (b : Bk) (N : NoteP) (D : Nat → BitVec 8) : PastN (nsM b N D) := by
  unfold nsM
  split
  · exact ⟨.inr (blob_big _), .inr (blob_big _), .inl rfl⟩
  · exact past_zero
theorem past_ksl (b : Bk) (N : NoteP) (D : Nat → BitVec 8) : PastN (kslM b N D) := by
  unfold kslM
  split
  · exact ⟨.inr (blob_big _), .inr (blob_big _), .inl rfl⟩
  · exact past_zero
theorem ans_ns {b : Bk} {N : NoteP} (D : Nat → BitVec 8) (h : N.kind = 2) : ansC b N = nsC b N ∧ ansTo b N = nsTo b N ∧ ansN b N D (fun j => D (16 + j)) (fun j => D (32 + j)) = nsM b N D := by
  have e : ansC b N = nsC b N := by unfold ansC; rw [if_pos h]
  unfold ansTo ansN nsTo nsM
  rw [e, if_pos h, if_pos h]
  exact ⟨rfl, rfl, rfl⟩
theorem ans_ksl {b : Bk} {N : NoteP} (D : Nat → BitVec 8) (h : N.kind = 7) : ansC b N = kslC b N ∧ ansTo b N = kslTo b N ∧ ansN b N D (fun j => D (16 + j)) (fun j => D (32 + j)) = kslM b N D := by
  have h2 : ¬ N.kind = 2 := by omega
  have e : ansC b N = kslC b N := by unfold ansC; rw [if_neg h2, if_pos h]
  unfold ansTo ansN kslTo kslM
  rw [e, if_neg h2, if_neg h2]
  exact ⟨rfl, rfl, rfl⟩
theorem ans_other {b : Bk} {N : NoteP} (D : Nat → BitVec 8) (h2 : ¬ N.kind = 2) (h7 : ¬ N.kind = 7) : ansC b N = 13 ∧ ansTo b N = ⟨#[]⟩ ∧ ansN b N D (fun j => D (16 + j)) (fun j => D (32 + j)) = zeroN := by
  have e : ansC b N = 13 := by unfold ansC; rw [if_neg h2, if_neg h7]
  unfold ansTo ansN
  rw [e, if_neg (by decide), if_neg (by decide)]
  exact ⟨rfl, rfl, rfl⟩
set_option maxRecDepth 100000 in
set_option maxHeartbeats 1000000 in
theorem answer_any (b : Bk) (N : NoteP) (D : Nat → BitVec 8) (P Q R Lv Rv : Value) (CD : Array Value) (hCD : CD.size = 48) (hCDi : ∀ i, i < 48 → CD[i]? = some (.int .u8 ((D i).toNat : Int))) (w : World) (hk : Consts w) (hb : BookIs w b Lv Rv) (hn : NoteAt w N P Q R) (hA : N.a.size ≤ 20) (hB : N.b.size ≤ 20) :
    Calls Tryd.prog 7 #[bookV b Lv Rv, noteV N P Q R, .agg CD] w (AnsPost (ansTo b N) (ansN b N D (fun j => D (16 + j)) (fun j => D (32 + j))) (ansC b N) w) := by
  obtain ⟨W, hW, h0⟩ := ans_new 27 30 b N D P Q R Lv Rv CD hCD hCDi w hk hb hn
  have H1 := Lib.hid h0
  obtain ⟨CD2, hCD2, zCD2, iCD2⟩ := cells_named 48 (byteF D) D (fun _ _ => rfl)
  have HNS := Lib.hid (answerNS_any b N D P Q R Lv Rv CD2 zCD2 iCD2 W h0.hk h0.is_ h0.at_ hB)
  have HKS := Lib.hid (answerKSL_any b N D P Q R Lv Rv CD2 zCD2 iCD2 W h0.hk h0.is_ h0.at_ hA hB)
  have HCD2 := Lib.hid hCD2
  clear hCD hCDi hk hb hn h0 hA hB hCD2 zCD2 iCD2
  unfold bookV noteV at HNS HKS ⊢
  obtain ⟨CB, hCB⟩ : ∃ C, C = cellsOf 19 (bookF b Lv Rv) := ⟨_, rfl⟩
  obtain ⟨CN, hCN⟩ : ∃ C, C = cellsOf 38 (noteF N P Q R) := ⟨_, rfl⟩
  rw [← hCB, ← hCN] at hW HNS HKS ⊢
  have HCB := Lib.hid hCB.symm
  have HCN := Lib.hid hCN.symm
  clear hCB hCN
  go_enter Tryd.func7, Tryd.ntmps7
  go_upto_region 1 with fail
  rw [show (#[.int .i64 0, .string ⟨#[]⟩, .string ⟨#[]⟩, .int .u8 0, .int .u8 0, .int .u8 0, .int .u8 0, .int .u8 0, .int .u8 0, .int .u8 0, .int .u8 0, .int .u8 0, .int .u8 0, .int .u8 0, .int .u8 0, .int .u8 0, .int .u8 0, .int .u8 0, .int .u8 0, .int .u8 0, .int .u8 0, .int .u8 0, .int .u8 0, .int .u8 0, .int .u8 0, .int .u8 0, .int .u8 0, .int .u8 0, .int .u8 0, .int .u8 0, .int .u8 0, .int .u8 0, .int .u8 0, .int .u8 0, .int .u8 0, .slice none 0 0, .slice none 0 0, .slice none 0 0] : Array Value) = zeroCells 0 from rfl, ← hW]
  clear hW
  have d0 := H1.out.nt.cell (i := 0) (by omega)
  rw [show noteF N P Q R 0 = .int .i64 N.kind from rfl] at d0
  have r0 := H1.out.bk
  have r1 := H1.out.nt
  have r2 := H1.out.dr
  by_cases h2 : N.kind = 2
  · have HE := Lib.hid (ans_ns (b := b) D h2)
    rw [h2] at d0
    obtain ⟨M, hM⟩ : ∃ M, M = nsM b N D := ⟨_, rfl⟩
    have HM := Lib.hid hM
    have HSZM : Hid (PastN M) := Lib.hid (by rw [hM]; exact past_ns b N D)
    have HC := HNS
    rw [← hM] at HC
    clear h2 hM HNS HKS
    go_wp2_with (first
      | (refine load_as (by rfl) 27 (.tmp 3) (by rfl) w.heap.size 0 _ 19 19 _ CB ((cells_zero _ _).trans HCB.out) r0 (by rfl) _ Tryd.underlying27 (by rfl) (by kernel_rfl) (by omega) ?_)
      | (refine load_as (by rfl) 30 (.tmp 4) (by rfl) (w.heap.size + 1) 0 _ 38 38 _ CN ((cells_zero _ _).trans HCN.out) r1 (by rfl) _ Tryd.underlying30 (by rfl) (by kernel_rfl) (by omega) ?_)
      | (refine load_as (by rfl) 31 (.tmp 5) (by rfl) (w.heap.size + 1 + 1) 0 _ 48 48 _ CD2 ((cells_zero _ _).trans HCD2.out) r2 (by rfl) _ Tryd.underlying31 (by rfl) (by kernel_rfl) (by omega) ?_))
    refine HC.out.mono ?_
    rintro _ w2 ⟨P', Q', R', rfl, hn2, hb2⟩
    have H2 := Lib.hid (H1.out.step hb2)
    have HN2 := Lib.hid hn2
    have op := (slice_one_cell hn2.p)
    have oq := (slice_one_cell hn2.q)
    have or_ := (slice_one_cell hn2.r)
    have hz := H2.out.zr
    clear hn2 hb2 r0 r1 r2 d0 HC
    go_wp2_with (refine store_whole (by rfl) 30 (.tmp 7) (.tmp 22) (by rfl) (w.heap.size + 1 + 1 + 1) _ 38 _ (noteF M P' Q' R') hz (by rfl) _ (by rfl) (by kernel_rfl) (size_cellsOf _ _) (cellsOf_at _ _) (note_cells_one _ _ _ _ op oq or_) ?_; intro w9 hr9 ho9)
    refine bodyPost_ret (results_mid rfl _ (w.heap.size + 1 + 1 + 1) _ 38 _ _ rfl hr9 Tryd.underlying30 (by rfl) (by kernel_rfl)) rfl ?_
    rw [HE.out.1, HE.out.2.1, HE.out.2.2]
    exact ⟨P', Q', R', by rw [HM.out]; rfl, by rw [← HM.out]; exact note_past HN2.out H2.out.zr HSZM.out ho9, ho9.below H2.out.hb (by omega)⟩
  · by_cases h7 : N.kind = 7
    · have HE := Lib.hid (ans_ksl (b := b) D h7)
      rw [h7] at d0
      obtain ⟨M, hM⟩ : ∃ M, M = kslM b N D := ⟨_, rfl⟩
      have HM := Lib.hid hM
      have HSZM : Hid (PastN M) := Lib.hid (by rw [hM]; exact past_ksl b N D)
      have HC := HKS
      rw [← hM] at HC
      clear h2 h7 hM HNS HKS
      go_wp2_with (first
        | (refine load_as (by rfl) 27 (.tmp 3) (by rfl) w.heap.size 0 _ 19 19 _ CB ((cells_zero _ _).trans HCB.out) r0 (by rfl) _ Tryd.underlying27 (by rfl) (by kernel_rfl) (by omega) ?_)
        | (refine load_as (by rfl) 30 (.tmp 4) (by rfl) (w.heap.size + 1) 0 _ 38 38 _ CN ((cells_zero _ _).trans HCN.out) r1 (by rfl) _ Tryd.underlying30 (by rfl) (by kernel_rfl) (by omega) ?_)
        | (refine load_as (by rfl) 31 (.tmp 5) (by rfl) (w.heap.size + 1 + 1) 0 _ 48 48 _ CD2 ((cells_zero _ _).trans HCD2.out) r2 (by rfl) _ Tryd.underlying31 (by rfl) (by kernel_rfl) (by omega) ?_))
      refine HC.out.mono ?_
      rintro _ w2 ⟨P', Q', R', rfl, hn2, hb2⟩
      have H2 := Lib.hid (H1.out.step hb2)
      have HN2 := Lib.hid hn2
      have op := (slice_one_cell hn2.p)
      have oq := (slice_one_cell hn2.q)
      have or_ := (slice_one_cell hn2.r)
      have hz := H2.out.zr
      clear hn2 hb2 r0 r1 r2 d0 HC
      go_wp2_with (refine store_whole (by rfl) 30 (.tmp 7) (.tmp 31) (by rfl) (w.heap.size + 1 + 1 + 1) _ 38 _ (noteF M P' Q' R') hz (by rfl) _ (by rfl) (by kernel_rfl) (size_cellsOf _ _) (cellsOf_at _ _) (note_cells_one _ _ _ _ op oq or_) ?_; intro w9 hr9 ho9)
      refine bodyPost_ret (results_mid rfl _ (w.heap.size + 1 + 1 + 1) _ 38 _ _ rfl hr9 Tryd.underlying30 (by rfl) (by kernel_rfl)) rfl ?_
      rw [HE.out.1, HE.out.2.1, HE.out.2.2]
      exact ⟨P', Q', R', by rw [HM.out]; rfl, by rw [← HM.out]; exact note_past HN2.out H2.out.zr HSZM.out ho9, ho9.below H2.out.hb (by omega)⟩
    · have HE := Lib.hid (ans_other (b := b) D h2 h7)
      have q2 : (N.kind == 2) = false := by simpa using h2
      have q7 : (N.kind == 7) = false := by simpa using h7
      clear h2 h7 HNS HKS r0 r1 r2
      go_wp2_with fail
      refine (refused_any 13 _).mono ?_
      rintro _ w8 ⟨rfl, hb8⟩
      have H8 := Lib.hid (H1.out.step hb8)
      have hz8 := H8.out.zr
      clear hb8
      go_wp2_with (refine store_whole (by rfl) 30 (.tmp 7) (.tmp 13) (by rfl) (w.heap.size + 1 + 1 + 1) _ 38 _ (noteF zeroN nilV nilV nilV) hz8 (by rfl) _ (by rfl) (by kernel_rfl) (size_cellsOf _ _) (cellsOf_at _ _) (note_cells_one _ _ _ _ rfl rfl rfl) ?_; intro w9 hr9 ho9)
      refine bodyPost_ret (results_mid rfl _ (w.heap.size + 1 + 1 + 1) _ 38 _ _ rfl hr9 Tryd.underlying30 (by rfl) (by kernel_rfl)) rfl ?_
      have hb9 := ho9.below H8.out.hb (by omega)
      rw [HE.out.1, HE.out.2.1, HE.out.2.2]
      exact ans_none 13 w _ _ rfl hb9
end Go.Proofs.YtaakhldhmoaplaaDoor.Kdc
namespace Go.Proofs.YtaakhldhmoaplaaDoor.Kdc
open Go Go.RowKit Go.Proofs.YtaakhldhmoaplaaDoor.Aid Go.Proofs.YtaakhldhmoaplaaDoor.Sha Go.Proofs.YtaakhldhmoaplaaDoor.Law01 Go.Proofs.YtaakhldhmoaplaaDoor.Field Go.Proofs.YtaakhldhmoaplaaDoor.Law05
open Go.Proofs.YtaakhldhmoaplaaDoor.Seal (keysB formB openB okB)
open Go.Proofs.YtaakhldhmoaplaaDoor.Aes (RowB)
open Go.Proofs.YtaakhldhmoaplaaDoor.Note (NoteP noteF noteV NoteAt zeroCells zeroCells_eq)
open Go.Proofs.YtaakhldhmoaplaaDoor.Book (Bk Wd keyB hasN BookIs bookF bookV wordF)

def zbook : Array Value := #[.slice none 0 0, .slice none 0 0, .int .i64 0, .int .u8 0, .int .u8 0, .int .u8 0, .int .u8 0, .int .u8 0, .int .u8 0, .int .u8 0, .int .u8 0, .int .u8 0, .int .u8 0, .int .u8 0, .int .u8 0, .int .u8 0, .int .u8 0, .int .u8 0, .int .u8 0]
theorem zbook_at (i : Nat) (hi : i < 19) : zbook[i]? = some (bookF Book.bk0 nilV nilV i) := by
  rw [show zbook = cellsOf 19 (bookF Book.bk0 nilV nilV) from rfl]
  exact cellsOf_at _ _ i hi
theorem book_one (b : Bk) (Lv Rv : Value) (h1 : Lv.oneCell' = true) (h2 : Rv.oneCell' = true) (j : Nat) : (bookF b Lv Rv j).oneCell' = true := by
  unfold bookF
  split
  · exact h1
  · split
    · exact h2
    · split
      · rfl
      · rfl
def wd (x : BitVec 8) : Wd := x :: List.replicate 15 0
def wF (x : BitVec 8) (j : Nat) : BitVec 8 := if j = 0 then x else 0
def sAnn : ByteArray := ⟨#[97, 110, 110]⟩
def sBob : ByteArray := ⟨#[98, 111, 98]⟩
def sX : ByteArray := ⟨#[120]⟩
def bA : Bk := ⟨[(sAnn, wd 1), (sBob, wd 2)], [], 0, Book.zw⟩
def nA : NoteP := ⟨7, sAnn, sBob, wF 3, wF 4, 0, fun _ => 0, 0, fun _ => 0, 0, fun _ => 0⟩
def n5 : NoteP := ⟨5, ⟨#[]⟩, ⟨#[]⟩, fun _ => 0, fun _ => 0, 0, fun _ => 0, 0, fun _ => 0, 0, fun _ => 0⟩
def dA (j : Nat) : BitVec 8 := if j = 0 then 5 else if j = 16 then 6 else if j = 32 then 7 else 0
def lx : List Fld := [(1, Mac.bytesL [97]), (0, fun _ => 0)]
def zEnts : Array Value := #[.string ⟨#[97, 110, 110]⟩, .int .u8 1, .int .u8 0, .int .u8 0, .int .u8 0, .int .u8 0, .int .u8 0, .int .u8 0, .int .u8 0, .int .u8 0, .int .u8 0, .int .u8 0, .int .u8 0, .int .u8 0, .int .u8 0, .int .u8 0, .int .u8 0, .string ⟨#[98, 111, 98]⟩, .int .u8 2, .int .u8 0, .int .u8 0, .int .u8 0, .int .u8 0, .int .u8 0, .int .u8 0, .int .u8 0, .int .u8 0, .int .u8 0, .int .u8 0, .int .u8 0, .int .u8 0, .int .u8 0, .int .u8 0, .int .u8 0]
def zNote : Array Value := #[.int .i64 7, .string ⟨#[97, 110, 110]⟩, .string ⟨#[98, 111, 98]⟩, .int .u8 3, .int .u8 0, .int .u8 0, .int .u8 0, .int .u8 0, .int .u8 0, .int .u8 0, .int .u8 0, .int .u8 0, .int .u8 0, .int .u8 0, .int .u8 0, .int .u8 0, .int .u8 0, .int .u8 0, .int .u8 0, .int .u8 4, .int .u8 0, .int .u8 0, .int .u8 0, .int .u8 0, .int .u8 0, .int .u8 0, .int .u8 0, .int .u8 0, .int .u8 0, .int .u8 0, .int .u8 0, .int .u8 0, .int .u8 0, .int .u8 0, .int .u8 0, .slice none 0 0, .slice none 0 0, .slice none 0 0]
def zDraw : Array Value := #[.int .u8 5, .int .u8 0, .int .u8 0, .int .u8 0, .int .u8 0, .int .u8 0, .int .u8 0, .int .u8 0, .int .u8 0, .int .u8 0, .int .u8 0, .int .u8 0, .int .u8 0, .int .u8 0, .int .u8 0, .int .u8 0, .int .u8 6, .int .u8 0, .int .u8 0, .int .u8 0, .int .u8 0, .int .u8 0, .int .u8 0, .int .u8 0, .int .u8 0, .int .u8 0, .int .u8 0, .int .u8 0, .int .u8 0, .int .u8 0, .int .u8 0, .int .u8 0, .int .u8 7, .int .u8 0, .int .u8 0, .int .u8 0, .int .u8 0, .int .u8 0, .int .u8 0, .int .u8 0, .int .u8 0, .int .u8 0, .int .u8 0, .int .u8 0, .int .u8 0, .int .u8 0, .int .u8 0, .int .u8 0]
def zDraw0 : Array Value := #[.int .u8 0, .int .u8 0, .int .u8 0, .int .u8 0, .int .u8 0, .int .u8 0, .int .u8 0, .int .u8 0, .int .u8 0, .int .u8 0, .int .u8 0, .int .u8 0, .int .u8 0, .int .u8 0, .int .u8 0, .int .u8 0, .int .u8 0, .int .u8 0, .int .u8 0, .int .u8 0, .int .u8 0, .int .u8 0, .int .u8 0, .int .u8 0, .int .u8 0, .int .u8 0, .int .u8 0, .int .u8 0, .int .u8 0, .int .u8 0, .int .u8 0, .int .u8 0, .int .u8 0, .int .u8 0, .int .u8 0, .int .u8 0, .int .u8 0, .int .u8 0, .int .u8 0, .int .u8 0, .int .u8 0, .int .u8 0, .int .u8 0, .int .u8 0, .int .u8 0, .int .u8 0, .int .u8 0, .int .u8 0]
def zNote5 : Array Value := #[.int .i64 5, .string ⟨#[]⟩, .string ⟨#[]⟩, .int .u8 0, .int .u8 0, .int .u8 0, .int .u8 0, .int .u8 0, .int .u8 0, .int .u8 0, .int .u8 0, .int .u8 0, .int .u8 0, .int .u8 0, .int .u8 0, .int .u8 0, .int .u8 0, .int .u8 0, .int .u8 0, .int .u8 0, .int .u8 0, .int .u8 0, .int .u8 0, .int .u8 0, .int .u8 0, .int .u8 0, .int .u8 0, .int .u8 0, .int .u8 0, .int .u8 0, .int .u8 0, .int .u8 0, .int .u8 0, .int .u8 0, .int .u8 0, .slice none 0 0, .slice none 0 0, .slice none 0 0]
def zWord (x : Int) : Array Value := #[.int .u8 x, .int .u8 0, .int .u8 0, .int .u8 0, .int .u8 0, .int .u8 0, .int .u8 0, .int .u8 0, .int .u8 0, .int .u8 0, .int .u8 0, .int .u8 0, .int .u8 0, .int .u8 0, .int .u8 0, .int .u8 0]
theorem zNote_eq : zNote = cellsOf 38 (noteF nA nilV nilV nilV) := rfl
theorem zNote5_eq : zNote5 = cellsOf 38 (noteF n5 nilV nilV nilV) := rfl
theorem zDraw_eq : zDraw = cellsOf 48 (byteF dA) := rfl
theorem zDraw0_eq : zDraw0 = cellsOf 48 (byteF fun _ => 0) := rfl
theorem zWord1_eq : zWord 1 = cellsOf 16 (byteF (wF 1)) := rfl
theorem zWord2_eq : zWord 2 = cellsOf 16 (byteF (wF 2)) := rfl
theorem zEnts_eq : zEnts = cellsOf 17 (Book.entF (sAnn, wd 1)) ++ cellsOf 17 (Book.entF (sBob, wd 2)) := rfl
theorem zEnts_at (i : Nat) (hi : i < 2) (j : Nat) (u : Value) (hu : (Book.entsL bA i)[j]? = some u) : zEnts[i * 17 + j]? = some u := by
  have hj : j < 17 := by have := (List.getElem?_eq_some_iff.1 hu).1; simpa [Book.entsL] using this
  unfold Book.entsL at hu
  rw [List.getElem?_map, List.getElem?_range hj] at hu
  simp only [Option.map_some, Option.some.injEq] at hu
  rw [zEnts_eq, ← hu]
  match i, hi with
  | 0, _ =>
    rw [Array.getElem?_append_left (by rw [size_cellsOf]; omega), show 0 * 17 + j = j by omega]
    exact cellsOf_at _ _ j hj
  | 1, _ =>
    rw [Array.getElem?_append_right (by rw [size_cellsOf]; omega), size_cellsOf, show 1 * 17 + j - 17 = j by omega]
    exact cellsOf_at _ _ j hj
theorem aw_c : ansC bA nA = 0 := by decide +kernel
theorem aw_to : ansTo bA nA = sBob := by unfold ansTo; rw [aw_c]; rfl
theorem aw_n (d1 d2 : Nat → BitVec 8) : ansN bA nA dA d1 d2 = kslN bA nA dA d1 d2 := by unfold ansN; rw [aw_c]; rfl
theorem aw5_c : ansC bA n5 = 13 := by decide +kernel
theorem key_bob : keyB sBob bA.L = wd 2 := by decide +kernel
theorem keyF_wd (x : BitVec 8) (j : Nat) (hj : j < 16) : keyF (wd x) j = wF x j := by
  unfold keyF wd wF
  match j with
  | 0 => rfl
  | k + 1 =>
    rw [if_neg (by omega), List.getD_eq_getElem?_getD, List.getElem?_cons_succ, List.getElem?_replicate, if_pos (by omega)]
    rfl
theorem strOf_strB (s : ByteArray) (E : Nat → BitVec 8) (n : Nat) (hn : n = s.size) (h : ∀ j, j < n → E j = strB s j) : strOf E n = s := by
  subst hn
  unfold strOf
  apply ByteArray.ext
  apply Array.ext_getElem?
  intro i
  by_cases hi : i < s.size
  · have hi' : i < s.data.size := hi
    simp only [List.getElem?_toArray, List.getElem?_map, List.getElem?_range hi, Option.map_some]
    rw [h i hi, Array.getElem?_eq_getElem hi']
    unfold strB
    congr 1
    apply UInt8.toBitVec_inj.1
    simp
    rw [Array.getElem?_eq_getElem hi']
    rfl
  · have hi' : ¬ i < s.data.size := hi
    rw [Array.getElem?_eq_none (by simpa using hi'), Array.getElem?_eq_none (by omega)]
/-- The book of awake, where it lies. -/
theorem bookA_is (w w1 : World) (ho : Only (w.heap.size + 1) ((w.alloc (.cells zEnts 58)).alloc (.cells zbook 27)) w1) : BookIs w1 bA (.slice (some ⟨w.heap.size, 0, none⟩) 2 2) nilV := by
  have hs : w1.heap.size = w.heap.size + 2 := by rw [ho.size]; simp
  refine ⟨⟨_, 2, rfl, fun _ => ⟨w.heap.size, 0, rfl, by omega, fun i hi j u hu => ?_⟩⟩, ⟨none, 0, rfl, fun h => absurd h (by decide)⟩, ⟨by decide, by decide⟩, fun p hp => ?_, fun k hk => (by cases hk), rfl⟩
  · have h1 := zEnts_at i hi j u hu
    rw [Nat.zero_add, World.cell?_of_block (ho.block w.heap.size (by omega))]
    have h2 : (w.alloc (.cells zEnts 58)).cell? ⟨w.heap.size, i * 17 + j, none⟩ = some u := by rw [World.cell?_alloc_new]; exact h1
    exact (((Below.refl (w.alloc (.cells zEnts 58)).heap.size (w.alloc (.cells zEnts 58))).alloc (Nat.le_refl _) (.cells zbook 27)).cell (p := ⟨w.heap.size, i * 17 + j, none⟩) (by simp)).trans h2
  · simp only [bA, List.mem_cons, List.not_mem_nil, or_false] at hp
    rcases hp with rfl | rfl <;> rfl
set_option maxRecDepth 100000 in
set_option maxHeartbeats 1000000 in
theorem awake16_any (w : World) (hk : Consts w) : Calls Tryd.prog 5 #[] w fun x w' => x = .returned (.bool true) ∧ Below w.heap.size w w' := by
  have kc := fun (w : World) (C : Array Value) (n c : Nat) => Lib.run_convert_bytes_const (P := Tryd.prog) w 28 5 C n c Tryd.underlying28 Tryd.underlying5
  have HK := Lib.hid hk
  clear hk
  go_enter Tryd.func5, Tryd.ntmps5
  go_upto_region 2 with (refine store_whole (by rfl) 27 (.tmp 1) (.tmp 18) (by rfl) (w.heap.size + 1) _ 19 _ (bookF bA (.slice (some ⟨w.heap.size, 0, none⟩) 2 2) nilV) (by exact (congrArg (fun k => ((w.alloc _).alloc (.cells zbook 27)).rowIs k 27 19 (bookF Book.bk0 nilV nilV)) (World.size_alloc w _)).mp (row_new (w.alloc _) zbook 27 19 _ (by rfl) zbook_at)) (by rfl) (cellsOf 19 (bookF bA (.slice (some ⟨w.heap.size, 0, none⟩) 2 2) nilV)) (by kernel_rfl) (by kernel_rfl) (size_cellsOf _ _) (cellsOf_at _ _) (fun i _ => book_one _ _ _ rfl rfl i) ?_; intro w1 hr1 ho1)
  have HI := Lib.hid (bookA_is w w1 ho1)
  have HR := Lib.hid hr1
  have HB1 : Hid (Below w.heap.size w w1) := Lib.hid (ho1.below (((Below.refl _ _).alloc (Nat.le_refl _) _).alloc (by simp) _) (by omega))
  clear hr1 ho1
  have HA1 := answer_any bA nA dA nilV nilV nilV _ _ zDraw (by rfl) (fun i hi => by rw [zDraw_eq]; exact cellsOf_at _ _ i hi) w1 (HK.out.below HB1.out (Nat.le_refl _)) HI.out ⟨SliceOf.nil _ _ _, SliceOf.nil _ _ _, SliceOf.nil _ _ _⟩ (by decide) (by decide)
  rw [aw_c, aw_to, aw_n] at HA1
  unfold bookV noteV at HA1
  rw [← zNote_eq] at HA1
  obtain ⟨CB, hCB⟩ : ∃ C, C = cellsOf 19 (bookF bA (.slice (some ⟨w.heap.size, 0, none⟩) 2 2) nilV) := ⟨_, rfl⟩
  rw [← hCB] at HA1
  have HA := Lib.hid HA1
  have HCB := Lib.hid hCB.symm
  have r0 := HR.out
  clear HA1 hCB
  simp only [Act.put]
  go_wp2_with (refine load_as (by rfl) 27 (.tmp 1) (by rfl) (w.heap.size + 1) 0 _ 19 19 _ CB ((cells_zero _ _).trans HCB.out) r0 (by rfl) _ Tryd.underlying27 (by rfl) (by kernel_rfl) (by omega) ?_)
  refine HA.out.mono ?_
  rintro _ w2 ⟨P, Q, R, rfl, hn2, hb2⟩
  have hk2 := HK.out.below (HB1.out.trans (hb2.mono HB1.out.size)) (Nat.le_refl _)
  have HB2 : Hid (Below w.heap.size w w2) := Lib.hid (HB1.out.trans (hb2.mono HB1.out.size))
  have HI2 := Lib.hid (HI.out.below hb2)
  have HR2 := Lib.hid (HR.out.of_block (hb2.block _ (World.rowIs.lt HR.out)))
  obtain ⟨AP, cP, eP⟩ := slice_shape hn2.p
  have oq := slice_one_cell hn2.q
  have or_ := slice_one_cell hn2.r
  have HSP := Lib.hid hn2.p
  subst eP
  obtain ⟨M, hM⟩ : ∃ M, M = kslN bA nA dA (fun j => dA (16 + j)) (fun j => dA (32 + j)) := ⟨_, rfl⟩
  have HM := Lib.hid hM
  rw [← hM] at HSP ⊢
  clear HA hb2 hn2 r0 HI HR HB1 hM hk2
  go_upto_region 3 with (refine store_whole (by rfl) 30 (.tmp 3) (.tmp 30) (by rfl) w2.heap.size _ 38 _ (noteF M (.slice AP M.pn cP) Q R) (by exact row_new w2 (zeroCells 0) 30 38 _ (by rfl) zero_note_at) (by rfl) (cellsOf 38 (noteF M (.slice AP M.pn cP) Q R)) (by rfl) (by kernel_rfl) (size_cellsOf _ _) (cellsOf_at _ _) (note_cells_one _ _ _ _ rfl oq or_) ?_; intro w3 hr3 ho3)
  have hb3 : Below w2.heap.size w2 w3 := ho3.below ((Below.refl w2.heap.size w2).alloc (Nat.le_refl _) (.cells (zeroCells 0) 30)) (Nat.le_refl _)
  have HB3 : Hid (Below w.heap.size w w3) := Lib.hid (HB2.out.trans (hb3.mono HB2.out.size))
  have HI3 := Lib.hid (HI2.out.below hb3)
  have HR3 := Lib.hid (HR2.out.of_block (hb3.block _ (World.rowIs.lt HR2.out)))
  have HN3 := Lib.hid hr3
  have HSP3 := Lib.hid (slice_next HSP.out hb3)
  clear ho3 hb3 hr3 HB2 HI2 HR2 HSP
  generalize w2.heap.size = g3 at *
  have hbl := blob_len lK3b (kslP nA dA) rfl (by show 3 ≤ 4; omega) (by show off (fldM [(16, nA.y), (nA.a.size, strB nA.a), (16, dA)]) 3 ≤ 200; rw [off3]; decide)
  have HPB := Lib.hid (parts_back (keyF (keyB sBob bA.L)) (fun j => dA (16 + j)) lK3b (kslP nA dA) M.p (zWord 2) (by rfl) (fun i hi => by rw [zWord2_eq, cellsOf_at _ _ i hi, key_bob, keyF_wd _ _ hi]; rfl) AP M.pn cP 3 w3 (HK.out.below HB3.out (Nat.le_refl _)) HSP3.out (by rw [HM.out]; rfl) (fun j _ => by rw [HM.out]; rfl) rfl (by decide) hbl.1 hbl.2.1)
  have d5 := HN3.out.cell (i := 35) (by omega)
  rw [show noteF M (.slice AP M.pn cP) Q R 35 = .slice AP M.pn cP from rfl] at d5
  clear hbl
  go_wp2_with fail
  refine HPB.out.mono ?_
  rintro _ w4 ⟨v4, R4, rfl, ho4, hb4⟩
  have HB4 : Hid (Below w.heap.size w w4) := Lib.hid (HB3.out.trans (hb4.mono HB3.out.size))
  have HI4 := Lib.hid (HI3.out.below hb4)
  have HR4 := Lib.hid (HR3.out.of_block (hb4.block _ (World.rowIs.lt HR3.out)))
  have HN4 := Lib.hid (HN3.out.of_block (hb4.block _ (World.rowIs.lt HN3.out)))
  rw [show (kslP nA dA).length = 3 from rfl] at ho4
  obtain ⟨Av, cv, rfl⟩ := ho4.shape
  obtain ⟨sb, so, A1, c1, rfl, p1, s1⟩ := own_parts_at ho4 1 (by omega)
  rw [show fldM (kslP nA dA) 1 = 3 from rfl] at p1 s1
  have H14 : Hid (∀ W, Below w4.heap.size w4 W → W.cell? ⟨sb, so + 1, none⟩ = some (.slice A1 3 c1) ∧ (convert 28 9 (.slice A1 3 c1)).run Tryd.prog W = .ok (.string sAnn) W) := Lib.hid fun W hW => by
    refine ⟨(hW.cell (p := ⟨sb, so + 1, none⟩) (block_lt_of_cell p1)).trans p1, ?_⟩
    have h1 := str_run _ _ _ _ _ _ ((s1.below hW).slice (g' := W.heap.size) (.inr (Nat.le_refl _)))
    rw [strOf_strB sAnn (fldE (kslP nA dA) 1) 3 rfl (fun j _ => rfl)] at h1
    exact h1
  clear HPB d5 hb4 ho4 p1 s1 HB3 HI3 HR3 HN3 HSP3
  have HA1 := answer_any bA n5 (fun _ => 0) nilV nilV nilV _ _ zDraw0 (by rfl) (fun i hi => by rw [zDraw0_eq]; exact cellsOf_at _ _ i hi) w4 (HK.out.below HB4.out (Nat.le_refl _)) HI4.out ⟨SliceOf.nil _ _ _, SliceOf.nil _ _ _, SliceOf.nil _ _ _⟩ (by decide) (by decide)
  rw [aw5_c] at HA1
  unfold bookV noteV at HA1
  rw [← zNote5_eq, HCB.out] at HA1
  obtain ⟨to5, hto5⟩ : ∃ s, s = ansTo bA n5 := ⟨_, rfl⟩
  obtain ⟨M5, hM5⟩ : ∃ s, s = ansN bA n5 (fun _ => 0) (fun j => (fun _ => (0 : BitVec 8)) (16 + j)) (fun j => (fun _ => (0 : BitVec 8)) (32 + j)) := ⟨_, rfl⟩
  rw [← hto5, ← hM5] at HA1
  have HA5 := Lib.hid HA1
  have r0 := HR4.out
  clear HA1 hto5 hM5
  go_wp2_with (refine load_as (by rfl) 27 (.tmp 1) (by rfl) (w.heap.size + 1) 0 _ 19 19 _ CB ((cells_zero _ _).trans HCB.out) r0 (by rfl) _ Tryd.underlying27 (by rfl) (by kernel_rfl) (by omega) ?_)
  refine HA5.out.mono ?_
  rintro _ w5 ⟨P5, Q5, R5, rfl, hn5, hb5⟩
  have op5 := slice_one_cell hn5.p
  have oq5 := slice_one_cell hn5.q
  have or5 := slice_one_cell hn5.r
  have HB5 : Hid (Below w.heap.size w w5) := Lib.hid (HB4.out.trans (hb5.mono HB4.out.size))
  have HN5 := Lib.hid (HN4.out.of_block (hb5.block _ (World.rowIs.lt HN4.out)))
  have H15 : Hid (∀ W, Below w5.heap.size w5 W → W.cell? ⟨sb, so + 1, none⟩ = some (.slice A1 3 c1) ∧ (convert 28 9 (.slice A1 3 c1)).run Tryd.prog W = .ok (.string sAnn) W) := Lib.hid fun W hW => H14.out W (hb5.trans (hW.mono hb5.size))
  clear HA5 r0 hb5 hn5 HB4 HI4 HR4 HN4 H14 HCB
  go_upto_region 5 with (refine store_whole (by rfl) 30 (.tmp 8) (.tmp 45) (by rfl) w5.heap.size _ 38 _ (noteF M5 P5 Q5 R5) (by exact row_new w5 (zeroCells 0) 30 38 _ (by rfl) zero_note_at) (by rfl) (cellsOf 38 (noteF M5 P5 Q5 R5)) (by rfl) (by kernel_rfl) (size_cellsOf _ _) (cellsOf_at _ _) (note_cells_one _ _ _ _ op5 oq5 or5) ?_; intro w6 hr6 ho6)
  have hb6 : Below w5.heap.size w5 w6 := ho6.below ((Below.refl w5.heap.size w5).alloc (Nat.le_refl _) (.cells (zeroCells 0) 30)) (Nat.le_refl _)
  have HB6 : Hid (Below w.heap.size w w6) := Lib.hid (HB5.out.trans (hb6.mono HB5.out.size))
  have HN6 := Lib.hid (HN5.out.of_block (hb6.block _ (World.rowIs.lt HN5.out)))
  have H16 : Hid (∀ W, Below w6.heap.size w6 W → W.cell? ⟨sb, so + 1, none⟩ = some (.slice A1 3 c1) ∧ (convert 28 9 (.slice A1 3 c1)).run Tryd.prog W = .ok (.string sAnn) W) := Lib.hid fun W hW => H15.out W (hb6.trans (hW.mono hb6.size))
  clear ho6 hr6 hb6 HB5 HN5 H15
  generalize w5.heap.size = g8 at *
  go_wp2_with fail
  obtain ⟨W6, hW6, hpt, hbW⟩ : ∃ W, W = (w6.alloc (.cells #[.int .u8 97] 5 (1, 2))).alloc (.cells #[.slice (some ⟨w6.heap.size, 0, none⟩) 1 1, .slice none 0 0] 28) ∧ PartsOf W 2 (fldM lx) (fldE lx) (.slice (some ⟨w6.heap.size + 1, 0, none⟩) 2 2) ∧ Below w6.heap.size w6 W := by
    have h1 := parts_list (w6.alloc (.cells #[.int .u8 97] 5 (1, 2))) lx #[.slice (some ⟨w6.heap.size, 0, none⟩) 1 1, .slice none 0 0] 2 rfl rfl (fun i hi => by
      match i, hi with
      | 0, _ => exact Law02.slice_lit w6 #[.int .u8 97] (1, 2) [97] 1 _ (by simp) rfl rfl
      | 1, _ => exact SliceOf.nil _ _ _)
    have hs : (w6.alloc (.cells #[.int .u8 97] 5 (1, 2))).heap.size = w6.heap.size + 1 := by simp
    rw [hs] at h1
    exact ⟨_, rfl, h1, ((Below.refl _ _).alloc (Nat.le_refl _) _).alloc (by simp) _⟩
  rw [← hW6]
  have hbl := blob_len' sX lx (by decide) (by decide) (by decide)
  have HSE := Lib.hid (sealed_any (wF 1) (wF 2) sX (zWord 1) (zWord 2) (by rfl) (fun i hi => by rw [zWord1_eq]; exact cellsOf_at _ _ i hi) (by rfl) (fun i hi => by rw [zWord2_eq]; exact cellsOf_at _ _ i hi) 2 (fldM lx) (fldE lx) _ W6 (HK.out.below (HB6.out.trans (hbW.mono HB6.out.size)) (Nat.le_refl _)) hpt (by decide))
  have HBL := Lib.hid hbl
  have HBW := Lib.hid hbW
  clear hW6 hpt hbW hbl
  refine HSE.out.mono ?_
  rintro _ w7 ⟨A9, c9, rfl, hs9, hb7⟩
  have hbb := HBW.out.trans (hb7.mono HBW.out.size)
  have HB7 : Hid (Below w.heap.size w w7) := Lib.hid (HB6.out.trans (hbb.mono HB6.out.size))
  have HN7 := Lib.hid (HN6.out.of_block (hbb.block _ (World.rowIs.lt HN6.out)))
  have H17 : Hid (∀ W, Below w7.heap.size w7 W → W.cell? ⟨sb, so + 1, none⟩ = some (.slice A1 3 c1) ∧ (convert 28 9 (.slice A1 3 c1)).run Tryd.prog W = .ok (.string sAnn) W) := Lib.hid fun W hW => H16.out W (hbb.trans (hW.mono hbb.size))
  obtain ⟨n9, hn9⟩ : ∃ n, n = sealedN sX 2 (fldM lx) := ⟨_, rfl⟩
  rw [← hn9] at hs9 ⊢
  have HPB := Lib.hid (parts_back (wF 1) (wF 2) sX lx (sealedB (wF 1) (wF 2) sX 2 (fldM lx) (fldE lx)) (zWord 1) (by rfl) (fun i hi => by rw [zWord1_eq]; exact cellsOf_at _ _ i hi) A9 n9 c9 2 w7 (HK.out.below HB7.out (Nat.le_refl _)) hs9 (by rw [hn9]; exact HBL.out.2.2) (fun j _ => rfl) rfl (by decide) HBL.out.1 HBL.out.2.1)
  clear hb7 hs9 hbb hn9 HSE HBW HB6 HN6 H16
  go_wp2_with fail
  refine HPB.out.mono ?_
  rintro _ w8 ⟨v8, R8, rfl, ho8, hb8⟩
  have HB8 : Hid (Below w.heap.size w w8) := Lib.hid (HB7.out.trans (hb8.mono HB7.out.size))
  have HN8 := Lib.hid (HN7.out.of_block (hb8.block _ (World.rowIs.lt HN7.out)))
  obtain ⟨h81, h82⟩ := H17.out w8 hb8
  rw [show lx.length = 2 from rfl] at ho8
  obtain ⟨A8, c8, rfl⟩ := ho8.shape
  have d0 := HN8.out.cell (i := 0) (by omega)
  rw [show noteF M (.slice AP M.pn cP) Q R 0 = .int .i64 M.kind from rfl, HM.out] at d0
  have d0' : w8.cell? ⟨g3, 0, none⟩ = some (.int .i64 8) := d0
  have l1 : sBob.toList = [98, 111, 98] := by decide +kernel
  have l2 : sAnn.toList = [97, 110, 110] := by decide +kernel
  clear HPB hb8 ho8 HB7 HN7 H17 HN8 d0 HM kc
  go_wp2
  go_ret
  exact ⟨rfl, HB8.out⟩
end Go.Proofs.YtaakhldhmoaplaaDoor.Kdc
namespace Go.Proofs.YtaakhldhmoaplaaDoor.Kdc
open Go Go.RowKit Go.Proofs.YtaakhldhmoaplaaDoor.Aid Go.Proofs.YtaakhldhmoaplaaDoor.Sha Go.Proofs.YtaakhldhmoaplaaDoor.Law01 Go.Proofs.YtaakhldhmoaplaaDoor.Field Go.Proofs.YtaakhldhmoaplaaDoor.Law05
open Go.Proofs.YtaakhldhmoaplaaDoor.Seal (keysB formB openB okB)

theorem drewN_from (w : World) : ∀ q, Below w.heap.size w (w.drewN q)
  | 0 => Below.refl _ _
  | q + 1 => (drewN_from w q).drew
/-- 'bartizanref01.Same' of the same bytes. -/
theorem same_true16 (A B : Option Addr) (n c d : Nat) (e f : Nat → BitVec 8) (g g' : Nat) (w : World) (h1 : SliceOf w g n e (.slice A n c)) (h2 : SliceOf w g' n f (.slice B n d)) (hn : n ≤ 1000000) (hef : ∀ j, j < n → e j = f j) :
    Calls Tryd.prog 14 #[.slice A n c, .slice B n d] w fun x w' => x = .returned (.bool true) ∧ Below w.heap.size w w' :=
  (Mac.same_gen A B n n c d e f g g' w h1 h2 hn hn).mono (fun x w' ⟨hx, q, hw⟩ => ⟨by rw [hx, Mac.same_refl e f n hef], by rw [hw]; exact drewN_from w q⟩)
theorem partsK_few (ks E : Nat → BitVec 8) (s : ByteArray) (m : Nat) (many : Int) : partsK ks E s m many ≤ 20 := by
  unfold partsK
  split
  · exact split_few (splitR_spec _ _)
  · omega
theorem sealedN_few (s : ByteArray) (len : Nat) (m : Nat → Nat) : sealedN s len m ≤ 1048 := by
  unfold sealedN sealLen sealCode
  by_cases h1 : putB len m = true
  · rw [if_pos h1]
    by_cases h2 : 1 ≤ s.size ∧ s.size ≤ 40
    · rw [if_pos h2]
      by_cases h3 : 1000 < encN m len
      · rw [if_pos h3, if_neg (by decide)]
        omega
      · rw [if_neg h3, if_pos rfl]
        omega
    · rw [if_neg h2, if_neg (by decide)]
      omega
  · rw [if_neg h1]
    omega
/-- What lies in memory, whatever was called. -/
structure SealsSt (D : Nat → BitVec 8) (len : Nat) (m : Nat → Nat) (e : Nat → Nat → BitVec 8) (v : Value) (w W : World) : Prop where
  row : W.rowIs w.heap.size 46 32 (byteF D)
  parts : PartsOf W len m e v
  hk : Consts W
  hb : Below w.heap.size w W
theorem SealsSt.step {D : Nat → BitVec 8} {len : Nat} {m : Nat → Nat} {e : Nat → Nat → BitVec 8} {v : Value} {w W W' : World} (h : SealsSt D len m e v w W) (hb : Below W.heap.size W W') : SealsSt D len m e v w W' :=
  ⟨h.row.of_block (hb.block _ (World.rowIs.lt h.row)), PartsOf.below h.parts hb, h.hk.below hb (Nat.le_refl _), h.hb.trans (hb.mono h.hb.size)⟩
def postS (g : Nat) (K0 : Array Value) (s : ByteArray) (v : Value) (k sb o : Nat) (u : Value) (C : Int) (K : Nat) (M : Nat → Nat) (E : Nat → Nat → BitVec 8) (i : Nat) (x : Value) (w : World) : Prop :=
  match i with
  | 0 => x = .pointer (some ⟨g, 0, none⟩)
  | 1 => x = .agg K0
  | 2 => x = .string s
  | 3 => x = v
  | 4 => x = .int .i64 (k : Int)
  | 5 => x = .pointer (some ⟨sb, o, none⟩)
  | 6 => x = u
  | 7 => x = .int .i64 (k : Int)
  | 8 => ∃ z, x = .tuple #[z, .int .i64 C] ∧ PartsOf w K M E z
  | 9 => ∃ z, x = .tuple #[z, .int .i64 C] ∧ PartsOf w K M E z
  | 10 => PartsOf w K M E x
  | 11 => x = .int .i64 C
  | 12 => PartsOf w K M E x
  | 13 => x = .int .i64 C
  | _ => True
theorem postS_mono (g : Nat) (K0 : Array Value) (s : ByteArray) (v : Value) (k sb o : Nat) (u : Value) (C : Int) (K : Nat) (M : Nat → Nat) (E : Nat → Nat → BitVec 8) : ∀ i x w w', Below w.heap.size w w' → postS g K0 s v k sb o u C K M E i x w → postS g K0 s v k sb o u C K M E i x w' := fun i x w w' hb h => by
  match i with
  | 0 => exact h
  | 1 => exact h
  | 2 => exact h
  | 3 => exact h
  | 4 => exact h
  | 5 => exact h
  | 6 => exact h
  | 7 => exact h
  | 8 =>
    obtain ⟨z, h1, h2⟩ := h
    exact ⟨z, h1, PartsOf.below h2 hb⟩
  | 9 =>
    obtain ⟨z, h1, h2⟩ := h
    exact ⟨z, h1, PartsOf.below h2 hb⟩
  | 10 => exact PartsOf.below h hb
  | 11 => exact h
  | 12 => exact PartsOf.below h hb
  | 13 => exact h
  | _ + 14 => trivial
set_option maxRecDepth 100000 in
set_option maxHeartbeats 1000000 in
theorem seals_any (D : Nat → BitVec 8) (L : Array Value) (hL : L.size = 32) (hLi : ∀ i, i < 32 → L[i]? = some (.int .u8 ((D i).toNat : Int))) (s : ByteArray) (len : Nat) (m : Nat → Nat) (e : Nat → Nat → BitVec 8) (Ap : Option Addr) (cp : Nat) (w : World) (hk : Consts w)
    (hp : PartsOf w len m e (.slice Ap len cp)) (hm : ∀ i, i < len → m i ≤ 140737488351232) :
    Calls Tryd.prog 4 #[.agg L, .string s, .slice Ap len cp] w fun x w' => x = .returned (.bool true) ∧ Below w.heap.size w w' := by
  have hb0 : Below w.heap.size w (w.alloc (.cells L 46)) := (Below.refl _ _).alloc (Nat.le_refl _) _
  have H0 : Hid (SealsSt D len m e (.slice Ap len cp) w (w.alloc (.cells L 46))) := Lib.hid ⟨row_new w L 46 32 (byteF D) hL hLi, PartsOf.below hp hb0, hk.below hb0 (Nat.le_refl _), hb0⟩
  have HM := Lib.hid hm
  obtain ⟨K0, hK0, zK0, iK0⟩ := cells_named 16 (fun j => byteF D (0 + j)) D (fun i _ => by rw [Nat.zero_add]; rfl)
  obtain ⟨K1, hK1, zK1, iK1⟩ := cells_named 16 (fun j => byteF D (16 + j)) (fun j => D (16 + j)) (fun i _ => rfl)
  have HK0 := Lib.hid (And.intro hK0 (And.intro zK0 iK0))
  have HK1 := Lib.hid (And.intro hK1 (And.intro zK1 iK1))
  clear hL hLi hk hp hm hb0 hK0 zK0 iK0 hK1 zK1 iK1
  go_enter Tryd.func4, Tryd.ntmps4
  go_upto_region 1 with fail
  generalize w.alloc (.cells L 46) = w0 at *
  go_wp2_with fail
  refine (awake16_any w0 H0.out.hk).mono ?_
  rintro _ w1 ⟨rfl, hb1⟩
  have H1 := Lib.hid (H0.out.step hb1)
  clear hb1 H0
  go_wp2_with fail
  refine (all_any len m e _ w1 H1.out.parts HM.out).mono ?_
  rintro _ w2 ⟨k, va, hkl, rfl, -, hend, hb2⟩
  have H2 := Lib.hid (H1.out.step hb2)
  clear hb2 H1
  obtain ⟨S, hS⟩ : ∃ S, S = off m k + k := ⟨_, rfl⟩
  rw [← hS]
  by_cases hs : 100 < s.size
  · have q : (100 : Int) < (s.size : Int) := by omega
    clear hS hend
    go_wp2
    go_ret
    exact ⟨rfl, H2.out.hb⟩
  have q : ¬ (100 : Int) < (s.size : Int) := by omega
  by_cases hn : 1500 < S
  · have q2 : (1500 : Int) < (S : Int) := by omega
    clear hS hend hs
    go_wp2
    go_ret
    exact ⟨rfl, H2.out.hb⟩
  have q2 : ¬ (1500 : Int) < (S : Int) := by omega
  have hlk : len = k := by omega
  subst hlk
  have HOF : Hid (off m len + len ≤ 1500) := Lib.hid (by omega)
  clear hS hend hs hn hkl
  have r0 := H2.out.row
  have HSE := Lib.hid (sealed_any D (fun j => D (16 + j)) s K0 K1 HK0.out.2.1 HK0.out.2.2 HK1.out.2.1 HK1.out.2.2 len m e (.slice Ap len cp) w2 H2.out.hk H2.out.parts (by have := HOF.out; omega))
  go_wp2_with (first
    | (refine load_as (by rfl) 25 (.tmp 38) (by rfl) w.heap.size 0 _ 32 16 _ K0 HK0.out.1 r0 (by rfl) _ Tryd.underlying25 (by rfl) (by kernel_rfl) (by omega) ?_)
    | (refine load_as (by rfl) 25 (.tmp 41) (by rfl) w.heap.size 16 _ 32 16 _ K1 HK1.out.1 r0 (by rfl) _ Tryd.underlying25 (by rfl) (by kernel_rfl) (by omega) ?_))
  refine HSE.out.mono ?_
  rintro _ w3 ⟨A3, c3, rfl, hs3, hb3⟩
  obtain ⟨X, hX⟩ : ∃ X, X = sealedN s len m := ⟨_, rfl⟩
  have HX := Lib.hid hX
  have HXF : Hid (X ≤ 1048) := Lib.hid (by rw [hX]; exact sealedN_few _ _ _)
  rw [← hX] at hs3 ⊢
  have HS3 := Lib.hid hs3
  have H3 := Lib.hid (H2.out.step hb3)
  clear r0 hs3 hb3 hX HSE H2
  have r0 := H3.out.row
  have HSE := Lib.hid (refSealed16_any D (fun j => D (16 + j)) s K0 K1 HK0.out.2.1 HK0.out.2.2 HK1.out.2.1 HK1.out.2.2 len m e (.slice Ap len cp) w3 H3.out.parts (by have := HOF.out; omega))
  go_wp2_with (first
    | (refine load_as (by rfl) 25 (.tmp 45) (by rfl) w.heap.size 0 _ 32 16 _ K0 HK0.out.1 r0 (by rfl) _ Tryd.underlying25 (by rfl) (by kernel_rfl) (by omega) ?_)
    | (refine load_as (by rfl) 25 (.tmp 48) (by rfl) w.heap.size 16 _ 32 16 _ K1 HK1.out.1 r0 (by rfl) _ Tryd.underlying25 (by rfl) (by kernel_rfl) (by omega) ?_))
  refine HSE.out.mono ?_
  rintro _ w4 ⟨A4, c4, rfl, hs4, hb4⟩
  rw [← HX.out] at hs4 ⊢
  have HS34 := Lib.hid (slice_next HS3.out hb4)
  have HSM := Lib.hid (same_true16 A3 A4 X c3 c4 _ _ _ _ w4 HS34.out hs4 (by have := HXF.out; omega) (fun _ _ => rfl))
  have H4 := Lib.hid (H3.out.step hb4)
  clear r0 hs4 hb4 HSE H3 HS3
  go_wp2_with fail
  refine HSM.out.mono ?_
  rintro _ w5 ⟨rfl, hb5⟩
  have H5 := Lib.hid (H4.out.step hb5)
  have HS5 := Lib.hid (slice_next HS34.out hb5)
  clear hb5 HSM H4 HS34
  go_upto_region 10 with fail
  go_wp2_with fail
  go_loopw [13, 14, 15, 16, 17, 18] (fun iv _ _ _ _ _ wr => ∃ k : Nat, k ≤ len ∧ iv = .int .i64 (k : Int) ∧ Hid (Below w5.heap.size w5 wr)) (fun i _ _ _ _ _ _ => len - (intOf i).toNat)
  case atStart => exact ⟨0, by omega, rfl, Lib.hid (Below.refl _ _)⟩
  case round =>
    obtain ⟨k, hk, rfl, hbr⟩ := hrel
    have HS := Lib.hid (H5.out.step hbr.out)
    by_cases hlt : k < len
    · by_cases h3 : k < 3
      · have q3 : (k : Int) < (len : Int) := by omega
        have q4 : (k : Int) < 3 := by omega
        go_upto_region 13 with fail
        have hpp := HS.out.parts
        obtain ⟨sb, so, Au, cu, rfl, hu, hsu⟩ := PartsOf.at_ hpp k hlt
        have HU := Lib.hid (And.intro hu hsu)
        obtain ⟨C, hC⟩ : ∃ C, C = partsC (keysB D s) (e k) s (m k) (k : Int) := ⟨_, rfl⟩
        obtain ⟨K, hK⟩ : ∃ C, C = partsK (keysB D s) (e k) s (m k) (k : Int) := ⟨_, rfl⟩
        obtain ⟨M, hM⟩ : ∃ C, C = fieldM (openB (keysB D s) (e k)) := ⟨_, rfl⟩
        obtain ⟨E, hE⟩ : ∃ C, C = fieldE (openB (keysB D s) (e k)) := ⟨_, rfl⟩
        have HKF : Hid (K ≤ 20 ∧ ∀ i, M i ≤ 65535) := Lib.hid ⟨by rw [hK]; exact partsK_few _ _ _ _ _, fun i => by rw [hM]; exact fieldM_lt _ i⟩
        have HCA : Hid (∀ W, Below wr.heap.size wr W → Calls Tryd.prog 15 #[.agg K0, .string s, .slice Au (m k) cu, .int .i64 (k : Int)] W fun x w' => ∃ v, x = .returned (.tuple #[v, .int .i64 C]) ∧ PartsOf w' K M E v ∧ Below W.heap.size W w') := Lib.hid fun W hW => by
          refine (parts_any D (e k) s K0 HK0.out.2.1 HK0.out.2.2 Au (m k) cu (k : Int) W (HS.out.step hW).hk (slice_next hsu hW)).mono ?_
          rintro x w' ⟨v, Rv, hx, ho, hb⟩
          rw [← hK, ← hM, ← hE] at ho
          rw [← hC] at hx
          exact ⟨v, hx, ho.parts, hb⟩
        have HCB : Hid (∀ W, Below wr.heap.size wr W → Calls Tryd.prog 16 #[.agg K0, .string s, .slice Au (m k) cu, .int .i64 (k : Int)] W fun x w' => ∃ v, x = .returned (.tuple #[v, .int .i64 C]) ∧ PartsOf w' K M E v ∧ Below W.heap.size W w') := Lib.hid fun W hW => by
          refine (refParts16_any D (e k) s K0 HK0.out.2.1 HK0.out.2.2 Au (m k) cu (k : Int) W (slice_next hsu hW)).mono ?_
          rintro x w' ⟨v, Rv, hx, ho, hb⟩
          rw [← hK, ← hM, ← hE] at ho
          rw [← hC] at hx
          exact ⟨v, hx, ho.parts, hb⟩
        clear hpp hu hsu hC hK hM hE
        refine region_inv_all (postS w.heap.size K0 s (.slice (some ⟨sb, so, none⟩) len cp) k sb (so + k) (.slice Au (m k) cu) C K M E) 14 (by kernel_rfl) (by kernel_rfl) (by kernel_rfl) (postS_mono _ _ _ _ _ _ _ _ _ _ _ _) ?_ ?_
        · refine ⟨⟨⟨⟨⟨⟨⟨⟨⟨⟨⟨⟨⟨⟨trivial, ?_⟩, ?_⟩, ?_⟩, ?_⟩, ?_⟩, ?_⟩, ?_⟩, ?_⟩, ?_⟩, ?_⟩, ?_⟩, ?_⟩, ?_⟩, ?_⟩
          · refine ⟨_, rfl, fun xs W hW hd => ?_⟩
            clear hd
            simp only [fillI, List.take, List.setIfInBounds_toArray, List.set_cons_zero, List.set_cons_succ, Nat.reduceAdd, Nat.zero_add]
            go_wp2_with fail
            refine ⟨_, by (simp only [upd, Nat.reduceEqDiff, reduceIte]; rfl), ?_, ?_⟩
            · rfl
            · exact Below.refl _ _
          · refine ⟨_, rfl, fun xs W hW hd => ?_⟩
            have h0 : xs 0 = .pointer (some ⟨w.heap.size, 0, none⟩) := hd 0 (by kernel_rfl)
            have hr := (HS.out.step (undrew hW)).row
            clear hd
            rw [upd_self h0]
            simp only [fillI, List.take, List.setIfInBounds_toArray, List.set_cons_zero, List.set_cons_succ, Nat.reduceAdd, Nat.zero_add, upd, Nat.reduceEqDiff, reduceIte]
            refine load_as (by rfl) 25 (.tmp 68) (by rfl) w.heap.size 0 _ 32 16 _ K0 HK0.out.1 hr (by rfl) _ Tryd.underlying25 (by rfl) (by kernel_rfl) (by omega) ?_
            refine ⟨_, by (simp only [upd, Nat.reduceEqDiff, reduceIte]; rfl), ?_, ?_⟩
            · rfl
            · exact Below.refl _ _
          · refine ⟨_, rfl, fun xs W hW hd => ?_⟩
            clear hd
            simp only [fillI, List.take, List.setIfInBounds_toArray, List.set_cons_zero, List.set_cons_succ, Nat.reduceAdd, Nat.zero_add]
            go_wp2_with fail
            refine ⟨_, by (simp only [upd, Nat.reduceEqDiff, reduceIte]; rfl), ?_, ?_⟩
            · rfl
            · exact Below.refl _ _
          · refine ⟨_, rfl, fun xs W hW hd => ?_⟩
            clear hd
            simp only [fillI, List.take, List.setIfInBounds_toArray, List.set_cons_zero, List.set_cons_succ, Nat.reduceAdd, Nat.zero_add]
            go_wp2_with fail
            refine ⟨_, by (simp only [upd, Nat.reduceEqDiff, reduceIte]; rfl), ?_, ?_⟩
            · rfl
            · exact Below.refl _ _
          · refine ⟨_, rfl, fun xs W hW hd => ?_⟩
            clear hd
            simp only [fillI, List.take, List.setIfInBounds_toArray, List.set_cons_zero, List.set_cons_succ, Nat.reduceAdd, Nat.zero_add]
            go_wp2_with fail
            refine ⟨_, by (simp only [upd, Nat.reduceEqDiff, reduceIte]; rfl), ?_, ?_⟩
            · rfl
            · exact Below.refl _ _
          · refine ⟨_, rfl, fun xs W hW hd => ?_⟩
            have h3 : xs 3 = .slice (some ⟨sb, so, none⟩) len cp := hd 3 (by kernel_rfl)
            have h4 : xs 4 = .int .i64 (k : Int) := hd 4 (by kernel_rfl)
            have q0 : (0 : Int) ≤ (k : Int) := by omega
            have q1 : (k : Int) < (len : Int) := by omega
            clear hd
            rw [upd_self h3]
            rw [upd_self h4]
            simp only [fillI, List.take, List.setIfInBounds_toArray, List.set_cons_zero, List.set_cons_succ, Nat.reduceAdd, Nat.zero_add, upd, Nat.reduceEqDiff, reduceIte]
            go_wp2_with fail
            refine ⟨_, by (simp only [upd, Nat.reduceEqDiff, reduceIte]; rfl), ?_, ?_⟩
            · rfl
            · exact Below.refl _ _
          · refine ⟨_, rfl, fun xs W hW hd => ?_⟩
            have h5 : xs 5 = .pointer (some ⟨sb, so + k, none⟩) := hd 5 (by kernel_rfl)
            have cc := ((undrew hW).cell (p := ⟨sb, so + k, none⟩) (block_lt_of_cell HU.out.1)).trans HU.out.1
            clear hd
            rw [upd_self h5]
            simp only [fillI, List.take, List.setIfInBounds_toArray, List.set_cons_zero, List.set_cons_succ, Nat.reduceAdd, Nat.zero_add, upd, Nat.reduceEqDiff, reduceIte]
            go_wp2_with fail
            refine ⟨_, by (simp only [upd, Nat.reduceEqDiff, reduceIte]; rfl), ?_, ?_⟩
            · rfl
            · exact Below.refl _ _
          · refine ⟨_, rfl, fun xs W hW hd => ?_⟩
            clear hd
            simp only [fillI, List.take, List.setIfInBounds_toArray, List.set_cons_zero, List.set_cons_succ, Nat.reduceAdd, Nat.zero_add]
            go_wp2_with fail
            refine ⟨_, by (simp only [upd, Nat.reduceEqDiff, reduceIte]; rfl), ?_, ?_⟩
            · rfl
            · exact Below.refl _ _
          · refine ⟨_, rfl, fun xs W hW hd => ?_⟩
            have h1 : xs 1 = .agg K0 := hd 1 (by kernel_rfl)
            have h2 : xs 2 = .string s := hd 2 (by kernel_rfl)
            have h6 : xs 6 = .slice Au (m k) cu := hd 6 (by kernel_rfl)
            have h7 : xs 7 = .int .i64 (k : Int) := hd 7 (by kernel_rfl)
            have HC := Lib.hid (HCA.out W (undrew hW))
            clear hd
            rw [upd_self h1]
            rw [upd_self h2]
            rw [upd_self h6]
            rw [upd_self h7]
            simp only [fillI, List.take, List.setIfInBounds_toArray, List.set_cons_zero, List.set_cons_succ, Nat.reduceAdd, Nat.zero_add, upd, Nat.reduceEqDiff, reduceIte]
            go_wp2_with fail
            refine HC.out.mono ?_
            rintro _ W2 ⟨v, rfl, hv, hb2⟩
            have HV := Lib.hid hv
            have HB2 := Lib.hid hb2
            clear hv hb2
            go_wp2_with fail
            refine ⟨_, by (simp only [upd, Nat.reduceEqDiff, reduceIte]; rfl), ?_, ?_⟩
            · exact ⟨v, rfl, HV.out⟩
            · exact HB2.out
          · refine ⟨_, rfl, fun xs W hW hd => ?_⟩
            obtain ⟨v, h8, hv⟩ : ∃ v, xs 8 = .tuple #[v, .int .i64 C] ∧ PartsOf W K M E v := hd 8 (by kernel_rfl)
            have HV := Lib.hid hv
            clear hv
            clear hd
            rw [upd_self h8]
            simp only [fillI, List.take, List.setIfInBounds_toArray, List.set_cons_zero, List.set_cons_succ, Nat.reduceAdd, Nat.zero_add, upd, Nat.reduceEqDiff, reduceIte]
            go_wp2_with fail
            refine ⟨_, by (simp only [upd, Nat.reduceEqDiff, reduceIte]; rfl), ?_, ?_⟩
            · exact ⟨v, rfl, HV.out⟩
            · exact Below.refl _ _
          · refine ⟨_, rfl, fun xs W hW hd => ?_⟩
            obtain ⟨v, h9, hv⟩ : ∃ v, xs 9 = .tuple #[v, .int .i64 C] ∧ PartsOf W K M E v := hd 9 (by kernel_rfl)
            have HV := Lib.hid hv
            clear hv
            clear hd
            rw [upd_self h9]
            simp only [fillI, List.take, List.setIfInBounds_toArray, List.set_cons_zero, List.set_cons_succ, Nat.reduceAdd, Nat.zero_add, upd, Nat.reduceEqDiff, reduceIte]
            go_wp2_with fail
            refine ⟨_, by (simp only [upd, Nat.reduceEqDiff, reduceIte]; rfl), ?_, ?_⟩
            · exact HV.out
            · exact Below.refl _ _
          · refine ⟨_, rfl, fun xs W hW hd => ?_⟩
            obtain ⟨v, h9, hv⟩ : ∃ v, xs 9 = .tuple #[v, .int .i64 C] ∧ PartsOf W K M E v := hd 9 (by kernel_rfl)
            clear hd
            rw [upd_self h9]
            simp only [fillI, List.take, List.setIfInBounds_toArray, List.set_cons_zero, List.set_cons_succ, Nat.reduceAdd, Nat.zero_add, upd, Nat.reduceEqDiff, reduceIte]
            go_wp2_with fail
            refine ⟨_, by (simp only [upd, Nat.reduceEqDiff, reduceIte]; rfl), ?_, ?_⟩
            · rfl
            · exact Below.refl _ _
          · refine ⟨_, rfl, fun xs W hW hd => ?_⟩
            have h10 : PartsOf W K M E (xs 10) := hd 10 (by kernel_rfl)
            have HV := Lib.hid h10
            generalize hx10 : xs 10 = p10 at *
            clear h10
            clear hd
            rw [upd_self hx10]
            simp only [fillI, List.take, List.setIfInBounds_toArray, List.set_cons_zero, List.set_cons_succ, Nat.reduceAdd, Nat.zero_add, upd, Nat.reduceEqDiff, reduceIte]
            go_wp2_with fail
            refine ⟨_, by (simp only [upd, Nat.reduceEqDiff, reduceIte]; rfl), ?_, ?_⟩
            · exact HV.out
            · exact Below.refl _ _
          · refine ⟨_, rfl, fun xs W hW hd => ?_⟩
            have h11 : xs 11 = .int .i64 C := hd 11 (by kernel_rfl)
            clear hd
            rw [upd_self h11]
            simp only [fillI, List.take, List.setIfInBounds_toArray, List.set_cons_zero, List.set_cons_succ, Nat.reduceAdd, Nat.zero_add, upd, Nat.reduceEqDiff, reduceIte]
            go_wp2_with fail
            refine ⟨_, by (simp only [upd, Nat.reduceEqDiff, reduceIte]; rfl), ?_, ?_⟩
            · rfl
            · exact Below.refl _ _
        · intro xs w6 hW hp
          have h12 : PartsOf w6 K M E (xs 12) := hp 12 (by omega)
          have h13 : xs 13 = .int .i64 C := hp 13 (by omega)
          have hb6 := undrew hW
          obtain ⟨Aa, ca, ea, -⟩ := id h12
          have HA := Lib.hid h12
          have HBW : Hid (Below wr.heap.size wr w6) := Lib.hid hb6
          rw [ea] at HA
          rw [upd_self ea, upd_self h13]
          simp only [fillI, List.take, List.setIfInBounds_toArray, List.set_cons_zero, List.set_cons_succ, Nat.reduceAdd, Nat.zero_add, upd, Nat.reduceEqDiff, reduceIte]
          clear hp hW h12 h13 ea hb6 HCA
          generalize xs 0 = y0 at *
          generalize xs 1 = y1 at *
          generalize xs 2 = y2 at *
          generalize xs 3 = y3 at *
          generalize xs 4 = y4 at *
          generalize xs 5 = y5 at *
          generalize xs 6 = y6 at *
          generalize xs 7 = y7 at *
          generalize xs 8 = y8 at *
          generalize xs 9 = y9 at *
          generalize xs 10 = y10 at *
          generalize xs 11 = y11 at *
          clear xs
          go_upto_region 14 with fail
          have HCC : Hid (∀ W, Below w6.heap.size w6 W → Calls Tryd.prog 16 #[.agg K0, .string s, .slice Au (m k) cu, .int .i64 (k : Int)] W fun x w' => ∃ v, x = .returned (.tuple #[v, .int .i64 C]) ∧ PartsOf w' K M E v ∧ Below W.heap.size W w') := Lib.hid fun W hW => HCB.out W (HBW.out.trans (hW.mono HBW.out.size))
          have HS6 := Lib.hid (HS.out.step HBW.out)
          have HU6 : Hid (w6.cell? ⟨sb, so + k, none⟩ = some (.slice Au (m k) cu) ∧ True) := Lib.hid ⟨(HBW.out.cell (p := ⟨sb, so + k, none⟩) (block_lt_of_cell HU.out.1)).trans HU.out.1, trivial⟩
          have HB6 : Hid (Below w5.heap.size w5 w6) := Lib.hid (hbr.out.trans (HBW.out.mono hbr.out.size))
          clear HCB HS HU HBW hbr
          refine region_inv_all (postS w.heap.size K0 s (.slice (some ⟨sb, so, none⟩) len cp) k sb (so + k) (.slice Au (m k) cu) C K M E) 14 (by kernel_rfl) (by kernel_rfl) (by kernel_rfl) (postS_mono _ _ _ _ _ _ _ _ _ _ _ _) ?_ ?_
          · refine ⟨⟨⟨⟨⟨⟨⟨⟨⟨⟨⟨⟨⟨⟨trivial, ?_⟩, ?_⟩, ?_⟩, ?_⟩, ?_⟩, ?_⟩, ?_⟩, ?_⟩, ?_⟩, ?_⟩, ?_⟩, ?_⟩, ?_⟩, ?_⟩
            · refine ⟨_, rfl, fun xs W hW hd => ?_⟩
              clear hd
              simp only [fillI, List.take, List.setIfInBounds_toArray, List.set_cons_zero, List.set_cons_succ, Nat.reduceAdd, Nat.zero_add]
              go_wp2_with fail
              refine ⟨_, by (simp only [upd, Nat.reduceEqDiff, reduceIte]; rfl), ?_, ?_⟩
              · rfl
              · exact Below.refl _ _
            · refine ⟨_, rfl, fun xs W hW hd => ?_⟩
              have h0 : xs 0 = .pointer (some ⟨w.heap.size, 0, none⟩) := hd 0 (by kernel_rfl)
              have hr := (HS6.out.step (undrew hW)).row
              clear hd
              rw [upd_self h0]
              simp only [fillI, List.take, List.setIfInBounds_toArray, List.set_cons_zero, List.set_cons_succ, Nat.reduceAdd, Nat.zero_add, upd, Nat.reduceEqDiff, reduceIte]
              refine load_as (by rfl) 25 (.tmp 80) (by rfl) w.heap.size 0 _ 32 16 _ K0 HK0.out.1 hr (by rfl) _ Tryd.underlying25 (by rfl) (by kernel_rfl) (by omega) ?_
              refine ⟨_, by (simp only [upd, Nat.reduceEqDiff, reduceIte]; rfl), ?_, ?_⟩
              · rfl
              · exact Below.refl _ _
            · refine ⟨_, rfl, fun xs W hW hd => ?_⟩
              clear hd
              simp only [fillI, List.take, List.setIfInBounds_toArray, List.set_cons_zero, List.set_cons_succ, Nat.reduceAdd, Nat.zero_add]
              go_wp2_with fail
              refine ⟨_, by (simp only [upd, Nat.reduceEqDiff, reduceIte]; rfl), ?_, ?_⟩
              · rfl
              · exact Below.refl _ _
            · refine ⟨_, rfl, fun xs W hW hd => ?_⟩
              clear hd
              simp only [fillI, List.take, List.setIfInBounds_toArray, List.set_cons_zero, List.set_cons_succ, Nat.reduceAdd, Nat.zero_add]
              go_wp2_with fail
              refine ⟨_, by (simp only [upd, Nat.reduceEqDiff, reduceIte]; rfl), ?_, ?_⟩
              · rfl
              · exact Below.refl _ _
            · refine ⟨_, rfl, fun xs W hW hd => ?_⟩
              clear hd
              simp only [fillI, List.take, List.setIfInBounds_toArray, List.set_cons_zero, List.set_cons_succ, Nat.reduceAdd, Nat.zero_add]
              go_wp2_with fail
              refine ⟨_, by (simp only [upd, Nat.reduceEqDiff, reduceIte]; rfl), ?_, ?_⟩
              · rfl
              · exact Below.refl _ _
            · refine ⟨_, rfl, fun xs W hW hd => ?_⟩
              have h3 : xs 3 = .slice (some ⟨sb, so, none⟩) len cp := hd 3 (by kernel_rfl)
              have h4 : xs 4 = .int .i64 (k : Int) := hd 4 (by kernel_rfl)
              have q0 : (0 : Int) ≤ (k : Int) := by omega
              have q1 : (k : Int) < (len : Int) := by omega
              clear hd
              rw [upd_self h3]
              rw [upd_self h4]
              simp only [fillI, List.take, List.setIfInBounds_toArray, List.set_cons_zero, List.set_cons_succ, Nat.reduceAdd, Nat.zero_add, upd, Nat.reduceEqDiff, reduceIte]
              go_wp2_with fail
              refine ⟨_, by (simp only [upd, Nat.reduceEqDiff, reduceIte]; rfl), ?_, ?_⟩
              · rfl
              · exact Below.refl _ _
            · refine ⟨_, rfl, fun xs W hW hd => ?_⟩
              have h5 : xs 5 = .pointer (some ⟨sb, so + k, none⟩) := hd 5 (by kernel_rfl)
              have cc := ((undrew hW).cell (p := ⟨sb, so + k, none⟩) (block_lt_of_cell HU6.out.1)).trans HU6.out.1
              clear hd
              rw [upd_self h5]
              simp only [fillI, List.take, List.setIfInBounds_toArray, List.set_cons_zero, List.set_cons_succ, Nat.reduceAdd, Nat.zero_add, upd, Nat.reduceEqDiff, reduceIte]
              go_wp2_with fail
              refine ⟨_, by (simp only [upd, Nat.reduceEqDiff, reduceIte]; rfl), ?_, ?_⟩
              · rfl
              · exact Below.refl _ _
            · refine ⟨_, rfl, fun xs W hW hd => ?_⟩
              clear hd
              simp only [fillI, List.take, List.setIfInBounds_toArray, List.set_cons_zero, List.set_cons_succ, Nat.reduceAdd, Nat.zero_add]
              go_wp2_with fail
              refine ⟨_, by (simp only [upd, Nat.reduceEqDiff, reduceIte]; rfl), ?_, ?_⟩
              · rfl
              · exact Below.refl _ _
            · refine ⟨_, rfl, fun xs W hW hd => ?_⟩
              have h1 : xs 1 = .agg K0 := hd 1 (by kernel_rfl)
              have h2 : xs 2 = .string s := hd 2 (by kernel_rfl)
              have h6 : xs 6 = .slice Au (m k) cu := hd 6 (by kernel_rfl)
              have h7 : xs 7 = .int .i64 (k : Int) := hd 7 (by kernel_rfl)
              have HC := Lib.hid (HCC.out W (undrew hW))
              clear hd
              rw [upd_self h1]
              rw [upd_self h2]
              rw [upd_self h6]
              rw [upd_self h7]
              simp only [fillI, List.take, List.setIfInBounds_toArray, List.set_cons_zero, List.set_cons_succ, Nat.reduceAdd, Nat.zero_add, upd, Nat.reduceEqDiff, reduceIte]
              go_wp2_with fail
              refine HC.out.mono ?_
              rintro _ W2 ⟨v, rfl, hv, hb2⟩
              have HV := Lib.hid hv
              have HB2 := Lib.hid hb2
              clear hv hb2
              go_wp2_with fail
              refine ⟨_, by (simp only [upd, Nat.reduceEqDiff, reduceIte]; rfl), ?_, ?_⟩
              · exact ⟨v, rfl, HV.out⟩
              · exact HB2.out
            · refine ⟨_, rfl, fun xs W hW hd => ?_⟩
              obtain ⟨v, h8, hv⟩ : ∃ v, xs 8 = .tuple #[v, .int .i64 C] ∧ PartsOf W K M E v := hd 8 (by kernel_rfl)
              have HV := Lib.hid hv
              clear hv
              clear hd
              rw [upd_self h8]
              simp only [fillI, List.take, List.setIfInBounds_toArray, List.set_cons_zero, List.set_cons_succ, Nat.reduceAdd, Nat.zero_add, upd, Nat.reduceEqDiff, reduceIte]
              go_wp2_with fail
              refine ⟨_, by (simp only [upd, Nat.reduceEqDiff, reduceIte]; rfl), ?_, ?_⟩
              · exact ⟨v, rfl, HV.out⟩
              · exact Below.refl _ _
            · refine ⟨_, rfl, fun xs W hW hd => ?_⟩
              obtain ⟨v, h9, hv⟩ : ∃ v, xs 9 = .tuple #[v, .int .i64 C] ∧ PartsOf W K M E v := hd 9 (by kernel_rfl)
              have HV := Lib.hid hv
              clear hv
              clear hd
              rw [upd_self h9]
              simp only [fillI, List.take, List.setIfInBounds_toArray, List.set_cons_zero, List.set_cons_succ, Nat.reduceAdd, Nat.zero_add, upd, Nat.reduceEqDiff, reduceIte]
              go_wp2_with fail
              refine ⟨_, by (simp only [upd, Nat.reduceEqDiff, reduceIte]; rfl), ?_, ?_⟩
              · exact HV.out
              · exact Below.refl _ _
            · refine ⟨_, rfl, fun xs W hW hd => ?_⟩
              obtain ⟨v, h9, hv⟩ : ∃ v, xs 9 = .tuple #[v, .int .i64 C] ∧ PartsOf W K M E v := hd 9 (by kernel_rfl)
              clear hd
              rw [upd_self h9]
              simp only [fillI, List.take, List.setIfInBounds_toArray, List.set_cons_zero, List.set_cons_succ, Nat.reduceAdd, Nat.zero_add, upd, Nat.reduceEqDiff, reduceIte]
              go_wp2_with fail
              refine ⟨_, by (simp only [upd, Nat.reduceEqDiff, reduceIte]; rfl), ?_, ?_⟩
              · rfl
              · exact Below.refl _ _
            · refine ⟨_, rfl, fun xs W hW hd => ?_⟩
              have h10 : PartsOf W K M E (xs 10) := hd 10 (by kernel_rfl)
              have HV := Lib.hid h10
              generalize hx10 : xs 10 = p10 at *
              clear h10
              clear hd
              rw [upd_self hx10]
              simp only [fillI, List.take, List.setIfInBounds_toArray, List.set_cons_zero, List.set_cons_succ, Nat.reduceAdd, Nat.zero_add, upd, Nat.reduceEqDiff, reduceIte]
              go_wp2_with fail
              refine ⟨_, by (simp only [upd, Nat.reduceEqDiff, reduceIte]; rfl), ?_, ?_⟩
              · exact HV.out
              · exact Below.refl _ _
            · refine ⟨_, rfl, fun xs W hW hd => ?_⟩
              have h11 : xs 11 = .int .i64 C := hd 11 (by kernel_rfl)
              clear hd
              rw [upd_self h11]
              simp only [fillI, List.take, List.setIfInBounds_toArray, List.set_cons_zero, List.set_cons_succ, Nat.reduceAdd, Nat.zero_add, upd, Nat.reduceEqDiff, reduceIte]
              go_wp2_with fail
              refine ⟨_, by (simp only [upd, Nat.reduceEqDiff, reduceIte]; rfl), ?_, ?_⟩
              · rfl
              · exact Below.refl _ _
          · intro xs w7 hW hp
            have h12 : PartsOf w7 K M E (xs 12) := hp 12 (by omega)
            have h13 : xs 13 = .int .i64 C := hp 13 (by omega)
            have hb7 := undrew hW
            obtain ⟨Ab, cb, eb, -⟩ := id h12
            have HA7 := Lib.hid (PartsOf.below HA.out hb7)
            have HB7 := Lib.hid h12
            have HBW : Hid (Below w5.heap.size w5 w7) := Lib.hid (HB6.out.trans (hb7.mono HB6.out.size))
            rw [eb] at HB7
            rw [upd_self eb, upd_self h13]
            simp only [fillI, List.take, List.setIfInBounds_toArray, List.set_cons_zero, List.set_cons_succ, Nat.reduceAdd, Nat.zero_add, upd, Nat.reduceEqDiff, reduceIte]
            clear hp hW h12 h13 eb hb7 HCC HS6 HU6 HB6 HA
            generalize xs 0 = z0 at *
            generalize xs 1 = z1 at *
            generalize xs 2 = z2 at *
            generalize xs 3 = z3 at *
            generalize xs 4 = z4 at *
            generalize xs 5 = z5 at *
            generalize xs 6 = z6 at *
            generalize xs 7 = z7 at *
            generalize xs 8 = z8 at *
            generalize xs 9 = z9 at *
            generalize xs 10 = z10 at *
            generalize xs 11 = z11 at *
            clear xs
            have HSM := Lib.hid (refSame_any K M E _ _ w7 HA7.out HB7.out (by have := HKF.out.1; omega) (fun i _ => by have := HKF.out.2 i; omega))
            go_wp2_with fail
            refine HSM.out.mono ?_
            rintro _ w8 ⟨rfl, hb8⟩
            have HB8 : Hid (Below w5.heap.size w5 w8) := Lib.hid (HBW.out.trans (hb8.mono HBW.out.size))
            have hw : wrap64 ((k : Int) + 1) = (k : Int) + 1 := by unfold wrap64; omega
            clear hb8 HSM HBW HA7 HB7
            go_wp2
            exact ⟨⟨k + 1, by omega, congrArg (Value.int .i64) (by omega), HB8⟩, by simp [intOf]; omega⟩
      · have q3 : (k : Int) < (len : Int) := by omega
        have q4 : ¬ (k : Int) < 3 := by omega
        go_upto_region 18 with fail
        clear q3 q4
        have HSW := Lib.hid (slice_next HS5.out hbr.out)
        have r0 := HS.out.row
        obtain ⟨C, hC⟩ : ∃ C, C = partsC (keysB D s) (sealedB D (fun j => D (16 + j)) s len m e) s X (len : Int) := ⟨_, rfl⟩
        obtain ⟨K, hK⟩ : ∃ C, C = partsK (keysB D s) (sealedB D (fun j => D (16 + j)) s len m e) s X (len : Int) := ⟨_, rfl⟩
        obtain ⟨M, hM⟩ : ∃ C, C = fieldM (openB (keysB D s) (sealedB D (fun j => D (16 + j)) s len m e)) := ⟨_, rfl⟩
        obtain ⟨E, hE⟩ : ∃ C, C = fieldE (openB (keysB D s) (sealedB D (fun j => D (16 + j)) s len m e)) := ⟨_, rfl⟩
        have HKF : Hid (K ≤ 20 ∧ ∀ i, M i ≤ 65535) := Lib.hid ⟨by rw [hK]; exact partsK_few _ _ _ _ _, fun i => by rw [hM]; exact fieldM_lt _ i⟩
        have HCA := Lib.hid (parts_any D (sealedB D (fun j => D (16 + j)) s len m e) s K0 HK0.out.2.1 HK0.out.2.2 A3 X c3 (len : Int) wr HS.out.hk HSW.out)
        have HC := Lib.hid hC
        have HK := Lib.hid (And.intro hK (And.intro hM hE))
        clear hC hK hM hE
        go_wp2_with (refine load_as (by rfl) 25 (.tmp 102) (by rfl) w.heap.size 0 _ 32 16 _ K0 HK0.out.1 r0 (by rfl) _ Tryd.underlying25 (by rfl) (by kernel_rfl) (by omega) ?_)
        refine HCA.out.mono ?_
        rintro _ w6 ⟨va6, Ra, rfl, hoa, hb6⟩
        rw [← HC.out]
        rw [← HK.out.1, ← HK.out.2.1, ← HK.out.2.2] at hoa
        have HA := Lib.hid hoa.parts
        obtain ⟨Aa, ca, rfl⟩ := hoa.shape
        have HS6 := Lib.hid (HS.out.step hb6)
        have HSW6 := Lib.hid (slice_next HSW.out hb6)
        clear r0 hoa hb6 HCA HS HSW hbr
        have r0 := HS6.out.row
        have HCB := Lib.hid (refParts16_any D (sealedB D (fun j => D (16 + j)) s len m e) s K0 HK0.out.2.1 HK0.out.2.2 A3 X c3 (len : Int) w6 HSW6.out)
        go_wp2_with (refine load_as (by rfl) 25 (.tmp 112) (by rfl) w.heap.size 0 _ 32 16 _ K0 HK0.out.1 r0 (by rfl) _ Tryd.underlying25 (by rfl) (by kernel_rfl) (by omega) ?_)
        refine HCB.out.mono ?_
        rintro _ w7 ⟨vb7, Rb, rfl, hob, hb7⟩
        rw [← HC.out]
        rw [← HK.out.1, ← HK.out.2.1, ← HK.out.2.2] at hob
        have HB7 := Lib.hid hob.parts
        obtain ⟨Ab, cb, rfl⟩ := hob.shape
        have HA7 := Lib.hid (PartsOf.below HA.out hb7)
        have HS7 := Lib.hid (HS6.out.step hb7)
        clear r0 hob hb7 HCB HS6 HSW6 HA
        have HSM := Lib.hid (refSame_any K M E _ _ w7 HA7.out HB7.out (by have := HKF.out.1; omega) (fun i _ => by have := HKF.out.2 i; omega))
        go_wp2_with fail
        refine HSM.out.mono ?_
        rintro _ w8 ⟨rfl, hb8⟩
        have HB8 := Lib.hid (HS7.out.step hb8).hb
        clear hb8 HSM HA7 HB7 HS7
        go_wp2
        go_ret
        exact ⟨rfl, HB8.out⟩
    · have q3 : ¬ (k : Int) < (len : Int) := by omega
      go_upto_region 18 with fail
      clear q3
      have HSW := Lib.hid (slice_next HS5.out hbr.out)
      have r0 := HS.out.row
      obtain ⟨C, hC⟩ : ∃ C, C = partsC (keysB D s) (sealedB D (fun j => D (16 + j)) s len m e) s X (len : Int) := ⟨_, rfl⟩
      obtain ⟨K, hK⟩ : ∃ C, C = partsK (keysB D s) (sealedB D (fun j => D (16 + j)) s len m e) s X (len : Int) := ⟨_, rfl⟩
      obtain ⟨M, hM⟩ : ∃ C, C = fieldM (openB (keysB D s) (sealedB D (fun j => D (16 + j)) s len m e)) := ⟨_, rfl⟩
      obtain ⟨E, hE⟩ : ∃ C, C = fieldE (openB (keysB D s) (sealedB D (fun j => D (16 + j)) s len m e)) := ⟨_, rfl⟩
      have HKF : Hid (K ≤ 20 ∧ ∀ i, M i ≤ 65535) := Lib.hid ⟨by rw [hK]; exact partsK_few _ _ _ _ _, fun i => by rw [hM]; exact fieldM_lt _ i⟩
      have HCA := Lib.hid (parts_any D (sealedB D (fun j => D (16 + j)) s len m e) s K0 HK0.out.2.1 HK0.out.2.2 A3 X c3 (len : Int) wr HS.out.hk HSW.out)
      have HC := Lib.hid hC
      have HK := Lib.hid (And.intro hK (And.intro hM hE))
      clear hC hK hM hE
      go_wp2_with (refine load_as (by rfl) 25 (.tmp 102) (by rfl) w.heap.size 0 _ 32 16 _ K0 HK0.out.1 r0 (by rfl) _ Tryd.underlying25 (by rfl) (by kernel_rfl) (by omega) ?_)
      refine HCA.out.mono ?_
      rintro _ w6 ⟨va6, Ra, rfl, hoa, hb6⟩
      rw [← HC.out]
      rw [← HK.out.1, ← HK.out.2.1, ← HK.out.2.2] at hoa
      have HA := Lib.hid hoa.parts
      obtain ⟨Aa, ca, rfl⟩ := hoa.shape
      have HS6 := Lib.hid (HS.out.step hb6)
      have HSW6 := Lib.hid (slice_next HSW.out hb6)
      clear r0 hoa hb6 HCA HS HSW hbr
      have r0 := HS6.out.row
      have HCB := Lib.hid (refParts16_any D (sealedB D (fun j => D (16 + j)) s len m e) s K0 HK0.out.2.1 HK0.out.2.2 A3 X c3 (len : Int) w6 HSW6.out)
      go_wp2_with (refine load_as (by rfl) 25 (.tmp 112) (by rfl) w.heap.size 0 _ 32 16 _ K0 HK0.out.1 r0 (by rfl) _ Tryd.underlying25 (by rfl) (by kernel_rfl) (by omega) ?_)
      refine HCB.out.mono ?_
      rintro _ w7 ⟨vb7, Rb, rfl, hob, hb7⟩
      rw [← HC.out]
      rw [← HK.out.1, ← HK.out.2.1, ← HK.out.2.2] at hob
      have HB7 := Lib.hid hob.parts
      obtain ⟨Ab, cb, rfl⟩ := hob.shape
      have HA7 := Lib.hid (PartsOf.below HA.out hb7)
      have HS7 := Lib.hid (HS6.out.step hb7)
      clear r0 hob hb7 HCB HS6 HSW6 HA
      have HSM := Lib.hid (refSame_any K M E _ _ w7 HA7.out HB7.out (by have := HKF.out.1; omega) (fun i _ => by have := HKF.out.2 i; omega))
      go_wp2_with fail
      refine HSM.out.mono ?_
      rintro _ w8 ⟨rfl, hb8⟩
      have HB8 := Lib.hid (HS7.out.step hb8).hb
      clear hb8 HSM HA7 HB7 HS7
      go_wp2
      go_ret
      exact ⟨rfl, HB8.out⟩
end Go.Proofs.YtaakhldhmoaplaaDoor.Kdc
