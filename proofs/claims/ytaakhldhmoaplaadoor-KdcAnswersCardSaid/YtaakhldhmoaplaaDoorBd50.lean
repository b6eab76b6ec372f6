/-
  What the document's Answer does. The walk of bartizanlaw16.KdcAnswers: for every book, note and draws it returns true, and writes nothing that was there.
-/
import Derived.Test.YtaakhldhmoaplaaDoorBd33
import Derived.Test.YtaakhldhmoaplaaDoorBd34
import Derived.Test.YtaakhldhmoaplaaDoorBd49
import Derived.Test.YtaakhldhmoaplaaDoorBd31
import Derived.Test.YtaakhldhmoaplaaDoorBd20
import Derived.Test.YtaakhldhmoaplaaDoorBd13
import Derived.Test.YtaakhldhmoaplaaDoorBd43
import Derived.Test.YtaakhldhmoaplaaDoorBd45
import Derived.Test.YtaakhldhmoaplaaDoorBd40
import Derived.Test.YtaakhldhmoaplaaDoorBd35
import Derived.Deep.DeepCutAuto
namespace Go.Proofs.YtaakhldhmoaplaaDoor.Kdc
open Go Go.RowKit Go.Proofs.YtaakhldhmoaplaaDoor.Aid Go.Proofs.YtaakhldhmoaplaaDoor.Sha Go.Proofs.YtaakhldhmoaplaaDoor.Law01 Go.Proofs.YtaakhldhmoaplaaDoor.Field Go.Proofs.YtaakhldhmoaplaaDoor.Law05
open Go.Proofs.YtaakhldhmoaplaaDoor.Seal (keysB formB openB okB)
open Go.Proofs.YtaakhldhmoaplaaDoor.Aes (RowB)
open Go.Proofs.YtaakhldhmoaplaaDoor.Note (NoteP noteF noteV NoteAt zeroCells zeroCells_eq)
open Go.Proofs.YtaakhldhmoaplaaDoor.Book (Bk Wd keyB hasN BookIs bookF bookV wordF)

/-- What lies in memory while the document's answer is made: besides, the zero note and the key. -/
structure RefA (b : Bk) (N : NoteP) (D : Nat → BitVec 8) (P Q R Lv Rv : Value) (g9 g10 : Nat) (w W : World) : Prop where
  st : AnsSt 42 37 b N D P Q R Lv Rv w W
  z9 : W.rowIs g9 37 38 (noteF zeroN nilV nilV nilV)
  k10 : W.rowIs g10 25 16 (byteF D)
  ne : w.heap.size + 1 + 1 + 1 < g9
theorem RefA.step {b : Bk} {N : NoteP} {D : Nat → BitVec 8} {P Q R Lv Rv : Value} {g9 g10 : Nat} {w W W' : World} (h : RefA b N D P Q R Lv Rv g9 g10 w W) (hb : Below W.heap.size W W') : RefA b N D P Q R Lv Rv g9 g10 w W' :=
  ⟨h.st.step hb, h.z9.of_block (hb.block _ (World.rowIs.lt h.z9)), h.k10.of_block (hb.block _ (World.rowIs.lt h.k10)), h.ne⟩
theorem noteF_x16 (N : NoteP) (P Q R : Value) (j : Nat) (hj : j < 16) : noteF N P Q R (3 + j) = .int .u8 ((N.x j).toNat : Int) := by
  unfold noteF
  rw [if_neg (by omega), if_neg (by omega), if_neg (by omega), if_pos (by omega), Nat.add_sub_cancel_left]
theorem noteF_y16 (N : NoteP) (P Q R : Value) (j : Nat) (hj : j < 16) : noteF N P Q R (19 + j) = .int .u8 ((N.y j).toNat : Int) := by
  unfold noteF
  rw [if_neg (by omega), if_neg (by omega), if_neg (by omega), if_neg (by omega), if_pos (by omega), Nat.add_sub_cancel_left]
theorem ans_err {b : Bk} {N : NoteP} {d0 d1 d2 : Nat → BitVec 8} {c : Int} (hc : ansC b N = c) (h0 : c ≠ 0) {w : World} {x : Ending} {w' : World} (hx : x = .returned (.tuple #[.string ⟨#[]⟩, noteV zeroN nilV nilV nilV, .int .i64 c])) (hb : Below w.heap.size w w') : AnsPost (ansTo b N) (ansN b N d0 d1 d2) (ansC b N) w x w' := by
  unfold ansTo ansN
  rw [hc, if_neg h0, if_neg h0]
  exact ans_none c w x w' hx hb
def pA18 (g : Nat) (g10 : Nat) (sb : Nat) (so : Nat) (cv : Nat) (K : Array Value) (Dw : Array Value) (na : ByteArray) (A1 : Option Addr) (c1 : Nat) (A2 : Option Addr) (c2 : Nat) (L : List Fld) (Nn : Nat) (Bb : Nat → BitVec 8) (i : Nat) (v : Value) (w : World) : Prop :=
  match i with
  | 0 => v = .agg K
  | 1 => v = .pointer (some ⟨g + 1 + 1, 16, none⟩)
  | 2 => v = .agg Dw
  | 3 => v = .pointer (some ⟨g + 1, 2, none⟩)
  | 4 => v = .string na
  | 5 => SliceOf w w.heap.size na.size (strB na) v
  | 6 => v = .slice (some ⟨sb, so, none⟩) 3 cv
  | 7 => v = .pointer (some ⟨sb, so + 1, none⟩)
  | 8 => v = .slice A1 16 c1
  | 9 => v = .slice (some ⟨g10, 0, none⟩) 16 16
  | 10 => v = .slice (some ⟨sb, so, none⟩) 3 cv
  | 11 => v = .pointer (some ⟨sb, so + 2, none⟩)
  | 12 => v = .slice A2 8 c2
  | 13 => PartsOf w L.length (fldM L) (fldE L) v
  | 14 => SliceOf w w.heap.size Nn Bb v
  | 15 => SliceOf w w.heap.size Nn Bb v
  | _ => True
theorem pA18_mono (g : Nat) (g10 : Nat) (sb : Nat) (so : Nat) (cv : Nat) (K : Array Value) (Dw : Array Value) (na : ByteArray) (A1 : Option Addr) (c1 : Nat) (A2 : Option Addr) (c2 : Nat) (L : List Fld) (Nn : Nat) (Bb : Nat → BitVec 8) : ∀ i v w w', Below w.heap.size w w' → pA18 g g10 sb so cv K Dw na A1 c1 A2 c2 L Nn Bb i v w → pA18 g g10 sb so cv K Dw na A1 c1 A2 c2 L Nn Bb i v w' := fun i v w w' hb h => by
  match i with
  | 0 => exact h
  | 1 => exact h
  | 2 => exact h
  | 3 => exact h
  | 4 => exact h
  | 5 => exact slice_next h hb
  | 6 => exact h
  | 7 => exact h
  | 8 => exact h
  | 9 => exact h
  | 10 => exact h
  | 11 => exact h
  | 12 => exact h
  | 13 => exact PartsOf.below h hb
  | 14 => exact slice_next h hb
  | 15 => exact slice_next h hb
  | _ + 16 => trivial
def pA19 (g : Nat) (g10 : Nat) (sb : Nat) (so : Nat) (cv : Nat) (K : Array Value) (Dw : Array Value) (A0 : Option Addr) (m0 : Nat) (c0 : Nat) (A2 : Option Addr) (c2 : Nat) (L : List Fld) (Nn : Nat) (Bb : Nat → BitVec 8) (i : Nat) (v : Value) (w : World) : Prop :=
  match i with
  | 0 => v = .agg K
  | 1 => v = .pointer (some ⟨g + 1 + 1, 32, none⟩)
  | 2 => v = .agg Dw
  | 3 => v = .slice (some ⟨sb, so, none⟩) 3 cv
  | 4 => v = .pointer (some ⟨sb, so, none⟩)
  | 5 => v = .slice A0 m0 c0
  | 6 => v = .slice (some ⟨g10, 0, none⟩) 16 16
  | 7 => v = .slice (some ⟨sb, so, none⟩) 3 cv
  | 8 => v = .pointer (some ⟨sb, so + 2, none⟩)
  | 9 => v = .slice A2 8 c2
  | 10 => PartsOf w L.length (fldM L) (fldE L) v
  | 11 => SliceOf w w.heap.size Nn Bb v
  | 12 => SliceOf w w.heap.size Nn Bb v
  | _ => True
theorem pA19_mono (g : Nat) (g10 : Nat) (sb : Nat) (so : Nat) (cv : Nat) (K : Array Value) (Dw : Array Value) (A0 : Option Addr) (m0 : Nat) (c0 : Nat) (A2 : Option Addr) (c2 : Nat) (L : List Fld) (Nn : Nat) (Bb : Nat → BitVec 8) : ∀ i v w w', Below w.heap.size w w' → pA19 g g10 sb so cv K Dw A0 m0 c0 A2 c2 L Nn Bb i v w → pA19 g g10 sb so cv K Dw A0 m0 c0 A2 c2 L Nn Bb i v w' := fun i v w w' hb h => by
  match i with
  | 0 => exact h
  | 1 => exact h
  | 2 => exact h
  | 3 => exact h
  | 4 => exact h
  | 5 => exact h
  | 6 => exact h
  | 7 => exact h
  | 8 => exact h
  | 9 => exact h
  | 10 => exact PartsOf.below h hb
  | 11 => exact slice_next h hb
  | 12 => exact slice_next h hb
  | _ + 13 => trivial
def pA28 (g : Nat) (g10 : Nat) (K : Array Value) (Dw : Array Value) (na : ByteArray) (L : List Fld) (Nn : Nat) (Bb : Nat → BitVec 8) (i : Nat) (v : Value) (w : World) : Prop :=
  match i with
  | 0 => v = .agg K
  | 1 => v = .pointer (some ⟨g + 1 + 1, 16, none⟩)
  | 2 => v = .agg Dw
  | 3 => v = .pointer (some ⟨g + 1, 19, none⟩)
  | 4 => v = .slice (some ⟨g + 1, 19, none⟩) 16 16
  | 5 => v = .pointer (some ⟨g + 1, 1, none⟩)
  | 6 => v = .string na
  | 7 => SliceOf w w.heap.size na.size (strB na) v
  | 8 => v = .slice (some ⟨g10, 0, none⟩) 16 16
  | 9 => PartsOf w L.length (fldM L) (fldE L) v
  | 10 => SliceOf w w.heap.size Nn Bb v
  | 11 => SliceOf w w.heap.size Nn Bb v
  | _ => True
theorem pA28_mono (g : Nat) (g10 : Nat) (K : Array Value) (Dw : Array Value) (na : ByteArray) (L : List Fld) (Nn : Nat) (Bb : Nat → BitVec 8) : ∀ i v w w', Below w.heap.size w w' → pA28 g g10 K Dw na L Nn Bb i v w → pA28 g g10 K Dw na L Nn Bb i v w' := fun i v w w' hb h => by
  match i with
  | 0 => exact h
  | 1 => exact h
  | 2 => exact h
  | 3 => exact h
  | 4 => exact h
  | 5 => exact h
  | 6 => exact h
  | 7 => exact slice_next h hb
  | 8 => exact h
  | 9 => exact PartsOf.below h hb
  | 10 => exact slice_next h hb
  | 11 => exact slice_next h hb
  | _ + 12 => trivial
def pA29 (g : Nat) (g10 : Nat) (K : Array Value) (Dw : Array Value) (na : ByteArray) (L : List Fld) (Nn : Nat) (Bb : Nat → BitVec 8) (i : Nat) (v : Value) (w : World) : Prop :=
  match i with
  | 0 => v = .agg K
  | 1 => v = .pointer (some ⟨g + 1 + 1, 32, none⟩)
  | 2 => v = .agg Dw
  | 3 => v = .pointer (some ⟨g + 1, 3, none⟩)
  | 4 => v = .slice (some ⟨g + 1, 3, none⟩) 16 16
  | 5 => v = .pointer (some ⟨g + 1, 2, none⟩)
  | 6 => v = .string na
  | 7 => SliceOf w w.heap.size na.size (strB na) v
  | 8 => v = .slice (some ⟨g10, 0, none⟩) 16 16
  | 9 => PartsOf w L.length (fldM L) (fldE L) v
  | 10 => SliceOf w w.heap.size Nn Bb v
  | 11 => SliceOf w w.heap.size Nn Bb v
  | _ => True
theorem pA29_mono (g : Nat) (g10 : Nat) (K : Array Value) (Dw : Array Value) (na : ByteArray) (L : List Fld) (Nn : Nat) (Bb : Nat → BitVec 8) : ∀ i v w w', Below w.heap.size w w' → pA29 g g10 K Dw na L Nn Bb i v w → pA29 g g10 K Dw na L Nn Bb i v w' := fun i v w w' hb h => by
  match i with
  | 0 => exact h
  | 1 => exact h
  | 2 => exact h
  | 3 => exact h
  | 4 => exact h
  | 5 => exact h
  | 6 => exact h
  | 7 => exact slice_next h hb
  | 8 => exact h
  | 9 => exact PartsOf.below h hb
  | 10 => exact slice_next h hb
  | 11 => exact slice_next h hb
  | _ + 12 => trivial
set_option maxRecDepth 100000 in
set_option maxHeartbeats 4000000 in
theorem refAnswer_any (b : Bk) (N : NoteP) (D : Nat → BitVec 8) (P Q R Lv Rv : Value) (CD : Array Value) (hCD : CD.size = 48) (hCDi : ∀ i, i < 48 → CD[i]? = some (.int .u8 ((D i).toNat : Int))) (w : World) (hk : Consts w) (hb : BookIs w b Lv Rv) (hn : NoteAt w N P Q R) (hA : N.a.size ≤ 20) (hB : N.b.size ≤ 20) :
    Calls Tryd.prog 8 #[bookV b Lv Rv, noteV N P Q R, .agg CD] w (AnsPost (ansTo b N) (ansN b N D (fun j => D (16 + j)) (fun j => D (32 + j))) (ansC b N) w) := by
  obtain ⟨W, hW, h0⟩ := ans_new 42 37 b N D P Q R Lv Rv CD hCD hCDi w hk hb hn
  have HKEY := Lib.hid (fun (n : ByteArray) (W : World) (h : BookIs W b Lv Rv) => Book.refKey_is n h)
  have H0 := Lib.hid h0
  have HA := Lib.hid hA
  have HB := Lib.hid hB
  have hp1 : ∃ A c, P = .slice A N.pn c := slice_shape hn.p
  obtain ⟨AP, cP, hP⟩ := hp1
  clear hCD hCDi hk hb hn h0 hA hB
  unfold bookV noteV
  unfold bookV Book.wordV at HKEY
  obtain ⟨CB, hCB⟩ : ∃ C, C = cellsOf 19 (bookF b Lv Rv) := ⟨_, rfl⟩
  obtain ⟨CN, hCN⟩ : ∃ C, C = cellsOf 38 (noteF N P Q R) := ⟨_, rfl⟩
  rw [← hCB, ← hCN] at hW ⊢
  rw [← hCB] at HKEY
  have HCB := Lib.hid hCB.symm
  clear hCB hCN
  go_enter Tryd.func8, Tryd.ntmps8
  go_upto_region 1 with fail
  rw [show (#[.int .i64 0, .string ⟨#[]⟩, .string ⟨#[]⟩, .int .u8 0, .int .u8 0, .int .u8 0, .int .u8 0, .int .u8 0, .int .u8 0, .int .u8 0, .int .u8 0, .int .u8 0, .int .u8 0, .int .u8 0, .int .u8 0, .int .u8 0, .int .u8 0, .int .u8 0, .int .u8 0, .int .u8 0, .int .u8 0, .int .u8 0, .int .u8 0, .int .u8 0, .int .u8 0, .int .u8 0, .int .u8 0, .int .u8 0, .int .u8 0, .int .u8 0, .int .u8 0, .int .u8 0, .int .u8 0, .int .u8 0, .int .u8 0, .slice none 0 0, .slice none 0 0, .slice none 0 0] : Array Value) = zeroCells 0 from rfl, ← hW]
  clear hW
  have hz1 := row_new W (zeroCells 0) 37 38 _ (by rfl) zero_note_at
  go_upto_region 2 with (refine store_whole (by rfl) 37 (.tmp 9) (.tmp 26) (by rfl) W.heap.size _ 38 _ (noteF zeroN nilV nilV nilV) (by exact hz1) (by rfl) (cellsOf 38 (noteF zeroN nilV nilV nilV)) (by kernel_rfl) (by kernel_rfl) (size_cellsOf _ _) (cellsOf_at _ _) (note_cells_one _ _ _ _ rfl rfl rfl) ?_; intro w1 hr1 ho1)
  have hb1 : Below W.heap.size W w1 := ho1.below ((Below.refl W.heap.size W).alloc (Nat.le_refl _) (.cells (zeroCells 0) 37)) (Nat.le_refl _)
  have H1 := Lib.hid (H0.out.step hb1)
  have HZ1 := Lib.hid hr1
  have HNE : Hid (w.heap.size + 1 + 1 + 1 < W.heap.size) := Lib.hid (World.rowIs.lt H0.out.zr)
  clear hz1 ho1 hb1 hr1 H0
  generalize W.heap.size = g9 at *
  obtain ⟨K0, hK0, zK0, iK0⟩ := cells_named 16 (fun j => byteF D (0 + j)) D (fun i _ => by rw [Nat.zero_add]; rfl)
  have HK0 := Lib.hid hK0
  have r5 := H1.out.dr
  go_upto_region 3 with (first
    | (refine load_as (by rfl) 25 (.tmp 27) (by rfl) (w.heap.size + 1 + 1) 0 _ 48 16 _ K0 HK0.out r5 (by rfl) _ Tryd.underlying25 (by rfl) (by kernel_rfl) (by omega) ?_)
    | (refine store_whole (by rfl) 25 (.tmp 10) (.tmp 28) (by rfl) w1.heap.size _ 16 (fun _ => .int .u8 0) (byteF D) (by exact row_new w1 _ _ 16 _ (by rfl) (zero16 _ (by rfl))) (by rfl) _ (by rfl) (by kernel_rfl) zK0 iK0 (fun _ _ => rfl) ?_; intro w2 hr2 ho2))
  have hb2 : Below w1.heap.size w1 w2 := ho2.below ((Below.refl w1.heap.size w1).alloc (Nat.le_refl _) (.cells (Array.replicate 16 (.int .u8 0)) 25)) (Nat.le_refl _)
  have H2 : Hid (RefA b N D P Q R Lv Rv g9 w1.heap.size w w2) := Lib.hid ⟨H1.out.step hb2, HZ1.out.of_block (hb2.block _ (World.rowIs.lt HZ1.out)), hr2, HNE.out⟩
  clear r5 ho2 hb2 hr2 H1 HZ1 HNE hK0 HK0 zK0 iK0
  generalize w1.heap.size = g10 at *
  have d0 := H2.out.st.nt.cell (i := 0) (by omega)
  rw [show noteF N P Q R 0 = .int .i64 N.kind from rfl] at d0
  by_cases h2 : N.kind = 2
  · have HE2 := Lib.hid h2
    rw [h2] at d0
    clear h2
    have d2 := H2.out.st.nt.cell (i := 2) (by omega)
    rw [show noteF N P Q R 2 = .string N.b from rfl] at d2
    have r0 := H2.out.st.bk
    go_upto_region 4 with fail
    go_wp2_with (refine load_as (by rfl) 42 (.tmp 3) (by rfl) w.heap.size 0 _ 19 19 _ CB ((cells_zero _ _).trans HCB.out) r0 (by rfl) _ Tryd.underlying42 (by rfl) (by kernel_rfl) (by omega) ?_)
    refine (HKEY.out N.b w2 H2.out.st.is_).mono ?_
    rintro _ w3 ⟨rfl, hb3⟩
    have H3 := Lib.hid (H2.out.step hb3)
    clear d0 d2 r0 hb3 H2
    obtain ⟨K2, hK2, zK2, iK2⟩ := cells_named 16 (wordF (keyB N.b b.L)) (keyF (keyB N.b b.L)) (fun _ _ => rfl)
    rw [hK2]
    clear hK2
    go_upto_region 5 with (refine store_whole (by rfl) 25 (.tmp 11) (.tmp 37) (by rfl) w3.heap.size _ 16 (fun _ => .int .u8 0) (byteF (keyF (keyB N.b b.L))) (by exact row_new w3 _ _ 16 _ (by rfl) (zero16 _ (by rfl))) (by rfl) _ (by rfl) (by kernel_rfl) zK2 iK2 (fun _ _ => rfl) ?_; intro w4 hr4 ho4)
    have hb4 : Below w3.heap.size w3 w4 := ho4.below ((Below.refl w3.heap.size w3).alloc (Nat.le_refl _) (.cells (Array.replicate 16 (.int .u8 0)) 25)) (Nat.le_refl _)
    have H4 := Lib.hid (H3.out.step hb4)
    have HR4 := Lib.hid hr4
    clear ho4 hb4 hr4 H3
    generalize w3.heap.size = g11 at *
    cases hh : hasN b.L N.b with
    | false =>
      have HC : Hid (ansC b N = 4) := Lib.hid (by unfold ansC nsC; rw [if_pos HE2.out, if_pos hh])
      clear hh
      go_upto_region 6 with fail
      have HZ := H4
      refine region_mix (fun W => W.rowIs g9 37 38 (noteF zeroN nilV nilV nilV)) [(0, true), (1, true), (2, false), (3, true)] (by kernel_rfl) (by kernel_rfl) HZ.out.z9 ?_
      refine m_load rfl (by rfl) 37 (.tmp 9) (by rfl) g9 0 _ 38 38 _ (fun W hW => hW) (by rfl) _ Tryd.underlying37 (by rfl) (by kernel_rfl) (by omega) ?_
      rw [show cellsOf 38 (fun j => noteF zeroN nilV nilV nilV (0 + j)) = cellsOf 38 (noteF zeroN nilV nilV nilV) from rfl]
      simp only [Act.put, List.setIfInBounds_toArray, List.set_cons_zero, List.set_cons_succ]
      refine m_val rfl (by rfl) (.string ⟨#[]⟩) (fun W hW => by clear hW; go_simp) ?_
      simp only [Act.put, List.setIfInBounds_toArray, List.set_cons_zero, List.set_cons_succ]
      have hdr : Below w4.heap.size w4 w4.drew := (Below.refl _ _).drew
      have HD := Lib.hid (HZ.out.step hdr)
      clear hdr
      generalize w4.drew = wd at *
      have hz := HD.out.st.zr
      refine m_go rfl ?_
      go_wp2_with (refine store_whole (by rfl) 37 (.tmp 7) (.tmp 41) (by rfl) (w.heap.size + 1 + 1 + 1) _ 38 _ (noteF zeroN nilV nilV nilV) hz (by rfl) (cellsOf 38 (noteF zeroN nilV nilV nilV)) (by kernel_rfl) (by kernel_rfl) (size_cellsOf _ _) (cellsOf_at _ _) (note_cells_one _ _ _ _ rfl rfl rfl) ?_; intro w9 hr9 ho9)
      have hne := HD.out.ne
      refine m_on (HD.out.z9.of_block (ho9.block g9 (by omega))) ?_
      refine m_val rfl (by rfl) (.int .i64 4) (fun W hW => by clear hW; go_simp) ?_
      simp only [Act.put, List.setIfInBounds_toArray, List.set_cons_zero, List.set_cons_succ]
      refine m_end ?_
      go_wp2
      refine bodyPost_ret (results_mid rfl _ (w.heap.size + 1 + 1 + 1) _ 38 _ _ rfl hr9 Tryd.underlying37 (by rfl) (by kernel_rfl)) rfl ?_
      exact ans_err HC.out (by decide) rfl (ho9.below HD.out.st.hb (by omega))
    | true =>
      have HH := Lib.hid hh
      clear hh
      go_upto_region 7 with fail
      have d5 := H4.out.st.nt.cell (i := 35) (by omega)
      rw [show noteF N P Q R 35 = P from rfl, hP] at d5
      have r11 := HR4.out
      have HPA := Lib.hid (fun C h1 h2 => refParts16_any (keyF (keyB N.b b.L)) N.p lNs2 C h1 h2 AP N.pn cP 3 w4 (by have := H4.out.st.at_.p; rw [hP] at this; exact this))
      go_wp2_with (refine load_as (by rfl) 25 (.tmp 11) (by rfl) g11 0 _ 16 16 _ (cellsOf 16 (byteF (keyF (keyB N.b b.L)))) (cells_zero _ _) r11 (by rfl) _ Tryd.underlying25 (by rfl) (by kernel_rfl) (by omega) ?_)
      refine (HPA.out _ (size_cellsOf _ _) (cellsOf_at _ _)).mono ?_
      rintro _ w5 ⟨v5, R5, rfl, ho5, hb5⟩
      have H5 := Lib.hid (H4.out.step hb5)
      have HR5 := Lib.hid (HR4.out.of_block (hb5.block _ (World.rowIs.lt HR4.out)))
      have HRC : Hid (reqC (nsKs b N) N.p N.pn = if partsC (keysB (keyF (keyB N.b b.L)) lNs2) N.p lNs2 N.pn 3 = 0 then (if reqF (nsE b N) = true then 0 else 3) else partsC (keysB (keyF (keyB N.b b.L)) lNs2) N.p lNs2 N.pn 3) := Lib.hid rfl
      have HO5 : Hid (OwnParts w5 w4.heap.size (partsK (keysB (keyF (keyB N.b b.L)) lNs2) N.p lNs2 N.pn 3) (fieldM (nsE b N)) (fieldE (nsE b N)) R5 v5) := Lib.hid ho5
      have HPK : Hid (partsC (keysB (keyF (keyB N.b b.L)) lNs2) N.p lNs2 N.pn 3 = 0 → partsK (keysB (keyF (keyB N.b b.L)) lNs2) N.p lNs2 N.pn 3 = 3) := Lib.hid (fun h => partsK_eq (n := 3) h)
      clear d5 r11 hb5 ho5 HPA H4 HR4 hP
      obtain ⟨pc, hpc⟩ : ∃ pc, pc = partsC (keysB (keyF (keyB N.b b.L)) lNs2) N.p lNs2 N.pn 3 := ⟨_, rfl⟩
      rw [← hpc] at HRC HPK ⊢
      clear hpc
      by_cases h0 : pc = 0
      · subst h0
        have hO := HO5.out
        rw [HPK.out rfl] at hO
        have HO := Lib.hid hO
        have HRC0 : Hid (reqC (nsKs b N) N.p N.pn = if reqF (nsE b N) = true then 0 else 3) := Lib.hid (by rw [HRC.out, if_pos rfl])
        clear HO5 HPK HRC hO
        obtain ⟨Av, cv, rfl⟩ := HO.out.shape
        obtain ⟨sb, so, A0, c0, rfl, p0, s0⟩ := own_parts_at HO.out 0 (by omega)
        rw [Nat.add_zero] at p0
        obtain ⟨sb', so', A1, c1, hh, p1, s1⟩ := own_parts_at HO.out 1 (by omega)
        simp only [Option.some.injEq, Addr.mk.injEq, and_true] at hh
        obtain ⟨rfl, rfl⟩ := hh
        obtain ⟨sb', so', A2, c2, hh, p2, s2⟩ := own_parts_at HO.out 2 (by omega)
        simp only [Option.some.injEq, Addr.mk.injEq, and_true] at hh
        obtain ⟨rfl, rfl⟩ := hh
        obtain ⟨a, ha⟩ : ∃ a, a = nsA b N := ⟨_, rfl⟩
        have HAA := Lib.hid ha
        have HRF : Hid (reqF (nsE b N) = (nameB a && decide (fieldM (nsE b N) 1 = 16) && decide (fieldM (nsE b N) 2 = 8))) := Lib.hid (by rw [ha]; rfl)
        have hl0 := fieldM_lt (nsE b N) 0
        have hl1 := fieldM_lt (nsE b N) 1
        have hl2 := fieldM_lt (nsE b N) 2
        have hsz : a.size ≤ 65535 := by rw [ha]; unfold nsA; rw [size_strOf]; exact hl0
        have ha2 : a = strOf (fieldE (nsE b N) 0) (fieldM (nsE b N) 0) := ha
        obtain ⟨m0, hm0⟩ : ∃ m, m = fieldM (nsE b N) 0 := ⟨_, rfl⟩
        obtain ⟨m1, hm1⟩ : ∃ m, m = fieldM (nsE b N) 1 := ⟨_, rfl⟩
        obtain ⟨m2, hm2⟩ : ∃ m, m = fieldM (nsE b N) 2 := ⟨_, rfl⟩
        rw [← hm0] at ha2 p0 s0 hl0
        rw [← hm1] at p1 s1 hl1 HRF
        rw [← hm2] at p2 s2 hl2 HRF
        clear hm0 hm1 hm2 HO ha
        have M0 : Hid (∀ W, Below w5.heap.size w5 W → W.cell? ⟨sb, so, none⟩ = some (.slice A0 m0 c0) ∧ W.cell? ⟨sb, so + 1, none⟩ = some (.slice A1 m1 c1) ∧ W.cell? ⟨sb, so + 2, none⟩ = some (.slice A2 m2 c2) ∧ (convert 28 9 (.slice A0 m0 c0)).run Tryd.prog W = .ok (.string a) W ∧ SliceOf W W.heap.size m1 (fieldE (nsE b N) 1) (.slice A1 m1 c1) ∧ SliceOf W W.heap.size m2 (fieldE (nsE b N) 2) (.slice A2 m2 c2) ∧ SliceOf W W.heap.size a.size (strB a) (.slice A0 m0 c0)) := Lib.hid fun W hW => by
          refine ⟨(hW.cell (p := ⟨sb, so, none⟩) (block_lt_of_cell p0)).trans p0, (hW.cell (p := ⟨sb, so + 1, none⟩) (block_lt_of_cell p1)).trans p1, (hW.cell (p := ⟨sb, so + 2, none⟩) (block_lt_of_cell p2)).trans p2, ?_, (s1.below hW).slice (.inr (Nat.le_refl _)), (s2.below hW).slice (.inr (Nat.le_refl _)), ?_⟩
          · rw [ha2]
            exact str_run _ _ _ _ _ _ ((s0.below hW).slice (g' := W.heap.size) (.inr (Nat.le_refl _)))
          · have h := (s0.below hW).slice (g' := W.heap.size) (.inr (Nat.le_refl _))
            rw [show a.size = m0 by rw [ha2, size_strOf]]
            exact h.congr (fun j hj => by rw [ha2, strB_strOf _ _ _ hj])
        clear p0 p1 p2 s0 s1 s2 ha2 hl0
        have HNA := Lib.hid (fun W => refName_any a (by omega) W)
        obtain ⟨nb, hnb⟩ : ∃ c, c = nameB a := ⟨_, rfl⟩
        rw [← hnb] at HNA HRF
        have HNB := Lib.hid hnb
        clear hnb
        go_upto_region 10 with fail
        have mm := M0.out w5 (Below.refl _ _)
        have p0 := mm.1
        have p1 := mm.2.1
        have p2 := mm.2.2.1
        have ks := mm.2.2.2.1
        clear mm
        go_wp2_with fail
        refine (HNA.out _).mono ?_
        rintro _ _ ⟨rfl, rfl⟩
        cases nb with
        | false =>
          skip
          have HC : Hid (ansC b N = 3) := Lib.hid (by
            have h3 : reqC (nsKs b N) N.p N.pn = 3 := by rw [HRC0.out, if_neg (by rw [HRF.out]; simp)]
            unfold ansC nsC
            rw [if_pos HE2.out, if_neg (by rw [HH.out]; decide), if_pos (by rw [h3]; decide), h3])
          clear HRF HRC0
          go_upto_region 11 with fail
          clear p0 p1 p2 ks
          have HZ := H5
          refine region_mix (fun W => W.rowIs g9 37 38 (noteF zeroN nilV nilV nilV)) [(0, true), (1, true), (2, false), (3, true)] (by kernel_rfl) (by kernel_rfl) HZ.out.z9 ?_
          refine m_load rfl (by rfl) 37 (.tmp 9) (by rfl) g9 0 _ 38 38 _ (fun W hW => hW) (by rfl) _ Tryd.underlying37 (by rfl) (by kernel_rfl) (by omega) ?_
          rw [show cellsOf 38 (fun j => noteF zeroN nilV nilV nilV (0 + j)) = cellsOf 38 (noteF zeroN nilV nilV nilV) from rfl]
          simp only [Act.put, List.setIfInBounds_toArray, List.set_cons_zero, List.set_cons_succ]
          refine m_val rfl (by rfl) (.string ⟨#[]⟩) (fun W hW => by clear hW; go_simp) ?_
          simp only [Act.put, List.setIfInBounds_toArray, List.set_cons_zero, List.set_cons_succ]
          have hdr : Below w5.heap.size w5 w5.drew := (Below.refl _ _).drew
          have HD := Lib.hid (HZ.out.step hdr)
          clear hdr
          generalize w5.drew = wd at *
          have hz := HD.out.st.zr
          refine m_go rfl ?_
          go_wp2_with (refine store_whole (by rfl) 37 (.tmp 7) (.tmp 73) (by rfl) (w.heap.size + 1 + 1 + 1) _ 38 _ (noteF zeroN nilV nilV nilV) hz (by rfl) (cellsOf 38 (noteF zeroN nilV nilV nilV)) (by kernel_rfl) (by kernel_rfl) (size_cellsOf _ _) (cellsOf_at _ _) (note_cells_one _ _ _ _ rfl rfl rfl) ?_; intro w9 hr9 ho9)
          have hne := HD.out.ne
          refine m_on (HD.out.z9.of_block (ho9.block g9 (by omega))) ?_
          refine m_val rfl (by rfl) (.int .i64 3) (fun W hW => by clear hW; go_simp) ?_
          simp only [Act.put, List.setIfInBounds_toArray, List.set_cons_zero, List.set_cons_succ]
          refine m_end ?_
          go_wp2
          refine bodyPost_ret (results_mid rfl _ (w.heap.size + 1 + 1 + 1) _ 38 _ _ rfl hr9 Tryd.underlying37 (by rfl) (by kernel_rfl)) rfl ?_
          exact ans_err HC.out (by decide) rfl (ho9.below HD.out.st.hb (by omega))
        | true =>
          by_cases hm1 : m1 = 16
          · subst hm1
            by_cases hm2 : m2 = 8
            · subst hm2
              have HR0 : Hid (reqC (nsKs b N) N.p N.pn = 0) := Lib.hid (by rw [HRC0.out, if_pos (by rw [HRF.out]; rfl)])
              clear HRF HRC0 hl1 hl2 HNA
              go_upto_region 13 with fail
              clear p0 p1 p2 ks
              have d2 := H5.out.st.nt.cell (i := 2) (by omega)
              rw [show noteF N P Q R 2 = .string N.b from rfl] at d2
              by_cases he : a = N.b
              · have HC : Hid (ansC b N = 1) := Lib.hid (by
                  unfold ansC nsC
                  rw [if_pos HE2.out, if_neg (by rw [HH.out]; decide), if_neg (by rw [HR0.out]; decide), if_pos (by rw [← HAA.out]; exact he)])
                have hl := Book.str_beq a N.b
                rw [decide_eq_true he] at hl
                clear he
                go_upto_region 14 with fail
                clear hl d2
                have HZ := H5
                refine region_mix (fun W => W.rowIs g9 37 38 (noteF zeroN nilV nilV nilV)) [(0, true), (1, true), (2, false), (3, true)] (by kernel_rfl) (by kernel_rfl) HZ.out.z9 ?_
                refine m_load rfl (by rfl) 37 (.tmp 9) (by rfl) g9 0 _ 38 38 _ (fun W hW => hW) (by rfl) _ Tryd.underlying37 (by rfl) (by kernel_rfl) (by omega) ?_
                rw [show cellsOf 38 (fun j => noteF zeroN nilV nilV nilV (0 + j)) = cellsOf 38 (noteF zeroN nilV nilV nilV) from rfl]
                simp only [Act.put, List.setIfInBounds_toArray, List.set_cons_zero, List.set_cons_succ]
                refine m_val rfl (by rfl) (.string ⟨#[]⟩) (fun W hW => by clear hW; go_simp) ?_
                simp only [Act.put, List.setIfInBounds_toArray, List.set_cons_zero, List.set_cons_succ]
                have hdr : Below w5.heap.size w5 w5.drew := (Below.refl _ _).drew
                have HD := Lib.hid (HZ.out.step hdr)
                clear hdr
                generalize w5.drew = wd at *
                have hz := HD.out.st.zr
                refine m_go rfl ?_
                go_wp2_with (refine store_whole (by rfl) 37 (.tmp 7) (.tmp 82) (by rfl) (w.heap.size + 1 + 1 + 1) _ 38 _ (noteF zeroN nilV nilV nilV) hz (by rfl) (cellsOf 38 (noteF zeroN nilV nilV nilV)) (by kernel_rfl) (by kernel_rfl) (size_cellsOf _ _) (cellsOf_at _ _) (note_cells_one _ _ _ _ rfl rfl rfl) ?_; intro w9 hr9 ho9)
                have hne := HD.out.ne
                refine m_on (HD.out.z9.of_block (ho9.block g9 (by omega))) ?_
                refine m_val rfl (by rfl) (.int .i64 1) (fun W hW => by clear hW; go_simp) ?_
                simp only [Act.put, List.setIfInBounds_toArray, List.set_cons_zero, List.set_cons_succ]
                refine m_end ?_
                go_wp2
                refine bodyPost_ret (results_mid rfl _ (w.heap.size + 1 + 1 + 1) _ 38 _ _ rfl hr9 Tryd.underlying37 (by rfl) (by kernel_rfl)) rfl ?_
                exact ans_err HC.out (by decide) rfl (ho9.below HD.out.st.hb (by omega))
              · have HNE : Hid (¬ nsA b N = N.b) := Lib.hid (by rw [← HAA.out]; exact he)
                have hl := Book.str_beq a N.b
                rw [decide_eq_false he] at hl
                clear he
                go_upto_region 15 with fail
                clear hl d2
                have r0 := H5.out.st.bk
                go_wp2_with (refine load_as (by rfl) 42 (.tmp 3) (by rfl) w.heap.size 0 _ 19 19 _ CB ((cells_zero _ _).trans HCB.out) r0 (by rfl) _ Tryd.underlying42 (by rfl) (by kernel_rfl) (by omega) ?_)
                refine (HKEY.out a w5 H5.out.st.is_).mono ?_
                rintro _ w6 ⟨rfl, hb6⟩
                have H6 := Lib.hid (H5.out.step hb6)
                have HR6 := Lib.hid (HR5.out.of_block (hb6.block _ (World.rowIs.lt HR5.out)))
                have HBL6 := Lib.hid hb6
                clear r0 hb6 H5 HR5
                obtain ⟨K6, hK6, zK6, iK6⟩ := cells_named 16 (wordF (keyB a b.L)) (keyF (keyB a b.L)) (fun _ _ => rfl)
                rw [hK6]
                clear hK6
                go_upto_region 16 with (refine store_whole (by rfl) 25 (.tmp 16) (.tmp 87) (by rfl) w6.heap.size _ 16 (fun _ => .int .u8 0) (byteF (keyF (keyB a b.L))) (by exact row_new w6 _ _ 16 _ (by rfl) (zero16 _ (by rfl))) (by rfl) _ (by rfl) (by kernel_rfl) zK6 iK6 (fun _ _ => rfl) ?_; intro w8 hr8 ho8)
                have hb8 : Below w6.heap.size w6 w8 := ho8.below ((Below.refl w6.heap.size w6).alloc (Nat.le_refl _) (.cells (Array.replicate 16 (.int .u8 0)) 25)) (Nat.le_refl _)
                have H8 := Lib.hid (H6.out.step hb8)
                have HR8 := Lib.hid (HR6.out.of_block (hb8.block _ (World.rowIs.lt HR6.out)))
                have HS8 := Lib.hid hr8
                have M8 := Lib.hid (fun W (hW : Below w8.heap.size w8 W) => M0.out W ((HBL6.out.trans (hb8.mono HBL6.out.size)).trans (hW.mono (HBL6.out.trans (hb8.mono HBL6.out.size)).size)))
                clear ho8 hb8 hr8 H6 HR6 HBL6 M0 zK6 iK6
                generalize w6.heap.size = g16 at *
                cases hk : hasN b.L a with
                | false =>
                  have HC : Hid (ansC b N = 4) := Lib.hid (by
                    unfold ansC nsC
                    rw [if_pos HE2.out, if_neg (by rw [HH.out]; decide), if_neg (by rw [HR0.out]; decide), if_neg HNE.out, if_pos (by rw [← HAA.out]; exact hk)])
                  clear hk
                  go_upto_region 17 with fail
                  have HZ := H8
                  refine region_mix (fun W => W.rowIs g9 37 38 (noteF zeroN nilV nilV nilV)) [(0, true), (1, true), (2, false), (3, true)] (by kernel_rfl) (by kernel_rfl) HZ.out.z9 ?_
                  refine m_load rfl (by rfl) 37 (.tmp 9) (by rfl) g9 0 _ 38 38 _ (fun W hW => hW) (by rfl) _ Tryd.underlying37 (by rfl) (by kernel_rfl) (by omega) ?_
                  rw [show cellsOf 38 (fun j => noteF zeroN nilV nilV nilV (0 + j)) = cellsOf 38 (noteF zeroN nilV nilV nilV) from rfl]
                  simp only [Act.put, List.setIfInBounds_toArray, List.set_cons_zero, List.set_cons_succ]
                  refine m_val rfl (by rfl) (.string ⟨#[]⟩) (fun W hW => by clear hW; go_simp) ?_
                  simp only [Act.put, List.setIfInBounds_toArray, List.set_cons_zero, List.set_cons_succ]
                  have hdr : Below w8.heap.size w8 w8.drew := (Below.refl _ _).drew
                  have HD := Lib.hid (HZ.out.step hdr)
                  clear hdr
                  generalize w8.drew = wd at *
                  have hz := HD.out.st.zr
                  refine m_go rfl ?_
                  go_wp2_with (refine store_whole (by rfl) 37 (.tmp 7) (.tmp 91) (by rfl) (w.heap.size + 1 + 1 + 1) _ 38 _ (noteF zeroN nilV nilV nilV) hz (by rfl) (cellsOf 38 (noteF zeroN nilV nilV nilV)) (by kernel_rfl) (by kernel_rfl) (size_cellsOf _ _) (cellsOf_at _ _) (note_cells_one _ _ _ _ rfl rfl rfl) ?_; intro w9 hr9 ho9)
                  have hne := HD.out.ne
                  refine m_on (HD.out.z9.of_block (ho9.block g9 (by omega))) ?_
                  refine m_val rfl (by rfl) (.int .i64 4) (fun W hW => by clear hW; go_simp) ?_
                  simp only [Act.put, List.setIfInBounds_toArray, List.set_cons_zero, List.set_cons_succ]
                  refine m_end ?_
                  go_wp2
                  refine bodyPost_ret (results_mid rfl _ (w.heap.size + 1 + 1 + 1) _ 38 _ _ rfl hr9 Tryd.underlying37 (by rfl) (by kernel_rfl)) rfl ?_
                  exact ans_err HC.out (by decide) rfl (ho9.below HD.out.st.hb (by omega))
                | true =>
                  have HC : Hid (ansC b N = 0) := Lib.hid (by
                    unfold ansC nsC
                    rw [if_pos HE2.out, if_neg (by rw [HH.out]; decide), if_neg (by rw [HR0.out]; decide), if_neg HNE.out, if_neg (by rw [← HAA.out, hk]; decide)])
                  have HSZ : Hid (a.size ≤ 20) := Lib.hid (by
                    have h1 := HNB.out.symm
                    unfold nameB at h1
                    exact (of_decide_eq_true h1).2.1)
                  clear hk
                  go_upto_region 18 with fail
                  have KS := Lib.hid (fun (W : World) (bb o : Nat) => Seal.all_run (P := Tryd.prog) 25 5 16 Tryd.underlying25 (by kernel_rfl) bb o W)
                  have KSTR := Lib.hid (fun (W : World) (s : ByteArray) => Lib.run_convert_string_bytes (P := Tryd.prog) W 9 28 5 s Tryd.underlying9 Tryd.underlying28 Tryd.underlying5)
                  obtain ⟨K1, hK1, zK1, iK1⟩ := cells_named 16 (fun j => byteF (keyF (keyB a b.L)) (0 + j)) (keyF (keyB a b.L)) (fun i _ => by rw [Nat.zero_add]; rfl)
                  have HK1 := Lib.hid hK1
                  have ZK1 := Lib.hid (And.intro zK1 iK1)
                  obtain ⟨D1, hD1, zD1, iD1⟩ := cells_named 16 (fun j => byteF D (16 + j)) (fun j => D (16 + j)) (fun i _ => rfl)
                  have HD1 := Lib.hid hD1
                  have ZD1 := Lib.hid (And.intro zD1 iD1)
                  obtain ⟨L1, hL1⟩ : ∃ L, L = nsP b N D := ⟨_, rfl⟩
                  have HL1 := Lib.hid hL1
                  obtain ⟨N1, hN1⟩ : ∃ n, n = blobN (nsP b N D) := ⟨_, rfl⟩
                  obtain ⟨B1, hB1⟩ : ∃ B, B = blobB (keyF (keyB a b.L)) (fun j => D (16 + j)) lNs3 (nsP b N D) := ⟨_, rfl⟩
                  have HO1 : Hid (off (fldM (nsP b N D)) (nsP b N D).length ≤ 200) := Lib.hid (by show off (fldM [(N.b.size, strB N.b), (16, fieldE (nsE b N) 1), (16, D), (8, fieldE (nsE b N) 2)]) 4 ≤ 200; rw [off4]; have := HB.out; omega)
                  have HEQ1 : Hid (sealedN lNs3 L1.length (fldM L1) = N1 ∧ sealedB (keyF (keyB a b.L)) (fun j => D (16 + j)) lNs3 L1.length (fldM L1) (fldE L1) = B1) := Lib.hid ⟨by rw [hL1, hN1]; exact (blob_len lNs3 (nsP b N D) rfl (by show 4 ≤ 4; omega) HO1.out).2.2, by rw [hL1, hB1]; rfl⟩
                  have HQ1 : Hid (off (fldM L1) L1.length + L1.length ≤ 100000) := Lib.hid (by rw [hL1]; exact Nat.le_trans (Nat.add_le_add HO1.out (show (nsP b N D).length ≤ 4 by show 4 ≤ 4; omega)) (by decide))
                  have HN1 := Lib.hid hN1
                  have HB1 := Lib.hid hB1
                  clear hK1 zK1 iK1 hD1 zD1 iD1 hL1 hN1 hB1
                  obtain ⟨K2, hK2, zK2, iK2⟩ := cells_named 16 (fun j => byteF (keyF (keyB N.b b.L)) (0 + j)) (keyF (keyB N.b b.L)) (fun i _ => by rw [Nat.zero_add]; rfl)
                  have HK2 := Lib.hid hK2
                  have ZK2 := Lib.hid (And.intro zK2 iK2)
                  obtain ⟨D2, hD2, zD2, iD2⟩ := cells_named 16 (fun j => byteF D (32 + j)) (fun j => D (32 + j)) (fun i _ => rfl)
                  have HD2 := Lib.hid hD2
                  have ZD2 := Lib.hid (And.intro zD2 iD2)
                  obtain ⟨L2, hL2⟩ : ∃ L, L = nsQ b N D := ⟨_, rfl⟩
                  have HL2 := Lib.hid hL2
                  obtain ⟨N2, hN2⟩ : ∃ n, n = blobN (nsQ b N D) := ⟨_, rfl⟩
                  obtain ⟨B2, hB2⟩ : ∃ B, B = blobB (keyF (keyB N.b b.L)) (fun j => D (32 + j)) lNst (nsQ b N D) := ⟨_, rfl⟩
                  have HO2 : Hid (off (fldM (nsQ b N D)) (nsQ b N D).length ≤ 200) := Lib.hid (by show off (fldM [((nsA b N).size, strB (nsA b N)), (16, D), (8, fieldE (nsE b N) 2)]) 3 ≤ 200; rw [off3, ← HAA.out]; have := HSZ.out; omega)
                  have HEQ2 : Hid (sealedN lNst L2.length (fldM L2) = N2 ∧ sealedB (keyF (keyB N.b b.L)) (fun j => D (32 + j)) lNst L2.length (fldM L2) (fldE L2) = B2) := Lib.hid ⟨by rw [hL2, hN2]; exact (blob_len lNst (nsQ b N D) rfl (by show 3 ≤ 4; omega) HO2.out).2.2, by rw [hL2, hB2]; rfl⟩
                  have HQ2 : Hid (off (fldM L2) L2.length + L2.length ≤ 100000) := Lib.hid (by rw [hL2]; exact Nat.le_trans (Nat.add_le_add HO2.out (show (nsQ b N D).length ≤ 4 by show 3 ≤ 4; omega)) (by decide))
                  have HN2 := Lib.hid hN2
                  have HB2 := Lib.hid hB2
                  clear hK2 zK2 iK2 hD2 zD2 iD2 hL2 hN2 hB2
                  refine region_inv_all (pA18 w.heap.size g10 sb so cv K1 D1 N.b A1 c1 A2 c2 L1 N1 B1) 16 (by kernel_rfl) (by kernel_rfl) (by kernel_rfl) (pA18_mono w.heap.size g10 sb so cv K1 D1 N.b A1 c1 A2 c2 L1 N1 B1) ?_ ?_
                  · refine ⟨⟨⟨⟨⟨⟨⟨⟨⟨⟨⟨⟨⟨⟨⟨⟨trivial, ?_⟩, ?_⟩, ?_⟩, ?_⟩, ?_⟩, ?_⟩, ?_⟩, ?_⟩, ?_⟩, ?_⟩, ?_⟩, ?_⟩, ?_⟩, ?_⟩, ?_⟩, ?_⟩
                    · refine ⟨_, rfl, fun xs W hW hd => ?_⟩
                      have hr := HS8.out.of_block ((undrew hW).block _ (World.rowIs.lt HS8.out))
                      clear hd
                      simp only [fillI, List.take, List.setIfInBounds_toArray, List.set_cons_zero, List.set_cons_succ, Nat.reduceAdd, Nat.zero_add]
                      refine load_as (by rfl) 25 (.tmp 16) (by rfl) g16 0 _ 16 16 _ K1 HK1.out hr (by rfl) _ Tryd.underlying25 (by rfl) (by kernel_rfl) (by omega) ?_
                      refine ⟨_, by (simp only [upd, Nat.reduceEqDiff, reduceIte]; rfl), ?_, ?_⟩
                      · rfl
                      · exact Below.refl _ _
                    · refine ⟨_, rfl, fun xs W hW hd => ?_⟩
                      clear hd
                      simp only [fillI, List.take, List.setIfInBounds_toArray, List.set_cons_zero, List.set_cons_succ, Nat.reduceAdd, Nat.zero_add]
                      go_wp2_with fail
                      refine ⟨_, by (simp only [upd, Nat.reduceEqDiff, reduceIte]; rfl), ?_, ?_⟩
                      · rfl
                      · exact Below.refl _ _
                    · refine ⟨_, rfl, fun xs W hW hd => ?_⟩
                      have h1 : xs 1 = .pointer (some ⟨w.heap.size + 1 + 1, 16, none⟩) := hd 1 (by kernel_rfl)
                      have hr := (H8.out.step (undrew hW)).st.dr
                      clear hd
                      rw [upd_self h1]
                      simp only [fillI, List.take, List.setIfInBounds_toArray, List.set_cons_zero, List.set_cons_succ, Nat.reduceAdd, Nat.zero_add, upd, Nat.reduceEqDiff, reduceIte]
                      refine load_as (by rfl) 25 (.tmp 93) (by rfl) (w.heap.size + 1 + 1) 16 _ 48 16 _ D1 HD1.out hr (by rfl) _ Tryd.underlying25 (by rfl) (by kernel_rfl) (by omega) ?_
                      refine ⟨_, by (simp only [upd, Nat.reduceEqDiff, reduceIte]; rfl), ?_, ?_⟩
                      · rfl
                      · exact Below.refl _ _
                    · refine ⟨_, rfl, fun xs W hW hd => ?_⟩
                      clear hd
                      simp only [fillI, List.take, List.setIfInBounds_toArray, List.set_cons_zero, List.set_cons_succ, Nat.reduceAdd, Nat.zero_add]
                      go_wp2_with fail
                      refine ⟨_, by (simp only [upd, Nat.reduceEqDiff, reduceIte]; rfl), ?_, ?_⟩
                      · rfl
                      · exact Below.refl _ _
                    · refine ⟨_, rfl, fun xs W hW hd => ?_⟩
                      have h3 : xs 3 = .pointer (some ⟨w.heap.size + 1, 2, none⟩) := hd 3 (by kernel_rfl)
                      have cc := ((H8.out.step (undrew hW)).st.nt).cell (i := 2) (by omega)
                      rw [show noteF N P Q R 2 = .string N.b from rfl] at cc
                      clear hd
                      rw [upd_self h3]
                      simp only [fillI, List.take, List.setIfInBounds_toArray, List.set_cons_zero, List.set_cons_succ, Nat.reduceAdd, Nat.zero_add, upd, Nat.reduceEqDiff, reduceIte]
                      go_wp2_with fail
                      refine ⟨_, by (simp only [upd, Nat.reduceEqDiff, reduceIte]; rfl), ?_, ?_⟩
                      · rfl
                      · exact Below.refl _ _
                    · refine ⟨_, rfl, fun xs W hW hd => ?_⟩
                      have h4 : xs 4 = .string N.b := hd 4 (by kernel_rfl)
                      clear hd
                      rw [upd_self h4]
                      simp only [fillI, List.take, List.setIfInBounds_toArray, List.set_cons_zero, List.set_cons_succ, Nat.reduceAdd, Nat.zero_add, upd, Nat.reduceEqDiff, reduceIte]
                      have kx := KSTR.out W N.b
                      go_wp2_with fail
                      refine ⟨_, by (simp only [upd, Nat.reduceEqDiff, reduceIte]; rfl), ?_, ?_⟩
                      · exact strB_slice W N.b _ (by rw [Lib.bytesWorld_size]; omega)
                      · exact strB_below W N.b
                    · refine ⟨_, rfl, fun xs W hW hd => ?_⟩
                      clear hd
                      simp only [fillI, List.take, List.setIfInBounds_toArray, List.set_cons_zero, List.set_cons_succ, Nat.reduceAdd, Nat.zero_add]
                      go_wp2_with fail
                      refine ⟨_, by (simp only [upd, Nat.reduceEqDiff, reduceIte]; rfl), ?_, ?_⟩
                      · rfl
                      · exact Below.refl _ _
                    · refine ⟨_, rfl, fun xs W hW hd => ?_⟩
                      have h6 : xs 6 = .slice (some ⟨sb, so, none⟩) 3 cv := hd 6 (by kernel_rfl)
                      clear hd
                      rw [upd_self h6]
                      simp only [fillI, List.take, List.setIfInBounds_toArray, List.set_cons_zero, List.set_cons_succ, Nat.reduceAdd, Nat.zero_add, upd, Nat.reduceEqDiff, reduceIte]
                      go_wp2_with fail
                      refine ⟨_, by (simp only [upd, Nat.reduceEqDiff, reduceIte]; rfl), ?_, ?_⟩
                      · rfl
                      · exact Below.refl _ _
                    · refine ⟨_, rfl, fun xs W hW hd => ?_⟩
                      have h7 : xs 7 = .pointer (some ⟨sb, so + 1, none⟩) := hd 7 (by kernel_rfl)
                      have cc := (M8.out W (undrew hW)).2.1
                      clear hd
                      rw [upd_self h7]
                      simp only [fillI, List.take, List.setIfInBounds_toArray, List.set_cons_zero, List.set_cons_succ, Nat.reduceAdd, Nat.zero_add, upd, Nat.reduceEqDiff, reduceIte]
                      go_wp2_with fail
                      refine ⟨_, by (simp only [upd, Nat.reduceEqDiff, reduceIte]; rfl), ?_, ?_⟩
                      · rfl
                      · exact Below.refl _ _
                    · refine ⟨_, rfl, fun xs W hW hd => ?_⟩
                      clear hd
                      simp only [fillI, List.take, List.setIfInBounds_toArray, List.set_cons_zero, List.set_cons_succ, Nat.reduceAdd, Nat.zero_add]
                      have ka := fun W => KS.out W g10 0
                      go_wp2_with fail
                      refine ⟨_, by (simp only [upd, Nat.reduceEqDiff, reduceIte]; rfl), ?_, ?_⟩
                      · rfl
                      · exact Below.refl _ _
                    · refine ⟨_, rfl, fun xs W hW hd => ?_⟩
                      clear hd
                      simp only [fillI, List.take, List.setIfInBounds_toArray, List.set_cons_zero, List.set_cons_succ, Nat.reduceAdd, Nat.zero_add]
                      go_wp2_with fail
                      refine ⟨_, by (simp only [upd, Nat.reduceEqDiff, reduceIte]; rfl), ?_, ?_⟩
                      · rfl
                      · exact Below.refl _ _
                    · refine ⟨_, rfl, fun xs W hW hd => ?_⟩
                      have h10 : xs 10 = .slice (some ⟨sb, so, none⟩) 3 cv := hd 10 (by kernel_rfl)
                      clear hd
                      rw [upd_self h10]
                      simp only [fillI, List.take, List.setIfInBounds_toArray, List.set_cons_zero, List.set_cons_succ, Nat.reduceAdd, Nat.zero_add, upd, Nat.reduceEqDiff, reduceIte]
                      go_wp2_with fail
                      refine ⟨_, by (simp only [upd, Nat.reduceEqDiff, reduceIte]; rfl), ?_, ?_⟩
                      · rfl
                      · exact Below.refl _ _
                    · refine ⟨_, rfl, fun xs W hW hd => ?_⟩
                      have h11 : xs 11 = .pointer (some ⟨sb, so + 2, none⟩) := hd 11 (by kernel_rfl)
                      have cc := (M8.out W (undrew hW)).2.2.1
                      clear hd
                      rw [upd_self h11]
                      simp only [fillI, List.take, List.setIfInBounds_toArray, List.set_cons_zero, List.set_cons_succ, Nat.reduceAdd, Nat.zero_add, upd, Nat.reduceEqDiff, reduceIte]
                      go_wp2_with fail
                      refine ⟨_, by (simp only [upd, Nat.reduceEqDiff, reduceIte]; rfl), ?_, ?_⟩
                      · rfl
                      · exact Below.refl _ _
                    · refine ⟨_, rfl, fun xs W hW hd => ?_⟩
                      have h5 : SliceOf W W.heap.size N.b.size (strB N.b) (xs 5) := hd 5 (by kernel_rfl)
                      obtain ⟨A5x, c5x, e5⟩ := slice_shape h5
                      rw [e5] at h5
                      have h8 : xs 8 = .slice A1 16 c1 := hd 8 (by kernel_rfl)
                      have s8 := (M8.out W (undrew hW)).2.2.2.2.1
                      have h9 : xs 9 = .slice (some ⟨g10, 0, none⟩) 16 16 := hd 9 (by kernel_rfl)
                      have s9 := row_cells W g10 0 16 D (World.rowIs.lt (H8.out.step (undrew hW)).k10) (fun j hj => by rw [Nat.zero_add]; exact (H8.out.step (undrew hW)).k10.cell hj)
                      have h12 : xs 12 = .slice A2 8 c2 := hd 12 (by kernel_rfl)
                      have s12 := (M8.out W (undrew hW)).2.2.2.2.2.1
                      have HLP := Lib.hid (parts_list W (nsP b N D) #[.slice A5x N.b.size c5x, .slice A1 16 c1, .slice (some ⟨g10, 0, none⟩) 16 16, .slice A2 8 c2] 4 rfl rfl (fun i hi => by
                                match i, hi with
                                | 0, _ => exact h5
                                | 1, _ => exact s8
                                | 2, _ => exact s9
                                | 3, _ => exact s12))
                      have HBP : Hid (Below W.heap.size W (W.alloc (.cells #[.slice A5x N.b.size c5x, .slice A1 16 c1, .slice (some ⟨g10, 0, none⟩) 16 16, .slice A2 8 c2] 28))) := Lib.hid ((Below.refl _ _).alloc (Nat.le_refl _) _)
                      clear h5 s8 s9 s12
                      clear hd
                      rw [upd_self e5]
                      rw [upd_self h8]
                      rw [upd_self h9]
                      rw [upd_self h12]
                      simp only [fillI, List.take, List.setIfInBounds_toArray, List.set_cons_zero, List.set_cons_succ, Nat.reduceAdd, Nat.zero_add, upd, Nat.reduceEqDiff, reduceIte]
                      go_wp2_with fail
                      refine ⟨_, by (simp only [upd, Nat.reduceEqDiff, reduceIte]; rfl), ?_, ?_⟩
                      · rw [HL1.out]; exact HLP.out
                      · exact HBP.out
                    · refine ⟨_, rfl, fun xs W hW hd => ?_⟩
                      have h0 : xs 0 = .agg K1 := hd 0 (by kernel_rfl)
                      have h2 : xs 2 = .agg D1 := hd 2 (by kernel_rfl)
                      have h13 : PartsOf W L1.length (fldM L1) (fldE L1) (xs 13) := hd 13 (by kernel_rfl)
                      have HC := Lib.hid (refSealed16_any (keyF (keyB a b.L)) (fun j => D (16 + j)) lNs3 K1 D1 ZK1.out.1 ZK1.out.2 ZD1.out.1 ZD1.out.2 L1.length (fldM L1) (fldE L1) (xs 13) W h13 HQ1.out)
                      generalize hx13 : xs 13 = px at *
                      clear h13
                      clear hd
                      rw [upd_self h0]
                      rw [upd_self h2]
                      rw [upd_self hx13]
                      simp only [fillI, List.take, List.setIfInBounds_toArray, List.set_cons_zero, List.set_cons_succ, Nat.reduceAdd, Nat.zero_add, upd, Nat.reduceEqDiff, reduceIte]
                      go_wp2_with fail
                      refine HC.out.mono ?_
                      rintro _ W2 ⟨A2x, c2x, rfl, hs2, hb2⟩
                      have HS2 := Lib.hid hs2
                      have HB2 := Lib.hid hb2
                      clear hs2 hb2
                      go_wp2_with fail
                      refine ⟨_, by (simp only [upd, Nat.reduceEqDiff, reduceIte]; rfl), ?_, ?_⟩
                      · rw [← HEQ1.out.1, ← HEQ1.out.2]; exact HS2.out
                      · exact HB2.out
                    · refine ⟨_, rfl, fun xs W hW hd => ?_⟩
                      have hf : SliceOf W W.heap.size N1 B1 (xs 14) := hd 14 (by kernel_rfl)
                      have HS := Lib.hid hf
                      generalize hx14 : xs 14 = px at *
                      clear hf
                      clear hd
                      rw [upd_self hx14]
                      simp only [fillI, List.take, List.setIfInBounds_toArray, List.set_cons_zero, List.set_cons_succ, Nat.reduceAdd, Nat.zero_add, upd, Nat.reduceEqDiff, reduceIte]
                      go_wp2_with fail
                      refine ⟨_, by (simp only [upd, Nat.reduceEqDiff, reduceIte]; rfl), ?_, ?_⟩
                      · exact HS.out
                      · exact Below.refl _ _
                  · intro xs w9 hW hp
                    have hf : SliceOf w9 w9.heap.size N1 B1 (xs 15) := hp 15 (by omega)
                    have HP1 := Lib.hid hf
                    have hb := undrew hW
                    obtain ⟨AX1, cX1, eX⟩ := slice_shape hf
                    rw [eX] at HP1
                    rw [upd_self eX]
                    simp only [fillI, List.take, List.setIfInBounds_toArray, List.set_cons_zero, List.set_cons_succ, Nat.reduceAdd, Nat.zero_add, upd, Nat.reduceEqDiff, reduceIte]
                    have H9 := Lib.hid (H8.out.step hb)
                    have HR9 := Lib.hid (HR8.out.of_block (hb.block _ (World.rowIs.lt HR8.out)))
                    have M9 := Lib.hid (fun W (hV : Below w9.heap.size w9 W) => M8.out W (hb.trans (hV.mono hb.size)))
                    clear hp hW hf hb eX
                    generalize xs 0 = y1x0 at *
                    generalize xs 1 = y1x1 at *
                    generalize xs 2 = y1x2 at *
                    generalize xs 3 = y1x3 at *
                    generalize xs 4 = y1x4 at *
                    generalize xs 5 = y1x5 at *
                    generalize xs 6 = y1x6 at *
                    generalize xs 7 = y1x7 at *
                    generalize xs 8 = y1x8 at *
                    generalize xs 9 = y1x9 at *
                    generalize xs 10 = y1x10 at *
                    generalize xs 11 = y1x11 at *
                    generalize xs 12 = y1x12 at *
                    generalize xs 13 = y1x13 at *
                    generalize xs 14 = y1x14 at *
                    clear xs
                    clear H8 HR8 HS8 M8
                    go_upto_region 19 with fail
                    refine region_inv_all (pA19 w.heap.size g10 sb so cv K2 D2 A0 m0 c0 A2 c2 L2 N2 B2) 13 (by kernel_rfl) (by kernel_rfl) (by kernel_rfl) (pA19_mono w.heap.size g10 sb so cv K2 D2 A0 m0 c0 A2 c2 L2 N2 B2) ?_ ?_
                    · refine ⟨⟨⟨⟨⟨⟨⟨⟨⟨⟨⟨⟨⟨trivial, ?_⟩, ?_⟩, ?_⟩, ?_⟩, ?_⟩, ?_⟩, ?_⟩, ?_⟩, ?_⟩, ?_⟩, ?_⟩, ?_⟩, ?_⟩
                      · refine ⟨_, rfl, fun xs W hW hd => ?_⟩
                        have hr := HR9.out.of_block ((undrew hW).block _ (World.rowIs.lt HR9.out))
                        clear hd
                        simp only [fillI, List.take, List.setIfInBounds_toArray, List.set_cons_zero, List.set_cons_succ, Nat.reduceAdd, Nat.zero_add]
                        refine load_as (by rfl) 25 (.tmp 11) (by rfl) g11 0 _ 16 16 _ K2 HK2.out hr (by rfl) _ Tryd.underlying25 (by rfl) (by kernel_rfl) (by omega) ?_
                        refine ⟨_, by (simp only [upd, Nat.reduceEqDiff, reduceIte]; rfl), ?_, ?_⟩
                        · rfl
                        · exact Below.refl _ _
                      · refine ⟨_, rfl, fun xs W hW hd => ?_⟩
                        clear hd
                        simp only [fillI, List.take, List.setIfInBounds_toArray, List.set_cons_zero, List.set_cons_succ, Nat.reduceAdd, Nat.zero_add]
                        go_wp2_with fail
                        refine ⟨_, by (simp only [upd, Nat.reduceEqDiff, reduceIte]; rfl), ?_, ?_⟩
                        · rfl
                        · exact Below.refl _ _
                      · refine ⟨_, rfl, fun xs W hW hd => ?_⟩
                        have h1 : xs 1 = .pointer (some ⟨w.heap.size + 1 + 1, 32, none⟩) := hd 1 (by kernel_rfl)
                        have hr := (H9.out.step (undrew hW)).st.dr
                        clear hd
                        rw [upd_self h1]
                        simp only [fillI, List.take, List.setIfInBounds_toArray, List.set_cons_zero, List.set_cons_succ, Nat.reduceAdd, Nat.zero_add, upd, Nat.reduceEqDiff, reduceIte]
                        refine load_as (by rfl) 25 (.tmp 108) (by rfl) (w.heap.size + 1 + 1) 32 _ 48 16 _ D2 HD2.out hr (by rfl) _ Tryd.underlying25 (by rfl) (by kernel_rfl) (by omega) ?_
                        refine ⟨_, by (simp only [upd, Nat.reduceEqDiff, reduceIte]; rfl), ?_, ?_⟩
                        · rfl
                        · exact Below.refl _ _
                      · refine ⟨_, rfl, fun xs W hW hd => ?_⟩
                        clear hd
                        simp only [fillI, List.take, List.setIfInBounds_toArray, List.set_cons_zero, List.set_cons_succ, Nat.reduceAdd, Nat.zero_add]
                        go_wp2_with fail
                        refine ⟨_, by (simp only [upd, Nat.reduceEqDiff, reduceIte]; rfl), ?_, ?_⟩
                        · rfl
                        · exact Below.refl _ _
                      · refine ⟨_, rfl, fun xs W hW hd => ?_⟩
                        have h3 : xs 3 = .slice (some ⟨sb, so, none⟩) 3 cv := hd 3 (by kernel_rfl)
                        clear hd
                        rw [upd_self h3]
                        simp only [fillI, List.take, List.setIfInBounds_toArray, List.set_cons_zero, List.set_cons_succ, Nat.reduceAdd, Nat.zero_add, upd, Nat.reduceEqDiff, reduceIte]
                        go_wp2_with fail
                        refine ⟨_, by (simp only [upd, Nat.reduceEqDiff, reduceIte]; rfl), ?_, ?_⟩
                        · rfl
                        · exact Below.refl _ _
                      · refine ⟨_, rfl, fun xs W hW hd => ?_⟩
                        have h4 : xs 4 = .pointer (some ⟨sb, so, none⟩) := hd 4 (by kernel_rfl)
                        have cc := (M9.out W (undrew hW)).1
                        clear hd
                        rw [upd_self h4]
                        simp only [fillI, List.take, List.setIfInBounds_toArray, List.set_cons_zero, List.set_cons_succ, Nat.reduceAdd, Nat.zero_add, upd, Nat.reduceEqDiff, reduceIte]
                        go_wp2_with fail
                        refine ⟨_, by (simp only [upd, Nat.reduceEqDiff, reduceIte]; rfl), ?_, ?_⟩
                        · rfl
                        · exact Below.refl _ _
                      · refine ⟨_, rfl, fun xs W hW hd => ?_⟩
                        clear hd
                        simp only [fillI, List.take, List.setIfInBounds_toArray, List.set_cons_zero, List.set_cons_succ, Nat.reduceAdd, Nat.zero_add]
                        have ka := fun W => KS.out W g10 0
                        go_wp2_with fail
                        refine ⟨_, by (simp only [upd, Nat.reduceEqDiff, reduceIte]; rfl), ?_, ?_⟩
                        · rfl
                        · exact Below.refl _ _
                      · refine ⟨_, rfl, fun xs W hW hd => ?_⟩
                        clear hd
                        simp only [fillI, List.take, List.setIfInBounds_toArray, List.set_cons_zero, List.set_cons_succ, Nat.reduceAdd, Nat.zero_add]
                        go_wp2_with fail
                        refine ⟨_, by (simp only [upd, Nat.reduceEqDiff, reduceIte]; rfl), ?_, ?_⟩
                        · rfl
                        · exact Below.refl _ _
                      · refine ⟨_, rfl, fun xs W hW hd => ?_⟩
                        have h7 : xs 7 = .slice (some ⟨sb, so, none⟩) 3 cv := hd 7 (by kernel_rfl)
                        clear hd
                        rw [upd_self h7]
                        simp only [fillI, List.take, List.setIfInBounds_toArray, List.set_cons_zero, List.set_cons_succ, Nat.reduceAdd, Nat.zero_add, upd, Nat.reduceEqDiff, reduceIte]
                        go_wp2_with fail
                        refine ⟨_, by (simp only [upd, Nat.reduceEqDiff, reduceIte]; rfl), ?_, ?_⟩
                        · rfl
                        · exact Below.refl _ _
                      · refine ⟨_, rfl, fun xs W hW hd => ?_⟩
                        have h8 : xs 8 = .pointer (some ⟨sb, so + 2, none⟩) := hd 8 (by kernel_rfl)
                        have cc := (M9.out W (undrew hW)).2.2.1
                        clear hd
                        rw [upd_self h8]
                        simp only [fillI, List.take, List.setIfInBounds_toArray, List.set_cons_zero, List.set_cons_succ, Nat.reduceAdd, Nat.zero_add, upd, Nat.reduceEqDiff, reduceIte]
                        go_wp2_with fail
                        refine ⟨_, by (simp only [upd, Nat.reduceEqDiff, reduceIte]; rfl), ?_, ?_⟩
                        · rfl
                        · exact Below.refl _ _
                      · refine ⟨_, rfl, fun xs W hW hd => ?_⟩
                        have h5 : xs 5 = .slice A0 m0 c0 := hd 5 (by kernel_rfl)
                        have s5 := (M9.out W (undrew hW)).2.2.2.2.2.2
                        rw [HAA.out] at s5
                        have h6 : xs 6 = .slice (some ⟨g10, 0, none⟩) 16 16 := hd 6 (by kernel_rfl)
                        have s6 := row_cells W g10 0 16 D (World.rowIs.lt (H9.out.step (undrew hW)).k10) (fun j hj => by rw [Nat.zero_add]; exact (H9.out.step (undrew hW)).k10.cell hj)
                        have h9 : xs 9 = .slice A2 8 c2 := hd 9 (by kernel_rfl)
                        have s9 := (M9.out W (undrew hW)).2.2.2.2.2.1
                        have HLP := Lib.hid (parts_list W (nsQ b N D) #[.slice A0 m0 c0, .slice (some ⟨g10, 0, none⟩) 16 16, .slice A2 8 c2] 3 rfl rfl (fun i hi => by
                                  match i, hi with
                                  | 0, _ => exact s5
                                  | 1, _ => exact s6
                                  | 2, _ => exact s9))
                        have HBP : Hid (Below W.heap.size W (W.alloc (.cells #[.slice A0 m0 c0, .slice (some ⟨g10, 0, none⟩) 16 16, .slice A2 8 c2] 28))) := Lib.hid ((Below.refl _ _).alloc (Nat.le_refl _) _)
                        clear s5 s6 s9
                        clear hd
                        rw [upd_self h5]
                        rw [upd_self h6]
                        rw [upd_self h9]
                        simp only [fillI, List.take, List.setIfInBounds_toArray, List.set_cons_zero, List.set_cons_succ, Nat.reduceAdd, Nat.zero_add, upd, Nat.reduceEqDiff, reduceIte]
                        go_wp2_with fail
                        refine ⟨_, by (simp only [upd, Nat.reduceEqDiff, reduceIte]; rfl), ?_, ?_⟩
                        · rw [HL2.out]; exact HLP.out
                        · exact HBP.out
                      · refine ⟨_, rfl, fun xs W hW hd => ?_⟩
                        have h0 : xs 0 = .agg K2 := hd 0 (by kernel_rfl)
                        have h2 : xs 2 = .agg D2 := hd 2 (by kernel_rfl)
                        have h10 : PartsOf W L2.length (fldM L2) (fldE L2) (xs 10) := hd 10 (by kernel_rfl)
                        have HC := Lib.hid (refSealed16_any (keyF (keyB N.b b.L)) (fun j => D (32 + j)) lNst K2 D2 ZK2.out.1 ZK2.out.2 ZD2.out.1 ZD2.out.2 L2.length (fldM L2) (fldE L2) (xs 10) W h10 HQ2.out)
                        generalize hx10 : xs 10 = px at *
                        clear h10
                        clear hd
                        rw [upd_self h0]
                        rw [upd_self h2]
                        rw [upd_self hx10]
                        simp only [fillI, List.take, List.setIfInBounds_toArray, List.set_cons_zero, List.set_cons_succ, Nat.reduceAdd, Nat.zero_add, upd, Nat.reduceEqDiff, reduceIte]
                        go_wp2_with fail
                        refine HC.out.mono ?_
                        rintro _ W2 ⟨A2x, c2x, rfl, hs2, hb2⟩
                        have HS2 := Lib.hid hs2
                        have HB2 := Lib.hid hb2
                        clear hs2 hb2
                        go_wp2_with fail
                        refine ⟨_, by (simp only [upd, Nat.reduceEqDiff, reduceIte]; rfl), ?_, ?_⟩
                        · rw [← HEQ2.out.1, ← HEQ2.out.2]; exact HS2.out
                        · exact HB2.out
                      · refine ⟨_, rfl, fun xs W hW hd => ?_⟩
                        have hf : SliceOf W W.heap.size N2 B2 (xs 11) := hd 11 (by kernel_rfl)
                        have HS := Lib.hid hf
                        generalize hx11 : xs 11 = px at *
                        clear hf
                        clear hd
                        rw [upd_self hx11]
                        simp only [fillI, List.take, List.setIfInBounds_toArray, List.set_cons_zero, List.set_cons_succ, Nat.reduceAdd, Nat.zero_add, upd, Nat.reduceEqDiff, reduceIte]
                        go_wp2_with fail
                        refine ⟨_, by (simp only [upd, Nat.reduceEqDiff, reduceIte]; rfl), ?_, ?_⟩
                        · exact HS.out
                        · exact Below.refl _ _
                    · intro xs w10 hW hp
                      have hf : SliceOf w10 w10.heap.size N2 B2 (xs 12) := hp 12 (by omega)
                      have HP2 := Lib.hid hf
                      have hb := undrew hW
                      obtain ⟨AX2, cX2, eX⟩ := slice_shape hf
                      rw [eX] at HP2
                      rw [upd_self eX]
                      simp only [fillI, List.take, List.setIfInBounds_toArray, List.set_cons_zero, List.set_cons_succ, Nat.reduceAdd, Nat.zero_add, upd, Nat.reduceEqDiff, reduceIte]
                      have H10 := Lib.hid (H9.out.step hb)
                      have HX1 := Lib.hid (slice_next HP1.out hb)
                      clear hp hW hf hb eX
                      generalize xs 0 = y2x0 at *
                      generalize xs 1 = y2x1 at *
                      generalize xs 2 = y2x2 at *
                      generalize xs 3 = y2x3 at *
                      generalize xs 4 = y2x4 at *
                      generalize xs 5 = y2x5 at *
                      generalize xs 6 = y2x6 at *
                      generalize xs 7 = y2x7 at *
                      generalize xs 8 = y2x8 at *
                      generalize xs 9 = y2x9 at *
                      generalize xs 10 = y2x10 at *
                      generalize xs 11 = y2x11 at *
                      clear xs
                      clear H9 HR9 M9 HP1
                      go_upto_region 20 with fail
                      refine region_mix (fun W => W.rowIs (w.heap.size + 1) 37 38 (noteF N P Q R)) [(0, true), (1, true), (2, true), (3, true), (4, true), (5, true), (6, true), (7, false), (8, true)] (by kernel_rfl) (by kernel_rfl) H10.out.st.nt ?_
                      refine m_val rfl (by rfl) (.string a) (fun W hW => by clear hW; go_simp) ?_
                      simp only [Act.put, List.setIfInBounds_toArray, List.set_cons_zero, List.set_cons_succ]
                      refine m_val rfl (by rfl) (.slice AX1 N1 cX1) (fun W hW => by clear hW; go_simp) ?_
                      simp only [Act.put, List.setIfInBounds_toArray, List.set_cons_zero, List.set_cons_succ]
                      refine m_val rfl (by rfl) (.slice AX2 N2 cX2) (fun W hW => by clear hW; go_simp) ?_
                      simp only [Act.put, List.setIfInBounds_toArray, List.set_cons_zero, List.set_cons_succ]
                      refine m_val rfl (by rfl) (.pointer (some ⟨w.heap.size + 1, 19, none⟩)) (fun W hW => by clear hW; go_simp) ?_
                      simp only [Act.put, List.setIfInBounds_toArray, List.set_cons_zero, List.set_cons_succ]
                      refine m_load rfl (by rfl) 25 (.tmp 122) (by rfl) (w.heap.size + 1) 19 _ 38 16 _ (fun W hW => hW) (by rfl) _ Tryd.underlying25 (by rfl) (by kernel_rfl) (by omega) ?_
                      rw [show cellsOf 16 (fun j => noteF N P Q R (19 + j)) = #[byteF (N.y) 0, byteF (N.y) 1, byteF (N.y) 2, byteF (N.y) 3, byteF (N.y) 4, byteF (N.y) 5, byteF (N.y) 6, byteF (N.y) 7, byteF (N.y) 8, byteF (N.y) 9, byteF (N.y) 10, byteF (N.y) 11, byteF (N.y) 12, byteF (N.y) 13, byteF (N.y) 14, byteF (N.y) 15] from rfl]
                      simp only [Act.put, List.setIfInBounds_toArray, List.set_cons_zero, List.set_cons_succ]
                      refine m_val rfl (by rfl) (.agg #[.int .i64 3, .string ⟨#[]⟩, .string ⟨#[]⟩, .int .u8 0, .int .u8 0, .int .u8 0, .int .u8 0, .int .u8 0, .int .u8 0, .int .u8 0, .int .u8 0, .int .u8 0, .int .u8 0, .int .u8 0, .int .u8 0, .int .u8 0, .int .u8 0, .int .u8 0, .int .u8 0, byteF N.y 0, byteF N.y 1, byteF N.y 2, byteF N.y 3, byteF N.y 4, byteF N.y 5, byteF N.y 6, byteF N.y 7, byteF N.y 8, byteF N.y 9, byteF N.y 10, byteF N.y 11, byteF N.y 12, byteF N.y 13, byteF N.y 14, byteF N.y 15, .slice AX1 N1 cX1, .slice AX2 N2 cX2, .slice none 0 0]) (fun W hW => by clear hW; go_simp) ?_
                      simp only [Act.put, List.setIfInBounds_toArray, List.set_cons_zero, List.set_cons_succ]
                      refine m_val rfl (by rfl) (.string a) (fun W hW => by clear hW; go_simp) ?_
                      simp only [Act.put, List.setIfInBounds_toArray, List.set_cons_zero, List.set_cons_succ]
                      have hdr : Below w10.heap.size w10 w10.drew := (Below.refl _ _).drew
                      have HD := Lib.hid (H10.out.step hdr)
                      have HX1D := Lib.hid (slice_next HX1.out hdr)
                      have HX2D := Lib.hid (slice_next HP2.out hdr)
                      clear hdr H10 HX1 HP2
                      generalize w10.drew = wd at *
                      have hz := HD.out.st.zr
                      refine m_go rfl ?_
                      go_wp2_with (refine store_whole (by rfl) 37 (.tmp 7) (.tmp 124) (by rfl) (w.heap.size + 1 + 1 + 1) _ 38 _ (noteF (nsN b N D (fun j => D (16 + j)) (fun j => D (32 + j))) (.slice AX1 N1 cX1) (.slice AX2 N2 cX2) nilV) hz (by rfl) (cellsOf 38 (noteF (nsN b N D (fun j => D (16 + j)) (fun j => D (32 + j))) (.slice AX1 N1 cX1) (.slice AX2 N2 cX2) nilV)) (by kernel_rfl) (by kernel_rfl) (size_cellsOf _ _) (cellsOf_at _ _) (note_cells_one _ _ _ _ rfl rfl rfl) ?_; intro w11 hr11 ho11)
                      refine m_on (HD.out.st.nt.of_block (ho11.block _ (by omega))) ?_
                      refine m_val rfl (by rfl) (.int .i64 0) (fun W hW => by clear hW; go_simp) ?_
                      simp only [Act.put, List.setIfInBounds_toArray, List.set_cons_zero, List.set_cons_succ]
                      refine m_end ?_
                      go_wp2
                      refine bodyPost_ret (results_mid rfl _ (w.heap.size + 1 + 1 + 1) _ 38 _ _ rfl hr11 Tryd.underlying37 (by rfl) (by kernel_rfl)) rfl ?_
                      unfold ansTo ansN
                      rw [HC.out, if_pos rfl, if_pos rfl, if_pos HE2.out, if_pos HE2.out]
                      refine ⟨.slice AX1 N1 cX1, .slice AX2 N2 cX2, nilV, by rw [← HAA.out]; rfl, ⟨?_, ?_, SliceOf.nil _ _ _⟩, ho11.below HD.out.st.hb (by omega)⟩
                      · show SliceOf w11 w11.heap.size (blobN (nsP b N D)) (blobB (keyF (keyB (nsA b N) b.L)) (fun j => D (16 + j)) lNs3 (nsP b N D)) _
                        rw [← HN1.out, ← HAA.out, ← HB1.out]
                        exact slice_past HX1D.out HD.out.st.zr (by rw [HN1.out]; exact blob_big _) ho11
                      · show SliceOf w11 w11.heap.size (blobN (nsQ b N D)) (blobB (keyF (keyB N.b b.L)) (fun j => D (32 + j)) lNst (nsQ b N D)) _
                        rw [← HN2.out, ← HB2.out]
                        exact slice_past HX2D.out HD.out.st.zr (by rw [HN2.out]; exact blob_big _) ho11
            · have q : ((m2 : Int) == 8) = false := by simp; omega
              skip
              have HC : Hid (ansC b N = 3) := Lib.hid (by
                have h3 : reqC (nsKs b N) N.p N.pn = 3 := by rw [HRC0.out, if_neg (by rw [HRF.out]; simp; omega)]
                unfold ansC nsC
                rw [if_pos HE2.out, if_neg (by rw [HH.out]; decide), if_pos (by rw [h3]; decide), h3])
              clear HRF HRC0
              go_upto_region 11 with fail
              clear p0 p1 p2 ks
              have HZ := H5
              refine region_mix (fun W => W.rowIs g9 37 38 (noteF zeroN nilV nilV nilV)) [(0, true), (1, true), (2, false), (3, true)] (by kernel_rfl) (by kernel_rfl) HZ.out.z9 ?_
              refine m_load rfl (by rfl) 37 (.tmp 9) (by rfl) g9 0 _ 38 38 _ (fun W hW => hW) (by rfl) _ Tryd.underlying37 (by rfl) (by kernel_rfl) (by omega) ?_
              rw [show cellsOf 38 (fun j => noteF zeroN nilV nilV nilV (0 + j)) = cellsOf 38 (noteF zeroN nilV nilV nilV) from rfl]
              simp only [Act.put, List.setIfInBounds_toArray, List.set_cons_zero, List.set_cons_succ]
              refine m_val rfl (by rfl) (.string ⟨#[]⟩) (fun W hW => by clear hW; go_simp) ?_
              simp only [Act.put, List.setIfInBounds_toArray, List.set_cons_zero, List.set_cons_succ]
              have hdr : Below w5.heap.size w5 w5.drew := (Below.refl _ _).drew
              have HD := Lib.hid (HZ.out.step hdr)
              clear hdr
              generalize w5.drew = wd at *
              have hz := HD.out.st.zr
              refine m_go rfl ?_
              go_wp2_with (refine store_whole (by rfl) 37 (.tmp 7) (.tmp 73) (by rfl) (w.heap.size + 1 + 1 + 1) _ 38 _ (noteF zeroN nilV nilV nilV) hz (by rfl) (cellsOf 38 (noteF zeroN nilV nilV nilV)) (by kernel_rfl) (by kernel_rfl) (size_cellsOf _ _) (cellsOf_at _ _) (note_cells_one _ _ _ _ rfl rfl rfl) ?_; intro w9 hr9 ho9)
              have hne := HD.out.ne
              refine m_on (HD.out.z9.of_block (ho9.block g9 (by omega))) ?_
              refine m_val rfl (by rfl) (.int .i64 3) (fun W hW => by clear hW; go_simp) ?_
              simp only [Act.put, List.setIfInBounds_toArray, List.set_cons_zero, List.set_cons_succ]
              refine m_end ?_
              go_wp2
              refine bodyPost_ret (results_mid rfl _ (w.heap.size + 1 + 1 + 1) _ 38 _ _ rfl hr9 Tryd.underlying37 (by rfl) (by kernel_rfl)) rfl ?_
              exact ans_err HC.out (by decide) rfl (ho9.below HD.out.st.hb (by omega))
          · have q : ((m1 : Int) == 16) = false := by simp; omega
            skip
            have HC : Hid (ansC b N = 3) := Lib.hid (by
              have h3 : reqC (nsKs b N) N.p N.pn = 3 := by rw [HRC0.out, if_neg (by rw [HRF.out]; simp; omega)]
              unfold ansC nsC
              rw [if_pos HE2.out, if_neg (by rw [HH.out]; decide), if_pos (by rw [h3]; decide), h3])
            clear HRF HRC0
            go_upto_region 11 with fail
            clear p0 p1 p2 ks
            have HZ := H5
            refine region_mix (fun W => W.rowIs g9 37 38 (noteF zeroN nilV nilV nilV)) [(0, true), (1, true), (2, false), (3, true)] (by kernel_rfl) (by kernel_rfl) HZ.out.z9 ?_
            refine m_load rfl (by rfl) 37 (.tmp 9) (by rfl) g9 0 _ 38 38 _ (fun W hW => hW) (by rfl) _ Tryd.underlying37 (by rfl) (by kernel_rfl) (by omega) ?_
            rw [show cellsOf 38 (fun j => noteF zeroN nilV nilV nilV (0 + j)) = cellsOf 38 (noteF zeroN nilV nilV nilV) from rfl]
            simp only [Act.put, List.setIfInBounds_toArray, List.set_cons_zero, List.set_cons_succ]
            refine m_val rfl (by rfl) (.string ⟨#[]⟩) (fun W hW => by clear hW; go_simp) ?_
            simp only [Act.put, List.setIfInBounds_toArray, List.set_cons_zero, List.set_cons_succ]
            have hdr : Below w5.heap.size w5 w5.drew := (Below.refl _ _).drew
            have HD := Lib.hid (HZ.out.step hdr)
            clear hdr
            generalize w5.drew = wd at *
            have hz := HD.out.st.zr
            refine m_go rfl ?_
            go_wp2_with (refine store_whole (by rfl) 37 (.tmp 7) (.tmp 73) (by rfl) (w.heap.size + 1 + 1 + 1) _ 38 _ (noteF zeroN nilV nilV nilV) hz (by rfl) (cellsOf 38 (noteF zeroN nilV nilV nilV)) (by kernel_rfl) (by kernel_rfl) (size_cellsOf _ _) (cellsOf_at _ _) (note_cells_one _ _ _ _ rfl rfl rfl) ?_; intro w9 hr9 ho9)
            have hne := HD.out.ne
            refine m_on (HD.out.z9.of_block (ho9.block g9 (by omega))) ?_
            refine m_val rfl (by rfl) (.int .i64 3) (fun W hW => by clear hW; go_simp) ?_
            simp only [Act.put, List.setIfInBounds_toArray, List.set_cons_zero, List.set_cons_succ]
            refine m_end ?_
            go_wp2
            refine bodyPost_ret (results_mid rfl _ (w.heap.size + 1 + 1 + 1) _ 38 _ _ rfl hr9 Tryd.underlying37 (by rfl) (by kernel_rfl)) rfl ?_
            exact ans_err HC.out (by decide) rfl (ho9.below HD.out.st.hb (by omega))
      · have HC : Hid (ansC b N = pc) := Lib.hid (by
          unfold ansC nsC
          rw [if_pos HE2.out, if_neg (by rw [HH.out]; decide), if_pos (by rw [HRC.out, if_neg h0]; exact h0), HRC.out, if_neg h0])
        have HQ0 := Lib.hid h0
        have q : (pc == 0) = false := by simpa using h0
        clear h0 HO5 HPK HRC
        go_upto_region 9 with fail
        clear q
        have HZ := H5
        refine region_mix (fun W => W.rowIs g9 37 38 (noteF zeroN nilV nilV nilV)) [(0, true), (1, true), (2, true), (3, false), (4, true)] (by kernel_rfl) (by kernel_rfl) HZ.out.z9 ?_
        refine m_load rfl (by rfl) 37 (.tmp 9) (by rfl) g9 0 _ 38 38 _ (fun W hW => hW) (by rfl) _ Tryd.underlying37 (by rfl) (by kernel_rfl) (by omega) ?_
        rw [show cellsOf 38 (fun j => noteF zeroN nilV nilV nilV (0 + j)) = cellsOf 38 (noteF zeroN nilV nilV nilV) from rfl]
        simp only [Act.put, List.setIfInBounds_toArray, List.set_cons_zero, List.set_cons_succ]
        refine m_val rfl (by rfl) (.int .i64 pc) (fun W hW => by clear hW; go_simp) ?_
        simp only [Act.put, List.setIfInBounds_toArray, List.set_cons_zero, List.set_cons_succ]
        refine m_val rfl (by rfl) (.string ⟨#[]⟩) (fun W hW => by clear hW; go_simp) ?_
        simp only [Act.put, List.setIfInBounds_toArray, List.set_cons_zero, List.set_cons_succ]
        have hdr : Below w5.heap.size w5 w5.drew := (Below.refl _ _).drew
        have HD := Lib.hid (HZ.out.step hdr)
        clear hdr
        generalize w5.drew = wd at *
        have hz := HD.out.st.zr
        refine m_go rfl ?_
        go_wp2_with (refine store_whole (by rfl) 37 (.tmp 7) (.tmp 51) (by rfl) (w.heap.size + 1 + 1 + 1) _ 38 _ (noteF zeroN nilV nilV nilV) hz (by rfl) (cellsOf 38 (noteF zeroN nilV nilV nilV)) (by kernel_rfl) (by kernel_rfl) (size_cellsOf _ _) (cellsOf_at _ _) (note_cells_one _ _ _ _ rfl rfl rfl) ?_; intro w9 hr9 ho9)
        have hne := HD.out.ne
        refine m_on (HD.out.z9.of_block (ho9.block g9 (by omega))) ?_
        refine m_val rfl (by rfl) (.int .i64 pc) (fun W hW => by clear hW; go_simp) ?_
        simp only [Act.put, List.setIfInBounds_toArray, List.set_cons_zero, List.set_cons_succ]
        refine m_end ?_
        go_wp2
        refine bodyPost_ret (results_mid rfl _ (w.heap.size + 1 + 1 + 1) _ 38 _ _ rfl hr9 Tryd.underlying37 (by rfl) (by kernel_rfl)) rfl ?_
        exact ans_err HC.out HQ0.out rfl (ho9.below HD.out.st.hb (by omega))
  · by_cases h7 : N.kind = 7
    · have HE7 := Lib.hid h7
      rw [h7] at d0
      clear h7 h2
      go_upto_region 22 with fail
      clear d0
      have d1 := H2.out.st.nt.cell (i := 1) (by omega)
      rw [show noteF N P Q R 1 = .string N.a from rfl] at d1
      have d2 := H2.out.st.nt.cell (i := 2) (by omega)
      rw [show noteF N P Q R 2 = .string N.b from rfl] at d2
      have hl := Book.str_beq N.a N.b
      by_cases he : N.a = N.b
      · have HC : Hid (ansC b N = 1) := Lib.hid (by
          unfold ansC kslC
          rw [if_neg (by rw [HE7.out]; decide), if_pos HE7.out, if_pos he])
        rw [decide_eq_true he] at hl
        clear he
        go_upto_region 23 with fail
        clear hl d1 d2
        have HZ := H2
        refine region_mix (fun W => W.rowIs g9 37 38 (noteF zeroN nilV nilV nilV)) [(0, true), (1, true), (2, false), (3, true)] (by kernel_rfl) (by kernel_rfl) HZ.out.z9 ?_
        refine m_load rfl (by rfl) 37 (.tmp 9) (by rfl) g9 0 _ 38 38 _ (fun W hW => hW) (by rfl) _ Tryd.underlying37 (by rfl) (by kernel_rfl) (by omega) ?_
        rw [show cellsOf 38 (fun j => noteF zeroN nilV nilV nilV (0 + j)) = cellsOf 38 (noteF zeroN nilV nilV nilV) from rfl]
        simp only [Act.put, List.setIfInBounds_toArray, List.set_cons_zero, List.set_cons_succ]
        refine m_val rfl (by rfl) (.string ⟨#[]⟩) (fun W hW => by clear hW; go_simp) ?_
        simp only [Act.put, List.setIfInBounds_toArray, List.set_cons_zero, List.set_cons_succ]
        have hdr : Below w2.heap.size w2 w2.drew := (Below.refl _ _).drew
        have HD := Lib.hid (HZ.out.step hdr)
        clear hdr
        generalize w2.drew = wd at *
        have hz := HD.out.st.zr
        refine m_go rfl ?_
        go_wp2_with (refine store_whole (by rfl) 37 (.tmp 7) (.tmp 133) (by rfl) (w.heap.size + 1 + 1 + 1) _ 38 _ (noteF zeroN nilV nilV nilV) hz (by rfl) (cellsOf 38 (noteF zeroN nilV nilV nilV)) (by kernel_rfl) (by kernel_rfl) (size_cellsOf _ _) (cellsOf_at _ _) (note_cells_one _ _ _ _ rfl rfl rfl) ?_; intro w9 hr9 ho9)
        have hne := HD.out.ne
        refine m_on (HD.out.z9.of_block (ho9.block g9 (by omega))) ?_
        refine m_val rfl (by rfl) (.int .i64 1) (fun W hW => by clear hW; go_simp) ?_
        simp only [Act.put, List.setIfInBounds_toArray, List.set_cons_zero, List.set_cons_succ]
        refine m_end ?_
        go_wp2
        refine bodyPost_ret (results_mid rfl _ (w.heap.size + 1 + 1 + 1) _ 38 _ _ rfl hr9 Tryd.underlying37 (by rfl) (by kernel_rfl)) rfl ?_
        exact ans_err HC.out (by decide) rfl (ho9.below HD.out.st.hb (by omega))
      · have HNE := Lib.hid he
        rw [decide_eq_false he] at hl
        clear he
        go_upto_region 24 with fail
        clear hl d1 d2
        have d1 := H2.out.st.nt.cell (i := 1) (by omega)
        rw [show noteF N P Q R 1 = .string N.a from rfl] at d1
        have r0 := H2.out.st.bk
        go_wp2_with (refine load_as (by rfl) 42 (.tmp 3) (by rfl) w.heap.size 0 _ 19 19 _ CB ((cells_zero _ _).trans HCB.out) r0 (by rfl) _ Tryd.underlying42 (by rfl) (by kernel_rfl) (by omega) ?_)
        refine (HKEY.out N.a w2 H2.out.st.is_).mono ?_
        rintro _ w3 ⟨rfl, hb⟩
        have H3 := Lib.hid (H2.out.step hb)
        clear d1 r0 hb H2
        obtain ⟨K6, hK6, zK6, iK6⟩ := cells_named 16 (wordF (keyB N.a b.L)) (keyF (keyB N.a b.L)) (fun _ _ => rfl)
        rw [hK6]
        clear hK6
        go_upto_region 25 with (refine store_whole (by rfl) 25 (.tmp 20) (.tmp 139) (by rfl) w3.heap.size _ 16 (fun _ => .int .u8 0) (byteF (keyF (keyB N.a b.L))) (by exact row_new w3 _ _ 16 _ (by rfl) (zero16 _ (by rfl))) (by rfl) _ (by rfl) (by kernel_rfl) zK6 iK6 (fun _ _ => rfl) ?_; intro w4 hr ho)
        have hb : Below w3.heap.size w3 w4 := ho.below ((Below.refl w3.heap.size w3).alloc (Nat.le_refl _) (.cells (Array.replicate 16 (.int .u8 0)) 25)) (Nat.le_refl _)
        have H4 := Lib.hid (H3.out.step hb)
        have HS4 := Lib.hid hr
        clear hr ho hb H3 zK6 iK6
        generalize w3.heap.size = g20 at *
        have d2 := H4.out.st.nt.cell (i := 2) (by omega)
        rw [show noteF N P Q R 2 = .string N.b from rfl] at d2
        have r0 := H4.out.st.bk
        go_wp2_with (refine load_as (by rfl) 42 (.tmp 3) (by rfl) w.heap.size 0 _ 19 19 _ CB ((cells_zero _ _).trans HCB.out) r0 (by rfl) _ Tryd.underlying42 (by rfl) (by kernel_rfl) (by omega) ?_)
        refine (HKEY.out N.b w4 H4.out.st.is_).mono ?_
        rintro _ w5 ⟨rfl, hb⟩
        have H5 := Lib.hid (H4.out.step hb)
        have HS5 := Lib.hid (HS4.out.of_block (hb.block _ (World.rowIs.lt HS4.out)))
        clear d2 r0 hb H4 HS4
        obtain ⟨K6, hK6, zK6, iK6⟩ := cells_named 16 (wordF (keyB N.b b.L)) (keyF (keyB N.b b.L)) (fun _ _ => rfl)
        rw [hK6]
        clear hK6
        go_upto_region 26 with (refine store_whole (by rfl) 25 (.tmp 22) (.tmp 146) (by rfl) w5.heap.size _ 16 (fun _ => .int .u8 0) (byteF (keyF (keyB N.b b.L))) (by exact row_new w5 _ _ 16 _ (by rfl) (zero16 _ (by rfl))) (by rfl) _ (by rfl) (by kernel_rfl) zK6 iK6 (fun _ _ => rfl) ?_; intro w8 hr ho)
        have hb : Below w5.heap.size w5 w8 := ho.below ((Below.refl w5.heap.size w5).alloc (Nat.le_refl _) (.cells (Array.replicate 16 (.int .u8 0)) 25)) (Nat.le_refl _)
        have H8 := Lib.hid (H5.out.step hb)
        have HS8 := Lib.hid (HS5.out.of_block (hb.block _ (World.rowIs.lt HS5.out)))
        have HR8 := Lib.hid hr
        clear hr ho hb H5 HS5 zK6 iK6
        generalize w5.heap.size = g22 at *
        cases ha : hasN b.L N.a with
        | false =>
          have HAF := Lib.hid ha
          have HC : Hid (ansC b N = 4) := Lib.hid (by
            unfold ansC kslC
            rw [if_neg (by rw [HE7.out]; decide), if_pos HE7.out, if_neg HNE.out, if_pos (.inl HAF.out)])
          clear ha
          go_upto_region 27 with fail
          have HZ := H8
          refine region_mix (fun W => W.rowIs g9 37 38 (noteF zeroN nilV nilV nilV)) [(0, true), (1, true), (2, false), (3, true)] (by kernel_rfl) (by kernel_rfl) HZ.out.z9 ?_
          refine m_load rfl (by rfl) 37 (.tmp 9) (by rfl) g9 0 _ 38 38 _ (fun W hW => hW) (by rfl) _ Tryd.underlying37 (by rfl) (by kernel_rfl) (by omega) ?_
          rw [show cellsOf 38 (fun j => noteF zeroN nilV nilV nilV (0 + j)) = cellsOf 38 (noteF zeroN nilV nilV nilV) from rfl]
          simp only [Act.put, List.setIfInBounds_toArray, List.set_cons_zero, List.set_cons_succ]
          refine m_val rfl (by rfl) (.string ⟨#[]⟩) (fun W hW => by clear hW; go_simp) ?_
          simp only [Act.put, List.setIfInBounds_toArray, List.set_cons_zero, List.set_cons_succ]
          have hdr : Below w8.heap.size w8 w8.drew := (Below.refl _ _).drew
          have HD := Lib.hid (HZ.out.step hdr)
          clear hdr
          generalize w8.drew = wd at *
          have hz := HD.out.st.zr
          refine m_go rfl ?_
          go_wp2_with (refine store_whole (by rfl) 37 (.tmp 7) (.tmp 154) (by rfl) (w.heap.size + 1 + 1 + 1) _ 38 _ (noteF zeroN nilV nilV nilV) hz (by rfl) (cellsOf 38 (noteF zeroN nilV nilV nilV)) (by kernel_rfl) (by kernel_rfl) (size_cellsOf _ _) (cellsOf_at _ _) (note_cells_one _ _ _ _ rfl rfl rfl) ?_; intro w9 hr9 ho9)
          have hne := HD.out.ne
          refine m_on (HD.out.z9.of_block (ho9.block g9 (by omega))) ?_
          refine m_val rfl (by rfl) (.int .i64 4) (fun W hW => by clear hW; go_simp) ?_
          simp only [Act.put, List.setIfInBounds_toArray, List.set_cons_zero, List.set_cons_succ]
          refine m_end ?_
          go_wp2
          refine bodyPost_ret (results_mid rfl _ (w.heap.size + 1 + 1 + 1) _ 38 _ _ rfl hr9 Tryd.underlying37 (by rfl) (by kernel_rfl)) rfl ?_
          exact ans_err HC.out (by decide) rfl (ho9.below HD.out.st.hb (by omega))
        | true =>
          have HAT := Lib.hid ha
          clear ha
          cases hb : hasN b.L N.b with
          | false =>
            have HBF := Lib.hid hb
            have HC : Hid (ansC b N = 4) := Lib.hid (by
              unfold ansC kslC
              rw [if_neg (by rw [HE7.out]; decide), if_pos HE7.out, if_neg HNE.out, if_pos (.inr HBF.out)])
            clear hb
            go_upto_region 27 with fail
            have HZ := H8
            refine region_mix (fun W => W.rowIs g9 37 38 (noteF zeroN nilV nilV nilV)) [(0, true), (1, true), (2, false), (3, true)] (by kernel_rfl) (by kernel_rfl) HZ.out.z9 ?_
            refine m_load rfl (by rfl) 37 (.tmp 9) (by rfl) g9 0 _ 38 38 _ (fun W hW => hW) (by rfl) _ Tryd.underlying37 (by rfl) (by kernel_rfl) (by omega) ?_
            rw [show cellsOf 38 (fun j => noteF zeroN nilV nilV nilV (0 + j)) = cellsOf 38 (noteF zeroN nilV nilV nilV) from rfl]
            simp only [Act.put, List.setIfInBounds_toArray, List.set_cons_zero, List.set_cons_succ]
            refine m_val rfl (by rfl) (.string ⟨#[]⟩) (fun W hW => by clear hW; go_simp) ?_
            simp only [Act.put, List.setIfInBounds_toArray, List.set_cons_zero, List.set_cons_succ]
            have hdr : Below w8.heap.size w8 w8.drew := (Below.refl _ _).drew
            have HD := Lib.hid (HZ.out.step hdr)
            clear hdr
            generalize w8.drew = wd at *
            have hz := HD.out.st.zr
            refine m_go rfl ?_
            go_wp2_with (refine store_whole (by rfl) 37 (.tmp 7) (.tmp 154) (by rfl) (w.heap.size + 1 + 1 + 1) _ 38 _ (noteF zeroN nilV nilV nilV) hz (by rfl) (cellsOf 38 (noteF zeroN nilV nilV nilV)) (by kernel_rfl) (by kernel_rfl) (size_cellsOf _ _) (cellsOf_at _ _) (note_cells_one _ _ _ _ rfl rfl rfl) ?_; intro w9 hr9 ho9)
            have hne := HD.out.ne
            refine m_on (HD.out.z9.of_block (ho9.block g9 (by omega))) ?_
            refine m_val rfl (by rfl) (.int .i64 4) (fun W hW => by clear hW; go_simp) ?_
            simp only [Act.put, List.setIfInBounds_toArray, List.set_cons_zero, List.set_cons_succ]
            refine m_end ?_
            go_wp2
            refine bodyPost_ret (results_mid rfl _ (w.heap.size + 1 + 1 + 1) _ 38 _ _ rfl hr9 Tryd.underlying37 (by rfl) (by kernel_rfl)) rfl ?_
            exact ans_err HC.out (by decide) rfl (ho9.below HD.out.st.hb (by omega))
          | true =>
            have HC : Hid (ansC b N = 0) := Lib.hid (by
              unfold ansC kslC
              rw [if_neg (by rw [HE7.out]; decide), if_pos HE7.out, if_neg HNE.out, if_neg (fun h => by rcases h with h | h <;> simp [HAT.out, hb] at h)])
            clear hb
            go_upto_region 28 with fail
            have KS := Lib.hid (fun (W : World) (bb o : Nat) => Seal.all_run (P := Tryd.prog) 25 5 16 Tryd.underlying25 (by kernel_rfl) bb o W)
            have KSTR := Lib.hid (fun (W : World) (s : ByteArray) => Lib.run_convert_string_bytes (P := Tryd.prog) W 9 28 5 s Tryd.underlying9 Tryd.underlying28 Tryd.underlying5)
            obtain ⟨K1, hK1, zK1, iK1⟩ := cells_named 16 (fun j => byteF (keyF (keyB N.b b.L)) (0 + j)) (keyF (keyB N.b b.L)) (fun i _ => by rw [Nat.zero_add]; rfl)
            have HK1 := Lib.hid hK1
            have ZK1 := Lib.hid (And.intro zK1 iK1)
            obtain ⟨D1, hD1, zD1, iD1⟩ := cells_named 16 (fun j => byteF D (16 + j)) (fun j => D (16 + j)) (fun i _ => rfl)
            have HD1 := Lib.hid hD1
            have ZD1 := Lib.hid (And.intro zD1 iD1)
            obtain ⟨L1, hL1⟩ : ∃ L, L = kslP N D := ⟨_, rfl⟩
            have HL1 := Lib.hid hL1
            obtain ⟨N1, hN1⟩ : ∃ n, n = blobN (kslP N D) := ⟨_, rfl⟩
            obtain ⟨B1, hB1⟩ : ∃ B, B = blobB (keyF (keyB N.b b.L)) (fun j => D (16 + j)) lK3b (kslP N D) := ⟨_, rfl⟩
            have HO1 : Hid (off (fldM (kslP N D)) (kslP N D).length ≤ 200) := Lib.hid (by show off (fldM [(16, N.y), (N.a.size, strB N.a), (16, D)]) 3 ≤ 200; rw [off3]; have := HA.out; omega)
            have HEQ1 : Hid (sealedN lK3b L1.length (fldM L1) = N1 ∧ sealedB (keyF (keyB N.b b.L)) (fun j => D (16 + j)) lK3b L1.length (fldM L1) (fldE L1) = B1) := Lib.hid ⟨by rw [hL1, hN1]; exact (blob_len lK3b (kslP N D) rfl (by show 3 ≤ 4; omega) HO1.out).2.2, by rw [hL1, hB1]; rfl⟩
            have HQ1 : Hid (off (fldM L1) L1.length + L1.length ≤ 100000) := Lib.hid (by rw [hL1]; exact Nat.le_trans (Nat.add_le_add HO1.out (show (kslP N D).length ≤ 4 by show 3 ≤ 4; omega)) (by decide))
            have HN1 := Lib.hid hN1
            have HB1 := Lib.hid hB1
            clear hK1 zK1 iK1 hD1 zD1 iD1 hL1 hN1 hB1
            obtain ⟨K2, hK2, zK2, iK2⟩ := cells_named 16 (fun j => byteF (keyF (keyB N.a b.L)) (0 + j)) (keyF (keyB N.a b.L)) (fun i _ => by rw [Nat.zero_add]; rfl)
            have HK2 := Lib.hid hK2
            have ZK2 := Lib.hid (And.intro zK2 iK2)
            obtain ⟨D2, hD2, zD2, iD2⟩ := cells_named 16 (fun j => byteF D (32 + j)) (fun j => D (32 + j)) (fun i _ => rfl)
            have HD2 := Lib.hid hD2
            have ZD2 := Lib.hid (And.intro zD2 iD2)
            obtain ⟨L2, hL2⟩ : ∃ L, L = kslQ N D := ⟨_, rfl⟩
            have HL2 := Lib.hid hL2
            obtain ⟨N2, hN2⟩ : ∃ n, n = blobN (kslQ N D) := ⟨_, rfl⟩
            obtain ⟨B2, hB2⟩ : ∃ B, B = blobB (keyF (keyB N.a b.L)) (fun j => D (32 + j)) lK3a (kslQ N D) := ⟨_, rfl⟩
            have HO2 : Hid (off (fldM (kslQ N D)) (kslQ N D).length ≤ 200) := Lib.hid (by show off (fldM [(16, N.x), (N.b.size, strB N.b), (16, D)]) 3 ≤ 200; rw [off3]; have := HB.out; omega)
            have HEQ2 : Hid (sealedN lK3a L2.length (fldM L2) = N2 ∧ sealedB (keyF (keyB N.a b.L)) (fun j => D (32 + j)) lK3a L2.length (fldM L2) (fldE L2) = B2) := Lib.hid ⟨by rw [hL2, hN2]; exact (blob_len lK3a (kslQ N D) rfl (by show 3 ≤ 4; omega) HO2.out).2.2, by rw [hL2, hB2]; rfl⟩
            have HQ2 : Hid (off (fldM L2) L2.length + L2.length ≤ 100000) := Lib.hid (by rw [hL2]; exact Nat.le_trans (Nat.add_le_add HO2.out (show (kslQ N D).length ≤ 4 by show 3 ≤ 4; omega)) (by decide))
            have HN2 := Lib.hid hN2
            have HB2 := Lib.hid hB2
            clear hK2 zK2 iK2 hD2 zD2 iD2 hL2 hN2 hB2
            refine region_inv_all (pA28 w.heap.size g10 K1 D1 N.a L1 N1 B1) 12 (by kernel_rfl) (by kernel_rfl) (by kernel_rfl) (pA28_mono w.heap.size g10 K1 D1 N.a L1 N1 B1) ?_ ?_
            · refine ⟨⟨⟨⟨⟨⟨⟨⟨⟨⟨⟨⟨trivial, ?_⟩, ?_⟩, ?_⟩, ?_⟩, ?_⟩, ?_⟩, ?_⟩, ?_⟩, ?_⟩, ?_⟩, ?_⟩, ?_⟩
              · refine ⟨_, rfl, fun xs W hW hd => ?_⟩
                have hr := HR8.out.of_block ((undrew hW).block _ (World.rowIs.lt HR8.out))
                clear hd
                simp only [fillI, List.take, List.setIfInBounds_toArray, List.set_cons_zero, List.set_cons_succ, Nat.reduceAdd, Nat.zero_add]
                refine load_as (by rfl) 25 (.tmp 22) (by rfl) g22 0 _ 16 16 _ K1 HK1.out hr (by rfl) _ Tryd.underlying25 (by rfl) (by kernel_rfl) (by omega) ?_
                refine ⟨_, by (simp only [upd, Nat.reduceEqDiff, reduceIte]; rfl), ?_, ?_⟩
                · rfl
                · exact Below.refl _ _
              · refine ⟨_, rfl, fun xs W hW hd => ?_⟩
                clear hd
                simp only [fillI, List.take, List.setIfInBounds_toArray, List.set_cons_zero, List.set_cons_succ, Nat.reduceAdd, Nat.zero_add]
                go_wp2_with fail
                refine ⟨_, by (simp only [upd, Nat.reduceEqDiff, reduceIte]; rfl), ?_, ?_⟩
                · rfl
                · exact Below.refl _ _
              · refine ⟨_, rfl, fun xs W hW hd => ?_⟩
                have h1 : xs 1 = .pointer (some ⟨w.heap.size + 1 + 1, 16, none⟩) := hd 1 (by kernel_rfl)
                have hr := (H8.out.step (undrew hW)).st.dr
                clear hd
                rw [upd_self h1]
                simp only [fillI, List.take, List.setIfInBounds_toArray, List.set_cons_zero, List.set_cons_succ, Nat.reduceAdd, Nat.zero_add, upd, Nat.reduceEqDiff, reduceIte]
                refine load_as (by rfl) 25 (.tmp 156) (by rfl) (w.heap.size + 1 + 1) 16 _ 48 16 _ D1 HD1.out hr (by rfl) _ Tryd.underlying25 (by rfl) (by kernel_rfl) (by omega) ?_
                refine ⟨_, by (simp only [upd, Nat.reduceEqDiff, reduceIte]; rfl), ?_, ?_⟩
                · rfl
                · exact Below.refl _ _
              · refine ⟨_, rfl, fun xs W hW hd => ?_⟩
                clear hd
                simp only [fillI, List.take, List.setIfInBounds_toArray, List.set_cons_zero, List.set_cons_succ, Nat.reduceAdd, Nat.zero_add]
                go_wp2_with fail
                refine ⟨_, by (simp only [upd, Nat.reduceEqDiff, reduceIte]; rfl), ?_, ?_⟩
                · rfl
                · exact Below.refl _ _
              · refine ⟨_, rfl, fun xs W hW hd => ?_⟩
                have h3 : xs 3 = .pointer (some ⟨w.heap.size + 1, 19, none⟩) := hd 3 (by kernel_rfl)
                clear hd
                rw [upd_self h3]
                simp only [fillI, List.take, List.setIfInBounds_toArray, List.set_cons_zero, List.set_cons_succ, Nat.reduceAdd, Nat.zero_add, upd, Nat.reduceEqDiff, reduceIte]
                have ka := fun W => KS.out W (w.heap.size + 1) 19
                go_wp2_with fail
                refine ⟨_, by (simp only [upd, Nat.reduceEqDiff, reduceIte]; rfl), ?_, ?_⟩
                · rfl
                · exact Below.refl _ _
              · refine ⟨_, rfl, fun xs W hW hd => ?_⟩
                clear hd
                simp only [fillI, List.take, List.setIfInBounds_toArray, List.set_cons_zero, List.set_cons_succ, Nat.reduceAdd, Nat.zero_add]
                go_wp2_with fail
                refine ⟨_, by (simp only [upd, Nat.reduceEqDiff, reduceIte]; rfl), ?_, ?_⟩
                · rfl
                · exact Below.refl _ _
              · refine ⟨_, rfl, fun xs W hW hd => ?_⟩
                have h5 : xs 5 = .pointer (some ⟨w.heap.size + 1, 1, none⟩) := hd 5 (by kernel_rfl)
                have cc := ((H8.out.step (undrew hW)).st.nt).cell (i := 1) (by omega)
                rw [show noteF N P Q R 1 = .string N.a from rfl] at cc
                clear hd
                rw [upd_self h5]
                simp only [fillI, List.take, List.setIfInBounds_toArray, List.set_cons_zero, List.set_cons_succ, Nat.reduceAdd, Nat.zero_add, upd, Nat.reduceEqDiff, reduceIte]
                go_wp2_with fail
                refine ⟨_, by (simp only [upd, Nat.reduceEqDiff, reduceIte]; rfl), ?_, ?_⟩
                · rfl
                · exact Below.refl _ _
              · refine ⟨_, rfl, fun xs W hW hd => ?_⟩
                have h6 : xs 6 = .string N.a := hd 6 (by kernel_rfl)
                clear hd
                rw [upd_self h6]
                simp only [fillI, List.take, List.setIfInBounds_toArray, List.set_cons_zero, List.set_cons_succ, Nat.reduceAdd, Nat.zero_add, upd, Nat.reduceEqDiff, reduceIte]
                have kx := KSTR.out W N.a
                go_wp2_with fail
                refine ⟨_, by (simp only [upd, Nat.reduceEqDiff, reduceIte]; rfl), ?_, ?_⟩
                · exact strB_slice W N.a _ (by rw [Lib.bytesWorld_size]; omega)
                · exact strB_below W N.a
              · refine ⟨_, rfl, fun xs W hW hd => ?_⟩
                clear hd
                simp only [fillI, List.take, List.setIfInBounds_toArray, List.set_cons_zero, List.set_cons_succ, Nat.reduceAdd, Nat.zero_add]
                have ka := fun W => KS.out W g10 0
                go_wp2_with fail
                refine ⟨_, by (simp only [upd, Nat.reduceEqDiff, reduceIte]; rfl), ?_, ?_⟩
                · rfl
                · exact Below.refl _ _
              · refine ⟨_, rfl, fun xs W hW hd => ?_⟩
                have h4 : xs 4 = .slice (some ⟨w.heap.size + 1, 19, none⟩) 16 16 := hd 4 (by kernel_rfl)
                have s4 := row_cells W (w.heap.size + 1) 19 16 N.y (World.rowIs.lt (H8.out.step (undrew hW)).st.nt) (fun j hj => by rw [(H8.out.step (undrew hW)).st.nt.cell (i := 19 + j) (by omega)]; exact congrArg some (noteF_y16 N P Q R j hj))
                have h7 : SliceOf W W.heap.size N.a.size (strB N.a) (xs 7) := hd 7 (by kernel_rfl)
                obtain ⟨A7x, c7x, e7⟩ := slice_shape h7
                rw [e7] at h7
                have h8 : xs 8 = .slice (some ⟨g10, 0, none⟩) 16 16 := hd 8 (by kernel_rfl)
                have s8 := row_cells W g10 0 16 D (World.rowIs.lt (H8.out.step (undrew hW)).k10) (fun j hj => by rw [Nat.zero_add]; exact (H8.out.step (undrew hW)).k10.cell hj)
                have HLP := Lib.hid (parts_list W (kslP N D) #[.slice (some ⟨w.heap.size + 1, 19, none⟩) 16 16, .slice A7x N.a.size c7x, .slice (some ⟨g10, 0, none⟩) 16 16] 3 rfl rfl (fun i hi => by
                          match i, hi with
                          | 0, _ => exact s4
                          | 1, _ => exact h7
                          | 2, _ => exact s8))
                have HBP : Hid (Below W.heap.size W (W.alloc (.cells #[.slice (some ⟨w.heap.size + 1, 19, none⟩) 16 16, .slice A7x N.a.size c7x, .slice (some ⟨g10, 0, none⟩) 16 16] 28))) := Lib.hid ((Below.refl _ _).alloc (Nat.le_refl _) _)
                clear s4 h7 s8
                clear hd
                rw [upd_self h4]
                rw [upd_self e7]
                rw [upd_self h8]
                simp only [fillI, List.take, List.setIfInBounds_toArray, List.set_cons_zero, List.set_cons_succ, Nat.reduceAdd, Nat.zero_add, upd, Nat.reduceEqDiff, reduceIte]
                go_wp2_with fail
                refine ⟨_, by (simp only [upd, Nat.reduceEqDiff, reduceIte]; rfl), ?_, ?_⟩
                · rw [HL1.out]; exact HLP.out
                · exact HBP.out
              · refine ⟨_, rfl, fun xs W hW hd => ?_⟩
                have h0 : xs 0 = .agg K1 := hd 0 (by kernel_rfl)
                have h2 : xs 2 = .agg D1 := hd 2 (by kernel_rfl)
                have h9 : PartsOf W L1.length (fldM L1) (fldE L1) (xs 9) := hd 9 (by kernel_rfl)
                have HC := Lib.hid (refSealed16_any (keyF (keyB N.b b.L)) (fun j => D (16 + j)) lK3b K1 D1 ZK1.out.1 ZK1.out.2 ZD1.out.1 ZD1.out.2 L1.length (fldM L1) (fldE L1) (xs 9) W h9 HQ1.out)
                generalize hx9 : xs 9 = px at *
                clear h9
                clear hd
                rw [upd_self h0]
                rw [upd_self h2]
                rw [upd_self hx9]
                simp only [fillI, List.take, List.setIfInBounds_toArray, List.set_cons_zero, List.set_cons_succ, Nat.reduceAdd, Nat.zero_add, upd, Nat.reduceEqDiff, reduceIte]
                go_wp2_with fail
                refine HC.out.mono ?_
                rintro _ W2 ⟨A2x, c2x, rfl, hs2, hb2⟩
                have HS2 := Lib.hid hs2
                have HB2 := Lib.hid hb2
                clear hs2 hb2
                go_wp2_with fail
                refine ⟨_, by (simp only [upd, Nat.reduceEqDiff, reduceIte]; rfl), ?_, ?_⟩
                · rw [← HEQ1.out.1, ← HEQ1.out.2]; exact HS2.out
                · exact HB2.out
              · refine ⟨_, rfl, fun xs W hW hd => ?_⟩
                have hf : SliceOf W W.heap.size N1 B1 (xs 10) := hd 10 (by kernel_rfl)
                have HS := Lib.hid hf
                generalize hx10 : xs 10 = px at *
                clear hf
                clear hd
                rw [upd_self hx10]
                simp only [fillI, List.take, List.setIfInBounds_toArray, List.set_cons_zero, List.set_cons_succ, Nat.reduceAdd, Nat.zero_add, upd, Nat.reduceEqDiff, reduceIte]
                go_wp2_with fail
                refine ⟨_, by (simp only [upd, Nat.reduceEqDiff, reduceIte]; rfl), ?_, ?_⟩
                · exact HS.out
                · exact Below.refl _ _
            · intro xs w9 hW hp
              have hf : SliceOf w9 w9.heap.size N1 B1 (xs 11) := hp 11 (by omega)
              have HP1 := Lib.hid hf
              have hb := undrew hW
              obtain ⟨AX1, cX1, eX⟩ := slice_shape hf
              rw [eX] at HP1
              rw [upd_self eX]
              simp only [fillI, List.take, List.setIfInBounds_toArray, List.set_cons_zero, List.set_cons_succ, Nat.reduceAdd, Nat.zero_add, upd, Nat.reduceEqDiff, reduceIte]
              have H9 := Lib.hid (H8.out.step hb)
              have HS9 := Lib.hid (HS8.out.of_block (hb.block _ (World.rowIs.lt HS8.out)))
              clear hp hW hf hb eX
              generalize xs 0 = y1x0 at *
              generalize xs 1 = y1x1 at *
              generalize xs 2 = y1x2 at *
              generalize xs 3 = y1x3 at *
              generalize xs 4 = y1x4 at *
              generalize xs 5 = y1x5 at *
              generalize xs 6 = y1x6 at *
              generalize xs 7 = y1x7 at *
              generalize xs 8 = y1x8 at *
              generalize xs 9 = y1x9 at *
              generalize xs 10 = y1x10 at *
              clear xs
              clear H8 HR8 HS8
              go_upto_region 29 with fail
              refine region_inv_all (pA29 w.heap.size g10 K2 D2 N.b L2 N2 B2) 12 (by kernel_rfl) (by kernel_rfl) (by kernel_rfl) (pA29_mono w.heap.size g10 K2 D2 N.b L2 N2 B2) ?_ ?_
              · refine ⟨⟨⟨⟨⟨⟨⟨⟨⟨⟨⟨⟨trivial, ?_⟩, ?_⟩, ?_⟩, ?_⟩, ?_⟩, ?_⟩, ?_⟩, ?_⟩, ?_⟩, ?_⟩, ?_⟩, ?_⟩
                · refine ⟨_, rfl, fun xs W hW hd => ?_⟩
                  have hr := HS9.out.of_block ((undrew hW).block _ (World.rowIs.lt HS9.out))
                  clear hd
                  simp only [fillI, List.take, List.setIfInBounds_toArray, List.set_cons_zero, List.set_cons_succ, Nat.reduceAdd, Nat.zero_add]
                  refine load_as (by rfl) 25 (.tmp 20) (by rfl) g20 0 _ 16 16 _ K2 HK2.out hr (by rfl) _ Tryd.underlying25 (by rfl) (by kernel_rfl) (by omega) ?_
                  refine ⟨_, by (simp only [upd, Nat.reduceEqDiff, reduceIte]; rfl), ?_, ?_⟩
                  · rfl
                  · exact Below.refl _ _
                · refine ⟨_, rfl, fun xs W hW hd => ?_⟩
                  clear hd
                  simp only [fillI, List.take, List.setIfInBounds_toArray, List.set_cons_zero, List.set_cons_succ, Nat.reduceAdd, Nat.zero_add]
                  go_wp2_with fail
                  refine ⟨_, by (simp only [upd, Nat.reduceEqDiff, reduceIte]; rfl), ?_, ?_⟩
                  · rfl
                  · exact Below.refl _ _
                · refine ⟨_, rfl, fun xs W hW hd => ?_⟩
                  have h1 : xs 1 = .pointer (some ⟨w.heap.size + 1 + 1, 32, none⟩) := hd 1 (by kernel_rfl)
                  have hr := (H9.out.step (undrew hW)).st.dr
                  clear hd
                  rw [upd_self h1]
                  simp only [fillI, List.take, List.setIfInBounds_toArray, List.set_cons_zero, List.set_cons_succ, Nat.reduceAdd, Nat.zero_add, upd, Nat.reduceEqDiff, reduceIte]
                  refine load_as (by rfl) 25 (.tmp 167) (by rfl) (w.heap.size + 1 + 1) 32 _ 48 16 _ D2 HD2.out hr (by rfl) _ Tryd.underlying25 (by rfl) (by kernel_rfl) (by omega) ?_
                  refine ⟨_, by (simp only [upd, Nat.reduceEqDiff, reduceIte]; rfl), ?_, ?_⟩
                  · rfl
                  · exact Below.refl _ _
                · refine ⟨_, rfl, fun xs W hW hd => ?_⟩
                  clear hd
                  simp only [fillI, List.take, List.setIfInBounds_toArray, List.set_cons_zero, List.set_cons_succ, Nat.reduceAdd, Nat.zero_add]
                  go_wp2_with fail
                  refine ⟨_, by (simp only [upd, Nat.reduceEqDiff, reduceIte]; rfl), ?_, ?_⟩
                  · rfl
                  · exact Below.refl _ _
                · refine ⟨_, rfl, fun xs W hW hd => ?_⟩
                  have h3 : xs 3 = .pointer (some ⟨w.heap.size + 1, 3, none⟩) := hd 3 (by kernel_rfl)
                  clear hd
                  rw [upd_self h3]
                  simp only [fillI, List.take, List.setIfInBounds_toArray, List.set_cons_zero, List.set_cons_succ, Nat.reduceAdd, Nat.zero_add, upd, Nat.reduceEqDiff, reduceIte]
                  have ka := fun W => KS.out W (w.heap.size + 1) 3
                  go_wp2_with fail
                  refine ⟨_, by (simp only [upd, Nat.reduceEqDiff, reduceIte]; rfl), ?_, ?_⟩
                  · rfl
                  · exact Below.refl _ _
                · refine ⟨_, rfl, fun xs W hW hd => ?_⟩
                  clear hd
                  simp only [fillI, List.take, List.setIfInBounds_toArray, List.set_cons_zero, List.set_cons_succ, Nat.reduceAdd, Nat.zero_add]
                  go_wp2_with fail
                  refine ⟨_, by (simp only [upd, Nat.reduceEqDiff, reduceIte]; rfl), ?_, ?_⟩
                  · rfl
                  · exact Below.refl _ _
                · refine ⟨_, rfl, fun xs W hW hd => ?_⟩
                  have h5 : xs 5 = .pointer (some ⟨w.heap.size + 1, 2, none⟩) := hd 5 (by kernel_rfl)
                  have cc := ((H9.out.step (undrew hW)).st.nt).cell (i := 2) (by omega)
                  rw [show noteF N P Q R 2 = .string N.b from rfl] at cc
                  clear hd
                  rw [upd_self h5]
                  simp only [fillI, List.take, List.setIfInBounds_toArray, List.set_cons_zero, List.set_cons_succ, Nat.reduceAdd, Nat.zero_add, upd, Nat.reduceEqDiff, reduceIte]
                  go_wp2_with fail
                  refine ⟨_, by (simp only [upd, Nat.reduceEqDiff, reduceIte]; rfl), ?_, ?_⟩
                  · rfl
                  · exact Below.refl _ _
                · refine ⟨_, rfl, fun xs W hW hd => ?_⟩
                  have h6 : xs 6 = .string N.b := hd 6 (by kernel_rfl)
                  clear hd
                  rw [upd_self h6]
                  simp only [fillI, List.take, List.setIfInBounds_toArray, List.set_cons_zero, List.set_cons_succ, Nat.reduceAdd, Nat.zero_add, upd, Nat.reduceEqDiff, reduceIte]
                  have kx := KSTR.out W N.b
                  go_wp2_with fail
                  refine ⟨_, by (simp only [upd, Nat.reduceEqDiff, reduceIte]; rfl), ?_, ?_⟩
                  · exact strB_slice W N.b _ (by rw [Lib.bytesWorld_size]; omega)
                  · exact strB_below W N.b
                · refine ⟨_, rfl, fun xs W hW hd => ?_⟩
                  clear hd
                  simp only [fillI, List.take, List.setIfInBounds_toArray, List.set_cons_zero, List.set_cons_succ, Nat.reduceAdd, Nat.zero_add]
                  have ka := fun W => KS.out W g10 0
                  go_wp2_with fail
                  refine ⟨_, by (simp only [upd, Nat.reduceEqDiff, reduceIte]; rfl), ?_, ?_⟩
                  · rfl
                  · exact Below.refl _ _
                · refine ⟨_, rfl, fun xs W hW hd => ?_⟩
                  have h4 : xs 4 = .slice (some ⟨w.heap.size + 1, 3, none⟩) 16 16 := hd 4 (by kernel_rfl)
                  have s4 := row_cells W (w.heap.size + 1) 3 16 N.x (World.rowIs.lt (H9.out.step (undrew hW)).st.nt) (fun j hj => by rw [(H9.out.step (undrew hW)).st.nt.cell (i := 3 + j) (by omega)]; exact congrArg some (noteF_x16 N P Q R j hj))
                  have h7 : SliceOf W W.heap.size N.b.size (strB N.b) (xs 7) := hd 7 (by kernel_rfl)
                  obtain ⟨A7x, c7x, e7⟩ := slice_shape h7
                  rw [e7] at h7
                  have h8 : xs 8 = .slice (some ⟨g10, 0, none⟩) 16 16 := hd 8 (by kernel_rfl)
                  have s8 := row_cells W g10 0 16 D (World.rowIs.lt (H9.out.step (undrew hW)).k10) (fun j hj => by rw [Nat.zero_add]; exact (H9.out.step (undrew hW)).k10.cell hj)
                  have HLP := Lib.hid (parts_list W (kslQ N D) #[.slice (some ⟨w.heap.size + 1, 3, none⟩) 16 16, .slice A7x N.b.size c7x, .slice (some ⟨g10, 0, none⟩) 16 16] 3 rfl rfl (fun i hi => by
                            match i, hi with
                            | 0, _ => exact s4
                            | 1, _ => exact h7
                            | 2, _ => exact s8))
                  have HBP : Hid (Below W.heap.size W (W.alloc (.cells #[.slice (some ⟨w.heap.size + 1, 3, none⟩) 16 16, .slice A7x N.b.size c7x, .slice (some ⟨g10, 0, none⟩) 16 16] 28))) := Lib.hid ((Below.refl _ _).alloc (Nat.le_refl _) _)
                  clear s4 h7 s8
                  clear hd
                  rw [upd_self h4]
                  rw [upd_self e7]
                  rw [upd_self h8]
                  simp only [fillI, List.take, List.setIfInBounds_toArray, List.set_cons_zero, List.set_cons_succ, Nat.reduceAdd, Nat.zero_add, upd, Nat.reduceEqDiff, reduceIte]
                  go_wp2_with fail
                  refine ⟨_, by (simp only [upd, Nat.reduceEqDiff, reduceIte]; rfl), ?_, ?_⟩
                  · rw [HL2.out]; exact HLP.out
                  · exact HBP.out
                · refine ⟨_, rfl, fun xs W hW hd => ?_⟩
                  have h0 : xs 0 = .agg K2 := hd 0 (by kernel_rfl)
                  have h2 : xs 2 = .agg D2 := hd 2 (by kernel_rfl)
                  have h9 : PartsOf W L2.length (fldM L2) (fldE L2) (xs 9) := hd 9 (by kernel_rfl)
                  have HC := Lib.hid (refSealed16_any (keyF (keyB N.a b.L)) (fun j => D (32 + j)) lK3a K2 D2 ZK2.out.1 ZK2.out.2 ZD2.out.1 ZD2.out.2 L2.length (fldM L2) (fldE L2) (xs 9) W h9 HQ2.out)
                  generalize hx9 : xs 9 = px at *
                  clear h9
                  clear hd
                  rw [upd_self h0]
                  rw [upd_self h2]
                  rw [upd_self hx9]
                  simp only [fillI, List.take, List.setIfInBounds_toArray, List.set_cons_zero, List.set_cons_succ, Nat.reduceAdd, Nat.zero_add, upd, Nat.reduceEqDiff, reduceIte]
                  go_wp2_with fail
                  refine HC.out.mono ?_
                  rintro _ W2 ⟨A2x, c2x, rfl, hs2, hb2⟩
                  have HS2 := Lib.hid hs2
                  have HB2 := Lib.hid hb2
                  clear hs2 hb2
                  go_wp2_with fail
                  refine ⟨_, by (simp only [upd, Nat.reduceEqDiff, reduceIte]; rfl), ?_, ?_⟩
                  · rw [← HEQ2.out.1, ← HEQ2.out.2]; exact HS2.out
                  · exact HB2.out
                · refine ⟨_, rfl, fun xs W hW hd => ?_⟩
                  have hf : SliceOf W W.heap.size N2 B2 (xs 10) := hd 10 (by kernel_rfl)
                  have HS := Lib.hid hf
                  generalize hx10 : xs 10 = px at *
                  clear hf
                  clear hd
                  rw [upd_self hx10]
                  simp only [fillI, List.take, List.setIfInBounds_toArray, List.set_cons_zero, List.set_cons_succ, Nat.reduceAdd, Nat.zero_add, upd, Nat.reduceEqDiff, reduceIte]
                  go_wp2_with fail
                  refine ⟨_, by (simp only [upd, Nat.reduceEqDiff, reduceIte]; rfl), ?_, ?_⟩
                  · exact HS.out
                  · exact Below.refl _ _
              · intro xs w10 hW hp
                have hf : SliceOf w10 w10.heap.size N2 B2 (xs 11) := hp 11 (by omega)
                have HP2 := Lib.hid hf
                have hb := undrew hW
                obtain ⟨AX2, cX2, eX⟩ := slice_shape hf
                rw [eX] at HP2
                rw [upd_self eX]
                simp only [fillI, List.take, List.setIfInBounds_toArray, List.set_cons_zero, List.set_cons_succ, Nat.reduceAdd, Nat.zero_add, upd, Nat.reduceEqDiff, reduceIte]
                have H10 := Lib.hid (H9.out.step hb)
                have HX1 := Lib.hid (slice_next HP1.out hb)
                clear hp hW hf hb eX
                generalize xs 0 = y2x0 at *
                generalize xs 1 = y2x1 at *
                generalize xs 2 = y2x2 at *
                generalize xs 3 = y2x3 at *
                generalize xs 4 = y2x4 at *
                generalize xs 5 = y2x5 at *
                generalize xs 6 = y2x6 at *
                generalize xs 7 = y2x7 at *
                generalize xs 8 = y2x8 at *
                generalize xs 9 = y2x9 at *
                generalize xs 10 = y2x10 at *
                clear xs
                clear H9 HS9 HP1
                go_upto_region 30 with fail
                have d2 := H10.out.st.nt.cell (i := 2) (by omega)
                rw [show noteF N P Q R 2 = .string N.b from rfl] at d2
                have hz := H10.out.st.zr
                go_wp2_with (refine store_whole (by rfl) 37 (.tmp 7) (.tmp 181) (by rfl) (w.heap.size + 1 + 1 + 1) _ 38 _ (noteF (kslN b N D (fun j => D (16 + j)) (fun j => D (32 + j))) (.slice AX1 N1 cX1) (.slice AX2 N2 cX2) nilV) hz (by rfl) (cellsOf 38 (noteF (kslN b N D (fun j => D (16 + j)) (fun j => D (32 + j))) (.slice AX1 N1 cX1) (.slice AX2 N2 cX2) nilV)) (by kernel_rfl) (by kernel_rfl) (size_cellsOf _ _) (cellsOf_at _ _) (note_cells_one _ _ _ _ rfl rfl rfl) ?_; intro w11 hr11 ho11)
                refine bodyPost_ret (results_mid rfl _ (w.heap.size + 1 + 1 + 1) _ 38 _ _ rfl hr11 Tryd.underlying37 (by rfl) (by kernel_rfl)) rfl ?_
                unfold ansTo ansN
                have hk2 : ¬ N.kind = 2 := by rw [HE7.out]; decide
                rw [HC.out, if_pos rfl, if_pos rfl, if_neg hk2, if_neg hk2]
                refine ⟨.slice AX1 N1 cX1, .slice AX2 N2 cX2, nilV, rfl, ⟨?_, ?_, SliceOf.nil _ _ _⟩, ho11.below H10.out.st.hb (by omega)⟩
                · show SliceOf w11 w11.heap.size (blobN (kslP N D)) (blobB (keyF (keyB N.b b.L)) (fun j => D (16 + j)) lK3b (kslP N D)) _
                  rw [← HN1.out, ← HB1.out]
                  exact slice_past HX1.out H10.out.st.zr (by rw [HN1.out]; exact blob_big _) ho11
                · show SliceOf w11 w11.heap.size (blobN (kslQ N D)) (blobB (keyF (keyB N.a b.L)) (fun j => D (32 + j)) lK3a (kslQ N D)) _
                  rw [← HN2.out, ← HB2.out]
                  exact slice_past HP2.out H10.out.st.zr (by rw [HN2.out]; exact blob_big _) ho11
    · have HC : Hid (ansC b N = 13) := Lib.hid (by
        unfold ansC
        rw [if_neg h2, if_neg h7])
      have q2 : (N.kind == 2) = false := by simpa using h2
      have q7 : (N.kind == 7) = false := by simpa using h7
      clear h2 h7
      go_upto_region 31 with fail
      clear q2 q7 d0
      have HZ := H2
      refine region_mix (fun W => W.rowIs g9 37 38 (noteF zeroN nilV nilV nilV)) [(0, true), (1, true), (2, false), (3, true)] (by kernel_rfl) (by kernel_rfl) HZ.out.z9 ?_
      refine m_load rfl (by rfl) 37 (.tmp 9) (by rfl) g9 0 _ 38 38 _ (fun W hW => hW) (by rfl) _ Tryd.underlying37 (by rfl) (by kernel_rfl) (by omega) ?_
      rw [show cellsOf 38 (fun j => noteF zeroN nilV nilV nilV (0 + j)) = cellsOf 38 (noteF zeroN nilV nilV nilV) from rfl]
      simp only [Act.put, List.setIfInBounds_toArray, List.set_cons_zero, List.set_cons_succ]
      refine m_val rfl (by rfl) (.string ⟨#[]⟩) (fun W hW => by clear hW; go_simp) ?_
      simp only [Act.put, List.setIfInBounds_toArray, List.set_cons_zero, List.set_cons_succ]
      have hdr : Below w2.heap.size w2 w2.drew := (Below.refl _ _).drew
      have HD := Lib.hid (HZ.out.step hdr)
      clear hdr
      generalize w2.drew = wd at *
      have hz := HD.out.st.zr
      refine m_go rfl ?_
      go_wp2_with (refine store_whole (by rfl) 37 (.tmp 7) (.tmp 182) (by rfl) (w.heap.size + 1 + 1 + 1) _ 38 _ (noteF zeroN nilV nilV nilV) hz (by rfl) (cellsOf 38 (noteF zeroN nilV nilV nilV)) (by kernel_rfl) (by kernel_rfl) (size_cellsOf _ _) (cellsOf_at _ _) (note_cells_one _ _ _ _ rfl rfl rfl) ?_; intro w9 hr9 ho9)
      have hne := HD.out.ne
      refine m_on (HD.out.z9.of_block (ho9.block g9 (by omega))) ?_
      refine m_val rfl (by rfl) (.int .i64 13) (fun W hW => by clear hW; go_simp) ?_
      simp only [Act.put, List.setIfInBounds_toArray, List.set_cons_zero, List.set_cons_succ]
      refine m_end ?_
      go_wp2
      refine bodyPost_ret (results_mid rfl _ (w.heap.size + 1 + 1 + 1) _ 38 _ _ rfl hr9 Tryd.underlying37 (by rfl) (by kernel_rfl)) rfl ?_
      exact ans_err HC.out (by decide) rfl (ho9.below HD.out.st.hb (by omega))
end Go.Proofs.YtaakhldhmoaplaaDoor.Kdc
namespace Go.Proofs.YtaakhldhmoaplaaDoor.Kdc
open Go Go.RowKit Go.Proofs.YtaakhldhmoaplaaDoor.Aid Go.Proofs.YtaakhldhmoaplaaDoor.Sha Go.Proofs.YtaakhldhmoaplaaDoor.Law01 Go.Proofs.YtaakhldhmoaplaaDoor.Field Go.Proofs.YtaakhldhmoaplaaDoor.Law05
open Go.Proofs.YtaakhldhmoaplaaDoor.Note (NoteP NoteFits noteF noteV NoteAt zeroCells zeroCells_eq sameN)
open Go.Proofs.YtaakhldhmoaplaaDoor.Book (Bk Wd keyB hasN BookIs BookRaw bookF bookV wordF)

structure LawA (b : Bk) (N : NoteP) (D : Nat → BitVec 8) (P Q R Lv Rv : Value) (w W : World) : Prop where
  bk : W.rowIs w.heap.size 27 19 (bookF b Lv Rv)
  nt : W.rowIs (w.heap.size + 1) 30 38 (noteF N P Q R)
  dr : W.rowIs (w.heap.size + 1 + 1) 31 48 (byteF D)
  raw : BookRaw W b Lv Rv
  at_ : NoteAt W N P Q R
  hk : Consts W
  hb : Below w.heap.size w W
theorem LawA.step {b : Bk} {N : NoteP} {D : Nat → BitVec 8} {P Q R Lv Rv : Value} {w W W' : World} (h : LawA b N D P Q R Lv Rv w W) (hb : Below W.heap.size W W') : LawA b N D P Q R Lv Rv w W' :=
  ⟨h.bk.of_block (hb.block _ (World.rowIs.lt h.bk)), h.nt.of_block (hb.block _ (World.rowIs.lt h.nt)), h.dr.of_block (hb.block _ (World.rowIs.lt h.dr)), h.raw.below hb, h.at_.below hb, h.hk.below hb (Nat.le_refl _), h.hb.trans (hb.mono h.hb.size)⟩
theorem law_new (b : Bk) (N : NoteP) (D : Nat → BitVec 8) (P Q R Lv Rv : Value) (CD : Array Value) (hCD : CD.size = 48) (hCDi : ∀ i, i < 48 → CD[i]? = some (.int .u8 ((D i).toNat : Int))) (w : World) (hk : Consts w) (hb : BookRaw w b Lv Rv) (hn : NoteAt w N P Q R) :
    ∃ W, W = ((w.alloc (.cells (cellsOf 19 (bookF b Lv Rv)) 27)).alloc (.cells (cellsOf 38 (noteF N P Q R)) 30)).alloc (.cells CD 31) ∧ LawA b N D P Q R Lv Rv w W := by
  have r1 := row_new w (cellsOf 19 (bookF b Lv Rv)) 27 19 _ (size_cellsOf _ _) (cellsOf_at _ _)
  have b1 : Below w.heap.size w (w.alloc (.cells (cellsOf 19 (bookF b Lv Rv)) 27)) := (Below.refl _ _).alloc (Nat.le_refl _) _
  have s1 : (w.alloc (.cells (cellsOf 19 (bookF b Lv Rv)) 27)).heap.size = w.heap.size + 1 := by simp
  generalize w.alloc (.cells (cellsOf 19 (bookF b Lv Rv)) 27) = w1 at *
  have r2 := row_new w1 (cellsOf 38 (noteF N P Q R)) 30 38 _ (size_cellsOf _ _) (cellsOf_at _ _)
  have b2 : Below w1.heap.size w1 (w1.alloc (.cells (cellsOf 38 (noteF N P Q R)) 30)) := (Below.refl _ _).alloc (Nat.le_refl _) _
  have s2 : (w1.alloc (.cells (cellsOf 38 (noteF N P Q R)) 30)).heap.size = w1.heap.size + 1 := by simp
  generalize w1.alloc (.cells (cellsOf 38 (noteF N P Q R)) 30) = w2 at *
  have r3 := row_new w2 CD 31 48 (byteF D) hCD hCDi
  have b3 : Below w2.heap.size w2 (w2.alloc (.cells CD 31)) := (Below.refl _ _).alloc (Nat.le_refl _) _
  generalize w2.alloc (.cells CD 31) = w3 at *
  have b23 := b2.trans (b3.mono b2.size)
  have b13 := b1.trans (b23.mono b1.size)
  rw [s2, s1] at r3
  rw [s1] at r2
  exact ⟨w3, rfl, r1.of_block (b23.block _ (World.rowIs.lt r1)), r2.of_block (b3.block _ (World.rowIs.lt r2)), r3, hb.below b13, hn.below b13, hk.below b13 (Nat.le_refl _), b13⟩
theorem sameN_refl (N : NoteP) : sameN N N = true := by
  unfold Note.sameN Aid.sameUpto
  rw [Mac.same_refl N.p N.p N.pn (fun _ _ => rfl), Mac.same_refl N.q N.q N.qn (fun _ _ => rfl), Mac.same_refl N.r N.r N.rn (fun _ _ => rfl)]
  simp
theorem past_ans (b : Bk) (N : NoteP) (D : Nat → BitVec 8) : PastN (ansN b N D (fun j => D (16 + j)) (fun j => D (32 + j))) := by
  by_cases h2 : N.kind = 2
  · rw [(ans_ns D h2).2.2]; exact past_ns b N D
  · by_cases h7 : N.kind = 7
    · rw [(ans_ksl D h7).2.2]; exact past_ksl b N D
    · rw [(ans_other D h2 h7).2.2]; exact past_zero
theorem ans_few (b : Bk) (N : NoteP) (D d1 d2 : Nat → BitVec 8) (hA : N.a.size ≤ 20) (hB : N.b.size ≤ 20) : (ansN b N D d1 d2).pn ≤ 1000000 ∧ (ansN b N D d1 d2).qn ≤ 1000000 ∧ (ansN b N D d1 d2).rn ≤ 1000000 := by
  unfold ansN
  by_cases h0 : ansC b N = 0
  · rw [if_pos h0]
    by_cases h2 : N.kind = 2
    · rw [if_pos h2]
      have h3 : nsC b N = 0 := by unfold ansC at h0; rw [if_pos h2] at h0; exact h0
      have h4 := (ns_ok h3).2.2
      have e1 := blob_small (nsP b N D) (by show 4 ≤ 4; omega) (by show off (fldM [(N.b.size, strB N.b), (16, fieldE (nsE b N) 1), (16, D), (8, fieldE (nsE b N) 2)]) 4 ≤ 200; rw [off4]; omega)
      have e2 := blob_small (nsQ b N D) (by show 3 ≤ 4; omega) (by show off (fldM [((nsA b N).size, strB (nsA b N)), (16, D), (8, fieldE (nsE b N) 2)]) 3 ≤ 200; rw [off3]; omega)
      exact ⟨Nat.le_trans e1 (by decide), Nat.le_trans e2 (by decide), Nat.zero_le _⟩
    · rw [if_neg h2]
      have e1 := blob_small (kslP N D) (by show 3 ≤ 4; omega) (by show off (fldM [(16, N.y), (N.a.size, strB N.a), (16, D)]) 3 ≤ 200; rw [off3]; omega)
      have e2 := blob_small (kslQ N D) (by show 3 ≤ 4; omega) (by show off (fldM [(16, N.x), (N.b.size, strB N.b), (16, D)]) 3 ≤ 200; rw [off3]; omega)
      exact ⟨Nat.le_trans e1 (by decide), Nat.le_trans e2 (by decide), Nat.zero_le _⟩
  · rw [if_neg h0]
    exact ⟨Nat.zero_le _, Nat.zero_le _, Nat.zero_le _⟩
theorem small_right {b : Bk} {N : NoteP} (h : small16B b N = true) : b.L.length ≤ 60 ∧ b.rev.length ≤ 60 ∧ N.a.size ≤ 20 ∧ N.b.size ≤ 20 := by
  unfold small16B at h
  simp only [Bool.and_eq_true, decide_eq_true_eq] at h
  exact ⟨h.1, h.2.1, right_sizes h.2.2.2⟩
set_option maxRecDepth 100000 in
set_option maxHeartbeats 1000000 in
theorem answers_any (b : Bk) (N : NoteP) (D : Nat → BitVec 8) (P Q R Lv Rv : Value) (CD : Array Value) (hCD : CD.size = 48) (hCDi : ∀ i, i < 48 → CD[i]? = some (.int .u8 ((D i).toNat : Int))) (w : World) (hk : Consts w) (hb : BookRaw w b Lv Rv) (hn : NoteAt w N P Q R) (hf : NoteFits N) :
    Calls Tryd.prog 3 #[bookV b Lv Rv, noteV N P Q R, .agg CD] w fun x w' => x = .returned (.bool true) ∧ Below w.heap.size w w' := by
  obtain ⟨W, hW, h0⟩ := law_new b N D P Q R Lv Rv CD hCD hCDi w hk hb hn
  have H0 := Lib.hid h0
  obtain ⟨CD2, hCD2, zCD2, iCD2⟩ := cells_named 48 (byteF D) D (fun _ _ => rfl)
  have HCD2 := Lib.hid hCD2
  have HSM := Lib.hid (fun (W : World) h1 h2 => small16_any b N P Q R Lv Rv W h1 h2 hf)
  have HAN := Lib.hid (fun (W : World) h1 h2 h3 h4 h5 => answer_any b N D P Q R Lv Rv CD2 zCD2 iCD2 W h1 h2 h3 h4 h5)
  have HRF := Lib.hid (fun (W : World) (Lv' : Value) h1 h2 h3 h4 h5 => refAnswer_any b N D P Q R Lv' Rv CD2 zCD2 iCD2 W h1 h2 h3 h4 h5)
  have HOW := Lib.hid (fun (W : World) (h1 : BookIs W b Lv Rv) h2 => Book.own16_any h1 h2)
  have HPM : Hid (PastN (ansN b N D (fun j => D (16 + j)) (fun j => D (32 + j)))) := Lib.hid (past_ans b N D)
  have HFM := Lib.hid (fun hA hB => ans_few b N D (fun j => D (16 + j)) (fun j => D (32 + j)) hA hB)
  obtain ⟨CB, hCB⟩ : ∃ C, C = cellsOf 19 (bookF b Lv Rv) := ⟨_, rfl⟩
  obtain ⟨CN, hCN⟩ : ∃ C, C = cellsOf 38 (noteF N P Q R) := ⟨_, rfl⟩
  have eB : bookV b Lv Rv = .agg CB := by rw [hCB]; rfl
  have eN : noteV N P Q R = .agg CN := by rw [hCN]; rfl
  rw [← hCB, ← hCN] at hW
  rw [eB, eN] at HSM HAN ⊢
  rw [eN] at HRF
  rw [eB] at HOW
  have HCB := Lib.hid hCB.symm
  have HCN := Lib.hid hCN.symm
  obtain ⟨nm, hnm⟩ : ∃ x, x = ansTo b N := ⟨_, rfl⟩
  obtain ⟨M, hM⟩ : ∃ x, x = ansN b N D (fun j => D (16 + j)) (fun j => D (32 + j)) := ⟨_, rfl⟩
  obtain ⟨c, hc⟩ : ∃ x, x = ansC b N := ⟨_, rfl⟩
  rw [← hnm, ← hM, ← hc] at HAN HRF
  rw [← hM] at HPM HFM
  clear hCD hCDi hk hb hn hf h0 hCD2 zCD2 iCD2 hCB hCN eB eN hnm hM hc
  go_enter Tryd.func3, Tryd.ntmps3
  go_upto_region 1 with fail
  rw [← hW]
  clear hW
  go_wp2_with fail
  refine (awake16_any W H0.out.hk).mono ?_
  rintro _ w1 ⟨rfl, hb1⟩
  have H1 := Lib.hid (H0.out.step hb1)
  clear hb1 H0
  have r0 := H1.out.bk
  have r1 := H1.out.nt
  go_wp2_with (first
    | (refine load_as (by rfl) 27 (.tmp 3) (by rfl) w.heap.size 0 _ 19 19 _ CB ((cells_zero _ _).trans HCB.out) r0 (by rfl) _ Tryd.underlying27 (by rfl) (by kernel_rfl) (by omega) ?_)
    | (refine load_as (by rfl) 30 (.tmp 4) (by rfl) (w.heap.size + 1) 0 _ 38 38 _ CN ((cells_zero _ _).trans HCN.out) r1 (by rfl) _ Tryd.underlying30 (by rfl) (by kernel_rfl) (by omega) ?_))
  refine (HSM.out w1 H1.out.raw H1.out.at_).mono ?_
  rintro _ w2 ⟨rfl, hb2⟩
  have H2 := Lib.hid (H1.out.step hb2)
  clear hb2 H1 r0 r1 HSM
  cases hs : small16B b N with
  | false =>
    clear hs
    go_wp2
    go_ret
    exact ⟨rfl, H2.out.hb⟩
  | true =>
    have HFIT := Lib.hid (small_right hs)
    clear hs
    have HBK := Lib.hid (fun (W : World) (h : Below w2.heap.size w2 W) => (H2.out.step h).raw.is_ (by have := HFIT.out.1; omega) (by have := HFIT.out.2.1; omega))
    have HCALL := Lib.hid (HAN.out w2 H2.out.hk (HBK.out w2 (Below.refl _ _)) H2.out.at_ HFIT.out.2.2.1 HFIT.out.2.2.2)
    have r0 := H2.out.bk
    have r1 := H2.out.nt
    have r2 := H2.out.dr
    go_wp2_with (first
      | (refine load_as (by rfl) 27 (.tmp 3) (by rfl) w.heap.size 0 _ 19 19 _ CB ((cells_zero _ _).trans HCB.out) r0 (by rfl) _ Tryd.underlying27 (by rfl) (by kernel_rfl) (by omega) ?_)
      | (refine load_as (by rfl) 30 (.tmp 4) (by rfl) (w.heap.size + 1) 0 _ 38 38 _ CN ((cells_zero _ _).trans HCN.out) r1 (by rfl) _ Tryd.underlying30 (by rfl) (by kernel_rfl) (by omega) ?_)
      | (refine load_as (by rfl) 31 (.tmp 5) (by rfl) (w.heap.size + 1 + 1) 0 _ 48 48 _ CD2 ((cells_zero _ _).trans HCD2.out) r2 (by rfl) _ Tryd.underlying31 (by rfl) (by kernel_rfl) (by omega) ?_))
    refine HCALL.out.mono ?_
    rintro _ w5 ⟨P1, Q1, R1, rfl, hn5, hb5⟩
    have H5 := Lib.hid (H2.out.step hb5)
    have HB5 := Lib.hid (fun (W : World) (h : Below w5.heap.size w5 W) => HBK.out W (hb5.trans (h.mono hb5.size)))
    have HN5 := Lib.hid hn5
    have op := (slice_one_cell hn5.p)
    have oq := (slice_one_cell hn5.q)
    have or_ := (slice_one_cell hn5.r)
    have hz5 := row_new w5 (zeroCells 0) 30 38 _ (by rfl) zero_note_at
    have hal : Below w5.heap.size w5 (w5.alloc (.cells (zeroCells 0) 30)) := (Below.refl _ _).alloc (Nat.le_refl _) _
    have HNA := Lib.hid (hn5.below hal)
    have HAL := Lib.hid hal
    clear r0 r1 r2 hn5 hb5 HCALL H2 HBK hal
    go_upto_region 6 with (refine store_whole (by rfl) 30 (.tmp 10) (.tmp 29) (by rfl) w5.heap.size _ 38 _ (noteF M P1 Q1 R1) (by exact hz5) (by rfl) _ (by rfl) (by kernel_rfl) (size_cellsOf _ _) (cellsOf_at _ _) (note_cells_one _ _ _ _ op oq or_) ?_; intro w6 hr6 ho6)
    have hb6 : Below w5.heap.size w5 w6 := ho6.below HAL.out (Nat.le_refl _)
    have H6 := Lib.hid (H5.out.step hb6)
    have HB6 := Lib.hid (fun (W : World) (h : Below w6.heap.size w6 W) => HB5.out W (hb6.trans (h.mono hb6.size)))
    have HN6 : Hid (NoteAt w6 M P1 Q1 R1) := Lib.hid (note_past HNA.out (by exact hz5) HPM.out ho6)
    have HT6 := Lib.hid hr6
    clear hz5 op oq or_ hr6 ho6 hb6 HN5 HB5 H5 HNA HAL
    generalize w5.heap.size = g10 at *
    have HOWN : Hid (∀ V, Below w6.heap.size w6 V → Calls Tryd.prog 9 #[.agg CB] V fun y V' => ∃ Lv', y = .returned (bookV b Lv' Rv) ∧ BookIs V' b Lv' Rv ∧ Below V.heap.size V V') := Lib.hid (fun V hV => HOW.out V (HB6.out V hV) HFIT.out.1)
    have HREF : Hid (∀ V Lv', Below w6.heap.size w6 V → BookIs V b Lv' Rv → Calls Tryd.prog 8 #[bookV b Lv' Rv, .agg CN, .agg CD2] V (AnsPost nm M c V)) := Lib.hid (fun V Lv' hV hI => HRF.out V Lv' (H6.out.step hV).hk hI (H6.out.step hV).at_ HFIT.out.2.2.1 HFIT.out.2.2.2)
    have HRB := Lib.hid (fun (W : World) (hW : Below w6.heap.size w6 W) => Book.range_row (H6.out.step hW).bk)
    have HRN := Lib.hid (fun (W : World) (hW : Below w6.heap.size w6 W) => Book.range_row (H6.out.step hW).nt)
    have HRD := Lib.hid (fun (W : World) (hW : Below w6.heap.size w6 W) => Book.range_row (H6.out.step hW).dr)
    go_cut [12, 13, 14] (fun s p e wx => ∃ (g13 : Nat) (P2 Q2 R2 : Value), s = .string nm ∧ p = .pointer (some ⟨g13, 0, none⟩) ∧ e = .int .i64 c ∧ Hid (NoteAt wx M P2 Q2 R2 ∧ wx.rowIs g13 37 38 (noteF M P2 Q2 R2) ∧ Below w6.heap.size w6 wx))
    case first =>
      have hS : Below w6.heap.size w6 w6.drew := (Below.refl _ _).drew
      refine region_h (fun W => Below w6.heap.size w6 W) 13 (by kernel_rfl) rfl ?_
      refine Book.f_range 0 rfl (by kernel_rfl) (by rfl) 27 (.tmp 3) (by rfl) w.heap.size 0 19 (bookF b Lv Rv) HRB.out (by rfl) _ Tryd.underlying27 (by rfl) (by kernel_rfl) hS ?_
      rw [HCB.out]
      simp only [Act.put, List.setIfInBounds_toArray, List.set_cons_zero, List.set_cons_succ]
      refine Book.f_range 2 rfl (by kernel_rfl) (by rfl) 30 (.tmp 4) (by rfl) (w.heap.size + 1) 0 38 (noteF N P Q R) HRN.out (by rfl) _ Tryd.underlying30 (by rfl) (by kernel_rfl) hS ?_
      rw [HCN.out]
      simp only [Act.put, List.setIfInBounds_toArray, List.set_cons_zero, List.set_cons_succ]
      refine Book.f_range 3 rfl (by kernel_rfl) (by rfl) 31 (.tmp 5) (by rfl) (w.heap.size + 1 + 1) 0 48 (byteF D) HRD.out (by rfl) _ Tryd.underlying31 (by rfl) (by kernel_rfl) hS ?_
      rw [HCD2.out]
      simp only [Act.put, List.setIfInBounds_toArray, List.set_cons_zero, List.set_cons_succ]
      have BV0 := Lib.hid hS
      clear hS
      generalize w6.drew = V0 at *
      refine f_two 1 9 rfl rfl (by kernel_rfl) ?_ ?_
      · go_wp2_with fail
        refine (HOWN.out V0 BV0.out).mono ?_
        rintro _ V1 ⟨Lv', rfl, hbi, hbl⟩
        have BV1 : Hid (Below w6.heap.size w6 V1) := Lib.hid (BV0.out.trans (hbl.mono BV0.out.size))
        have HBI1 := Lib.hid hbi
        clear hbi hbl
        go_wp2_with fail
        refine m_on BV1.out ?_

        refine f_two 4 9 rfl rfl (by kernel_rfl) ?_ ?_
        · go_wp2_with fail
          refine (HREF.out V1 Lv' BV1.out HBI1.out).mono ?_
          rintro _ V2 ⟨P2, Q2, R2, rfl, hn2, hbl⟩
          have BV2 : Hid (Below w6.heap.size w6 V2) := Lib.hid (BV1.out.trans (hbl.mono BV1.out.size))
          have HN2 := Lib.hid hn2
          clear hn2 hbl
          go_wp2_with fail
          refine m_on BV2.out ?_
          refine f_take 5 rfl (by kernel_rfl) (by rfl) _ (fun W hW => by clear hW; go_simp; rfl) BV2.out ?_
          simp only [Act.put, List.setIfInBounds_toArray, List.set_cons_zero, List.set_cons_succ]
          refine f_take 6 rfl (by kernel_rfl) (by rfl) _ (fun W hW => by clear hW; go_simp; rfl) BV2.out ?_
          simp only [Act.put, List.setIfInBounds_toArray, List.set_cons_zero, List.set_cons_succ]
          refine f_take 7 rfl (by kernel_rfl) (by rfl) _ (fun W hW => by clear hW; go_simp; rfl) BV2.out ?_
          simp only [Act.put, List.setIfInBounds_toArray, List.set_cons_zero, List.set_cons_succ]
          refine f_take 8 rfl (by kernel_rfl) (by rfl) _ (fun W hW => by clear hW; go_simp; rfl) BV2.out ?_
          simp only [Act.put, List.setIfInBounds_toArray, List.set_cons_zero, List.set_cons_succ]
          refine f_go 9 rfl (by kernel_rfl) ?_
          go_wp2_with fail
          have hz := row_new V2 (zeroCells 0) 37 38 _ (by rfl) zero_note_at
          rw [show (#[.int .i64 0, .string ⟨#[]⟩, .string ⟨#[]⟩, .int .u8 0, .int .u8 0, .int .u8 0, .int .u8 0, .int .u8 0, .int .u8 0, .int .u8 0, .int .u8 0, .int .u8 0, .int .u8 0, .int .u8 0, .int .u8 0, .int .u8 0, .int .u8 0, .int .u8 0, .int .u8 0, .int .u8 0, .int .u8 0, .int .u8 0, .int .u8 0, .int .u8 0, .int .u8 0, .int .u8 0, .int .u8 0, .int .u8 0, .int .u8 0, .int .u8 0, .int .u8 0, .int .u8 0, .int .u8 0, .int .u8 0, .int .u8 0, .slice none 0 0, .slice none 0 0, .slice none 0 0] : Array Value) = zeroCells 0 from rfl]
          have hbl : Below V2.heap.size V2 (V2.alloc (.cells (zeroCells 0) 37)) := (Below.refl _ _).alloc (Nat.le_refl _) _
          have BV3 : Hid (Below w6.heap.size w6 (V2.alloc (.cells (zeroCells 0) 37))) := Lib.hid (BV2.out.trans (hbl.mono BV2.out.size))
          have HZ3 := Lib.hid hz
          have HG : Hid (w6.heap.size ≤ V2.heap.size) := Lib.hid BV2.out.size
          have HN3 := Lib.hid (HN2.out.below hbl)
          clear hz hbl
          generalize V2.alloc (.cells (zeroCells 0) 37) = V3 at *
          generalize V2.heap.size = g13 at *
          refine m_on BV3.out ?_
          refine f_go 10 rfl (by kernel_rfl) ?_
          go_wp2_with fail
          refine m_on BV3.out ?_
          have op := (slice_one_cell HN3.out.p)
          have oq := (slice_one_cell HN3.out.q)
          have or_ := (slice_one_cell HN3.out.r)
          refine f_go 11 rfl (by kernel_rfl) ?_
          go_wp2_with ((with_reducible refine (?_ : wpList _ _ _ _ _ _)); refine store_whole (by rfl) 37 (.tmp 13) (.tmp 38) (by rfl) g13 _ 38 _ (noteF M P2 Q2 R2) HZ3.out (by rfl) _ (by rfl) (by kernel_rfl) (size_cellsOf _ _) (cellsOf_at _ _) (note_cells_one _ _ _ _ op oq or_) ?_; intro V4 hr3 ho3)
          have BV4 : Hid (Below w6.heap.size w6 V4) := Lib.hid (ho3.below BV3.out HG.out)
          have HN4 : Hid (NoteAt V4 M P2 Q2 R2) := Lib.hid (note_past HN3.out HZ3.out HPM.out ho3)
          have HR4 := Lib.hid hr3
          clear op oq or_ hr3 ho3
          refine m_on BV4.out ?_
          refine f_go 12 rfl (by kernel_rfl) ?_
          go_wp2_with fail
          refine m_on BV4.out ?_
          refine f_end (by kernel_rfl) ?_
          go_wp2_with fail
          go_meet
          exact ⟨g13, P2, Q2, R2, rfl, rfl, rfl, Lib.hid ⟨HN4.out, HR4.out, BV4.out⟩⟩
        · go_wp2_with fail
          have hz := row_new V1 (zeroCells 0) 37 38 _ (by rfl) zero_note_at
          rw [show (#[.int .i64 0, .string ⟨#[]⟩, .string ⟨#[]⟩, .int .u8 0, .int .u8 0, .int .u8 0, .int .u8 0, .int .u8 0, .int .u8 0, .int .u8 0, .int .u8 0, .int .u8 0, .int .u8 0, .int .u8 0, .int .u8 0, .int .u8 0, .int .u8 0, .int .u8 0, .int .u8 0, .int .u8 0, .int .u8 0, .int .u8 0, .int .u8 0, .int .u8 0, .int .u8 0, .int .u8 0, .int .u8 0, .int .u8 0, .int .u8 0, .int .u8 0, .int .u8 0, .int .u8 0, .int .u8 0, .int .u8 0, .int .u8 0, .slice none 0 0, .slice none 0 0, .slice none 0 0] : Array Value) = zeroCells 0 from rfl]
          have hbl : Below V1.heap.size V1 (V1.alloc (.cells (zeroCells 0) 37)) := (Below.refl _ _).alloc (Nat.le_refl _) _
          have BV2 : Hid (Below w6.heap.size w6 (V1.alloc (.cells (zeroCells 0) 37))) := Lib.hid (BV1.out.trans (hbl.mono BV1.out.size))
          have HZ2 := Lib.hid hz
          have HG : Hid (w6.heap.size ≤ V1.heap.size) := Lib.hid BV1.out.size
          have HBI2 := Lib.hid (HBI1.out.below hbl)
          clear hz hbl
          generalize V1.alloc (.cells (zeroCells 0) 37) = V2 at *
          generalize V1.heap.size = g13 at *
          refine m_on BV2.out ?_
          refine f_go 4 rfl (by kernel_rfl) ?_
          go_wp2_with fail
          refine (HREF.out V2 Lv' BV2.out HBI2.out).mono ?_
          rintro _ V3 ⟨P2, Q2, R2, rfl, hn2, hbl⟩
          have BV3 : Hid (Below w6.heap.size w6 V3) := Lib.hid (BV2.out.trans (hbl.mono BV2.out.size))
          have HN3 := Lib.hid hn2
          have HZ3 := Lib.hid (HZ2.out.of_block (hbl.block _ (World.rowIs.lt HZ2.out)))
          clear hn2 hbl
          go_wp2_with fail
          refine m_on BV3.out ?_
          refine f_take 5 rfl (by kernel_rfl) (by rfl) _ (fun W hW => by clear hW; go_simp; rfl) BV3.out ?_
          simp only [Act.put, List.setIfInBounds_toArray, List.set_cons_zero, List.set_cons_succ]
          refine f_take 6 rfl (by kernel_rfl) (by rfl) _ (fun W hW => by clear hW; go_simp; rfl) BV3.out ?_
          simp only [Act.put, List.setIfInBounds_toArray, List.set_cons_zero, List.set_cons_succ]
          refine f_take 7 rfl (by kernel_rfl) (by rfl) _ (fun W hW => by clear hW; go_simp; rfl) BV3.out ?_
          simp only [Act.put, List.setIfInBounds_toArray, List.set_cons_zero, List.set_cons_succ]
          refine f_take 8 rfl (by kernel_rfl) (by rfl) _ (fun W hW => by clear hW; go_simp; rfl) BV3.out ?_
          simp only [Act.put, List.setIfInBounds_toArray, List.set_cons_zero, List.set_cons_succ]
          refine f_go 10 rfl (by kernel_rfl) ?_
          go_wp2_with fail
          refine m_on BV3.out ?_
          have op := (slice_one_cell HN3.out.p)
          have oq := (slice_one_cell HN3.out.q)
          have or_ := (slice_one_cell HN3.out.r)
          refine f_go 11 rfl (by kernel_rfl) ?_
          go_wp2_with ((with_reducible refine (?_ : wpList _ _ _ _ _ _)); refine store_whole (by rfl) 37 (.tmp 13) (.tmp 38) (by rfl) g13 _ 38 _ (noteF M P2 Q2 R2) HZ3.out (by rfl) _ (by rfl) (by kernel_rfl) (size_cellsOf _ _) (cellsOf_at _ _) (note_cells_one _ _ _ _ op oq or_) ?_; intro V4 hr3 ho3)
          have BV4 : Hid (Below w6.heap.size w6 V4) := Lib.hid (ho3.below BV3.out HG.out)
          have HN4 : Hid (NoteAt V4 M P2 Q2 R2) := Lib.hid (note_past HN3.out HZ3.out HPM.out ho3)
          have HR4 := Lib.hid hr3
          clear op oq or_ hr3 ho3
          refine m_on BV4.out ?_
          refine f_go 12 rfl (by kernel_rfl) ?_
          go_wp2_with fail
          refine m_on BV4.out ?_
          refine f_end (by kernel_rfl) ?_
          go_wp2_with fail
          go_meet
          exact ⟨g13, P2, Q2, R2, rfl, rfl, rfl, Lib.hid ⟨HN4.out, HR4.out, BV4.out⟩⟩
      · go_wp2_with fail
        have hz := row_new V0 (zeroCells 0) 37 38 _ (by rfl) zero_note_at
        rw [show (#[.int .i64 0, .string ⟨#[]⟩, .string ⟨#[]⟩, .int .u8 0, .int .u8 0, .int .u8 0, .int .u8 0, .int .u8 0, .int .u8 0, .int .u8 0, .int .u8 0, .int .u8 0, .int .u8 0, .int .u8 0, .int .u8 0, .int .u8 0, .int .u8 0, .int .u8 0, .int .u8 0, .int .u8 0, .int .u8 0, .int .u8 0, .int .u8 0, .int .u8 0, .int .u8 0, .int .u8 0, .int .u8 0, .int .u8 0, .int .u8 0, .int .u8 0, .int .u8 0, .int .u8 0, .int .u8 0, .int .u8 0, .int .u8 0, .slice none 0 0, .slice none 0 0, .slice none 0 0] : Array Value) = zeroCells 0 from rfl]
        have hbl : Below V0.heap.size V0 (V0.alloc (.cells (zeroCells 0) 37)) := (Below.refl _ _).alloc (Nat.le_refl _) _
        have BV1 : Hid (Below w6.heap.size w6 (V0.alloc (.cells (zeroCells 0) 37))) := Lib.hid (BV0.out.trans (hbl.mono BV0.out.size))
        have HZ1 := Lib.hid hz
        have HG : Hid (w6.heap.size ≤ V0.heap.size) := Lib.hid BV0.out.size
        clear hz hbl
        generalize V0.alloc (.cells (zeroCells 0) 37) = V1 at *
        generalize V0.heap.size = g13 at *
        refine m_on BV1.out ?_
        refine f_go 1 rfl (by kernel_rfl) ?_
        go_wp2_with fail
        refine (HOWN.out V1 BV1.out).mono ?_
        rintro _ V2 ⟨Lv', rfl, hbi, hbl⟩
        have BV2 : Hid (Below w6.heap.size w6 V2) := Lib.hid (BV1.out.trans (hbl.mono BV1.out.size))
        have HBI2 := Lib.hid hbi
        have HZ2 := Lib.hid (HZ1.out.of_block (hbl.block _ (World.rowIs.lt HZ1.out)))
        clear hbi hbl
        go_wp2_with fail
        refine m_on BV2.out ?_
        refine f_go 4 rfl (by kernel_rfl) ?_
        go_wp2_with fail
        refine (HREF.out V2 Lv' BV2.out HBI2.out).mono ?_
        rintro _ V3 ⟨P2, Q2, R2, rfl, hn2, hbl⟩
        have BV3 : Hid (Below w6.heap.size w6 V3) := Lib.hid (BV2.out.trans (hbl.mono BV2.out.size))
        have HN3 := Lib.hid hn2
        have HZ3 := Lib.hid (HZ2.out.of_block (hbl.block _ (World.rowIs.lt HZ2.out)))
        clear hn2 hbl
        go_wp2_with fail
        refine m_on BV3.out ?_
        refine f_take 5 rfl (by kernel_rfl) (by rfl) _ (fun W hW => by clear hW; go_simp; rfl) BV3.out ?_
        simp only [Act.put, List.setIfInBounds_toArray, List.set_cons_zero, List.set_cons_succ]
        refine f_take 6 rfl (by kernel_rfl) (by rfl) _ (fun W hW => by clear hW; go_simp; rfl) BV3.out ?_
        simp only [Act.put, List.setIfInBounds_toArray, List.set_cons_zero, List.set_cons_succ]
        refine f_take 7 rfl (by kernel_rfl) (by rfl) _ (fun W hW => by clear hW; go_simp; rfl) BV3.out ?_
        simp only [Act.put, List.setIfInBounds_toArray, List.set_cons_zero, List.set_cons_succ]
        refine f_take 8 rfl (by kernel_rfl) (by rfl) _ (fun W hW => by clear hW; go_simp; rfl) BV3.out ?_
        simp only [Act.put, List.setIfInBounds_toArray, List.set_cons_zero, List.set_cons_succ]
        refine f_go 10 rfl (by kernel_rfl) ?_
        go_wp2_with fail
        refine m_on BV3.out ?_
        have op := (slice_one_cell HN3.out.p)
        have oq := (slice_one_cell HN3.out.q)
        have or_ := (slice_one_cell HN3.out.r)
        refine f_go 11 rfl (by kernel_rfl) ?_
        go_wp2_with ((with_reducible refine (?_ : wpList _ _ _ _ _ _)); refine store_whole (by rfl) 37 (.tmp 13) (.tmp 38) (by rfl) g13 _ 38 _ (noteF M P2 Q2 R2) HZ3.out (by rfl) _ (by rfl) (by kernel_rfl) (size_cellsOf _ _) (cellsOf_at _ _) (note_cells_one _ _ _ _ op oq or_) ?_; intro V4 hr3 ho3)
        have BV4 : Hid (Below w6.heap.size w6 V4) := Lib.hid (ho3.below BV3.out HG.out)
        have HN4 : Hid (NoteAt V4 M P2 Q2 R2) := Lib.hid (note_past HN3.out HZ3.out HPM.out ho3)
        have HR4 := Lib.hid hr3
        clear op oq or_ hr3 ho3
        refine m_on BV4.out ?_
        refine f_go 12 rfl (by kernel_rfl) ?_
        go_wp2_with fail
        refine m_on BV4.out ?_
        refine f_end (by kernel_rfl) ?_
        go_wp2_with fail
        go_meet
        exact ⟨g13, P2, Q2, R2, rfl, rfl, rfl, Lib.hid ⟨HN4.out, HR4.out, BV4.out⟩⟩
    case rest =>
      obtain ⟨g13, P2, Q2, R2, rfl, rfl, rfl, hx⟩ := hcut
      have HNR := Lib.hid hx.out.1
      have HRR := Lib.hid hx.out.2.1
      have H7 := Lib.hid (H6.out.step hx.out.2.2)
      have HN7 := Lib.hid (HN6.out.below hx.out.2.2)
      have HT7 := Lib.hid (HT6.out.of_block (hx.out.2.2.block _ (World.rowIs.lt HT6.out)))
      have fm := HFM.out HFIT.out.2.2.1 HFIT.out.2.2.2
      have HSA := Lib.hid (Note.refSame10_any M M P1 Q1 R1 P2 Q2 R2 wc HN7.out HNR.out fm.1 fm.2.1 fm.2.2 fm.1 fm.2.1 fm.2.2)
      rw [sameN_refl] at HSA
      unfold noteV at HSA
      obtain ⟨C1, hC1⟩ : ∃ C, C = cellsOf 38 (noteF M P1 Q1 R1) := ⟨_, rfl⟩
      obtain ⟨C2, hC2⟩ : ∃ C, C = cellsOf 38 (noteF M P2 Q2 R2) := ⟨_, rfl⟩
      rw [← hC1, ← hC2] at HSA
      have HC1 := Lib.hid hC1.symm
      have HC2 := Lib.hid hC2.symm
      have r10 := HT7.out
      have r13 := HRR.out
      clear hx HRB HRN HRD HOWN HREF HN6 HT6 HB6 H6 fm hC1 hC2 HFM HRF HAN HOW
      go_wp2_with (first
        | (refine load_as (by rfl) 30 (.tmp 10) (by rfl) g10 0 _ 38 38 _ C1 ((cells_zero _ _).trans HC1.out) r10 (by rfl) _ Tryd.underlying30 (by rfl) (by kernel_rfl) (by omega) ?_)
        | (refine load_as (by rfl) 37 (.tmp 13) (by rfl) g13 0 _ 38 38 _ C2 ((cells_zero _ _).trans HC2.out) r13 (by rfl) _ Tryd.underlying37 (by rfl) (by kernel_rfl) (by omega) ?_))
      refine HSA.out.mono ?_
      rintro _ w8 ⟨rfl, hb8⟩
      have H8 := Lib.hid (H7.out.step hb8)
      have hl := Book.str_beq nm nm
      rw [decide_eq_true rfl] at hl
      clear r10 r13 hb8 HSA H7
      go_wp2
      go_ret
      exact ⟨rfl, H8.out.hb⟩
end Go.Proofs.YtaakhldhmoaplaaDoor.Kdc
