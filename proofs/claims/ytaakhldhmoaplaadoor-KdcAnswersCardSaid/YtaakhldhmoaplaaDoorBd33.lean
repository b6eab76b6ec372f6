/-
  What kdc.refused and kdc.requestOf do. What lies in memory while an answer is made; what an answer is, in one form. What kdc.answerNS does. What kdc.answerKSL does. What kdc.Answer does. bartizanlaw16.awake: true. What an answer without an error has: who is in the book, that its note may be.
-/
import Derived.Test.YtaakhldhmoaplaaDoorBd26
import Derived.Test.YtaakhldhmoaplaaDoorBd32
import Derived.Test.YtaakhldhmoaplaaDoorBd09
import Derived.Test.YtaakhldhmoaplaaDoorBd20
import Derived.Test.YtaakhldhmoaplaaDoorBd13
import Derived.Test.YtaakhldhmoaplaaDoorBd12
import Derived.Test.YtaakhldhmoaplaaDoorBd04
import Derived.Test.YtaakhldhmoaplaaDoorBd34
import Derived.Test.YtaakhldhmoaplaaDoorBd39
import Derived.Lib.SlBytesConst
import Derived.Deep.DeepCutAuto
namespace Go.Proofs.YtaakhldhmoaplaaDoor.Kdc
open Go Go.RowKit Go.Proofs.YtaakhldhmoaplaaDoor.Aid Go.Proofs.YtaakhldhmoaplaaDoor.Sha Go.Proofs.YtaakhldhmoaplaaDoor.Law01 Go.Proofs.YtaakhldhmoaplaaDoor.Field Go.Proofs.YtaakhldhmoaplaaDoor.Law05
open Go.Proofs.YtaakhldhmoaplaaDoor.Seal (keysB formB openB okB)
open Go.Proofs.YtaakhldhmoaplaaDoor.Aes (RowB)
open Go.Proofs.YtaakhldhmoaplaaDoor.Note (NoteP noteF noteV NoteAt zeroCells zeroCells_eq)

theorem results_mid {P : Program} {w : World} {fn : Func} {s p u : Tmp} {ty : TypeId} (hf : fn.results = #[.tmp s, .cell p ty, .tmp u]) (tmps : Array Value) (g t n : Nat) (f : Nat → Value) (d : TypeDesc)
    (hp : tmps.getD p undef = .pointer (some ⟨g, 0, none⟩)) (h : w.rowIs g t n f) (hu : P.underlying ty = some d) (hd : d.isRow = true) (hi : (P.info? ty).map (·.size) = some n) :
    (results fn tmps).run P w = .ok (.tuple #[tmps.getD s undef, .agg (cellsOf n f), tmps.getD u undef]) w := by
  have hl : (loadVar ty ⟨g, 0, none⟩).run P w = .ok (.agg (cellsOf n f)) w :=
    run_loadVar_row w g t ty _ (0, 0) d (row_heap h) hu (by cases d <;> simp_all [TypeDesc.isRow]) (by rw [size_cellsOf]; exact hi)
  simp only [results, hf]
  have hp' : tmps[p]?.getD undef = .pointer (some ⟨g, 0, none⟩) := by simpa using hp
  simp [Result.andThen, hp', asAddr, hl]
theorem nil_at (w : World) (n : NoteP) (hp : n.pn = 0) (hq : n.qn = 0) (hr : n.rn = 0) : NoteAt w n (.slice none 0 0) (.slice none 0 0) (.slice none 0 0) :=
  ⟨by rw [hp]; exact SliceOf.nil _ _ _, by rw [hq]; exact SliceOf.nil _ _ _, by rw [hr]; exact SliceOf.nil _ _ _⟩
set_option maxRecDepth 100000 in
theorem refused_any (c : Int) (w : World) : Calls Tryd.prog 22 #[.int .i64 c] w fun x w' => x = .returned (.tuple #[.string ⟨#[]⟩, noteV zeroN (.slice none 0 0) (.slice none 0 0) (.slice none 0 0), .int .i64 c]) ∧ Below w.heap.size w w' := by
  have hz : ∀ i, i < 38 → (zeroCells 0)[i]? = some (noteF zeroN (.slice none 0 0) (.slice none 0 0) (.slice none 0 0) i) := fun i hi => by
    rw [zeroCells_eq, cellsOf_at _ _ i hi]
    rfl
  have h0 := row_new w (zeroCells 0) 30 38 _ (by rfl) hz
  have hb : Below w.heap.size w (w.alloc (.cells (zeroCells 0) 30)) := (Below.refl _ _).alloc (Nat.le_refl _) _
  have HR := Lib.hid h0
  have HB := Lib.hid hb
  have HZ := Lib.hid hz
  clear h0 hb hz
  go_enter Tryd.func22, Tryd.ntmps22
  go_upto_region 1 with fail
  rw [show (#[.int .i64 0, .string ⟨#[]⟩, .string ⟨#[]⟩, .int .u8 0, .int .u8 0, .int .u8 0, .int .u8 0, .int .u8 0, .int .u8 0, .int .u8 0, .int .u8 0, .int .u8 0, .int .u8 0, .int .u8 0, .int .u8 0, .int .u8 0, .int .u8 0, .int .u8 0, .int .u8 0, .int .u8 0, .int .u8 0, .int .u8 0, .int .u8 0, .int .u8 0, .int .u8 0, .int .u8 0, .int .u8 0, .int .u8 0, .int .u8 0, .int .u8 0, .int .u8 0, .int .u8 0, .int .u8 0, .int .u8 0, .int .u8 0, .slice none 0 0, .slice none 0 0, .slice none 0 0] : Array Value) = zeroCells 0 from rfl]
  generalize w.alloc (.cells (zeroCells 0) 30) = w1 at *
  go_wp2_with (refine store_whole (by rfl) 30 (.tmp 3) (.tmp 5) (by rfl) w.heap.size _ 38 _ (noteF zeroN (.slice none 0 0) (.slice none 0 0) (.slice none 0 0)) HR.out (by rfl) _ (by rfl) (by kernel_rfl) (by kernel_rfl) HZ.out (fun i _ => Note.noteF_one _ _ _ _ rfl rfl rfl i) ?_; intro w2 hr2 ho2)
  refine bodyPost_ret (results_mid rfl _ w.heap.size _ 38 _ _ rfl hr2 Tryd.underlying30 (by rfl) (by kernel_rfl)) rfl ?_
  exact ⟨rfl, ho2.below HB.out (Nat.le_refl _)⟩
/-- What each operation yields that a request is made by. -/
def reqR (s : ByteArray) (u v : Value) (i : Nat) : Value := if i = 0 then .string s else if i = 1 then u else v
theorem reqR_one (s : ByteArray) (u v : Value) (hu : u.oneCell' = true) (hv : v.oneCell' = true) (i : Nat) : (reqR s u v i).oneCell' = true := by
  unfold reqR
  split
  · rfl
  · split
    · exact hu
    · exact hv
def zreq : Array Value := #[.string ⟨#[]⟩, .slice none 0 0, .slice none 0 0]
theorem zreq_at (i : Nat) (hi : i < 3) : zreq[i]? = some (reqR ⟨#[]⟩ (.slice none 0 0) (.slice none 0 0) i) := by
  match i, hi with
  | 0, _ => rfl
  | 1, _ => rfl
  | 2, _ => rfl
theorem lit3_at (s : ByteArray) (u v : Value) (i : Nat) (hi : i < 3) : (#[.string s, u, v] : Array Value)[i]? = some (reqR s u v i) := by
  match i, hi with
  | 0, _ => rfl
  | 1, _ => rfl
  | 2, _ => rfl
def postQ (sb so cv : Nat) (A0 : Option Addr) (m0 c0 : Nat) (a : ByteArray) (A1 : Option Addr) (m1 c1 : Nat) (A2 : Option Addr) (m2 c2 B : Nat) (i : Nat) (v : Value) (w : World) : Prop :=
  match i with
  | 0 => v = .slice (some ⟨sb, so, none⟩) 3 cv
  | 1 => v = .pointer (some ⟨sb, so, none⟩)
  | 2 => v = .slice A0 m0 c0
  | 3 => v = .string a
  | 4 => v = .slice (some ⟨sb, so, none⟩) 3 cv
  | 5 => v = .pointer (some ⟨sb, so + 1, none⟩)
  | 6 => v = .slice A1 m1 c1
  | 7 => v = .slice (some ⟨sb, so, none⟩) 3 cv
  | 8 => v = .pointer (some ⟨sb, so + 2, none⟩)
  | 9 => v = .slice A2 m2 c2
  | 10 => v = .agg #[.string a, .slice A1 m1 c1, .slice A2 m2 c2]
  | 11 => ∃ g, v = .pointer (some ⟨g, 0, none⟩) ∧ w.rowIs g 75 3 (reqR ⟨#[]⟩ (.slice none 0 0) (.slice none 0 0)) ∧ B ≤ g
  | _ => True
theorem postQ_mono (sb so cv : Nat) (A0 : Option Addr) (m0 c0 : Nat) (a : ByteArray) (A1 : Option Addr) (m1 c1 : Nat) (A2 : Option Addr) (m2 c2 B : Nat) : ∀ i v w w', Below w.heap.size w w' → postQ sb so cv A0 m0 c0 a A1 m1 c1 A2 m2 c2 B i v w → postQ sb so cv A0 m0 c0 a A1 m1 c1 A2 m2 c2 B i v w' := fun i v w w' hb h => by
  match i with
  | 0 => exact h
  | 1 => exact h
  | 2 => exact h
  | 3 => exact h
  | 4 => exact h
  | 5 => exact h
  | 6 => exact h
  | 7 => exact h
  | 8 => exact h
  | 9 => exact h
  | 10 => exact h
  | 11 =>
    obtain ⟨g, h1, h2, h3⟩ := h
    exact ⟨g, h1, h2.of_block (hb.block _ (World.rowIs.lt h2)), h3⟩
  | _ + 12 => trivial
theorem fieldM_lt (E : Nat → BitVec 8) (i : Nat) : fieldM E i ≤ 65535 := by
  unfold fieldM lenAt
  have h1 := (E (sp E i)).isLt
  have h2 := (E (sp E i + 1)).isLt
  omega
/-- What requestOf tells: the error, and the three fields. -/
def ReqPost (ks e : Nat → BitVec 8) (m : Nat) (w : World) (x : Ending) (w' : World) : Prop :=
  ∃ s u v, x = .returned (.tuple #[.agg #[.string s, u, v], .int .i64 (reqC ks e m)]) ∧ Below w.heap.size w w' ∧ (reqC ks e m = 0 → s = strOf (fieldE (openB ks e) 0) (fieldM (openB ks e) 0) ∧ nameB s = true ∧ SliceOf w' w'.heap.size 16 (fieldE (openB ks e) 1) u ∧ SliceOf w' w'.heap.size 8 (fieldE (openB ks e) 2) v) ∧ u.oneCell' = true ∧ v.oneCell' = true
set_option maxRecDepth 100000 in
set_option maxHeartbeats 1000000 in
theorem req_any (key e : Nat → BitVec 8) (C : Array Value) (hC : C.size = 16) (hCi : ∀ i, i < 16 → C[i]? = some (.int .u8 ((key i).toNat : Int))) (B : Option Addr) (m d : Nat) (w : World) (hk : Consts w) (hp : SliceOf w w.heap.size m e (.slice B m d)) :
    Calls Tryd.prog 36 #[.agg C, .slice B m d] w (ReqPost (keysB key lNs2) e m w) := by
  obtain ⟨w1, hw1, hr1, hz1, hb1⟩ : ∃ w1, w1 = (w.alloc (.cells C 25)).alloc (.cells #[.string ⟨#[]⟩, .slice none 0 0, .slice none 0 0] 75) ∧ RowB w1 w.heap.size 25 16 key ∧ w1.rowIs (w.heap.size + 1) 75 3 (reqR ⟨#[]⟩ (.slice none 0 0) (.slice none 0 0)) ∧ Below w.heap.size w w1 := by
    have r2 := row_new (w.alloc (.cells C 25)) zreq 75 3 _ rfl zreq_at
    rw [World.size_alloc] at r2
    exact ⟨_, rfl, (row_new w C 25 16 (fun j => .int .u8 ((key j).toNat : Int)) hC hCi).alloc _, r2, ((Below.refl _ _).alloc (Nat.le_refl _) _).alloc (by simp) _⟩
  have hk1 := hk.below hb1 (Nat.le_refl _)
  have hp1 := slice_any (slice_below hp hb1) (Nat.le_refl _)
  have HPA := Lib.hid (fun (C' : Array Value) h1 h2 => parts_any key e lNs2 C' h1 h2 B m d 3 w1 hk1 hp1)
  have HZ1 := Lib.hid hz1
  have HBS : Hid (w.heap.size + 1 < w1.heap.size) := Lib.hid (World.rowIs.lt hz1)
  have HB1 := Lib.hid hb1
  obtain ⟨ks, hks⟩ : ∃ ks, ks = keysB key lNs2 := ⟨_, rfl⟩
  rw [← hks] at HPA ⊢
  clear hCi hC hp hk hk1 hp1 hb1 hz1 hks
  go_enter Tryd.func36, Tryd.ntmps36
  go_upto_region 1 with fail
  rw [← hw1]
  clear hw1
  go_wp2_with (refine load_whole (by rfl) 25 (.tmp 2) (by rfl) _ _ _ _ hr1 (by rfl) _ Tryd.underlying25 rfl (by kernel_rfl) ?_)
  refine (HPA.out _ (size_cellsOf _ _) (cellsOf_at _ _)).mono ?_
  rintro _ w2 ⟨v2, R2, rfl, ho2, hb2⟩
  have HB2 : Hid (Below w.heap.size w w2) := Lib.hid (HB1.out.trans (hb2.mono HB1.out.size))
  have HZ2 := Lib.hid (HZ1.out.of_block (hb2.block _ (World.rowIs.lt HZ1.out)))
  have HRC : Hid (reqC ks e m = if partsC ks e lNs2 m 3 = 0 then (if reqF (openB ks e) = true then 0 else 3) else partsC ks e lNs2 m 3) := Lib.hid rfl
  obtain ⟨pc, hpc⟩ : ∃ pc, pc = partsC ks e lNs2 m 3 := ⟨_, rfl⟩
  have HPC := Lib.hid hpc
  rw [← hpc]
  rw [← hpc] at HRC
  clear HPA hr1 hb2 HZ1 HB1
  by_cases h0 : pc = 0
  · subst h0
    have hK : partsK ks e lNs2 m 3 = 3 := partsK_eq (n := 3) hpc.symm
    rw [hK] at ho2
    obtain ⟨Av, cv, rfl⟩ := ho2.shape
    obtain ⟨sb, so, A0, c0, rfl, p0, s0⟩ := own_parts_at ho2 0 (by omega)
    rw [Nat.add_zero] at p0
    obtain ⟨sb', so', A1, c1, hh, p1, s1⟩ := own_parts_at ho2 1 (by omega)
    simp only [Option.some.injEq, Addr.mk.injEq, and_true] at hh
    obtain ⟨rfl, rfl⟩ := hh
    obtain ⟨sb', so', A2, c2, hh, p2, s2⟩ := own_parts_at ho2 2 (by omega)
    simp only [Option.some.injEq, Addr.mk.injEq, and_true] at hh
    obtain ⟨rfl, rfl⟩ := hh
    rw [if_pos rfl] at HRC
    obtain ⟨E, hE⟩ : ∃ E, E = openB ks e := ⟨_, rfl⟩
    have HE := Lib.hid hE
    rw [← hE] at s0 s1 s2 p0 p1 p2 HRC
    obtain ⟨a, ha⟩ : ∃ a, a = strOf (fieldE E 0) (fieldM E 0) := ⟨_, rfl⟩
    have HA := Lib.hid ha
    have HRF : Hid (reqF E = (nameB a && decide (fieldM E 1 = 16) && decide (fieldM E 2 = 8))) := Lib.hid (by rw [ha]; rfl)
    have hl0 := fieldM_lt E 0
    have hl1 := fieldM_lt E 1
    have hl2 := fieldM_lt E 2
    have hsz : a.size ≤ 65535 := by rw [ha, size_strOf]; exact hl0
    obtain ⟨m0, hm0⟩ : ∃ m, m = fieldM E 0 := ⟨_, rfl⟩
    obtain ⟨m1, hm1⟩ : ∃ m, m = fieldM E 1 := ⟨_, rfl⟩
    obtain ⟨m2, hm2⟩ : ∃ m, m = fieldM E 2 := ⟨_, rfl⟩
    rw [← hm0] at ha p0 s0 hl0
    rw [← hm1] at p1 s1 hl1 HRF
    rw [← hm2] at p2 s2 hl2 HRF
    clear hm0 hm1 hm2 ho2 hE hK
    have M0 : Hid (∀ W, Below w2.heap.size w2 W → W.cell? ⟨sb, so, none⟩ = some (.slice A0 m0 c0) ∧ W.cell? ⟨sb, so + 1, none⟩ = some (.slice A1 m1 c1) ∧ W.cell? ⟨sb, so + 2, none⟩ = some (.slice A2 m2 c2) ∧ (convert 28 9 (.slice A0 m0 c0)).run Tryd.prog W = .ok (.string a) W) := Lib.hid fun W hW => by
      refine ⟨(hW.cell (p := ⟨sb, so, none⟩) (block_lt_of_cell p0)).trans p0, (hW.cell (p := ⟨sb, so + 1, none⟩) (block_lt_of_cell p1)).trans p1, (hW.cell (p := ⟨sb, so + 2, none⟩) (block_lt_of_cell p2)).trans p2, ?_⟩
      rw [ha]
      exact str_run _ _ _ _ _ _ ((s0.below hW).slice (g' := W.heap.size) (.inr (Nat.le_refl _)))
    have S1 := Lib.hid s1
    have S2 := Lib.hid s2
    clear p0 p1 p2 s0 s1 s2 ha hpc
    go_upto_region 4 with fail
    refine region_inv_tail (postQ sb so cv A0 m0 c0 a A1 m1 c1 A2 m2 c2 w2.drew.heap.size) 12 (by kernel_rfl) (by kernel_rfl) (by kernel_rfl) rfl (postQ_mono _ _ _ _ _ _ _ _ _ _ _ _ _ _) ?_ ?_
    · refine ⟨⟨⟨⟨⟨⟨⟨⟨⟨⟨⟨⟨trivial, ?_⟩, ?_⟩, ?_⟩, ?_⟩, ?_⟩, ?_⟩, ?_⟩, ?_⟩, ?_⟩, ?_⟩, ?_⟩, ?_⟩
      · refine ⟨_, rfl, fun xs W hW hd => ?_⟩
        clear hd
        simp only [fillI, List.take, List.setIfInBounds_toArray, List.set_cons_zero, List.set_cons_succ, Nat.reduceAdd, Nat.zero_add]
        go_wp2_with fail
        refine ⟨_, by (simp only [upd, Nat.reduceEqDiff, reduceIte]; rfl), ?_, ?_⟩
        · rfl
        · exact Below.refl _ _
      · refine ⟨_, rfl, fun xs W hW hd => ?_⟩
        have h0 : xs 0 = .slice (some ⟨sb, so, none⟩) 3 cv := hd 0 (by kernel_rfl)
        clear hd
        rw [upd_self h0]
        simp only [fillI, List.take, List.setIfInBounds_toArray, List.set_cons_zero, List.set_cons_succ, Nat.reduceAdd, Nat.zero_add, upd, Nat.reduceEqDiff, reduceIte]
        go_wp2_with fail
        refine ⟨_, by (simp only [upd, Nat.reduceEqDiff, reduceIte]; rfl), ?_, ?_⟩
        · rfl
        · exact Below.refl _ _
      · refine ⟨_, rfl, fun xs W hW hd => ?_⟩
        have h1 : xs 1 = .pointer (some ⟨sb, so, none⟩) := hd 1 (by kernel_rfl)
        have cc := (M0.out W (undrew hW)).1
        clear hd
        rw [upd_self h1]
        simp only [fillI, List.take, List.setIfInBounds_toArray, List.set_cons_zero, List.set_cons_succ, Nat.reduceAdd, Nat.zero_add, upd, Nat.reduceEqDiff, reduceIte]
        go_wp2_with fail
        refine ⟨_, by (simp only [upd, Nat.reduceEqDiff, reduceIte]; rfl), ?_, ?_⟩
        · rfl
        · exact Below.refl _ _
      · refine ⟨_, rfl, fun xs W hW hd => ?_⟩
        have h2 : xs 2 = .slice A0 m0 c0 := hd 2 (by kernel_rfl)
        have ks := (M0.out W (undrew hW)).2.2.2
        clear hd
        rw [upd_self h2]
        simp only [fillI, List.take, List.setIfInBounds_toArray, List.set_cons_zero, List.set_cons_succ, Nat.reduceAdd, Nat.zero_add, upd, Nat.reduceEqDiff, reduceIte]
        go_wp2_with fail
        refine ⟨_, by (simp only [upd, Nat.reduceEqDiff, reduceIte]; rfl), ?_, ?_⟩
        · rfl
        · exact Below.refl _ _
      · refine ⟨_, rfl, fun xs W hW hd => ?_⟩
        clear hd
        simp only [fillI, List.take, List.setIfInBounds_toArray, List.set_cons_zero, List.set_cons_succ, Nat.reduceAdd, Nat.zero_add]
        go_wp2_with fail
        refine ⟨_, by (simp only [upd, Nat.reduceEqDiff, reduceIte]; rfl), ?_, ?_⟩
        · rfl
        · exact Below.refl _ _
      · refine ⟨_, rfl, fun xs W hW hd => ?_⟩
        have h4 : xs 4 = .slice (some ⟨sb, so, none⟩) 3 cv := hd 4 (by kernel_rfl)
        clear hd
        rw [upd_self h4]
        simp only [fillI, List.take, List.setIfInBounds_toArray, List.set_cons_zero, List.set_cons_succ, Nat.reduceAdd, Nat.zero_add, upd, Nat.reduceEqDiff, reduceIte]
        go_wp2_with fail
        refine ⟨_, by (simp only [upd, Nat.reduceEqDiff, reduceIte]; rfl), ?_, ?_⟩
        · rfl
        · exact Below.refl _ _
      · refine ⟨_, rfl, fun xs W hW hd => ?_⟩
        have h5 : xs 5 = .pointer (some ⟨sb, so + 1, none⟩) := hd 5 (by kernel_rfl)
        have cc := (M0.out W (undrew hW)).2.1
        clear hd
        rw [upd_self h5]
        simp only [fillI, List.take, List.setIfInBounds_toArray, List.set_cons_zero, List.set_cons_succ, Nat.reduceAdd, Nat.zero_add, upd, Nat.reduceEqDiff, reduceIte]
        go_wp2_with fail
        refine ⟨_, by (simp only [upd, Nat.reduceEqDiff, reduceIte]; rfl), ?_, ?_⟩
        · rfl
        · exact Below.refl _ _
      · refine ⟨_, rfl, fun xs W hW hd => ?_⟩
        clear hd
        simp only [fillI, List.take, List.setIfInBounds_toArray, List.set_cons_zero, List.set_cons_succ, Nat.reduceAdd, Nat.zero_add]
        go_wp2_with fail
        refine ⟨_, by (simp only [upd, Nat.reduceEqDiff, reduceIte]; rfl), ?_, ?_⟩
        · rfl
        · exact Below.refl _ _
      · refine ⟨_, rfl, fun xs W hW hd => ?_⟩
        have h7 : xs 7 = .slice (some ⟨sb, so, none⟩) 3 cv := hd 7 (by kernel_rfl)
        clear hd
        rw [upd_self h7]
        simp only [fillI, List.take, List.setIfInBounds_toArray, List.set_cons_zero, List.set_cons_succ, Nat.reduceAdd, Nat.zero_add, upd, Nat.reduceEqDiff, reduceIte]
        go_wp2_with fail
        refine ⟨_, by (simp only [upd, Nat.reduceEqDiff, reduceIte]; rfl), ?_, ?_⟩
        · rfl
        · exact Below.refl _ _
      · refine ⟨_, rfl, fun xs W hW hd => ?_⟩
        have h8 : xs 8 = .pointer (some ⟨sb, so + 2, none⟩) := hd 8 (by kernel_rfl)
        have cc := (M0.out W (undrew hW)).2.2.1
        clear hd
        rw [upd_self h8]
        simp only [fillI, List.take, List.setIfInBounds_toArray, List.set_cons_zero, List.set_cons_succ, Nat.reduceAdd, Nat.zero_add, upd, Nat.reduceEqDiff, reduceIte]
        go_wp2_with fail
        refine ⟨_, by (simp only [upd, Nat.reduceEqDiff, reduceIte]; rfl), ?_, ?_⟩
        · rfl
        · exact Below.refl _ _
      · refine ⟨_, rfl, fun xs W hW hd => ?_⟩
        have h3 : xs 3 = .string a := hd 3 (by kernel_rfl)
        have h6 : xs 6 = .slice A1 m1 c1 := hd 6 (by kernel_rfl)
        have h9 : xs 9 = .slice A2 m2 c2 := hd 9 (by kernel_rfl)
        clear hd
        rw [upd_self h3]
        rw [upd_self h6]
        rw [upd_self h9]
        simp only [fillI, List.take, List.setIfInBounds_toArray, List.set_cons_zero, List.set_cons_succ, Nat.reduceAdd, Nat.zero_add, upd, Nat.reduceEqDiff, reduceIte]
        go_wp2_with fail
        refine ⟨_, by (simp only [upd, Nat.reduceEqDiff, reduceIte]; rfl), ?_, ?_⟩
        · rfl
        · exact Below.refl _ _
      · refine ⟨_, rfl, fun xs W hW hd => ?_⟩
        clear hd
        simp only [fillI, List.take, List.setIfInBounds_toArray, List.set_cons_zero, List.set_cons_succ, Nat.reduceAdd, Nat.zero_add]
        go_wp2_with fail
        refine ⟨_, by (simp only [upd, Nat.reduceEqDiff, reduceIte]; rfl), ?_, ?_⟩
        · exact ⟨_, rfl, row_new W _ 75 3 _ (by rfl) zreq_at, hW.size⟩
        · exact (Below.refl _ _).alloc (Nat.le_refl _) _
    intro xs W hW hp
    have h10 : xs 10 = .agg #[.string a, .slice A1 m1 c1, .slice A2 m2 c2] := hp 10 (by omega)
    obtain ⟨g, h11, hrow, hg⟩ : ∃ g, xs 11 = .pointer (some ⟨g, 0, none⟩) ∧ W.rowIs g 75 3 (reqR ⟨#[]⟩ (.slice none 0 0) (.slice none 0 0)) ∧ w2.drew.heap.size ≤ g := hp 11 (by omega)
    have hbW := undrew hW
    have HBW : Hid (Below w.heap.size w W) := Lib.hid (HB2.out.trans (hbW.mono HB2.out.size))
    have HZW := Lib.hid (HZ2.out.of_block (hbW.block _ (World.rowIs.lt HZ2.out)))
    have SW1 := Lib.hid ((S1.out.below hbW))
    have SW2 := Lib.hid ((S2.out.below hbW))
    have HG : Hid (w.heap.size + 1 < g ∧ w2.heap.size ≤ g ∧ Below w2.heap.size w2 W) := Lib.hid ⟨by have h1 := World.rowIs.lt HZ2.out; have h2 : w2.heap.size ≤ g := hg; omega, hg, hbW⟩
    rw [upd_self h10, upd_self h11]
    simp only [fillI, List.take, List.setIfInBounds_toArray, List.set_cons_zero, List.set_cons_succ, Nat.reduceAdd, Nat.zero_add, upd, Nat.reduceEqDiff, reduceIte]
    clear hp hW hg h10 h11
    generalize xs 0 = y0 at *
    generalize xs 1 = y1 at *
    generalize xs 2 = y2 at *
    generalize xs 3 = y3 at *
    generalize xs 4 = y4 at *
    generalize xs 5 = y5 at *
    generalize xs 6 = y6 at *
    generalize xs 7 = y7 at *
    generalize xs 8 = y8 at *
    generalize xs 9 = y9 at *
    clear xs
    refine store_whole (by rfl) 75 (.tmp 8) (.tmp 33) (by rfl) g _ 3 _ (reqR a (.slice A1 m1 c1) (.slice A2 m2 c2)) hrow (by rfl) _ (by rfl) (by kernel_rfl) (by rfl) (lit3_at _ _ _) (fun i _ => reqR_one _ _ _ rfl rfl i) ?_
    intro w3 hr3 ho3
    have hb3 : Below w2.heap.size w2 w3 := ho3.below HG.out.2.2 HG.out.2.1
    have HB3 : Hid (Below w.heap.size w w3) := Lib.hid (HB2.out.trans (hb3.mono HB2.out.size))
    have HZ3 := Lib.hid (HZ2.out.of_block (hb3.block _ (World.rowIs.lt HZ2.out)))
    have S13 := Lib.hid ((S1.out.below hb3))
    have S23 := Lib.hid ((S2.out.below hb3))
    have HR3 := Lib.hid hr3
    clear hrow hbW HBW HZW SW1 SW2 HG ho3 hb3 hr3 S1 S2 HB2 HZ2 M0
    refine NoPanic.normal ?_
    obtain ⟨CW, hCW, zCW, iCW⟩ := cells_named 16 (fun j => .int .u8 ((wordE m1 (fieldE E 1) j).toNat : Int)) (wordE m1 (fieldE E 1)) (fun _ _ => rfl)
    have HWD := Lib.hid (word_own A1 c1 m1 (fieldE E 1) w3 (by omega) (S13.out.slice (.inr (Nat.le_refl _))))
    rw [show wordV (wordE m1 (fieldE E 1)) = .agg CW from congrArg Value.agg hCW] at HWD
    clear hCW
    obtain ⟨wc, hwc⟩ : ∃ c, c = wordC m1 := ⟨_, rfl⟩
    rw [← hwc] at HWD
    have HWC := Lib.hid hwc
    clear hwc
    have d1 := HR3.out.cell (i := 1) (by omega)
    rw [show reqR a (.slice A1 m1 c1) (.slice A2 m2 c2) 1 = .slice A1 m1 c1 from rfl] at d1
    go_wp2_with fail
    refine HWD.out.mono ?_
    rintro _ w4 ⟨rfl, hb4⟩
    have HB4 : Hid (Below w.heap.size w w4) := Lib.hid (HB3.out.trans (hb4.mono HB3.out.size))
    have HZ4 := Lib.hid (HZ3.out.of_block (hb4.block _ (World.rowIs.lt HZ3.out)))
    have S14 := Lib.hid ((S13.out.below hb4))
    have S24 := Lib.hid ((S23.out.below hb4))
    have HR4 := Lib.hid (HR3.out.of_block (hb4.block _ (World.rowIs.lt HR3.out)))
    clear d1 HWD hb4 HB3 HZ3 S13 S23 HR3
    go_upto_region 6 with (refine store_whole (by rfl) 25 (.tmp 9) (.tmp 38) (by rfl) w4.heap.size _ 16 (fun _ => .int .u8 0) (fun j => .int .u8 ((wordE m1 (fieldE E 1) j).toNat : Int)) (by exact row_new w4 _ _ 16 _ (by rfl) (zero16 _ (by rfl))) (by rfl) _ (by rfl) (by kernel_rfl) zCW iCW (fun _ _ => rfl) ?_; intro w5 hr5 ho5)
    have hb5 : Below w4.heap.size w4 w5 := ho5.below ((Below.refl w4.heap.size w4).alloc (Nat.le_refl _) (.cells (Array.replicate 16 (.int .u8 0)) 25)) (Nat.le_refl _)
    have HB5 : Hid (Below w.heap.size w w5) := Lib.hid (HB4.out.trans (hb5.mono HB4.out.size))
    have HZ5 := Lib.hid (HZ4.out.of_block (hb5.block _ (World.rowIs.lt HZ4.out)))
    have S15 := Lib.hid ((S14.out.below hb5))
    have S25 := Lib.hid ((S24.out.below hb5))
    have HR5 := Lib.hid (HR4.out.of_block (hb5.block _ (World.rowIs.lt HR4.out)))
    have HTK := Lib.hid (take_own A2 c2 m2 (fieldE E 2) w5 (by omega) (S25.out.slice (.inr (Nat.le_refl _))))
    obtain ⟨tv, htv⟩ : ∃ c, c = takeV (fieldE E 2) m2 := ⟨_, rfl⟩
    obtain ⟨tc, htc⟩ : ∃ c, c = takeC m2 := ⟨_, rfl⟩
    rw [← htv, ← htc] at HTK
    have HTC := Lib.hid htc
    clear htc
    have d2 := HR5.out.cell (i := 2) (by omega)
    rw [show reqR a (.slice A1 m1 c1) (.slice A2 m2 c2) 2 = .slice A2 m2 c2 from rfl] at d2
    have HNA := Lib.hid (fun W => name_own a W (by omega))
    clear hb5 hr5 ho5 HB4 HZ4 S14 S24 HR4 htv
    generalize w4.heap.size = g9 at *
    go_wp2_with fail
    refine HTK.out.mono ?_
    rintro _ w6 ⟨rfl, hb6⟩
    have HB6 : Hid (Below w.heap.size w w6) := Lib.hid (HB5.out.trans (hb6.mono HB5.out.size))
    have HZ6 := Lib.hid (HZ5.out.of_block (hb6.block _ (World.rowIs.lt HZ5.out)))
    have S16 := Lib.hid ((S15.out.below hb6))
    have S26 := Lib.hid ((S25.out.below hb6))
    have HR6 := Lib.hid (HR5.out.of_block (hb6.block _ (World.rowIs.lt HR5.out)))
    clear d2 hb6 HTK HB5 HZ5 S15 S25 HR5
    have d0 := HR6.out.cell (i := 0) (by omega)
    rw [show reqR a (.slice A1 m1 c1) (.slice A2 m2 c2) 0 = .string a from rfl] at d0
    obtain ⟨nb, hnb⟩ : ∃ c, c = nameB a := ⟨_, rfl⟩
    rw [← hnb] at HNA HRF
    have HNB := Lib.hid hnb
    clear hnb
    go_wp2_with fail
    refine (HNA.out _).mono ?_
    rintro _ w7 ⟨rfl, hb7⟩
    have HB7 : Hid (Below w.heap.size w w7) := Lib.hid (HB6.out.trans (hb7.mono HB6.out.size))
    have HZ7 := Lib.hid (HZ6.out.of_block (hb7.block _ (World.rowIs.lt HZ6.out)))
    have S17 := Lib.hid ((S16.out.below hb7))
    have S27 := Lib.hid ((S26.out.below hb7))
    have HR7 := Lib.hid (HR6.out.of_block (hb7.block _ (World.rowIs.lt HR6.out)))
    clear d0 hb7 HNA HB6 HZ6 S16 S26 HR6
    by_cases hok : nb = true ∧ m1 = 16 ∧ m2 = 8
    · obtain ⟨rfl, rfl, rfl⟩ := hok
      have e1 : wc = 0 := by rw [HWC.out]; rfl
      have e2 : tc = 0 := by rw [HTC.out]; rfl
      subst e1 e2
      go_wp2_with (first
        | (refine load_whole_met (by rfl) 75 (.tmp 8) (by rfl) g _ 3 _ HR7.out (by rfl) _ Tryd.underlying75 (by rfl) (by kernel_rfl) ?_)
        | (refine store_whole (by rfl) 75 (.tmp 4) (.tmp 59) (by rfl) (w.heap.size + 1) _ 3 _ (reqR a (.slice A1 16 c1) (.slice A2 8 c2)) HZ7.out (by rfl) _ (by rfl) (by kernel_rfl) (size_cellsOf _ _) (cellsOf_at _ _) (fun i _ => reqR_one _ _ _ rfl rfl i) ?_; intro w8 hr8 ho8))
      refine bodyPost_ret (results_row_tmp rfl _ (w.heap.size + 1) _ 3 _ _ rfl hr8 Tryd.underlying75 (by rfl) (by kernel_rfl)) rfl ?_
      have hb8 := ho8.below HB7.out (Nat.le_succ _)
      have hrc : reqC ks e m = 0 := by rw [HRC.out, if_pos]; rw [HRF.out]; rfl
      refine ⟨a, _, _, by rw [hrc]; rfl, hb8, fun _ => ⟨by rw [HA.out, HE.out], HNB.out.symm, ?_, ?_⟩, rfl, rfl⟩
      · rw [← HE.out]
        exact (S17.out.keep (fun b hb => ho8.block b (by have := (S17.out.lt hb).1; have := HBS.out; omega))).slice (.inr (Nat.le_refl _))
      · rw [← HE.out]
        exact (S27.out.keep (fun b hb => ho8.block b (by have := (S27.out.lt hb).1; have := HBS.out; omega))).slice (.inr (Nat.le_refl _))
    · have hq : nb = false ∨ (nb = true ∧ wc ≠ 0) ∨ (nb = true ∧ wc = 0 ∧ tc ≠ 0) := by
        cases nb with
        | false => exact .inl rfl
        | true =>
          by_cases h1 : m1 = 16
          · refine .inr (.inr ⟨rfl, by rw [HWC.out, h1]; rfl, ?_⟩)
            rw [HTC.out]
            unfold takeC
            rw [if_neg (fun h2 => hok ⟨rfl, h1, h2⟩)]
            decide
          · refine .inr (.inl ⟨rfl, ?_⟩)
            rw [HWC.out]
            unfold wordC
            rw [if_neg h1]
            decide
      have hrf : reqF E = false := by
        cases hr : reqF E with
        | false => rfl
        | true =>
          rw [HRF.out] at hr
          simp only [Bool.and_eq_true, decide_eq_true_eq] at hr
          exact absurd ⟨hr.1.1, hr.1.2, hr.2⟩ hok
      have hrc : reqC ks e m = 3 := by rw [HRC.out, hrf]; rfl
      have HRC3 := Lib.hid hrc
      clear hok hrf hrc
      rcases hq with h1 | ⟨h1, h2⟩ | ⟨h1, h2, h3⟩
      · subst h1
        go_wp2_with (refine store_whole (by rfl) 75 (.tmp 4) (.tmp 58) (by rfl) (w.heap.size + 1) _ 3 _ (reqR ⟨#[]⟩ (.slice none 0 0) (.slice none 0 0)) HZ7.out (by rfl) _ (by rfl) (by kernel_rfl) (by rfl) (lit3_at _ _ _) (fun i _ => reqR_one _ _ _ rfl rfl i) ?_; intro w8 hr8 ho8)
        refine bodyPost_ret (results_row_tmp rfl _ (w.heap.size + 1) _ 3 _ _ rfl hr8 Tryd.underlying75 (by rfl) (by kernel_rfl)) rfl ?_
        refine ⟨⟨#[]⟩, .slice none 0 0, .slice none 0 0, by rw [HRC3.out]; rfl, ho8.below HB7.out (Nat.le_succ _), fun h => ?_, rfl, rfl⟩
        rw [HRC3.out] at h
        cases h
      · subst h1
        have q : (wc == 0) = false := by simpa using h2
        have qn : (wc != 0) = true := by simpa using h2
        clear h2 HWC
        go_wp2_with (refine store_whole (by rfl) 75 (.tmp 4) (.tmp 58) (by rfl) (w.heap.size + 1) _ 3 _ (reqR ⟨#[]⟩ (.slice none 0 0) (.slice none 0 0)) HZ7.out (by rfl) _ (by rfl) (by kernel_rfl) (by rfl) (lit3_at _ _ _) (fun i _ => reqR_one _ _ _ rfl rfl i) ?_; intro w8 hr8 ho8)
        refine bodyPost_ret (results_row_tmp rfl _ (w.heap.size + 1) _ 3 _ _ rfl hr8 Tryd.underlying75 (by rfl) (by kernel_rfl)) rfl ?_
        refine ⟨⟨#[]⟩, .slice none 0 0, .slice none 0 0, by rw [HRC3.out]; rfl, ho8.below HB7.out (Nat.le_succ _), fun h => ?_, rfl, rfl⟩
        rw [HRC3.out] at h
        cases h
      · subst h1 h2
        have q : (tc == 0) = false := by simpa using h3
        have qn : (tc != 0) = true := by simpa using h3
        clear h3 HTC HWC
        go_wp2_with (refine store_whole (by rfl) 75 (.tmp 4) (.tmp 58) (by rfl) (w.heap.size + 1) _ 3 _ (reqR ⟨#[]⟩ (.slice none 0 0) (.slice none 0 0)) HZ7.out (by rfl) _ (by rfl) (by kernel_rfl) (by rfl) (lit3_at _ _ _) (fun i _ => reqR_one _ _ _ rfl rfl i) ?_; intro w8 hr8 ho8)
        refine bodyPost_ret (results_row_tmp rfl _ (w.heap.size + 1) _ 3 _ _ rfl hr8 Tryd.underlying75 (by rfl) (by kernel_rfl)) rfl ?_
        refine ⟨⟨#[]⟩, .slice none 0 0, .slice none 0 0, by rw [HRC3.out]; rfl, ho8.below HB7.out (Nat.le_succ _), fun h => ?_, rfl, rfl⟩
        rw [HRC3.out] at h
        cases h
  · have hrc : reqC ks e m = pc := by rw [HRC.out, if_neg h0]
    have HRC3 := Lib.hid hrc
    have q : (pc == 0) = false := by simpa using h0
    have q0 := h0
    clear hrc ho2 hpc h0 HRC
    go_wp2_with (refine store_whole (by rfl) 75 (.tmp 4) (.tmp 21) (by rfl) (w.heap.size + 1) _ 3 _ (reqR ⟨#[]⟩ (.slice none 0 0) (.slice none 0 0)) HZ2.out (by rfl) _ (by rfl) (by kernel_rfl) (by rfl) (lit3_at _ _ _) (fun i _ => reqR_one _ _ _ rfl rfl i) ?_; intro w8 hr8 ho8)
    refine bodyPost_ret (results_row_tmp rfl _ (w.heap.size + 1) _ 3 _ _ rfl hr8 Tryd.underlying75 (by rfl) (by kernel_rfl)) rfl ?_
    exact ⟨⟨#[]⟩, .slice none 0 0, .slice none 0 0, by rw [HRC3.out]; rfl, ho8.below HB2.out (Nat.le_succ _), fun h => absurd (HRC3.out.symm.trans h) q0, rfl, rfl⟩
end Go.Proofs.YtaakhldhmoaplaaDoor.Kdc
namespace Go.Proofs.YtaakhldhmoaplaaDoor.Kdc
open Go Go.RowKit Go.Proofs.YtaakhldhmoaplaaDoor.Aid Go.Proofs.YtaakhldhmoaplaaDoor.Sha Go.Proofs.YtaakhldhmoaplaaDoor.Law01 Go.Proofs.YtaakhldhmoaplaaDoor.Field Go.Proofs.YtaakhldhmoaplaaDoor.Law05
open Go.Proofs.YtaakhldhmoaplaaDoor.Seal (keysB formB openB okB)
open Go.Proofs.YtaakhldhmoaplaaDoor.Aes (RowB)
open Go.Proofs.YtaakhldhmoaplaaDoor.Note (NoteP noteF noteV NoteAt zeroCells zeroCells_eq)
open Go.Proofs.YtaakhldhmoaplaaDoor.Book (Bk Wd keyB hasN BookIs bookF bookV wordF)


abbrev nilV : Value := .slice none 0 0
structure AnsSt (tb tn : TypeId) (b : Bk) (N : NoteP) (D : Nat → BitVec 8) (P Q R Lv Rv : Value) (w W : World) : Prop where
  bk : W.rowIs w.heap.size tb 19 (bookF b Lv Rv)
  nt : W.rowIs (w.heap.size + 1) tn 38 (noteF N P Q R)
  dr : W.rowIs (w.heap.size + 1 + 1) 31 48 (byteF D)
  zr : W.rowIs (w.heap.size + 1 + 1 + 1) tn 38 (noteF zeroN nilV nilV nilV)
  is_ : BookIs W b Lv Rv
  at_ : NoteAt W N P Q R
  hk : Consts W
  hb : Below w.heap.size w W
theorem AnsSt.step {tb tn : TypeId} {b : Bk} {N : NoteP} {D : Nat → BitVec 8} {P Q R Lv Rv : Value} {w W W' : World} (h : AnsSt tb tn b N D P Q R Lv Rv w W) (hb : Below W.heap.size W W') : AnsSt tb tn b N D P Q R Lv Rv w W' :=
  ⟨h.bk.of_block (hb.block _ (World.rowIs.lt h.bk)), h.nt.of_block (hb.block _ (World.rowIs.lt h.nt)), h.dr.of_block (hb.block _ (World.rowIs.lt h.dr)), h.zr.of_block (hb.block _ (World.rowIs.lt h.zr)), h.is_.below hb, h.at_.below hb, h.hk.below hb (Nat.le_refl _), h.hb.trans (hb.mono h.hb.size)⟩
theorem zero_note_at : ∀ i, i < 38 → (zeroCells 0)[i]? = some (noteF zeroN nilV nilV nilV i) := fun i hi => by
  rw [zeroCells_eq, cellsOf_at _ _ i hi]
  rfl
theorem ans_new (tb tn : TypeId) (b : Bk) (N : NoteP) (D : Nat → BitVec 8) (P Q R Lv Rv : Value) (CD : Array Value) (hCD : CD.size = 48) (hCDi : ∀ i, i < 48 → CD[i]? = some (.int .u8 ((D i).toNat : Int))) (w : World) (hk : Consts w) (hb : BookIs w b Lv Rv) (hn : NoteAt w N P Q R) :
    ∃ W, W = (((w.alloc (.cells (cellsOf 19 (bookF b Lv Rv)) tb)).alloc (.cells (cellsOf 38 (noteF N P Q R)) tn)).alloc (.cells CD 31)).alloc (.cells (zeroCells 0) tn) ∧ AnsSt tb tn b N D P Q R Lv Rv w W := by
  have r1 := row_new w (cellsOf 19 (bookF b Lv Rv)) tb 19 _ (size_cellsOf _ _) (cellsOf_at _ _)
  have b1 : Below w.heap.size w (w.alloc (.cells (cellsOf 19 (bookF b Lv Rv)) tb)) := (Below.refl _ _).alloc (Nat.le_refl _) _
  have s1 : (w.alloc (.cells (cellsOf 19 (bookF b Lv Rv)) tb)).heap.size = w.heap.size + 1 := by simp
  generalize w.alloc (.cells (cellsOf 19 (bookF b Lv Rv)) tb) = w1 at *
  have r2 := row_new w1 (cellsOf 38 (noteF N P Q R)) tn 38 _ (size_cellsOf _ _) (cellsOf_at _ _)
  have b2 : Below w1.heap.size w1 (w1.alloc (.cells (cellsOf 38 (noteF N P Q R)) tn)) := (Below.refl _ _).alloc (Nat.le_refl _) _
  have s2 : (w1.alloc (.cells (cellsOf 38 (noteF N P Q R)) tn)).heap.size = w1.heap.size + 1 := by simp
  generalize w1.alloc (.cells (cellsOf 38 (noteF N P Q R)) tn) = w2 at *
  have r3 := row_new w2 CD 31 48 (byteF D) hCD hCDi
  have b3 : Below w2.heap.size w2 (w2.alloc (.cells CD 31)) := (Below.refl _ _).alloc (Nat.le_refl _) _
  have s3 : (w2.alloc (.cells CD 31)).heap.size = w2.heap.size + 1 := by simp
  generalize w2.alloc (.cells CD 31) = w3 at *
  have r4 := row_new w3 (zeroCells 0) tn 38 _ (by rfl) zero_note_at
  have b4 : Below w3.heap.size w3 (w3.alloc (.cells (zeroCells 0) tn)) := (Below.refl _ _).alloc (Nat.le_refl _) _
  generalize w3.alloc (.cells (zeroCells 0) tn) = w4 at *
  have b34 := b3.trans (b4.mono b3.size)
  have b24 := b2.trans (b34.mono b2.size)
  have b14 := b1.trans (b24.mono b1.size)
  rw [s3, s2, s1] at r4
  rw [s2, s1] at r3
  rw [s1] at r2
  exact ⟨w4, rfl, r1.of_block (b24.block _ (World.rowIs.lt r1)), r2.of_block (b34.block _ (World.rowIs.lt r2)), r3.of_block (b4.block _ (World.rowIs.lt r3)), r4, hb.below b14, hn.below b14, hk.below b14 (Nat.le_refl _), b14⟩
/-- What is answered: to whom, what, the error. -/
def AnsPost (nm : ByteArray) (M : NoteP) (c : Int) (w : World) (x : Ending) (w' : World) : Prop :=
  ∃ P Q R, x = .returned (.tuple #[.string nm, noteV M P Q R, .int .i64 c]) ∧ NoteAt w' M P Q R ∧ Below w.heap.size w w'
theorem ans_none (c : Int) (w : World) (x : Ending) (w' : World) (hx : x = .returned (.tuple #[.string ⟨#[]⟩, noteV zeroN nilV nilV nilV, .int .i64 c])) (hb : Below w.heap.size w w') : AnsPost ⟨#[]⟩ zeroN c w x w' :=
  ⟨nilV, nilV, nilV, hx, nil_at _ _ rfl rfl rfl, hb⟩
theorem note_cells_one (N : NoteP) (P Q R : Value) (hp : P.oneCell' = true) (hq : Q.oneCell' = true) (hr : R.oneCell' = true) : ∀ i, i < 38 → (noteF N P Q R i).oneCell' = true := fun i _ => Note.noteF_one _ _ _ _ hp hq hr i
/-- More bytes than a row has cells lie elsewhere: a store into the row leaves them. -/
theorem slice_past {w w' : World} {z t m n : Nat} {f : Nat → Value} {e : Nat → BitVec 8} {v : Value} (h : SliceOf w w.heap.size n e v) (hr : w.rowIs z t m f) (hn : m < n) (ho : Only z w w') : SliceOf w' w'.heap.size n e v := by
  have h1 : SliceOf w z n e v := by
    obtain ⟨A, c, hv, hc, hs⟩ := h
    refine ⟨A, c, hv, hc, fun h0 => ?_⟩
    obtain ⟨sb, so, hA, _, hcell⟩ := hs h0
    refine ⟨sb, so, hA, fun hsz => ?_, hcell⟩
    subst hsz
    have h2 := hcell (n - 1) (by omega)
    rw [cell_of_row w sb (so + (n - 1)) _ _ _ (row_heap hr), Array.getElem?_eq_none (by rw [size_cellsOf]; omega)] at h2
    cases h2
  exact slice_any (h1.keep (fun b _ hne => ho.block b hne)) (Nat.le_refl _)
theorem blob_big (l : List (Nat × (Nat → BitVec 8))) : 38 < blobN l := by unfold blobN; omega
theorem off4 (a b c d : Nat) (x y z u : Nat → BitVec 8) : off (fldM [(a, x), (b, y), (c, z), (d, u)]) 4 = a + b + c + d := by
  show 0 + a + b + c + d = _
  omega
theorem off3 (a b c : Nat) (x y z : Nat → BitVec 8) : off (fldM [(a, x), (b, y), (c, z)]) 3 = a + b + c := by
  show 0 + a + b + c = _
  omega
theorem blob_len' (s : ByteArray) (l : List (Nat × (Nat → BitVec 8))) (hs : 1 ≤ s.size ∧ s.size ≤ 40) (hl : l.length ≤ 4) (h : off (fldM l) l.length ≤ 200) : putB l.length (fldM l) = true ∧ encN (fldM l) l.length ≤ 1000 ∧ sealedN s l.length (fldM l) = blobN l := by
  have h1 : putB l.length (fldM l) = true := putB_of (by omega) (fun i hi => by have := off_ge (fldM l) hi; omega)
  have h2 : encN (fldM l) l.length ≤ 1000 := by unfold encN; rw [off_m2]; omega
  exact ⟨h1, h2, sealed_len h1 hs h2⟩
/-- A short list of fields is never refused. -/
theorem blob_len (s : ByteArray) (l : List (Nat × (Nat → BitVec 8))) (hs : s.size = 3) (hl : l.length ≤ 4) (h : off (fldM l) l.length ≤ 200) : putB l.length (fldM l) = true ∧ encN (fldM l) l.length ≤ 1000 ∧ sealedN s l.length (fldM l) = blobN l := blob_len' s l (by omega) hl h
end Go.Proofs.YtaakhldhmoaplaaDoor.Kdc
namespace Go.Proofs.YtaakhldhmoaplaaDoor.Kdc
open Go Go.RowKit Go.Proofs.YtaakhldhmoaplaaDoor.Aid Go.Proofs.YtaakhldhmoaplaaDoor.Sha Go.Proofs.YtaakhldhmoaplaaDoor.Law01 Go.Proofs.YtaakhldhmoaplaaDoor.Field Go.Proofs.YtaakhldhmoaplaaDoor.Law05
open Go.Proofs.YtaakhldhmoaplaaDoor.Seal (keysB formB openB okB)
open Go.Proofs.YtaakhldhmoaplaaDoor.Aes (RowB)
open Go.Proofs.YtaakhldhmoaplaaDoor.Note (NoteP noteF noteV NoteAt zeroCells zeroCells_eq)
open Go.Proofs.YtaakhldhmoaplaaDoor.Book (Bk Wd keyB hasN BookIs bookF bookV wordF)

def zprin : Array Value := #[.string ⟨#[]⟩, .int .u8 0, .int .u8 0, .int .u8 0, .int .u8 0, .int .u8 0, .int .u8 0, .int .u8 0, .int .u8 0, .int .u8 0, .int .u8 0, .int .u8 0, .int .u8 0, .int .u8 0, .int .u8 0, .int .u8 0, .int .u8 0, .string ⟨#[]⟩, Value.nilFunc]
theorem zprin_at (i : Nat) (hi : i < 19) : zprin[i]? = some (prinF ⟨#[]⟩ (fun _ => 0) ⟨#[]⟩ Value.nilFunc i) := by
  rw [show zprin = cellsOf 19 (prinF ⟨#[]⟩ (fun _ => 0) ⟨#[]⟩ Value.nilFunc) from rfl]
  exact cellsOf_at _ _ i hi
theorem prinF_one (n : ByteArray) (k : Nat → BitVec 8) (l : ByteArray) (F : Value) (hF : F.oneCell' = true) (i : Nat) : (prinF n k l F i).oneCell' = true := by
  unfold prinF
  split
  · rfl
  · split
    · rfl
    · split
      · rfl
      · exact hF
def nsTo (b : Bk) (N : NoteP) : ByteArray := if nsC b N = 0 then nsA b N else ⟨#[]⟩
def nsM (b : Bk) (N : NoteP) (D : Nat → BitVec 8) : NoteP := if nsC b N = 0 then nsN b N D (fun j => D (16 + j)) (fun j => D (32 + j)) else zeroN
theorem ns_err {b : Bk} {N : NoteP} {D : Nat → BitVec 8} {c : Int} (hc : nsC b N = c) (h0 : c ≠ 0) {w : World} {x : Ending} {w' : World} (hx : x = .returned (.tuple #[.string ⟨#[]⟩, noteV zeroN nilV nilV nilV, .int .i64 c])) (hb : Below w.heap.size w w') : AnsPost (nsTo b N) (nsM b N D) (nsC b N) w x w' := by
  unfold nsTo nsM
  rw [hc, if_neg h0, if_neg h0]
  exact ans_none c w x w' hx hb
set_option maxRecDepth 100000 in
set_option maxHeartbeats 1000000 in
theorem answerNS_any (b : Bk) (N : NoteP) (D : Nat → BitVec 8) (P Q R Lv Rv : Value) (CD : Array Value) (hCD : CD.size = 48) (hCDi : ∀ i, i < 48 → CD[i]? = some (.int .u8 ((D i).toNat : Int))) (w : World) (hk : Consts w) (hb : BookIs w b Lv Rv) (hn : NoteAt w N P Q R) (hB : N.b.size ≤ 20) :
    Calls Tryd.prog 20 #[bookV b Lv Rv, noteV N P Q R, .agg CD] w (AnsPost (nsTo b N) (nsM b N D) (nsC b N) w) := by
  obtain ⟨W, hW, h0⟩ := ans_new 27 30 b N D P Q R Lv Rv CD hCD hCDi w hk hb hn
  have HKEY := Lib.hid (fun (n : ByteArray) (W : World) (h : BookIs W b Lv Rv) => Book.key_any b Lv Rv h.ents h.few.1 n)
  have H0 := Lib.hid h0
  have HB := Lib.hid hB
  have hp1 : ∃ A c, P = .slice A N.pn c := slice_shape hn.p
  obtain ⟨AP, cP, hP⟩ := hp1
  clear hCD hCDi hk hb hn h0 hB
  unfold bookV noteV
  unfold bookV Book.wordV at HKEY
  obtain ⟨CB, hCB⟩ : ∃ C, C = cellsOf 19 (bookF b Lv Rv) := ⟨_, rfl⟩
  obtain ⟨CN, hCN⟩ : ∃ C, C = cellsOf 38 (noteF N P Q R) := ⟨_, rfl⟩
  rw [← hCB, ← hCN] at hW ⊢
  rw [← hCB] at HKEY
  have HCB := Lib.hid hCB.symm
  clear hCB hCN
  go_enter Tryd.func20, Tryd.ntmps20
  go_upto_region 1 with fail
  rw [show (#[.int .i64 0, .string ⟨#[]⟩, .string ⟨#[]⟩, .int .u8 0, .int .u8 0, .int .u8 0, .int .u8 0, .int .u8 0, .int .u8 0, .int .u8 0, .int .u8 0, .int .u8 0, .int .u8 0, .int .u8 0, .int .u8 0, .int .u8 0, .int .u8 0, .int .u8 0, .int .u8 0, .int .u8 0, .int .u8 0, .int .u8 0, .int .u8 0, .int .u8 0, .int .u8 0, .int .u8 0, .int .u8 0, .int .u8 0, .int .u8 0, .int .u8 0, .int .u8 0, .int .u8 0, .int .u8 0, .int .u8 0, .int .u8 0, .slice none 0 0, .slice none 0 0, .slice none 0 0] : Array Value) = zeroCells 0 from rfl, ← hW]
  clear hW
  have d2 := H0.out.nt.cell (i := 2) (by omega)
  rw [show noteF N P Q R 2 = .string N.b from rfl] at d2
  have r0 := H0.out.bk
  go_wp2_with (refine load_as (by rfl) 27 (.tmp 3) (by rfl) w.heap.size 0 _ 19 19 _ CB ((cells_zero _ _).trans HCB.out) r0 (by rfl) _ Tryd.underlying27 (by rfl) (by kernel_rfl) (by omega) ?_)
  refine (HKEY.out N.b W H0.out.is_).mono ?_
  rintro _ w1 ⟨rfl, hb1⟩
  have H1 := Lib.hid (H0.out.step hb1)
  clear d2 r0 hb1 H0
  obtain ⟨K2, hK2, zK2, iK2⟩ := cells_named 16 (wordF (keyB N.b b.L)) (keyF (keyB N.b b.L)) (fun _ _ => rfl)
  rw [hK2]
  clear hK2
  go_upto_region 2 with (refine store_whole (by rfl) 25 (.tmp 9) (.tmp 23) (by rfl) w1.heap.size _ 16 (fun _ => .int .u8 0) (byteF (keyF (keyB N.b b.L))) (by exact row_new w1 _ _ 16 _ (by rfl) (zero16 _ (by rfl))) (by rfl) _ (by rfl) (by kernel_rfl) zK2 iK2 (fun _ _ => rfl) ?_; intro w2 hr2 ho2)
  have hb2 : Below w1.heap.size w1 w2 := ho2.below ((Below.refl w1.heap.size w1).alloc (Nat.le_refl _) (.cells (Array.replicate 16 (.int .u8 0)) 25)) (Nat.le_refl _)
  have H2 := Lib.hid (H1.out.step hb2)
  have HR2 := Lib.hid hr2
  have HG9 : Hid (w1.heap.size < w2.heap.size) := Lib.hid (World.rowIs.lt hr2)
  clear ho2 hb2 hr2 H1
  generalize w1.heap.size = g9 at *
  cases hh : hasN b.L N.b with
  | false =>
    have HC : Hid (nsC b N = 4) := Lib.hid (by unfold nsC; rw [if_pos hh])
    clear hh
    go_wp2_with fail
    refine (refused_any 4 _).mono ?_
    rintro _ w8 ⟨rfl, hb8⟩
    have H8 := Lib.hid (H2.out.step hb8)
    have hz8 := H8.out.zr
    clear hb8
    go_wp2_with (refine store_whole (by rfl) 30 (.tmp 7) (.tmp 29) (by rfl) (w.heap.size + 1 + 1 + 1) _ 38 _ (noteF zeroN nilV nilV nilV) hz8 (by rfl) _ (by rfl) (by kernel_rfl) (size_cellsOf _ _) (cellsOf_at _ _) (note_cells_one _ _ _ _ rfl rfl rfl) ?_; intro w9 hr9 ho9)
    refine bodyPost_ret (results_mid rfl _ (w.heap.size + 1 + 1 + 1) _ 38 _ _ rfl hr9 Tryd.underlying30 (by rfl) (by kernel_rfl)) rfl ?_
    have hb9 := ho9.below H8.out.hb (by omega)
    exact ns_err HC.out (by decide) rfl hb9
  | true =>
    have HH := Lib.hid hh
    clear hh
    go_upto_region 4 with fail
    have d5 := H2.out.nt.cell (i := 35) (by omega)
    rw [show noteF N P Q R 35 = P from rfl, hP] at d5
    have r9 := HR2.out
    have HREQ := Lib.hid (fun C h1 h2 => req_any (keyF (keyB N.b b.L)) N.p C h1 h2 AP N.pn cP w2 H2.out.hk (by have := H2.out.at_.p; rw [hP] at this; exact this))
    go_wp2_with (refine load_as (by rfl) 25 (.tmp 9) (by rfl) g9 0 _ 16 16 _ (cellsOf 16 (byteF (keyF (keyB N.b b.L)))) (cells_zero _ _) r9 (by rfl) _ Tryd.underlying25 (by rfl) (by kernel_rfl) (by omega) ?_)
    refine (HREQ.out _ (size_cellsOf _ _) (cellsOf_at _ _)).mono ?_
    rintro _ w3 ⟨s, u, v, rfl, hb3, hq, ou, ov⟩
    have H3 := Lib.hid (H2.out.step hb3)
    have HR3 := Lib.hid (HR2.out.of_block (hb3.block _ (World.rowIs.lt HR2.out)))
    have HQ := Lib.hid hq
    have HRQ : Hid (reqC (nsKs b N) N.p N.pn = reqC (keysB (keyF (keyB N.b b.L)) lNs2) N.p N.pn) := Lib.hid rfl
    obtain ⟨rc, hrc⟩ : ∃ c, c = reqC (keysB (keyF (keyB N.b b.L)) lNs2) N.p N.pn := ⟨_, rfl⟩
    have HRC := Lib.hid hrc
    rw [← hrc] at HQ HRQ ⊢
    clear d5 r9 hb3 hq HREQ H2 HR2 hrc hP
    have hz3 := row_new w3 zreq 75 3 _ (by rfl) zreq_at
    go_upto_region 5 with (refine store_whole (by rfl) 75 (.tmp 11) (.tmp 36) (by rfl) w3.heap.size _ 3 _ (reqR s u v) (by exact hz3) (by rfl) _ (by rfl) (by kernel_rfl) (by rfl) (lit3_at _ _ _) (fun i _ => reqR_one _ _ _ ou ov i) ?_; intro w4 hr4 ho4)
    have hb4 : Below w3.heap.size w3 w4 := ho4.below ((Below.refl w3.heap.size w3).alloc (Nat.le_refl _) (.cells zreq 75)) (Nat.le_refl _)
    have H4 := Lib.hid (H3.out.step hb4)
    have HR4 := Lib.hid (HR3.out.of_block (hb4.block _ (World.rowIs.lt HR3.out)))
    have HX4 := Lib.hid hr4
    have HG11 : Hid (w3.heap.size < w4.heap.size ∧ Below w3.heap.size w3 w4) := Lib.hid ⟨World.rowIs.lt hr4, hb4⟩
    have HQ4 : Hid (rc = 0 → s = nsA b N ∧ nameB s = true ∧ SliceOf w4 w4.heap.size 16 (fieldE (nsE b N) 1) u ∧ SliceOf w4 w4.heap.size 8 (fieldE (nsE b N) 2) v) := Lib.hid (fun h => ⟨(HQ.out h).1, (HQ.out h).2.1, slice_next (HQ.out h).2.2.1 hb4, slice_next (HQ.out h).2.2.2 hb4⟩)
    clear hz3 ho4 hb4 hr4 HQ H3 HR3 HG11 HG9
    have HSZ4 : Hid (w3.heap.size < w4.heap.size) := Lib.hid (World.rowIs.lt HX4.out)
    generalize w3.heap.size = g11 at *
    by_cases h0 : rc = 0
    · subst h0
      obtain ⟨hs, hsn, hsu, hsv⟩ := HQ4.out rfl
      have HSA := Lib.hid hs
      have HSN := Lib.hid hsn
      have HSU := Lib.hid hsu
      have HSV := Lib.hid hsv
      clear HQ4 hs hsn hsu hsv
      have c0 := HX4.out.cell (i := 0) (by omega)
      rw [show reqR s u v 0 = .string s from rfl] at c0
      have d2 := H4.out.nt.cell (i := 2) (by omega)
      rw [show noteF N P Q R 2 = .string N.b from rfl] at d2
      by_cases he : s = N.b
      · have HC : Hid (nsC b N = 1) := Lib.hid (by
          unfold nsC
          rw [if_neg (by rw [HH.out]; decide), if_neg (by rw [HRQ.out]; decide), if_pos (by rw [← HSA.out]; exact he)])
        have hl := Book.str_beq s N.b
        rw [decide_eq_true he] at hl
        clear he
        go_wp2_with fail
        refine (refused_any 1 _).mono ?_
        rintro _ w8 ⟨rfl, hb8⟩
        have H8 := Lib.hid (H4.out.step hb8)
        have hz8 := H8.out.zr
        clear hb8
        go_wp2_with (refine store_whole (by rfl) 30 (.tmp 7) (.tmp 52) (by rfl) (w.heap.size + 1 + 1 + 1) _ 38 _ (noteF zeroN nilV nilV nilV) hz8 (by rfl) _ (by rfl) (by kernel_rfl) (size_cellsOf _ _) (cellsOf_at _ _) (note_cells_one _ _ _ _ rfl rfl rfl) ?_; intro w9 hr9 ho9)
        refine bodyPost_ret (results_mid rfl _ (w.heap.size + 1 + 1 + 1) _ 38 _ _ rfl hr9 Tryd.underlying30 (by rfl) (by kernel_rfl)) rfl ?_
        have hb9 := ho9.below H8.out.hb (by omega)
        exact ns_err HC.out (by decide) rfl hb9
      · have HNE : Hid (¬ nsA b N = N.b) := Lib.hid (by rw [← HSA.out]; exact he)
        have hl := Book.str_beq s N.b
        rw [decide_eq_false he] at hl
        clear he
        go_upto_region 9 with fail
        clear hl
        have r0 := H4.out.bk
        go_wp2_with (refine load_as (by rfl) 27 (.tmp 3) (by rfl) w.heap.size 0 _ 19 19 _ CB ((cells_zero _ _).trans HCB.out) r0 (by rfl) _ Tryd.underlying27 (by rfl) (by kernel_rfl) (by omega) ?_)
        refine (HKEY.out s w4 H4.out.is_).mono ?_
        rintro _ w5 ⟨rfl, hb5⟩
        have H5 := Lib.hid (H4.out.step hb5)
        have HR5 := Lib.hid (HR4.out.of_block (hb5.block _ (World.rowIs.lt HR4.out)))
        have HX5 := Lib.hid (HX4.out.of_block (hb5.block _ (World.rowIs.lt HX4.out)))
        have HU5 := Lib.hid (slice_next HSU.out hb5)
        have HV5 := Lib.hid (slice_next HSV.out hb5)
        clear c0 d2 r0 hb5 H4 HR4 HX4 HSU HSV HSZ4
        obtain ⟨K5, hK5, zK5, iK5⟩ := cells_named 16 (wordF (keyB s b.L)) (keyF (keyB s b.L)) (fun _ _ => rfl)
        rw [hK5]
        clear hK5
        go_upto_region 10 with (refine store_whole (by rfl) 25 (.tmp 13) (.tmp 59) (by rfl) w5.heap.size _ 16 (fun _ => .int .u8 0) (byteF (keyF (keyB s b.L))) (by exact row_new w5 _ _ 16 _ (by rfl) (zero16 _ (by rfl))) (by rfl) _ (by rfl) (by kernel_rfl) zK5 iK5 (fun _ _ => rfl) ?_; intro w6 hr6 ho6)
        have hb6 : Below w5.heap.size w5 w6 := ho6.below ((Below.refl w5.heap.size w5).alloc (Nat.le_refl _) (.cells (Array.replicate 16 (.int .u8 0)) 25)) (Nat.le_refl _)
        have H6 := Lib.hid (H5.out.step hb6)
        have HR6 := Lib.hid (HR5.out.of_block (hb6.block _ (World.rowIs.lt HR5.out)))
        have HX6 := Lib.hid (HX5.out.of_block (hb6.block _ (World.rowIs.lt HX5.out)))
        have HU6 := Lib.hid (slice_next HU5.out hb6)
        have HV6 := Lib.hid (slice_next HV5.out hb6)
        have HS6 := Lib.hid hr6
        clear ho6 hb6 hr6 H5 HR5 HX5 HU5 HV5
        generalize w5.heap.size = g13 at *
        cases hk : hasN b.L s with
        | false =>
          have HC : Hid (nsC b N = 4) := Lib.hid (by
            unfold nsC
            rw [if_neg (by rw [HH.out]; decide), if_neg (by rw [HRQ.out]; decide), if_neg HNE.out, if_pos (by rw [← HSA.out]; exact hk)])
          clear hk
          go_wp2_with fail
          refine (refused_any 4 _).mono ?_
          rintro _ w8 ⟨rfl, hb8⟩
          have H8 := Lib.hid (H6.out.step hb8)
          have hz8 := H8.out.zr
          clear hb8
          go_wp2_with (refine store_whole (by rfl) 30 (.tmp 7) (.tmp 65) (by rfl) (w.heap.size + 1 + 1 + 1) _ 38 _ (noteF zeroN nilV nilV nilV) hz8 (by rfl) _ (by rfl) (by kernel_rfl) (size_cellsOf _ _) (cellsOf_at _ _) (note_cells_one _ _ _ _ rfl rfl rfl) ?_; intro w9 hr9 ho9)
          refine bodyPost_ret (results_mid rfl _ (w.heap.size + 1 + 1 + 1) _ 38 _ _ rfl hr9 Tryd.underlying30 (by rfl) (by kernel_rfl)) rfl ?_
          have hb9 := ho9.below H8.out.hb (by omega)
          exact ns_err HC.out (by decide) rfl hb9
        | true =>
          have HC : Hid (nsC b N = 0) := Lib.hid (by
            unfold nsC
            rw [if_neg (by rw [HH.out]; decide), if_neg (by rw [HRQ.out]; decide), if_neg HNE.out, if_neg (by rw [← HSA.out, hk]; decide)])
          clear hk
          have c0 := HX6.out.cell (i := 0) (by omega)
          rw [show reqR s u v 0 = .string s from rfl] at c0
          have r13 := HS6.out
          go_upto_region 13 with (first
            | (refine load_as (by rfl) 25 (.tmp 13) (by rfl) g13 0 _ 16 16 _ #[byteF (keyF (keyB s b.L)) 0, byteF (keyF (keyB s b.L)) 1, byteF (keyF (keyB s b.L)) 2, byteF (keyF (keyB s b.L)) 3, byteF (keyF (keyB s b.L)) 4, byteF (keyF (keyB s b.L)) 5, byteF (keyF (keyB s b.L)) 6, byteF (keyF (keyB s b.L)) 7, byteF (keyF (keyB s b.L)) 8, byteF (keyF (keyB s b.L)) 9, byteF (keyF (keyB s b.L)) 10, byteF (keyF (keyB s b.L)) 11, byteF (keyF (keyB s b.L)) 12, byteF (keyF (keyB s b.L)) 13, byteF (keyF (keyB s b.L)) 14, byteF (keyF (keyB s b.L)) 15] rfl r13 (by rfl) _ Tryd.underlying25 (by rfl) (by kernel_rfl) (by omega) ?_)
            | (refine store_whole (by rfl) 81 (.tmp 14) (.tmp 71) (by rfl) w6.heap.size _ 19 _ (prinF s (keyF (keyB s b.L)) lNs3 (.func (.func 37) #[] #[.pointer (some ⟨g11, 0, none⟩)])) (by exact row_new w6 zprin _ 19 _ (by rfl) zprin_at) (by rfl) (cellsOf 19 (prinF s (keyF (keyB s b.L)) lNs3 (.func (.func 37) #[] #[.pointer (some ⟨g11, 0, none⟩)]))) (by kernel_rfl) (by kernel_rfl) (size_cellsOf _ _) (cellsOf_at _ _) (fun i _ => prinF_one _ _ _ _ rfl i) ?_; intro w7 hr7 ho7))
          have hb7 : Below w6.heap.size w6 w7 := ho7.below ((Below.refl w6.heap.size w6).alloc (Nat.le_refl _) (.cells zprin 81)) (Nat.le_refl _)
          have H7 := Lib.hid (H6.out.step hb7)
          have HR7 := Lib.hid (HR6.out.of_block (hb7.block _ (World.rowIs.lt HR6.out)))
          have HX7 := Lib.hid (HX6.out.of_block (hb7.block _ (World.rowIs.lt HX6.out)))
          have HU7 := Lib.hid (slice_next HU6.out hb7)
          have HV7 := Lib.hid (slice_next HV6.out hb7)
          have HA7 := Lib.hid hr7
          have H6Z := Lib.hid H6.out.zr
          clear c0 r13 ho7 hb7 hr7 H6 HR6 HX6 HU6 HV6 HS6
          have HG14 := Lib.hid (World.rowIs.lt H6Z.out)
          clear H6Z
          generalize w6.heap.size = g14 at *
          have d2 := H7.out.nt.cell (i := 2) (by omega)
          rw [show noteF N P Q R 2 = .string N.b from rfl] at d2
          have r9 := HR7.out
          go_upto_region 14 with (first
            | (refine load_as (by rfl) 25 (.tmp 9) (by rfl) g9 0 _ 16 16 _ #[byteF (keyF (keyB N.b b.L)) 0, byteF (keyF (keyB N.b b.L)) 1, byteF (keyF (keyB N.b b.L)) 2, byteF (keyF (keyB N.b b.L)) 3, byteF (keyF (keyB N.b b.L)) 4, byteF (keyF (keyB N.b b.L)) 5, byteF (keyF (keyB N.b b.L)) 6, byteF (keyF (keyB N.b b.L)) 7, byteF (keyF (keyB N.b b.L)) 8, byteF (keyF (keyB N.b b.L)) 9, byteF (keyF (keyB N.b b.L)) 10, byteF (keyF (keyB N.b b.L)) 11, byteF (keyF (keyB N.b b.L)) 12, byteF (keyF (keyB N.b b.L)) 13, byteF (keyF (keyB N.b b.L)) 14, byteF (keyF (keyB N.b b.L)) 15] rfl r9 (by rfl) _ Tryd.underlying25 (by rfl) (by kernel_rfl) (by omega) ?_)
            | (refine store_whole (by rfl) 81 (.tmp 15) (.tmp 76) (by rfl) w7.heap.size _ 19 _ (prinF N.b (keyF (keyB N.b b.L)) lNst (.func (.func 38) #[] #[.pointer (some ⟨g11, 0, none⟩)])) (by exact row_new w7 zprin _ 19 _ (by rfl) zprin_at) (by rfl) (cellsOf 19 (prinF N.b (keyF (keyB N.b b.L)) lNst (.func (.func 38) #[] #[.pointer (some ⟨g11, 0, none⟩)]))) (by kernel_rfl) (by kernel_rfl) (size_cellsOf _ _) (cellsOf_at _ _) (fun i _ => prinF_one _ _ _ _ rfl i) ?_; intro w8 hr8 ho8))
          have hb8 : Below w7.heap.size w7 w8 := ho8.below ((Below.refl w7.heap.size w7).alloc (Nat.le_refl _) (.cells zprin 81)) (Nat.le_refl _)
          have H8 := Lib.hid (H7.out.step hb8)
          have HX8 := Lib.hid (HX7.out.of_block (hb8.block _ (World.rowIs.lt HX7.out)))
          have HA8 := Lib.hid (HA7.out.of_block (hb8.block _ (World.rowIs.lt HA7.out)))
          have HU8 := Lib.hid (slice_next HU7.out hb8)
          have HV8 := Lib.hid (slice_next HV7.out hb8)
          have HB8 := Lib.hid hr8
          clear d2 r9 ho8 hb8 hr8 H7 HR7 HX7 HU7 HV7 HA7
          generalize w7.heap.size = g15 at *
          have t1 := told_p g11 (fieldE (nsE b N) 1) (fieldE (nsE b N) 2) u v w8 (by rw [HX8.out.cell (i := 1) (by omega)]; rfl) (by rw [HX8.out.cell (i := 2) (by omega)]; rfl) HU8.out HV8.out
          have t2 := told_q g11 (fieldE (nsE b N) 2) v w8 (by rw [HX8.out.cell (i := 2) (by omega)]; rfl) HV8.out
          obtain ⟨CD2, hCD2, zCD2, iCD2⟩ := cells_named 48 (byteF D) D (fun _ _ => rfl)
          have HCD2 := Lib.hid hCD2
          have hsz : s.size ≤ 20 := by
            have h1 := HSN.out
            unfold nameB at h1
            exact (of_decide_eq_true h1).2.1
          have HSZ := Lib.hid hsz
          have HI := introduce_any s N.b lNs3 lNst (keyF (keyB s b.L)) (keyF (keyB N.b b.L)) _ _ _ _ _ _ D CD2 zCD2 iCD2 w8 H8.out.hk t1 t2
            (by show off (fldM [(N.b.size, strB N.b), (16, fieldE (nsE b N) 1), (16, D), (8, fieldE (nsE b N) 2)]) 4 + 4 ≤ 100000; rw [off4]; have := HB.out; omega)
            (by show off (fldM [(s.size, strB s), (16, D), (8, fieldE (nsE b N) 2)]) 3 + 3 ≤ 100000; rw [off3]; omega)
          have HI2 : Hid (Calls Tryd.prog 39 #[.agg (cellsOf 19 (prinF s (keyF (keyB s b.L)) lNs3 (.func (.func 37) #[] #[.pointer (some ⟨g11, 0, none⟩)]))), .agg (cellsOf 19 (prinF N.b (keyF (keyB N.b b.L)) lNst (.func (.func 38) #[] #[.pointer (some ⟨g11, 0, none⟩)]))), .agg CD2] w8 fun x w' =>
              ∃ P' Q', x = .returned (.tuple #[P', Q']) ∧ SliceOf w' w'.heap.size (blobN (nsP b N D)) (blobB (keyF (keyB s b.L)) (fun j => D (16 + j)) lNs3 (nsP b N D)) P' ∧ SliceOf w' w'.heap.size (blobN (nsQ b N D)) (blobB (keyF (keyB N.b b.L)) (fun j => D (32 + j)) lNst (nsQ b N D)) Q' ∧ Below w8.heap.size w8 w') := Lib.hid (by
            have e1 := (blob_len lNs3 (nsP b N D) rfl (by show 4 ≤ 4; omega) (by show off (fldM [(N.b.size, strB N.b), (16, fieldE (nsE b N) 1), (16, D), (8, fieldE (nsE b N) 2)]) 4 ≤ 200; rw [off4]; have := HB.out; omega)).2.2
            have e2 := (blob_len lNst (nsQ b N D) rfl (by show 3 ≤ 4; omega) (by show off (fldM [((nsA b N).size, strB (nsA b N)), (16, D), (8, fieldE (nsE b N) 2)]) 3 ≤ 200; rw [off3, ← HSA.out]; omega)).2.2
            refine HI.mono ?_
            rintro x w' ⟨P', Q', hx, h1, h2, h3⟩
            refine ⟨P', Q', hx, ?_, ?_, h3⟩
            · rw [← e1]
              exact h1
            · rw [← e2]
              unfold nsQ
              rw [← HSA.out]
              exact h2)
          clear t1 t2 hCD2 HI hsz HU8 HV8 HX8 zCD2 iCD2
          have r5 := H8.out.dr
          have r14 := HA8.out
          have r15 := HB8.out
          obtain ⟨CP1, hCP1⟩ : ∃ C, C = cellsOf 19 (prinF s (keyF (keyB s b.L)) lNs3 (.func (.func 37) #[] #[.pointer (some ⟨g11, 0, none⟩)])) := ⟨_, rfl⟩
          obtain ⟨CP2, hCP2⟩ : ∃ C, C = cellsOf 19 (prinF N.b (keyF (keyB N.b b.L)) lNst (.func (.func 38) #[] #[.pointer (some ⟨g11, 0, none⟩)])) := ⟨_, rfl⟩
          rw [← hCP1, ← hCP2] at HI2
          have HP1 := Lib.hid hCP1.symm
          have HP2 := Lib.hid hCP2.symm
          clear hCP1 hCP2
          simp only [Act.put]
          go_wp2_with (first
            | (refine load_as (by rfl) 81 (.tmp 14) (by rfl) g14 0 _ 19 19 _ CP1 ((cells_zero _ _).trans HP1.out) r14 (by rfl) _ Tryd.underlying81 (by rfl) (by kernel_rfl) (by omega) ?_)
            | (refine load_as (by rfl) 81 (.tmp 15) (by rfl) g15 0 _ 19 19 _ CP2 ((cells_zero _ _).trans HP2.out) r15 (by rfl) _ Tryd.underlying81 (by rfl) (by kernel_rfl) (by omega) ?_)
            | (refine load_as (by rfl) 31 (.tmp 5) (by rfl) (w.heap.size + 1 + 1) 0 _ 48 48 _ CD2 ((cells_zero _ _).trans HCD2.out) r5 (by rfl) _ Tryd.underlying31 (by rfl) (by kernel_rfl) (by omega) ?_))
          refine HI2.out.mono ?_
          rintro _ w9 ⟨P', Q', rfl, hsp, hsq, hb9⟩
          have H9 := Lib.hid (H8.out.step hb9)
          have HA9 := Lib.hid (HA8.out.of_block (hb9.block _ (World.rowIs.lt HA8.out)))
          have HSP := Lib.hid hsp
          have HSQ := Lib.hid hsq
          clear r5 r14 r15 hb9 hsp hsq H8 HA8 HB8 HI2
          obtain ⟨AP', cP', eP'⟩ := slice_shape HSP.out
          obtain ⟨AQ', cQ', eQ'⟩ := slice_shape HSQ.out
          go_upto_region 15 with fail
          refine region_mix (fun W => W.rowIs g14 81 19 (prinF s (keyF (keyB s b.L)) lNs3 (.func (.func 37) #[] #[.pointer (some ⟨g11, 0, none⟩)])) ∧ W.rowIs (w.heap.size + 1) 30 38 (noteF N P Q R)) [(0, true), (1, true), (2, true), (3, true), (4, true), (5, true), (6, true), (7, true), (8, false), (9, true)] (by kernel_rfl) (by kernel_rfl) ⟨HA9.out, H9.out.nt⟩ ?_
          refine m_val rfl (by rfl) (.pointer (some ⟨g14, 0, none⟩)) (fun W hW => by clear hW; go_simp) ?_
          simp only [Act.put, List.setIfInBounds_toArray, List.set_cons_zero, List.set_cons_succ]
          refine m_val rfl (by rfl) (.string s) (fun W hW => by have h1 := hW.1.cell (i := 0) (by omega); rw [show prinF s (keyF (keyB s b.L)) lNs3 (.func (.func 37) #[] #[.pointer (some ⟨g11, 0, none⟩)]) 0 = .string s from rfl] at h1; clear hW; go_simp) ?_
          simp only [Act.put, List.setIfInBounds_toArray, List.set_cons_zero, List.set_cons_succ]
          refine m_val rfl (by rfl) P' (fun W hW => by clear hW; go_simp) ?_
          simp only [Act.put, List.setIfInBounds_toArray, List.set_cons_zero, List.set_cons_succ]
          refine m_val rfl (by rfl) Q' (fun W hW => by clear hW; go_simp) ?_
          simp only [Act.put, List.setIfInBounds_toArray, List.set_cons_zero, List.set_cons_succ]
          refine m_val rfl (by rfl) (.pointer (some ⟨w.heap.size + 1, 19, none⟩)) (fun W hW => by clear hW; go_simp) ?_
          simp only [Act.put, List.setIfInBounds_toArray, List.set_cons_zero, List.set_cons_succ]
          refine m_load rfl (by rfl) 25 (.tmp 88) (by rfl) (w.heap.size + 1) 19 _ 38 16 _ (fun W hW => hW.2) (by rfl) _ Tryd.underlying25 (by rfl) (by kernel_rfl) (by omega) ?_
          rw [show cellsOf 16 (fun j => noteF N P Q R (19 + j)) = #[byteF (N.y) 0, byteF (N.y) 1, byteF (N.y) 2, byteF (N.y) 3, byteF (N.y) 4, byteF (N.y) 5, byteF (N.y) 6, byteF (N.y) 7, byteF (N.y) 8, byteF (N.y) 9, byteF (N.y) 10, byteF (N.y) 11, byteF (N.y) 12, byteF (N.y) 13, byteF (N.y) 14, byteF (N.y) 15] from rfl]
          simp only [Act.put, List.setIfInBounds_toArray, List.set_cons_zero, List.set_cons_succ]
          refine m_val rfl (by rfl) (.agg #[.int .i64 3, .string ⟨#[]⟩, .string ⟨#[]⟩, .int .u8 0, .int .u8 0, .int .u8 0, .int .u8 0, .int .u8 0, .int .u8 0, .int .u8 0, .int .u8 0, .int .u8 0, .int .u8 0, .int .u8 0, .int .u8 0, .int .u8 0, .int .u8 0, .int .u8 0, .int .u8 0, byteF N.y 0, byteF N.y 1, byteF N.y 2, byteF N.y 3, byteF N.y 4, byteF N.y 5, byteF N.y 6, byteF N.y 7, byteF N.y 8, byteF N.y 9, byteF N.y 10, byteF N.y 11, byteF N.y 12, byteF N.y 13, byteF N.y 14, byteF N.y 15, P', Q', .slice none 0 0]) (fun W hW => by clear hW; go_simp) ?_
          simp only [Act.put, List.setIfInBounds_toArray, List.set_cons_zero, List.set_cons_succ]
          refine m_val rfl (by rfl) (.string s) (fun W hW => by clear hW; go_simp) ?_
          simp only [Act.put, List.setIfInBounds_toArray, List.set_cons_zero, List.set_cons_succ]
          have hdr : Below w9.heap.size w9 w9.drew := (Below.refl _ _).drew
          have H10 := Lib.hid (H9.out.step hdr)
          have HSP10 := Lib.hid (slice_next HSP.out hdr)
          have HSQ10 := Lib.hid (slice_next HSQ.out hdr)
          have HA10 := Lib.hid (HA9.out.of_block (hdr.block _ (World.rowIs.lt HA9.out)))
          have OP : P'.oneCell' = true := by rw [eP']; rfl
          have OQ : Q'.oneCell' = true := by rw [eQ']; rfl
          clear hdr H9 HSP HSQ HA9 eP' eQ'
          generalize w9.drew = w10 at *
          have hz := H10.out.zr
          refine m_go rfl ?_
          go_wp2_with (refine store_whole (by rfl) 30 (.tmp 7) (.tmp 90) (by rfl) (w.heap.size + 1 + 1 + 1) _ 38 _ (noteF (nsN b N D (fun j => D (16 + j)) (fun j => D (32 + j))) P' Q' nilV) hz (by rfl) (cellsOf 38 (noteF (nsN b N D (fun j => D (16 + j)) (fun j => D (32 + j))) P' Q' nilV)) (by kernel_rfl) (by kernel_rfl) (size_cellsOf _ _) (cellsOf_at _ _) (note_cells_one _ _ _ _ OP OQ rfl) ?_; intro w11 hr11 ho11)
          have hg := HG14.out
          refine m_on ⟨HA10.out.of_block (ho11.block g14 (by omega)), H10.out.nt.of_block (ho11.block _ (by omega))⟩ ?_
          refine m_val rfl (by rfl) (.int .i64 0) (fun W hW => by clear hW; go_simp) ?_
          simp only [Act.put, List.setIfInBounds_toArray, List.set_cons_zero, List.set_cons_succ]
          refine m_end ?_
          go_wp2
          refine bodyPost_ret (results_mid rfl _ (w.heap.size + 1 + 1 + 1) _ 38 _ _ rfl hr11 Tryd.underlying30 (by rfl) (by kernel_rfl)) rfl ?_
          unfold nsTo nsM
          rw [HC.out, if_pos rfl, if_pos rfl, ← HSA.out]
          refine ⟨P', Q', nilV, rfl, ⟨?_, ?_, SliceOf.nil _ _ _⟩, ho11.below H10.out.hb (by omega)⟩
          · show SliceOf w11 w11.heap.size (blobN (nsP b N D)) (blobB (keyF (keyB (nsA b N) b.L)) (fun j => D (16 + j)) lNs3 (nsP b N D)) P'
            rw [← HSA.out]
            exact slice_past HSP10.out H10.out.zr (blob_big _) ho11
          · exact slice_past HSQ10.out H10.out.zr (blob_big _) ho11
    · have HC : Hid (nsC b N = rc) := Lib.hid (by
        unfold nsC
        rw [if_neg (by rw [HH.out]; decide), if_pos (by rw [HRQ.out]; exact h0), HRQ.out])
      have q : (rc == 0) = false := by simpa using h0
      have HQ0 := Lib.hid h0
      clear h0 HQ4
      go_wp2_with fail
      refine (refused_any rc _).mono ?_
      rintro _ w8 ⟨rfl, hb8⟩
      have H8 := Lib.hid (H4.out.step hb8)
      have hz8 := H8.out.zr
      clear hb8
      go_wp2_with (refine store_whole (by rfl) 30 (.tmp 7) (.tmp 43) (by rfl) (w.heap.size + 1 + 1 + 1) _ 38 _ (noteF zeroN nilV nilV nilV) hz8 (by rfl) _ (by rfl) (by kernel_rfl) (size_cellsOf _ _) (cellsOf_at _ _) (note_cells_one _ _ _ _ rfl rfl rfl) ?_; intro w9 hr9 ho9)
      refine bodyPost_ret (results_mid rfl _ (w.heap.size + 1 + 1 + 1) _ 38 _ _ rfl hr9 Tryd.underlying30 (by rfl) (by kernel_rfl)) rfl ?_
      have hb9 := ho9.below H8.out.hb (by omega)
      exact ns_err HC.out HQ0.out rfl hb9
end Go.Proofs.YtaakhldhmoaplaaDoor.Kdc
namespace Go.Proofs.YtaakhldhmoaplaaDoor.Kdc
open Go Go.RowKit Go.Proofs.YtaakhldhmoaplaaDoor.Aid Go.Proofs.YtaakhldhmoaplaaDoor.Sha Go.Proofs.YtaakhldhmoaplaaDoor.Law01 Go.Proofs.YtaakhldhmoaplaaDoor.Field Go.Proofs.YtaakhldhmoaplaaDoor.Law05
open Go.Proofs.YtaakhldhmoaplaaDoor.Seal (keysB formB openB okB)
open Go.Proofs.YtaakhldhmoaplaaDoor.Aes (RowB)
open Go.Proofs.YtaakhldhmoaplaaDoor.Note (NoteP noteF noteV NoteAt zeroCells zeroCells_eq)
open Go.Proofs.YtaakhldhmoaplaaDoor.Book (Bk Wd keyB hasN BookIs bookF bookV wordF)

def fnB (gw : Nat) : Value := .func (.func 54) #[] #[.pointer (some ⟨gw, 0, none⟩)]
/-- What each operation yields that a principal is made by. -/
def postB (gn o1 o2 : Nat) (nm : ByteArray) (K CY : Array Value) (k : Nat → BitVec 8) (lab : ByteArray) (y : Nat → BitVec 8) (B : Nat) (i : Nat) (v : Value) (w : World) : Prop :=
  match i with
  | 0 => v = .pointer (some ⟨gn, o1, none⟩)
  | 1 => v = .string nm
  | 2 => v = .agg K
  | 3 => v = .pointer (some ⟨gn, o2, none⟩)
  | 4 => v = .agg CY
  | 5 => ∃ gw, v = fnB gw ∧ RowB w gw 25 16 y
  | 6 => ∃ gw, v = .agg (cellsOf 19 (prinF nm k lab (fnB gw))) ∧ RowB w gw 25 16 y
  | 7 => ∃ g, v = .pointer (some ⟨g, 0, none⟩) ∧ w.rowIs g 81 19 (prinF ⟨#[]⟩ (fun _ => 0) ⟨#[]⟩ Value.nilFunc) ∧ B ≤ g
  | _ => True
theorem postB_mono (gn o1 o2 : Nat) (nm : ByteArray) (K CY : Array Value) (k : Nat → BitVec 8) (lab : ByteArray) (y : Nat → BitVec 8) (B : Nat) : ∀ i v w w', Below w.heap.size w w' → postB gn o1 o2 nm K CY k lab y B i v w → postB gn o1 o2 nm K CY k lab y B i v w' := fun i v w w' hb h => by
  match i with
  | 0 => exact h
  | 1 => exact h
  | 2 => exact h
  | 3 => exact h
  | 4 => exact h
  | 5 =>
    obtain ⟨g, h1, h2⟩ := h
    exact ⟨g, h1, World.rowIs.of_block h2 (hb.block _ (World.rowIs.lt h2))⟩
  | 6 =>
    obtain ⟨g, h1, h2⟩ := h
    exact ⟨g, h1, World.rowIs.of_block h2 (hb.block _ (World.rowIs.lt h2))⟩
  | 7 =>
    obtain ⟨g, h1, h2, h3⟩ := h
    exact ⟨g, h1, h2.of_block (hb.block _ (World.rowIs.lt h2)), h3⟩
  | _ + 8 => trivial
theorem rows_ne {W : World} {g g' t t' n n' : Nat} {f f' : Nat → Value} (ht : t ≠ t') (h : W.rowIs g t n f) (h' : W.rowIs g' t' n' f') : g ≠ g' := fun e => by
  subst e
  have h1 := row_heap h
  rw [row_heap h'] at h1
  simp only [Option.some.injEq, Obj.cells.injEq] at h1
  exact ht h1.2.1.symm
def kslTo (b : Bk) (N : NoteP) : ByteArray := if kslC b N = 0 then N.b else ⟨#[]⟩
def kslM (b : Bk) (N : NoteP) (D : Nat → BitVec 8) : NoteP := if kslC b N = 0 then kslN b N D (fun j => D (16 + j)) (fun j => D (32 + j)) else zeroN
theorem ksl_err {b : Bk} {N : NoteP} {D : Nat → BitVec 8} {c : Int} (hc : kslC b N = c) (h0 : c ≠ 0) {w : World} {x : Ending} {w' : World} (hx : x = .returned (.tuple #[.string ⟨#[]⟩, noteV zeroN nilV nilV nilV, .int .i64 c])) (hb : Below w.heap.size w w') : AnsPost (kslTo b N) (kslM b N D) (kslC b N) w x w' := by
  unfold kslTo kslM
  rw [hc, if_neg h0, if_neg h0]
  exact ans_none c w x w' hx hb
set_option maxRecDepth 100000 in
set_option maxHeartbeats 1000000 in
theorem answerKSL_any (b : Bk) (N : NoteP) (D : Nat → BitVec 8) (P Q R Lv Rv : Value) (CD : Array Value) (hCD : CD.size = 48) (hCDi : ∀ i, i < 48 → CD[i]? = some (.int .u8 ((D i).toNat : Int))) (w : World) (hk : Consts w) (hb : BookIs w b Lv Rv) (hn : NoteAt w N P Q R) (hA : N.a.size ≤ 20) (hB : N.b.size ≤ 20) :
    Calls Tryd.prog 21 #[bookV b Lv Rv, noteV N P Q R, .agg CD] w (AnsPost (kslTo b N) (kslM b N D) (kslC b N) w) := by
  obtain ⟨W, hW, h0⟩ := ans_new 27 30 b N D P Q R Lv Rv CD hCD hCDi w hk hb hn
  have HKEY := Lib.hid (fun (n : ByteArray) (W : World) (h : BookIs W b Lv Rv) => Book.key_any b Lv Rv h.ents h.few.1 n)
  have H0 := Lib.hid h0
  have HA := Lib.hid hA
  have HB := Lib.hid hB
  clear hCD hCDi hk hb hn h0 hA hB
  unfold bookV noteV
  unfold bookV Book.wordV at HKEY
  obtain ⟨CB, hCB⟩ : ∃ C, C = cellsOf 19 (bookF b Lv Rv) := ⟨_, rfl⟩
  obtain ⟨CN, hCN⟩ : ∃ C, C = cellsOf 38 (noteF N P Q R) := ⟨_, rfl⟩
  rw [← hCB, ← hCN] at hW ⊢
  rw [← hCB] at HKEY
  have HCB := Lib.hid hCB.symm
  clear hCB hCN
  go_enter Tryd.func21, Tryd.ntmps21
  go_upto_region 1 with fail
  rw [show (#[.int .i64 0, .string ⟨#[]⟩, .string ⟨#[]⟩, .int .u8 0, .int .u8 0, .int .u8 0, .int .u8 0, .int .u8 0, .int .u8 0, .int .u8 0, .int .u8 0, .int .u8 0, .int .u8 0, .int .u8 0, .int .u8 0, .int .u8 0, .int .u8 0, .int .u8 0, .int .u8 0, .int .u8 0, .int .u8 0, .int .u8 0, .int .u8 0, .int .u8 0, .int .u8 0, .int .u8 0, .int .u8 0, .int .u8 0, .int .u8 0, .int .u8 0, .int .u8 0, .int .u8 0, .int .u8 0, .int .u8 0, .int .u8 0, .slice none 0 0, .slice none 0 0, .slice none 0 0] : Array Value) = zeroCells 0 from rfl, ← hW]
  clear hW
  have d1 := H0.out.nt.cell (i := 1) (by omega)
  rw [show noteF N P Q R 1 = .string N.a from rfl] at d1
  have d2 := H0.out.nt.cell (i := 2) (by omega)
  rw [show noteF N P Q R 2 = .string N.b from rfl] at d2
  by_cases he : N.a = N.b
  · have HC : Hid (kslC b N = 1) := Lib.hid (by unfold kslC; rw [if_pos he])
    have hl := Book.str_beq N.a N.b
    rw [decide_eq_true he] at hl
    clear he
    go_wp2_with fail
    refine (refused_any 1 _).mono ?_
    rintro _ w8 ⟨rfl, hb8⟩
    have H8 := Lib.hid (H0.out.step hb8)
    have hz8 := H8.out.zr
    clear hb8
    go_wp2_with (refine store_whole (by rfl) 30 (.tmp 7) (.tmp 24) (by rfl) (w.heap.size + 1 + 1 + 1) _ 38 _ (noteF zeroN nilV nilV nilV) hz8 (by rfl) _ (by rfl) (by kernel_rfl) (size_cellsOf _ _) (cellsOf_at _ _) (note_cells_one _ _ _ _ rfl rfl rfl) ?_; intro w9 hr9 ho9)
    refine bodyPost_ret (results_mid rfl _ (w.heap.size + 1 + 1 + 1) _ 38 _ _ rfl hr9 Tryd.underlying30 (by rfl) (by kernel_rfl)) rfl ?_
    have hb9 := ho9.below H8.out.hb (by omega)
    exact ksl_err HC.out (by decide) rfl hb9
  have HNE := Lib.hid he
  have hl := Book.str_beq N.a N.b
  rw [decide_eq_false he] at hl
  clear he
  go_upto_region 3 with fail
  clear hl
  have r0 := H0.out.bk
  go_wp2_with (refine load_as (by rfl) 27 (.tmp 3) (by rfl) w.heap.size 0 _ 19 19 _ CB ((cells_zero _ _).trans HCB.out) r0 (by rfl) _ Tryd.underlying27 (by rfl) (by kernel_rfl) (by omega) ?_)
  refine (HKEY.out N.a W H0.out.is_).mono ?_
  rintro _ w1 ⟨rfl, hb1⟩
  have H1 := Lib.hid (H0.out.step hb1)
  clear d1 d2 r0 hb1 H0
  obtain ⟨K2, hK2, zK2, iK2⟩ := cells_named 16 (wordF (keyB N.a b.L)) (keyF (keyB N.a b.L)) (fun _ _ => rfl)
  rw [hK2]
  clear hK2
  go_upto_region 4 with (refine store_whole (by rfl) 25 (.tmp 9) (.tmp 31) (by rfl) w1.heap.size _ 16 (fun _ => .int .u8 0) (byteF (keyF (keyB N.a b.L))) (by exact row_new w1 _ _ 16 _ (by rfl) (zero16 _ (by rfl))) (by rfl) _ (by rfl) (by kernel_rfl) zK2 iK2 (fun _ _ => rfl) ?_; intro w2 hr2 ho2)
  have hb2 : Below w1.heap.size w1 w2 := ho2.below ((Below.refl w1.heap.size w1).alloc (Nat.le_refl _) (.cells (Array.replicate 16 (.int .u8 0)) 25)) (Nat.le_refl _)
  have H2 := Lib.hid (H1.out.step hb2)
  have HR2 := Lib.hid hr2
  clear ho2 hb2 hr2 H1
  generalize w1.heap.size = g9 at *
  have r0 := H2.out.bk
  have d2 := H2.out.nt.cell (i := 2) (by omega)
  rw [show noteF N P Q R 2 = .string N.b from rfl] at d2
  go_wp2_with (refine load_as (by rfl) 27 (.tmp 3) (by rfl) w.heap.size 0 _ 19 19 _ CB ((cells_zero _ _).trans HCB.out) r0 (by rfl) _ Tryd.underlying27 (by rfl) (by kernel_rfl) (by omega) ?_)
  refine (HKEY.out N.b w2 H2.out.is_).mono ?_
  rintro _ w3 ⟨rfl, hb3⟩
  have H3 := Lib.hid (H2.out.step hb3)
  have HR3 := Lib.hid (HR2.out.of_block (hb3.block _ (World.rowIs.lt HR2.out)))
  clear d2 r0 hb3 H2 HR2
  obtain ⟨K4, hK4, zK4, iK4⟩ := cells_named 16 (wordF (keyB N.b b.L)) (keyF (keyB N.b b.L)) (fun _ _ => rfl)
  rw [hK4]
  clear hK4
  go_upto_region 5 with (refine store_whole (by rfl) 25 (.tmp 11) (.tmp 38) (by rfl) w3.heap.size _ 16 (fun _ => .int .u8 0) (byteF (keyF (keyB N.b b.L))) (by exact row_new w3 _ _ 16 _ (by rfl) (zero16 _ (by rfl))) (by rfl) _ (by rfl) (by kernel_rfl) zK4 iK4 (fun _ _ => rfl) ?_; intro w4 hr4 ho4)
  have hb4 : Below w3.heap.size w3 w4 := ho4.below ((Below.refl w3.heap.size w3).alloc (Nat.le_refl _) (.cells (Array.replicate 16 (.int .u8 0)) 25)) (Nat.le_refl _)
  have H4 := Lib.hid (H3.out.step hb4)
  have HR4 := Lib.hid (HR3.out.of_block (hb4.block _ (World.rowIs.lt HR3.out)))
  have HS4 := Lib.hid hr4
  clear ho4 hb4 hr4 H3 HR3
  generalize w3.heap.size = g11 at *
  by_cases hab : hasN b.L N.a = false ∨ hasN b.L N.b = false
  · have HC : Hid (kslC b N = 4) := Lib.hid (by unfold kslC; rw [if_neg HNE.out, if_pos hab])
    cases ha : hasN b.L N.a with
    | false =>
      clear hab ha
      go_wp2_with fail
      refine (refused_any 4 _).mono ?_
      rintro _ w8 ⟨rfl, hb8⟩
      have H8 := Lib.hid (H4.out.step hb8)
      have hz8 := H8.out.zr
      clear hb8
      go_wp2_with (refine store_whole (by rfl) 30 (.tmp 7) (.tmp 48) (by rfl) (w.heap.size + 1 + 1 + 1) _ 38 _ (noteF zeroN nilV nilV nilV) hz8 (by rfl) _ (by rfl) (by kernel_rfl) (size_cellsOf _ _) (cellsOf_at _ _) (note_cells_one _ _ _ _ rfl rfl rfl) ?_; intro w9 hr9 ho9)
      refine bodyPost_ret (results_mid rfl _ (w.heap.size + 1 + 1 + 1) _ 38 _ _ rfl hr9 Tryd.underlying30 (by rfl) (by kernel_rfl)) rfl ?_
      have hb9 := ho9.below H8.out.hb (by omega)
      exact ksl_err HC.out (by decide) rfl hb9
    | true =>
      cases hbb : hasN b.L N.b with
      | false =>
        clear hab ha hbb
        go_wp2_with fail
        refine (refused_any 4 _).mono ?_
        rintro _ w8 ⟨rfl, hb8⟩
        have H8 := Lib.hid (H4.out.step hb8)
        have hz8 := H8.out.zr
        clear hb8
        go_wp2_with (refine store_whole (by rfl) 30 (.tmp 7) (.tmp 48) (by rfl) (w.heap.size + 1 + 1 + 1) _ 38 _ (noteF zeroN nilV nilV nilV) hz8 (by rfl) _ (by rfl) (by kernel_rfl) (size_cellsOf _ _) (cellsOf_at _ _) (note_cells_one _ _ _ _ rfl rfl rfl) ?_; intro w9 hr9 ho9)
        refine bodyPost_ret (results_mid rfl _ (w.heap.size + 1 + 1 + 1) _ 38 _ _ rfl hr9 Tryd.underlying30 (by rfl) (by kernel_rfl)) rfl ?_
        have hb9 := ho9.below H8.out.hb (by omega)
        exact ksl_err HC.out (by decide) rfl hb9
      | true => exact absurd hab (by rw [ha, hbb]; decide)
  have HC : Hid (kslC b N = 0) := Lib.hid (by unfold kslC; rw [if_neg HNE.out, if_neg hab])
  have ha : hasN b.L N.a = true := by
    cases h : hasN b.L N.a with
    | true => rfl
    | false => exact absurd (.inl h) hab
  have hbb : hasN b.L N.b = true := by
    cases h : hasN b.L N.b with
    | true => rfl
    | false => exact absurd (.inr h) hab
  rw [ha, hbb]
  clear hab ha hbb
  go_upto_region 7 with fail
  obtain ⟨CY, hCY, zCY, iCY⟩ := cells_named 16 (fun j => noteF N P Q R (19 + j)) N.y (fun i hi => by unfold noteF; rw [if_neg (by omega), if_neg (by omega), if_neg (by omega), if_neg (by omega), if_pos (by omega), Nat.add_sub_cancel_left])
  obtain ⟨CX, hCX, zCX, iCX⟩ := cells_named 16 (fun j => noteF N P Q R (3 + j)) N.x (fun i hi => by unfold noteF; rw [if_neg (by omega), if_neg (by omega), if_neg (by omega), if_pos (by omega), Nat.add_sub_cancel_left])
  have HCY := Lib.hid (And.intro hCY (And.intro zCY iCY))
  have HCX := Lib.hid (And.intro hCX (And.intro zCX iCX))
  clear hCY zCY iCY hCX zCX iCX
  have M0 : Hid (∀ W, Below w4.heap.size w4 W → W.rowIs g11 25 16 (byteF (keyF (keyB N.b b.L))) ∧ W.rowIs (w.heap.size + 1) 30 38 (noteF N P Q R)) := Lib.hid fun W hW => ⟨HS4.out.of_block (hW.block _ (World.rowIs.lt HS4.out)), H4.out.nt.of_block (hW.block _ (World.rowIs.lt H4.out.nt))⟩
  refine region_inv_tail (postB (w.heap.size + 1) 2 19 N.b #[byteF (keyF (keyB N.b b.L)) 0, byteF (keyF (keyB N.b b.L)) 1, byteF (keyF (keyB N.b b.L)) 2, byteF (keyF (keyB N.b b.L)) 3, byteF (keyF (keyB N.b b.L)) 4, byteF (keyF (keyB N.b b.L)) 5, byteF (keyF (keyB N.b b.L)) 6, byteF (keyF (keyB N.b b.L)) 7, byteF (keyF (keyB N.b b.L)) 8, byteF (keyF (keyB N.b b.L)) 9, byteF (keyF (keyB N.b b.L)) 10, byteF (keyF (keyB N.b b.L)) 11, byteF (keyF (keyB N.b b.L)) 12, byteF (keyF (keyB N.b b.L)) 13, byteF (keyF (keyB N.b b.L)) 14, byteF (keyF (keyB N.b b.L)) 15] CY (keyF (keyB N.b b.L)) lK3b N.y w4.drew.heap.size) 8 (by kernel_rfl) (by kernel_rfl) (by kernel_rfl) rfl (postB_mono _ _ _ _ _ _ _ _ _ _) ?_ ?_
  · refine ⟨⟨⟨⟨⟨⟨⟨⟨trivial, ?_⟩, ?_⟩, ?_⟩, ?_⟩, ?_⟩, ?_⟩, ?_⟩, ?_⟩
    · refine ⟨_, rfl, fun xs W hW hd => ?_⟩
      clear hd
      simp only [fillI, List.take, List.setIfInBounds_toArray, List.set_cons_zero, List.set_cons_succ, Nat.reduceAdd, Nat.zero_add]
      go_wp2_with fail
      refine ⟨_, by (simp only [upd, Nat.reduceEqDiff, reduceIte]; rfl), ?_, ?_⟩
      · rfl
      · exact Below.refl _ _
    · refine ⟨_, rfl, fun xs W hW hd => ?_⟩
      have h0 : xs 0 = .pointer (some ⟨w.heap.size + 1, 2, none⟩) := hd 0 (by kernel_rfl)
      have cc := (M0.out W (undrew hW)).2.cell (i := 2) (by omega)
      rw [show noteF N P Q R 2 = .string N.b from rfl] at cc
      clear hd
      rw [upd_self h0]
      simp only [fillI, List.take, List.setIfInBounds_toArray, List.set_cons_zero, List.set_cons_succ, Nat.reduceAdd, Nat.zero_add, upd, Nat.reduceEqDiff, reduceIte]
      go_wp2_with fail
      refine ⟨_, by (simp only [upd, Nat.reduceEqDiff, reduceIte]; rfl), ?_, ?_⟩
      · rfl
      · exact Below.refl _ _
    · refine ⟨_, rfl, fun xs W hW hd => ?_⟩
      have hr := (M0.out W (undrew hW)).1
      clear hd
      simp only [fillI, List.take, List.setIfInBounds_toArray, List.set_cons_zero, List.set_cons_succ, Nat.reduceAdd, Nat.zero_add]
      refine load_as (by rfl) 25 (.tmp 11) (by rfl) g11 0 _ 16 16 _ #[byteF (keyF (keyB N.b b.L)) 0, byteF (keyF (keyB N.b b.L)) 1, byteF (keyF (keyB N.b b.L)) 2, byteF (keyF (keyB N.b b.L)) 3, byteF (keyF (keyB N.b b.L)) 4, byteF (keyF (keyB N.b b.L)) 5, byteF (keyF (keyB N.b b.L)) 6, byteF (keyF (keyB N.b b.L)) 7, byteF (keyF (keyB N.b b.L)) 8, byteF (keyF (keyB N.b b.L)) 9, byteF (keyF (keyB N.b b.L)) 10, byteF (keyF (keyB N.b b.L)) 11, byteF (keyF (keyB N.b b.L)) 12, byteF (keyF (keyB N.b b.L)) 13, byteF (keyF (keyB N.b b.L)) 14, byteF (keyF (keyB N.b b.L)) 15] rfl hr (by rfl) _ Tryd.underlying25 (by rfl) (by kernel_rfl) (by omega) ?_
      refine ⟨_, by (simp only [upd, Nat.reduceEqDiff, reduceIte]; rfl), ?_, ?_⟩
      · rfl
      · exact Below.refl _ _
    · refine ⟨_, rfl, fun xs W hW hd => ?_⟩
      clear hd
      simp only [fillI, List.take, List.setIfInBounds_toArray, List.set_cons_zero, List.set_cons_succ, Nat.reduceAdd, Nat.zero_add]
      go_wp2_with fail
      refine ⟨_, by (simp only [upd, Nat.reduceEqDiff, reduceIte]; rfl), ?_, ?_⟩
      · rfl
      · exact Below.refl _ _
    · refine ⟨_, rfl, fun xs W hW hd => ?_⟩
      have h3 : xs 3 = .pointer (some ⟨w.heap.size + 1, 19, none⟩) := hd 3 (by kernel_rfl)
      have hr := (M0.out W (undrew hW)).2
      clear hd
      rw [upd_self h3]
      simp only [fillI, List.take, List.setIfInBounds_toArray, List.set_cons_zero, List.set_cons_succ, Nat.reduceAdd, Nat.zero_add, upd, Nat.reduceEqDiff, reduceIte]
      refine load_as (by rfl) 25 (.tmp 53) (by rfl) (w.heap.size + 1) 19 _ 38 16 _ CY HCY.out.1 hr (by rfl) _ Tryd.underlying25 (by rfl) (by kernel_rfl) (by omega) ?_
      refine ⟨_, by (simp only [upd, Nat.reduceEqDiff, reduceIte]; rfl), ?_, ?_⟩
      · rfl
      · exact Below.refl _ _
    · refine ⟨_, rfl, fun xs W hW hd => ?_⟩
      have h4 : xs 4 = .agg CY := hd 4 (by kernel_rfl)
      have HC := Lib.hid (behind_any N.y CY HCY.out.2.1 HCY.out.2.2 W)
      clear hd
      rw [upd_self h4]
      simp only [fillI, List.take, List.setIfInBounds_toArray, List.set_cons_zero, List.set_cons_succ, Nat.reduceAdd, Nat.zero_add, upd, Nat.reduceEqDiff, reduceIte]
      go_wp2_with fail
      refine HC.out.mono ?_
      rintro _ W2 ⟨gw, rfl, hrw, hb2⟩
      have HRW := Lib.hid hrw
      have HB2 := Lib.hid hb2
      clear hrw hb2
      go_wp2_with fail
      refine ⟨_, by (simp only [upd, Nat.reduceEqDiff, reduceIte]; rfl), ?_, ?_⟩
      · exact ⟨gw, rfl, HRW.out⟩
      · exact HB2.out
    · refine ⟨_, rfl, fun xs W hW hd => ?_⟩
      have h1 : xs 1 = .string N.b := hd 1 (by kernel_rfl)
      have h2 : xs 2 = .agg #[byteF (keyF (keyB N.b b.L)) 0, byteF (keyF (keyB N.b b.L)) 1, byteF (keyF (keyB N.b b.L)) 2, byteF (keyF (keyB N.b b.L)) 3, byteF (keyF (keyB N.b b.L)) 4, byteF (keyF (keyB N.b b.L)) 5, byteF (keyF (keyB N.b b.L)) 6, byteF (keyF (keyB N.b b.L)) 7, byteF (keyF (keyB N.b b.L)) 8, byteF (keyF (keyB N.b b.L)) 9, byteF (keyF (keyB N.b b.L)) 10, byteF (keyF (keyB N.b b.L)) 11, byteF (keyF (keyB N.b b.L)) 12, byteF (keyF (keyB N.b b.L)) 13, byteF (keyF (keyB N.b b.L)) 14, byteF (keyF (keyB N.b b.L)) 15] := hd 2 (by kernel_rfl)
      obtain ⟨gw, h5, hrw⟩ : ∃ gw, xs 5 = fnB gw ∧ RowB W gw 25 16 N.y := hd 5 (by kernel_rfl)
      have HRW := Lib.hid hrw
      unfold fnB at h5
      clear hrw
      clear hd
      rw [upd_self h1]
      rw [upd_self h2]
      rw [upd_self h5]
      simp only [fillI, List.take, List.setIfInBounds_toArray, List.set_cons_zero, List.set_cons_succ, Nat.reduceAdd, Nat.zero_add, upd, Nat.reduceEqDiff, reduceIte]
      go_wp2_with fail
      refine ⟨_, by (simp only [upd, Nat.reduceEqDiff, reduceIte]; rfl), ?_, ?_⟩
      · exact ⟨gw, rfl, HRW.out⟩
      · exact Below.refl _ _
    · refine ⟨_, rfl, fun xs W hW hd => ?_⟩
      clear hd
      simp only [fillI, List.take, List.setIfInBounds_toArray, List.set_cons_zero, List.set_cons_succ, Nat.reduceAdd, Nat.zero_add]
      go_wp2_with fail
      refine ⟨_, by (simp only [upd, Nat.reduceEqDiff, reduceIte]; rfl), ?_, ?_⟩
      · exact ⟨_, rfl, row_new W _ 81 19 _ (by rfl) zprin_at, hW.size⟩
      · exact (Below.refl _ _).alloc (Nat.le_refl _) _
  intro xs W5 hW hp
  obtain ⟨gw, h6, hrw⟩ : ∃ gw, xs 6 = .agg (cellsOf 19 (prinF N.b (keyF (keyB N.b b.L)) lK3b (fnB gw))) ∧ RowB W5 gw 25 16 N.y := hp 6 (by omega)
  obtain ⟨g13, h7, hz, hg⟩ : ∃ g, xs 7 = .pointer (some ⟨g, 0, none⟩) ∧ W5.rowIs g 81 19 (prinF ⟨#[]⟩ (fun _ => 0) ⟨#[]⟩ Value.nilFunc) ∧ w4.drew.heap.size ≤ g := hp 7 (by omega)
  have hne : gw ≠ g13 := rows_ne (by decide) hrw hz
  have hbW := undrew hW
  obtain ⟨C6, hC6⟩ : ∃ C, C = cellsOf 19 (prinF N.b (keyF (keyB N.b b.L)) lK3b (fnB gw)) := ⟨_, rfl⟩
  rw [← hC6] at h6
  have HC6 := Lib.hid hC6
  have hg' : w4.heap.size ≤ g13 := hg
  rw [upd_self h6, upd_self h7]
  simp only [fillI, List.take, List.setIfInBounds_toArray, List.set_cons_zero, List.set_cons_succ, Nat.reduceAdd, Nat.zero_add, upd, Nat.reduceEqDiff, reduceIte]
  clear hp hW hg h6 h7 hC6
  generalize xs 0 = y0 at *
  generalize xs 1 = y1 at *
  generalize xs 2 = y2 at *
  generalize xs 3 = y3 at *
  generalize xs 4 = y4 at *
  generalize xs 5 = y5 at *
  clear xs
  refine store_whole (by rfl) 81 (.tmp 13) (.tmp 56) (by rfl) g13 _ 19 _ (prinF N.b (keyF (keyB N.b b.L)) lK3b (fnB gw)) hz (by rfl) _ (by rfl) (by kernel_rfl) (by rw [HC6.out]; exact size_cellsOf _ _) (by rw [HC6.out]; exact cellsOf_at _ _) (fun i _ => prinF_one _ _ _ _ rfl i) ?_
  intro w6 hr1 ho1
  refine NoPanic.normal ?_
  have hb6 : Below w4.heap.size w4 w6 := ho1.below hbW hg'
  have H6 := Lib.hid (H4.out.step hb6)
  have HA6 := Lib.hid hr1
  have HW6 : Hid (RowB w6 gw 25 16 N.y) := Lib.hid (World.rowIs.of_block hrw (ho1.block _ hne))
  clear hr1 ho1 hrw hz hne hbW hg'
  have HR6 := Lib.hid (HR4.out.of_block (hb6.block _ (World.rowIs.lt HR4.out)))
  clear hb6 H4 HS4 HR4 M0
  go_upto_region 8 with fail
  have M6 : Hid (∀ W, Below w6.heap.size w6 W → W.rowIs g9 25 16 (byteF (keyF (keyB N.a b.L))) ∧ W.rowIs (w.heap.size + 1) 30 38 (noteF N P Q R)) := Lib.hid fun W hW => ⟨HR6.out.of_block (hW.block _ (World.rowIs.lt HR6.out)), H6.out.nt.of_block (hW.block _ (World.rowIs.lt H6.out.nt))⟩
  simp only [Act.put]
  refine region_inv_tail (postB (w.heap.size + 1) 1 3 N.a #[byteF (keyF (keyB N.a b.L)) 0, byteF (keyF (keyB N.a b.L)) 1, byteF (keyF (keyB N.a b.L)) 2, byteF (keyF (keyB N.a b.L)) 3, byteF (keyF (keyB N.a b.L)) 4, byteF (keyF (keyB N.a b.L)) 5, byteF (keyF (keyB N.a b.L)) 6, byteF (keyF (keyB N.a b.L)) 7, byteF (keyF (keyB N.a b.L)) 8, byteF (keyF (keyB N.a b.L)) 9, byteF (keyF (keyB N.a b.L)) 10, byteF (keyF (keyB N.a b.L)) 11, byteF (keyF (keyB N.a b.L)) 12, byteF (keyF (keyB N.a b.L)) 13, byteF (keyF (keyB N.a b.L)) 14, byteF (keyF (keyB N.a b.L)) 15] CX (keyF (keyB N.a b.L)) lK3a N.x w6.drew.heap.size) 8 (by kernel_rfl) (by kernel_rfl) (by kernel_rfl) rfl (postB_mono _ _ _ _ _ _ _ _ _ _) ?_ ?_
  · refine ⟨⟨⟨⟨⟨⟨⟨⟨trivial, ?_⟩, ?_⟩, ?_⟩, ?_⟩, ?_⟩, ?_⟩, ?_⟩, ?_⟩
    · refine ⟨_, rfl, fun xs W hW hd => ?_⟩
      clear hd
      simp only [fillI, List.take, List.setIfInBounds_toArray, List.set_cons_zero, List.set_cons_succ, Nat.reduceAdd, Nat.zero_add]
      go_wp2_with fail
      refine ⟨_, by (simp only [upd, Nat.reduceEqDiff, reduceIte]; rfl), ?_, ?_⟩
      · rfl
      · exact Below.refl _ _
    · refine ⟨_, rfl, fun xs W hW hd => ?_⟩
      have h0 : xs 0 = .pointer (some ⟨w.heap.size + 1, 1, none⟩) := hd 0 (by kernel_rfl)
      have cc := (M6.out W (undrew hW)).2.cell (i := 1) (by omega)
      rw [show noteF N P Q R 1 = .string N.a from rfl] at cc
      clear hd
      rw [upd_self h0]
      simp only [fillI, List.take, List.setIfInBounds_toArray, List.set_cons_zero, List.set_cons_succ, Nat.reduceAdd, Nat.zero_add, upd, Nat.reduceEqDiff, reduceIte]
      go_wp2_with fail
      refine ⟨_, by (simp only [upd, Nat.reduceEqDiff, reduceIte]; rfl), ?_, ?_⟩
      · rfl
      · exact Below.refl _ _
    · refine ⟨_, rfl, fun xs W hW hd => ?_⟩
      have hr := (M6.out W (undrew hW)).1
      clear hd
      simp only [fillI, List.take, List.setIfInBounds_toArray, List.set_cons_zero, List.set_cons_succ, Nat.reduceAdd, Nat.zero_add]
      refine load_as (by rfl) 25 (.tmp 9) (by rfl) g9 0 _ 16 16 _ #[byteF (keyF (keyB N.a b.L)) 0, byteF (keyF (keyB N.a b.L)) 1, byteF (keyF (keyB N.a b.L)) 2, byteF (keyF (keyB N.a b.L)) 3, byteF (keyF (keyB N.a b.L)) 4, byteF (keyF (keyB N.a b.L)) 5, byteF (keyF (keyB N.a b.L)) 6, byteF (keyF (keyB N.a b.L)) 7, byteF (keyF (keyB N.a b.L)) 8, byteF (keyF (keyB N.a b.L)) 9, byteF (keyF (keyB N.a b.L)) 10, byteF (keyF (keyB N.a b.L)) 11, byteF (keyF (keyB N.a b.L)) 12, byteF (keyF (keyB N.a b.L)) 13, byteF (keyF (keyB N.a b.L)) 14, byteF (keyF (keyB N.a b.L)) 15] rfl hr (by rfl) _ Tryd.underlying25 (by rfl) (by kernel_rfl) (by omega) ?_
      refine ⟨_, by (simp only [upd, Nat.reduceEqDiff, reduceIte]; rfl), ?_, ?_⟩
      · rfl
      · exact Below.refl _ _
    · refine ⟨_, rfl, fun xs W hW hd => ?_⟩
      clear hd
      simp only [fillI, List.take, List.setIfInBounds_toArray, List.set_cons_zero, List.set_cons_succ, Nat.reduceAdd, Nat.zero_add]
      go_wp2_with fail
      refine ⟨_, by (simp only [upd, Nat.reduceEqDiff, reduceIte]; rfl), ?_, ?_⟩
      · rfl
      · exact Below.refl _ _
    · refine ⟨_, rfl, fun xs W hW hd => ?_⟩
      have h3 : xs 3 = .pointer (some ⟨w.heap.size + 1, 3, none⟩) := hd 3 (by kernel_rfl)
      have hr := (M6.out W (undrew hW)).2
      clear hd
      rw [upd_self h3]
      simp only [fillI, List.take, List.setIfInBounds_toArray, List.set_cons_zero, List.set_cons_succ, Nat.reduceAdd, Nat.zero_add, upd, Nat.reduceEqDiff, reduceIte]
      refine load_as (by rfl) 25 (.tmp 60) (by rfl) (w.heap.size + 1) 3 _ 38 16 _ CX HCX.out.1 hr (by rfl) _ Tryd.underlying25 (by rfl) (by kernel_rfl) (by omega) ?_
      refine ⟨_, by (simp only [upd, Nat.reduceEqDiff, reduceIte]; rfl), ?_, ?_⟩
      · rfl
      · exact Below.refl _ _
    · refine ⟨_, rfl, fun xs W hW hd => ?_⟩
      have h4 : xs 4 = .agg CX := hd 4 (by kernel_rfl)
      have HC := Lib.hid (behind_any N.x CX HCX.out.2.1 HCX.out.2.2 W)
      clear hd
      rw [upd_self h4]
      simp only [fillI, List.take, List.setIfInBounds_toArray, List.set_cons_zero, List.set_cons_succ, Nat.reduceAdd, Nat.zero_add, upd, Nat.reduceEqDiff, reduceIte]
      go_wp2_with fail
      refine HC.out.mono ?_
      rintro _ W2 ⟨gw, rfl, hrw, hb2⟩
      have HRW := Lib.hid hrw
      have HB2 := Lib.hid hb2
      clear hrw hb2
      go_wp2_with fail
      refine ⟨_, by (simp only [upd, Nat.reduceEqDiff, reduceIte]; rfl), ?_, ?_⟩
      · exact ⟨gw, rfl, HRW.out⟩
      · exact HB2.out
    · refine ⟨_, rfl, fun xs W hW hd => ?_⟩
      have h1 : xs 1 = .string N.a := hd 1 (by kernel_rfl)
      have h2 : xs 2 = .agg #[byteF (keyF (keyB N.a b.L)) 0, byteF (keyF (keyB N.a b.L)) 1, byteF (keyF (keyB N.a b.L)) 2, byteF (keyF (keyB N.a b.L)) 3, byteF (keyF (keyB N.a b.L)) 4, byteF (keyF (keyB N.a b.L)) 5, byteF (keyF (keyB N.a b.L)) 6, byteF (keyF (keyB N.a b.L)) 7, byteF (keyF (keyB N.a b.L)) 8, byteF (keyF (keyB N.a b.L)) 9, byteF (keyF (keyB N.a b.L)) 10, byteF (keyF (keyB N.a b.L)) 11, byteF (keyF (keyB N.a b.L)) 12, byteF (keyF (keyB N.a b.L)) 13, byteF (keyF (keyB N.a b.L)) 14, byteF (keyF (keyB N.a b.L)) 15] := hd 2 (by kernel_rfl)
      obtain ⟨gw, h5, hrw⟩ : ∃ gw, xs 5 = fnB gw ∧ RowB W gw 25 16 N.x := hd 5 (by kernel_rfl)
      have HRW := Lib.hid hrw
      unfold fnB at h5
      clear hrw
      clear hd
      rw [upd_self h1]
      rw [upd_self h2]
      rw [upd_self h5]
      simp only [fillI, List.take, List.setIfInBounds_toArray, List.set_cons_zero, List.set_cons_succ, Nat.reduceAdd, Nat.zero_add, upd, Nat.reduceEqDiff, reduceIte]
      go_wp2_with fail
      refine ⟨_, by (simp only [upd, Nat.reduceEqDiff, reduceIte]; rfl), ?_, ?_⟩
      · exact ⟨gw, rfl, HRW.out⟩
      · exact Below.refl _ _
    · refine ⟨_, rfl, fun xs W hW hd => ?_⟩
      clear hd
      simp only [fillI, List.take, List.setIfInBounds_toArray, List.set_cons_zero, List.set_cons_succ, Nat.reduceAdd, Nat.zero_add]
      go_wp2_with fail
      refine ⟨_, by (simp only [upd, Nat.reduceEqDiff, reduceIte]; rfl), ?_, ?_⟩
      · exact ⟨_, rfl, row_new W _ 81 19 _ (by rfl) zprin_at, hW.size⟩
      · exact (Below.refl _ _).alloc (Nat.le_refl _) _
  intro xs W7 hW hp
  obtain ⟨gv, h6, hrw⟩ : ∃ gw, xs 6 = .agg (cellsOf 19 (prinF N.a (keyF (keyB N.a b.L)) lK3a (fnB gw))) ∧ RowB W7 gw 25 16 N.x := hp 6 (by omega)
  obtain ⟨g14, h7, hz, hg⟩ : ∃ g, xs 7 = .pointer (some ⟨g, 0, none⟩) ∧ W7.rowIs g 81 19 (prinF ⟨#[]⟩ (fun _ => 0) ⟨#[]⟩ Value.nilFunc) ∧ w6.drew.heap.size ≤ g := hp 7 (by omega)
  have hne : gv ≠ g14 := rows_ne (by decide) hrw hz
  have hbW := undrew hW
  obtain ⟨C6, hC6⟩ : ∃ C, C = cellsOf 19 (prinF N.a (keyF (keyB N.a b.L)) lK3a (fnB gv)) := ⟨_, rfl⟩
  rw [← hC6] at h6
  have HC6 := Lib.hid hC6
  have hg' : w6.heap.size ≤ g14 := hg
  rw [upd_self h6, upd_self h7]
  simp only [fillI, List.take, List.setIfInBounds_toArray, List.set_cons_zero, List.set_cons_succ, Nat.reduceAdd, Nat.zero_add, upd, Nat.reduceEqDiff, reduceIte]
  clear hp hW hg h6 h7 hC6
  generalize xs 0 = z0 at *
  generalize xs 1 = z1 at *
  generalize xs 2 = z2 at *
  generalize xs 3 = z3 at *
  generalize xs 4 = z4 at *
  generalize xs 5 = z5 at *
  clear xs
  refine store_whole (by rfl) 81 (.tmp 14) (.tmp 63) (by rfl) g14 _ 19 _ (prinF N.a (keyF (keyB N.a b.L)) lK3a (fnB gv)) hz (by rfl) _ (by rfl) (by kernel_rfl) (by rw [HC6.out]; exact size_cellsOf _ _) (by rw [HC6.out]; exact cellsOf_at _ _) (fun i _ => prinF_one _ _ _ _ rfl i) ?_
  intro w8 hr1 ho1
  refine NoPanic.normal ?_
  have hb8 : Below w6.heap.size w6 w8 := ho1.below hbW hg'
  have H8 := Lib.hid (H6.out.step hb8)
  have HB8 := Lib.hid hr1
  have HV8 : Hid (RowB w8 gv 25 16 N.x) := Lib.hid (World.rowIs.of_block hrw (ho1.block _ hne))
  clear hr1 ho1 hrw hz hne hbW hg'
  have HA8 := Lib.hid (HA6.out.of_block (hb8.block _ (World.rowIs.lt HA6.out)))
  have HW8 := Lib.hid (World.rowIs.of_block HW6.out (hb8.block _ (World.rowIs.lt HW6.out)))
  clear hb8 H6 HR6 HA6 HW6 M6
  simp only [Act.put]
  go_upto_region 9 with fail
  have t1 := told_k gw N.y w8 HW8.out
  have t2 := told_k gv N.x w8 HV8.out
  obtain ⟨CD2, hCD2, zCD2, iCD2⟩ := cells_named 48 (byteF D) D (fun _ _ => rfl)
  have HCD2 := Lib.hid hCD2
  have HI := introduce_any N.b N.a lK3b lK3a (keyF (keyB N.b b.L)) (keyF (keyB N.a b.L)) _ _ _ _ _ _ D CD2 zCD2 iCD2 w8 H8.out.hk t1 t2
    (by show off (fldM [(16, N.y), (N.a.size, strB N.a), (16, D)]) 3 + 3 ≤ 100000; rw [off3]; have := HA.out; omega)
    (by show off (fldM [(16, N.x), (N.b.size, strB N.b), (16, D)]) 3 + 3 ≤ 100000; rw [off3]; have := HB.out; omega)
  have HI2 : Hid (Calls Tryd.prog 39 #[.agg (cellsOf 19 (prinF N.b (keyF (keyB N.b b.L)) lK3b (fnB gw))), .agg (cellsOf 19 (prinF N.a (keyF (keyB N.a b.L)) lK3a (fnB gv))), .agg CD2] w8 fun x w' =>
      ∃ P' Q', x = .returned (.tuple #[P', Q']) ∧ SliceOf w' w'.heap.size (blobN (kslP N D)) (blobB (keyF (keyB N.b b.L)) (fun j => D (16 + j)) lK3b (kslP N D)) P' ∧ SliceOf w' w'.heap.size (blobN (kslQ N D)) (blobB (keyF (keyB N.a b.L)) (fun j => D (32 + j)) lK3a (kslQ N D)) Q' ∧ Below w8.heap.size w8 w') := Lib.hid (by
    have e1 := (blob_len lK3b (kslP N D) rfl (by show 3 ≤ 4; omega) (by show off (fldM [(16, N.y), (N.a.size, strB N.a), (16, D)]) 3 ≤ 200; rw [off3]; have := HA.out; omega)).2.2
    have e2 := (blob_len lK3a (kslQ N D) rfl (by show 3 ≤ 4; omega) (by show off (fldM [(16, N.x), (N.b.size, strB N.b), (16, D)]) 3 ≤ 200; rw [off3]; have := HB.out; omega)).2.2
    refine HI.mono ?_
    rintro x w' ⟨P', Q', hx, h1, h2, h3⟩
    refine ⟨P', Q', hx, ?_, ?_, h3⟩
    · rw [← e1]
      exact h1
    · rw [← e2]
      exact h2)
  clear t1 t2 hCD2 HI zCD2 iCD2 HW8 HV8
  have r5 := H8.out.dr
  have r13 := HA8.out
  have r14 := HB8.out
  obtain ⟨CP1, hCP1⟩ : ∃ C, C = cellsOf 19 (prinF N.b (keyF (keyB N.b b.L)) lK3b (fnB gw)) := ⟨_, rfl⟩
  obtain ⟨CP2, hCP2⟩ : ∃ C, C = cellsOf 19 (prinF N.a (keyF (keyB N.a b.L)) lK3a (fnB gv)) := ⟨_, rfl⟩
  rw [← hCP1, ← hCP2] at HI2
  have HP1 := Lib.hid hCP1.symm
  have HP2 := Lib.hid hCP2.symm
  clear hCP1 hCP2
  go_wp2_with (first
    | (refine load_as (by rfl) 81 (.tmp 13) (by rfl) g13 0 _ 19 19 _ CP1 ((cells_zero _ _).trans HP1.out) r13 (by rfl) _ Tryd.underlying81 (by rfl) (by kernel_rfl) (by omega) ?_)
    | (refine load_as (by rfl) 81 (.tmp 14) (by rfl) g14 0 _ 19 19 _ CP2 ((cells_zero _ _).trans HP2.out) r14 (by rfl) _ Tryd.underlying81 (by rfl) (by kernel_rfl) (by omega) ?_)
    | (refine load_as (by rfl) 31 (.tmp 5) (by rfl) (w.heap.size + 1 + 1) 0 _ 48 48 _ CD2 ((cells_zero _ _).trans HCD2.out) r5 (by rfl) _ Tryd.underlying31 (by rfl) (by kernel_rfl) (by omega) ?_))
  refine HI2.out.mono ?_
  rintro _ w9 ⟨P', Q', rfl, hsp, hsq, hb9⟩
  have H9 := Lib.hid (H8.out.step hb9)
  have HSP := Lib.hid hsp
  have HSQ := Lib.hid hsq
  have HA9 := Lib.hid (HA8.out.of_block (hb9.block _ (World.rowIs.lt HA8.out)))
  clear r5 r13 r14 hb9 hsp hsq H8 HA8 HB8 HI2
  obtain ⟨AP', cP', eP'⟩ := slice_shape HSP.out
  obtain ⟨AQ', cQ', eQ'⟩ := slice_shape HSQ.out
  obtain ⟨n1, hn1⟩ : ∃ n, n = blobN (kslP N D) := ⟨_, rfl⟩
  obtain ⟨n2, hn2⟩ : ∃ n, n = blobN (kslQ N D) := ⟨_, rfl⟩
  rw [← hn1] at HSP eP'
  rw [← hn2] at HSQ eQ'
  subst eP' eQ'
  have HN1 := Lib.hid hn1
  have HN2 := Lib.hid hn2
  clear hn1 hn2
  have hz := H9.out.zr
  have d0 := HA9.out.cell (i := 0) (by omega)
  rw [show prinF N.b (keyF (keyB N.b b.L)) lK3b (fnB gw) 0 = .string N.b from rfl] at d0
  go_wp2_with (refine store_whole (by rfl) 30 (.tmp 7) (.tmp 75) (by rfl) (w.heap.size + 1 + 1 + 1) _ 38 _ (noteF (kslN b N D (fun j => D (16 + j)) (fun j => D (32 + j))) (.slice AP' n1 cP') (.slice AQ' n2 cQ') nilV) hz (by rfl) (cellsOf 38 (noteF (kslN b N D (fun j => D (16 + j)) (fun j => D (32 + j))) (.slice AP' n1 cP') (.slice AQ' n2 cQ') nilV)) (by kernel_rfl) (by kernel_rfl) (size_cellsOf _ _) (cellsOf_at _ _) (note_cells_one _ _ _ _ rfl rfl rfl) ?_; intro w11 hr11 ho11)
  refine bodyPost_ret (results_mid rfl _ (w.heap.size + 1 + 1 + 1) _ 38 _ _ rfl hr11 Tryd.underlying30 (by rfl) (by kernel_rfl)) rfl ?_
  unfold kslTo kslM
  rw [HC.out, if_pos rfl, if_pos rfl]
  refine ⟨_, _, nilV, rfl, ⟨?_, ?_, SliceOf.nil _ _ _⟩, ho11.below H9.out.hb (by omega)⟩
  · show SliceOf w11 w11.heap.size (blobN (kslP N D)) _ _
    rw [← HN1.out]
    exact slice_past HSP.out H9.out.zr (by rw [HN1.out]; exact blob_big _) ho11
  · show SliceOf w11 w11.heap.size (blobN (kslQ N D)) _ _
    rw [← HN2.out]
    exact slice_past HSQ.out H9.out.zr (by rw [HN2.out]; exact blob_big _) ho11
end Go.Proofs.YtaakhldhmoaplaaDoor.Kdc
namespace Go.Proofs.YtaakhldhmoaplaaDoor.Kdc
open Go Go.RowKit Go.Proofs.YtaakhldhmoaplaaDoor.Aid Go.Proofs.YtaakhldhmoaplaaDoor.Sha Go.Proofs.YtaakhldhmoaplaaDoor.Law01 Go.Proofs.YtaakhldhmoaplaaDoor.Field Go.Proofs.YtaakhldhmoaplaaDoor.Law05
open Go.Proofs.YtaakhldhmoaplaaDoor.Seal (keysB formB openB okB)
open Go.Proofs.YtaakhldhmoaplaaDoor.Aes (RowB)
open Go.Proofs.YtaakhldhmoaplaaDoor.Note (NoteP noteF noteV NoteAt zeroCells zeroCells_eq)
open Go.Proofs.YtaakhldhmoaplaaDoor.Book (Bk Wd keyB hasN BookIs bookF bookV wordF)

theorem slice_one_cell {w : World} {k n : Nat} {e : Nat → BitVec 8} {v : Value} (h : SliceOf w k n e v) : v.oneCell' = true := by
  obtain ⟨A, c, e⟩ := slice_shape h
  rw [e]; rfl
/-- No bytes, or more than a note has cells. -/
def Past (n : Nat) : Prop := n = 0 ∨ 38 < n
theorem slice_past' {w w' : World} {z t n : Nat} {f : Nat → Value} {e : Nat → BitVec 8} {v : Value} (h : SliceOf w w.heap.size n e v) (hr : w.rowIs z t 38 f) (hn : Past n) (ho : Only z w w') : SliceOf w' w'.heap.size n e v := by
  rcases hn with h0 | h0
  · subst h0
    obtain ⟨A, c, hv, hc, _⟩ := h
    exact ⟨A, c, hv, hc, fun h => absurd h (by omega)⟩
  · exact slice_past h hr h0 ho
def PastN (M : NoteP) : Prop := Past M.pn ∧ Past M.qn ∧ Past M.rn
theorem note_past {w w' : World} {z t : Nat} {f : Nat → Value} {M : NoteP} {P Q R : Value} (h : NoteAt w M P Q R) (hr : w.rowIs z t 38 f) (hM : PastN M) (ho : Only z w w') : NoteAt w' M P Q R :=
  ⟨slice_past' h.p hr hM.1 ho, slice_past' h.q hr hM.2.1 ho, slice_past' h.r hr hM.2.2 ho⟩
theorem past_zero : PastN zeroN := ⟨.inl rfl, .inl rfl, .inl rfl⟩
theorem past_ns (b : Bk) (N : NoteP) (D : Nat → BitVec 8) : PastN (nsM b N D) := by
  unfold nsM
  split
  · exact ⟨.inr (blob_big _), .inr (blob_big _), .inl rfl⟩
  · exact past_zero
theorem past_ksl (b : Bk) (N : NoteP) (D : Nat → BitVec 8) : PastN (kslM b N D) := by
  unfold kslM
  split
  · exact ⟨.inr (blob_big _), .inr (blob_big _), .inl rfl⟩
  · exact past_zero
theorem ans_ns {b : Bk} {N : NoteP} (D : Nat → BitVec 8) (h : N.kind = 2) : ansC b N = nsC b N ∧ ansTo b N = nsTo b N ∧ ansN b N D (fun j => D (16 + j)) (fun j => D (32 + j)) = nsM b N D := by
  have e : ansC b N = nsC b N := by unfold ansC; rw [if_pos h]
  unfold ansTo ansN nsTo nsM
  rw [e, if_pos h, if_pos h]
  exact ⟨rfl, rfl, rfl⟩
theorem ans_ksl {b : Bk} {N : NoteP} (D : Nat → BitVec 8) (h : N.kind = 7) : ansC b N = kslC b N ∧ ansTo b N = kslTo b N ∧ ansN b N D (fun j => D (16 + j)) (fun j => D (32 + j)) = kslM b N D := by
  have h2 : ¬ N.kind = 2 := by omega
  have e : ansC b N = kslC b N := by unfold ansC; rw [if_neg h2, if_pos h]
  unfold ansTo ansN kslTo kslM
  rw [e, if_neg h2, if_neg h2]
  exact ⟨rfl, rfl, rfl⟩
theorem ans_other {b : Bk} {N : NoteP} (D : Nat → BitVec 8) (h2 : ¬ N.kind = 2) (h7 : ¬ N.kind = 7) : ansC b N = 13 ∧ ansTo b N = ⟨#[]⟩ ∧ ansN b N D (fun j => D (16 + j)) (fun j => D (32 + j)) = zeroN := by
  have e : ansC b N = 13 := by unfold ansC; rw [if_neg h2, if_neg h7]
  unfold ansTo ansN
  rw [e, if_neg (by decide), if_neg (by decide)]
  exact ⟨rfl, rfl, rfl⟩
set_option maxRecDepth 100000 in
set_option maxHeartbeats 1000000 in
theorem answer_any (b : Bk) (N : NoteP) (D : Nat → BitVec 8) (P Q R Lv Rv : Value) (CD : Array Value) (hCD : CD.size = 48) (hCDi : ∀ i, i < 48 → CD[i]? = some (.int .u8 ((D i).toNat : Int))) (w : World) (hk : Consts w) (hb : BookIs w b Lv Rv) (hn : NoteAt w N P Q R) (hA : N.a.size ≤ 20) (hB : N.b.size ≤ 20) :
    Calls Tryd.prog 7 #[bookV b Lv Rv, noteV N P Q R, .agg CD] w (AnsPost (ansTo b N) (ansN b N D (fun j => D (16 + j)) (fun j => D (32 + j))) (ansC b N) w) := by
  obtain ⟨W, hW, h0⟩ := ans_new 27 30 b N D P Q R Lv Rv CD hCD hCDi w hk hb hn
  have H1 := Lib.hid h0
  obtain ⟨CD2, hCD2, zCD2, iCD2⟩ := cells_named 48 (byteF D) D (fun _ _ => rfl)
  have HNS := Lib.hid (answerNS_any b N D P Q R Lv Rv CD2 zCD2 iCD2 W h0.hk h0.is_ h0.at_ hB)
  have HKS := Lib.hid (answerKSL_any b N D P Q R Lv Rv CD2 zCD2 iCD2 W h0.hk h0.is_ h0.at_ hA hB)
  have HCD2 := Lib.hid hCD2
  clear hCD hCDi hk hb hn h0 hA hB hCD2 zCD2 iCD2
  unfold bookV noteV at HNS HKS ⊢
  obtain ⟨CB, hCB⟩ : ∃ C, C = cellsOf 19 (bookF b Lv Rv) := ⟨_, rfl⟩
  obtain ⟨CN, hCN⟩ : ∃ C, C = cellsOf 38 (noteF N P Q R) := ⟨_, rfl⟩
  rw [← hCB, ← hCN] at hW HNS HKS ⊢
  have HCB := Lib.hid hCB.symm
  have HCN := Lib.hid hCN.symm
  clear hCB hCN
  go_enter Tryd.func7, Tryd.ntmps7
  go_upto_region 1 with fail
  rw [show (#[.int .i64 0, .string ⟨#[]⟩, .string ⟨#[]⟩, .int .u8 0, .int .u8 0, .int .u8 0, .int .u8 0, .int .u8 0, .int .u8 0, .int .u8 0, .int .u8 0, .int .u8 0, .int .u8 0, .int .u8 0, .int .u8 0, .int .u8 0, .int .u8 0, .int .u8 0, .int .u8 0, .int .u8 0, .int .u8 0, .int .u8 0, .int .u8 0, .int .u8 0, .int .u8 0, .int .u8 0, .int .u8 0, .int .u8 0, .int .u8 0, .int .u8 0, .int .u8 0, .int .u8 0, .int .u8 0, .int .u8 0, .int .u8 0, .slice none 0 0, .slice none 0 0, .slice none 0 0] : Array Value) = zeroCells 0 from rfl, ← hW]
  clear hW
  have d0 := H1.out.nt.cell (i := 0) (by omega)
  rw [show noteF N P Q R 0 = .int .i64 N.kind from rfl] at d0
  have r0 := H1.out.bk
  have r1 := H1.out.nt
  have r2 := H1.out.dr
  by_cases h2 : N.kind = 2
  · have HE := Lib.hid (ans_ns (b := b) D h2)
    rw [h2] at d0
    obtain ⟨M, hM⟩ : ∃ M, M = nsM b N D := ⟨_, rfl⟩
    have HM := Lib.hid hM
    have HSZM : Hid (PastN M) := Lib.hid (by rw [hM]; exact past_ns b N D)
    have HC := HNS
    rw [← hM] at HC
    clear h2 hM HNS HKS
    go_wp2_with (first
      | (refine load_as (by rfl) 27 (.tmp 3) (by rfl) w.heap.size 0 _ 19 19 _ CB ((cells_zero _ _).trans HCB.out) r0 (by rfl) _ Tryd.underlying27 (by rfl) (by kernel_rfl) (by omega) ?_)
      | (refine load_as (by rfl) 30 (.tmp 4) (by rfl) (w.heap.size + 1) 0 _ 38 38 _ CN ((cells_zero _ _).trans HCN.out) r1 (by rfl) _ Tryd.underlying30 (by rfl) (by kernel_rfl) (by omega) ?_)
      | (refine load_as (by rfl) 31 (.tmp 5) (by rfl) (w.heap.size + 1 + 1) 0 _ 48 48 _ CD2 ((cells_zero _ _).trans HCD2.out) r2 (by rfl) _ Tryd.underlying31 (by rfl) (by kernel_rfl) (by omega) ?_))
    refine HC.out.mono ?_
    rintro _ w2 ⟨P', Q', R', rfl, hn2, hb2⟩
    have H2 := Lib.hid (H1.out.step hb2)
    have HN2 := Lib.hid hn2
    have op := (slice_one_cell hn2.p)
    have oq := (slice_one_cell hn2.q)
    have or_ := (slice_one_cell hn2.r)
    have hz := H2.out.zr
    clear hn2 hb2 r0 r1 r2 d0 HC
    go_wp2_with (refine store_whole (by rfl) 30 (.tmp 7) (.tmp 22) (by rfl) (w.heap.size + 1 + 1 + 1) _ 38 _ (noteF M P' Q' R') hz (by rfl) _ (by rfl) (by kernel_rfl) (size_cellsOf _ _) (cellsOf_at _ _) (note_cells_one _ _ _ _ op oq or_) ?_; intro w9 hr9 ho9)
    refine bodyPost_ret (results_mid rfl _ (w.heap.size + 1 + 1 + 1) _ 38 _ _ rfl hr9 Tryd.underlying30 (by rfl) (by kernel_rfl)) rfl ?_
    rw [HE.out.1, HE.out.2.1, HE.out.2.2]
    exact ⟨P', Q', R', by rw [HM.out]; rfl, by rw [← HM.out]; exact note_past HN2.out H2.out.zr HSZM.out ho9, ho9.below H2.out.hb (by omega)⟩
  · by_cases h7 : N.kind = 7
    · have HE := Lib.hid (ans_ksl (b := b) D h7)
      rw [h7] at d0
      obtain ⟨M, hM⟩ : ∃ M, M = kslM b N D := ⟨_, rfl⟩
      have HM := Lib.hid hM
      have HSZM : Hid (PastN M) := Lib.hid (by rw [hM]; exact past_ksl b N D)
      have HC := HKS
      rw [← hM] at HC
      clear h2 h7 hM HNS HKS
      go_wp2_with (first
        | (refine load_as (by rfl) 27 (.tmp 3) (by rfl) w.heap.size 0 _ 19 19 _ CB ((cells_zero _ _).trans HCB.out) r0 (by rfl) _ Tryd.underlying27 (by rfl) (by kernel_rfl) (by omega) ?_)
        | (refine load_as (by rfl) 30 (.tmp 4) (by rfl) (w.heap.size + 1) 0 _ 38 38 _ CN ((cells_zero _ _).trans HCN.out) r1 (by rfl) _ Tryd.underlying30 (by rfl) (by kernel_rfl) (by omega) ?_)
        | (refine load_as (by rfl) 31 (.tmp 5) (by rfl) (w.heap.size + 1 + 1) 0 _ 48 48 _ CD2 ((cells_zero _ _).trans HCD2.out) r2 (by rfl) _ Tryd.underlying31 (by rfl) (by kernel_rfl) (by omega) ?_))
      refine HC.out.mono ?_
      rintro _ w2 ⟨P', Q', R', rfl, hn2, hb2⟩
      have H2 := Lib.hid (H1.out.step hb2)
      have HN2 := Lib.hid hn2
      have op := (slice_one_cell hn2.p)
      have oq := (slice_one_cell hn2.q)
      have or_ := (slice_one_cell hn2.r)
      have hz := H2.out.zr
      clear hn2 hb2 r0 r1 r2 d0 HC
      go_wp2_with (refine store_whole (by rfl) 30 (.tmp 7) (.tmp 31) (by rfl) (w.heap.size + 1 + 1 + 1) _ 38 _ (noteF M P' Q' R') hz (by rfl) _ (by rfl) (by kernel_rfl) (size_cellsOf _ _) (cellsOf_at _ _) (note_cells_one _ _ _ _ op oq or_) ?_; intro w9 hr9 ho9)
      refine bodyPost_ret (results_mid rfl _ (w.heap.size + 1 + 1 + 1) _ 38 _ _ rfl hr9 Tryd.underlying30 (by rfl) (by kernel_rfl)) rfl ?_
      rw [HE.out.1, HE.out.2.1, HE.out.2.2]
      exact ⟨P', Q', R', by rw [HM.out]; rfl, by rw [← HM.out]; exact note_past HN2.out H2.out.zr HSZM.out ho9, ho9.below H2.out.hb (by omega)⟩
    · have HE := Lib.hid (ans_other (b := b) D h2 h7)
      have q2 : (N.kind == 2) = false := by simpa using h2
      have q7 : (N.kind == 7) = false := by simpa using h7
      clear h2 h7 HNS HKS r0 r1 r2
      go_wp2_with fail
      refine (refused_any 13 _).mono ?_
      rintro _ w8 ⟨rfl, hb8⟩
      have H8 := Lib.hid (H1.out.step hb8)
      have hz8 := H8.out.zr
      clear hb8
      go_wp2_with (refine store_whole (by rfl) 30 (.tmp 7) (.tmp 13) (by rfl) (w.heap.size + 1 + 1 + 1) _ 38 _ (noteF zeroN nilV nilV nilV) hz8 (by rfl) _ (by rfl) (by kernel_rfl) (size_cellsOf _ _) (cellsOf_at _ _) (note_cells_one _ _ _ _ rfl rfl rfl) ?_; intro w9 hr9 ho9)
      refine bodyPost_ret (results_mid rfl _ (w.heap.size + 1 + 1 + 1) _ 38 _ _ rfl hr9 Tryd.underlying30 (by rfl) (by kernel_rfl)) rfl ?_
      have hb9 := ho9.below H8.out.hb (by omega)
      rw [HE.out.1, HE.out.2.1, HE.out.2.2]
      exact ans_none 13 w _ _ rfl hb9
end Go.Proofs.YtaakhldhmoaplaaDoor.Kdc
namespace Go.Proofs.YtaakhldhmoaplaaDoor.Kdc
open Go Go.RowKit Go.Proofs.YtaakhldhmoaplaaDoor.Aid Go.Proofs.YtaakhldhmoaplaaDoor.Sha Go.Proofs.YtaakhldhmoaplaaDoor.Law01 Go.Proofs.YtaakhldhmoaplaaDoor.Field Go.Proofs.YtaakhldhmoaplaaDoor.Law05
open Go.Proofs.YtaakhldhmoaplaaDoor.Seal (keysB formB openB okB)
open Go.Proofs.YtaakhldhmoaplaaDoor.Aes (RowB)
open Go.Proofs.YtaakhldhmoaplaaDoor.Note (NoteP noteF noteV NoteAt zeroCells zeroCells_eq)
open Go.Proofs.YtaakhldhmoaplaaDoor.Book (Bk Wd keyB hasN BookIs bookF bookV wordF)

def zbook : Array Value := #[.slice none 0 0, .slice none 0 0, .int .i64 0, .int .u8 0, .int .u8 0, .int .u8 0, .int .u8 0, .int .u8 0, .int .u8 0, .int .u8 0, .int .u8 0, .int .u8 0, .int .u8 0, .int .u8 0, .int .u8 0, .int .u8 0, .int .u8 0, .int .u8 0, .int .u8 0]
theorem zbook_at (i : Nat) (hi : i < 19) : zbook[i]? = some (bookF Book.bk0 nilV nilV i) := by
  rw [show zbook = cellsOf 19 (bookF Book.bk0 nilV nilV) from rfl]
  exact cellsOf_at _ _ i hi
theorem book_one (b : Bk) (Lv Rv : Value) (h1 : Lv.oneCell' = true) (h2 : Rv.oneCell' = true) (j : Nat) : (bookF b Lv Rv j).oneCell' = true := by
  unfold bookF
  split
  · exact h1
  · split
    · exact h2
    · split
      · rfl
      · rfl
def wd (x : BitVec 8) : Wd := x :: List.replicate 15 0
def wF (x : BitVec 8) (j : Nat) : BitVec 8 := if j = 0 then x else 0
def sAnn : ByteArray := ⟨#[97, 110, 110]⟩
def sBob : ByteArray := ⟨#[98, 111, 98]⟩
def sX : ByteArray := ⟨#[120]⟩
def bA : Bk := ⟨[(sAnn, wd 1), (sBob, wd 2)], [], 0, Book.zw⟩
def nA : NoteP := ⟨7, sAnn, sBob, wF 3, wF 4, 0, fun _ => 0, 0, fun _ => 0, 0, fun _ => 0⟩
def n5 : NoteP := ⟨5, ⟨#[]⟩, ⟨#[]⟩, fun _ => 0, fun _ => 0, 0, fun _ => 0, 0, fun _ => 0, 0, fun _ => 0⟩
def dA (j : Nat) : BitVec 8 := if j = 0 then 5 else if j = 16 then 6 else if j = 32 then 7 else 0
def lx : List Fld := [(1, Mac.bytesL [97]), (0, fun _ => 0)]
def zEnts : Array Value := #[.string ⟨#[97, 110, 110]⟩, .int .u8 1, .int .u8 0, .int .u8 0, .int .u8 0, .int .u8 0, .int .u8 0, .int .u8 0, .int .u8 0, .int .u8 0, .int .u8 0, .int .u8 0, .int .u8 0, .int .u8 0, .int .u8 0, .int .u8 0, .int .u8 0, .string ⟨#[98, 111, 98]⟩, .int .u8 2, .int .u8 0, .int .u8 0, .int .u8 0, .int .u8 0, .int .u8 0, .int .u8 0, .int .u8 0, .int .u8 0, .int .u8 0, .int .u8 0, .int .u8 0, .int .u8 0, .int .u8 0, .int .u8 0, .int .u8 0]
def zNote : Array Value := #[.int .i64 7, .string ⟨#[97, 110, 110]⟩, .string ⟨#[98, 111, 98]⟩, .int .u8 3, .int .u8 0, .int .u8 0, .int .u8 0, .int .u8 0, .int .u8 0, .int .u8 0, .int .u8 0, .int .u8 0, .int .u8 0, .int .u8 0, .int .u8 0, .int .u8 0, .int .u8 0, .int .u8 0, .int .u8 0, .int .u8 4, .int .u8 0, .int .u8 0, .int .u8 0, .int .u8 0, .int .u8 0, .int .u8 0, .int .u8 0, .int .u8 0, .int .u8 0, .int .u8 0, .int .u8 0, .int .u8 0, .int .u8 0, .int .u8 0, .int .u8 0, .slice none 0 0, .slice none 0 0, .slice none 0 0]
def zDraw : Array Value := #[.int .u8 5, .int .u8 0, .int .u8 0, .int .u8 0, .int .u8 0, .int .u8 0, .int .u8 0, .int .u8 0, .int .u8 0, .int .u8 0, .int .u8 0, .int .u8 0, .int .u8 0, .int .u8 0, .int .u8 0, .int .u8 0, .int .u8 6, .int .u8 0, .int .u8 0, .int .u8 0, .int .u8 0, .int .u8 0, .int .u8 0, .int .u8 0, .int .u8 0, .int .u8 0, .int .u8 0, .int .u8 0, .int .u8 0, .int .u8 0, .int .u8 0, .int .u8 0, .int .u8 7, .int .u8 0, .int .u8 0, .int .u8 0, .int .u8 0, .int .u8 0, .int .u8 0, .int .u8 0, .int .u8 0, .int .u8 0, .int .u8 0, .int .u8 0, .int .u8 0, .int .u8 0, .int .u8 0, .int .u8 0]
def zDraw0 : Array Value := #[.int .u8 0, .int .u8 0, .int .u8 0, .int .u8 0, .int .u8 0, .int .u8 0, .int .u8 0, .int .u8 0, .int .u8 0, .int .u8 0, .int .u8 0, .int .u8 0, .int .u8 0, .int .u8 0, .int .u8 0, .int .u8 0, .int .u8 0, .int .u8 0, .int .u8 0, .int .u8 0, .int .u8 0, .int .u8 0, .int .u8 0, .int .u8 0, .int .u8 0, .int .u8 0, .int .u8 0, .int .u8 0, .int .u8 0, .int .u8 0, .int .u8 0, .int .u8 0, .int .u8 0, .int .u8 0, .int .u8 0, .int .u8 0, .int .u8 0, .int .u8 0, .int .u8 0, .int .u8 0, .int .u8 0, .int .u8 0, .int .u8 0, .int .u8 0, .int .u8 0, .int .u8 0, .int .u8 0, .int .u8 0]
def zNote5 : Array Value := #[.int .i64 5, .string ⟨#[]⟩, .string ⟨#[]⟩, .int .u8 0, .int .u8 0, .int .u8 0, .int .u8 0, .int .u8 0, .int .u8 0, .int .u8 0, .int .u8 0, .int .u8 0, .int .u8 0, .int .u8 0, .int .u8 0, .int .u8 0, .int .u8 0, .int .u8 0, .int .u8 0, .int .u8 0, .int .u8 0, .int .u8 0, .int .u8 0, .int .u8 0, .int .u8 0, .int .u8 0, .int .u8 0, .int .u8 0, .int .u8 0, .int .u8 0, .int .u8 0, .int .u8 0, .int .u8 0, .int .u8 0, .int .u8 0, .slice none 0 0, .slice none 0 0, .slice none 0 0]
def zWord (x : Int) : Array Value := #[.int .u8 x, .int .u8 0, .int .u8 0, .int .u8 0, .int .u8 0, .int .u8 0, .int .u8 0, .int .u8 0, .int .u8 0, .int .u8 0, .int .u8 0, .int .u8 0, .int .u8 0, .int .u8 0, .int .u8 0, .int .u8 0]
theorem zNote_eq : zNote = cellsOf 38 (noteF nA nilV nilV nilV) := rfl
theorem zNote5_eq : zNote5 = cellsOf 38 (noteF n5 nilV nilV nilV) := rfl
theorem zDraw_eq : zDraw = cellsOf 48 (byteF dA) := rfl
theorem zDraw0_eq : zDraw0 = cellsOf 48 (byteF fun _ => 0) := rfl
theorem zWord1_eq : zWord 1 = cellsOf 16 (byteF (wF 1)) := rfl
theorem zWord2_eq : zWord 2 = cellsOf 16 (byteF (wF 2)) := rfl
theorem zEnts_eq : zEnts = cellsOf 17 (Book.entF (sAnn, wd 1)) ++ cellsOf 17 (Book.entF (sBob, wd 2)) := rfl
theorem zEnts_at (i : Nat) (hi : i < 2) (j : Nat) (u : Value) (hu : (Book.entsL bA i)[j]? = some u) : zEnts[i * 17 + j]? = some u := by
  have hj : j < 17 := by have := (List.getElem?_eq_some_iff.1 hu).1; simpa [Book.entsL] using this
  unfold Book.entsL at hu
  rw [List.getElem?_map, List.getElem?_range hj] at hu
  simp only [Option.map_some, Option.some.injEq] at hu
  rw [zEnts_eq, ← hu]
  match i, hi with
  | 0, _ =>
    rw [Array.getElem?_append_left (by rw [size_cellsOf]; omega), show 0 * 17 + j = j by omega]
    exact cellsOf_at _ _ j hj
  | 1, _ =>
    rw [Array.getElem?_append_right (by rw [size_cellsOf]; omega), size_cellsOf, show 1 * 17 + j - 17 = j by omega]
    exact cellsOf_at _ _ j hj
theorem aw_c : ansC bA nA = 0 := by decide +kernel
theorem aw_to : ansTo bA nA = sBob := by unfold ansTo; rw [aw_c]; rfl
theorem aw_n (d1 d2 : Nat → BitVec 8) : ansN bA nA dA d1 d2 = kslN bA nA dA d1 d2 := by unfold ansN; rw [aw_c]; rfl
theorem aw5_c : ansC bA n5 = 13 := by decide +kernel
theorem key_bob : keyB sBob bA.L = wd 2 := by decide +kernel
theorem keyF_wd (x : BitVec 8) (j : Nat) (hj : j < 16) : keyF (wd x) j = wF x j := by
  unfold keyF wd wF
  match j with
  | 0 => rfl
  | k + 1 =>
    rw [if_neg (by omega), List.getD_eq_getElem?_getD, List.getElem?_cons_succ, List.getElem?_replicate, if_pos (by omega)]
    rfl
theorem strOf_strB (s : ByteArray) (E : Nat → BitVec 8) (n : Nat) (hn : n = s.size) (h : ∀ j, j < n → E j = strB s j) : strOf E n = s := by
  subst hn
  unfold strOf
  apply ByteArray.ext
  apply Array.ext_getElem?
  intro i
  by_cases hi : i < s.size
  · have hi' : i < s.data.size := hi
    simp only [List.getElem?_toArray, List.getElem?_map, List.getElem?_range hi, Option.map_some]
    rw [h i hi, Array.getElem?_eq_getElem hi']
    unfold strB
    congr 1
    apply UInt8.toBitVec_inj.1
    simp
    rw [Array.getElem?_eq_getElem hi']
    rfl
  · have hi' : ¬ i < s.data.size := hi
    rw [Array.getElem?_eq_none (by simpa using hi'), Array.getElem?_eq_none (by omega)]
/-- The book of awake, where it lies. -/
theorem bookA_is (w w1 : World) (ho : Only (w.heap.size + 1) ((w.alloc (.cells zEnts 58)).alloc (.cells zbook 27)) w1) : BookIs w1 bA (.slice (some ⟨w.heap.size, 0, none⟩) 2 2) nilV := by
  have hs : w1.heap.size = w.heap.size + 2 := by rw [ho.size]; simp
  refine ⟨⟨_, 2, rfl, fun _ => ⟨w.heap.size, 0, rfl, by omega, fun i hi j u hu => ?_⟩⟩, ⟨none, 0, rfl, fun h => absurd h (by decide)⟩, ⟨by decide, by decide⟩, fun p hp => ?_, fun k hk => (by cases hk), rfl⟩
  · have h1 := zEnts_at i hi j u hu
    rw [Nat.zero_add, World.cell?_of_block (ho.block w.heap.size (by omega))]
    have h2 : (w.alloc (.cells zEnts 58)).cell? ⟨w.heap.size, i * 17 + j, none⟩ = some u := by rw [World.cell?_alloc_new]; exact h1
    exact (((Below.refl (w.alloc (.cells zEnts 58)).heap.size (w.alloc (.cells zEnts 58))).alloc (Nat.le_refl _) (.cells zbook 27)).cell (p := ⟨w.heap.size, i * 17 + j, none⟩) (by simp)).trans h2
  · simp only [bA, List.mem_cons, List.not_mem_nil, or_false] at hp
    rcases hp with rfl | rfl <;> rfl
set_option maxRecDepth 100000 in
set_option maxHeartbeats 1000000 in
theorem awake16_any (w : World) (hk : Consts w) : Calls Tryd.prog 5 #[] w fun x w' => x = .returned (.bool true) ∧ Below w.heap.size w w' := by
  have kc := fun (w : World) (C : Array Value) (n c : Nat) => Lib.run_convert_bytes_const (P := Tryd.prog) w 28 5 C n c Tryd.underlying28 Tryd.underlying5
  have HK := Lib.hid hk
  clear hk
  go_enter Tryd.func5, Tryd.ntmps5
  go_upto_region 2 with (refine store_whole (by rfl) 27 (.tmp 1) (.tmp 18) (by rfl) (w.heap.size + 1) _ 19 _ (bookF bA (.slice (some ⟨w.heap.size, 0, none⟩) 2 2) nilV) (by exact (congrArg (fun k => ((w.alloc _).alloc (.cells zbook 27)).rowIs k 27 19 (bookF Book.bk0 nilV nilV)) (World.size_alloc w _)).mp (row_new (w.alloc _) zbook 27 19 _ (by rfl) zbook_at)) (by rfl) (cellsOf 19 (bookF bA (.slice (some ⟨w.heap.size, 0, none⟩) 2 2) nilV)) (by kernel_rfl) (by kernel_rfl) (size_cellsOf _ _) (cellsOf_at _ _) (fun i _ => book_one _ _ _ rfl rfl i) ?_; intro w1 hr1 ho1)
  have HI := Lib.hid (bookA_is w w1 ho1)
  have HR := Lib.hid hr1
  have HB1 : Hid (Below w.heap.size w w1) := Lib.hid (ho1.below (((Below.refl _ _).alloc (Nat.le_refl _) _).alloc (by simp) _) (by omega))
  clear hr1 ho1
  have HA1 := answer_any bA nA dA nilV nilV nilV _ _ zDraw (by rfl) (fun i hi => by rw [zDraw_eq]; exact cellsOf_at _ _ i hi) w1 (HK.out.below HB1.out (Nat.le_refl _)) HI.out ⟨SliceOf.nil _ _ _, SliceOf.nil _ _ _, SliceOf.nil _ _ _⟩ (by decide) (by decide)
  rw [aw_c, aw_to, aw_n] at HA1
  unfold bookV noteV at HA1
  rw [← zNote_eq] at HA1
  obtain ⟨CB, hCB⟩ : ∃ C, C = cellsOf 19 (bookF bA (.slice (some ⟨w.heap.size, 0, none⟩) 2 2) nilV) := ⟨_, rfl⟩
  rw [← hCB] at HA1
  have HA := Lib.hid HA1
  have HCB := Lib.hid hCB.symm
  have r0 := HR.out
  clear HA1 hCB
  simp only [Act.put]
  go_wp2_with (refine load_as (by rfl) 27 (.tmp 1) (by rfl) (w.heap.size + 1) 0 _ 19 19 _ CB ((cells_zero _ _).trans HCB.out) r0 (by rfl) _ Tryd.underlying27 (by rfl) (by kernel_rfl) (by omega) ?_)
  refine HA.out.mono ?_
  rintro _ w2 ⟨P, Q, R, rfl, hn2, hb2⟩
  have hk2 := HK.out.below (HB1.out.trans (hb2.mono HB1.out.size)) (Nat.le_refl _)
  have HB2 : Hid (Below w.heap.size w w2) := Lib.hid (HB1.out.trans (hb2.mono HB1.out.size))
  have HI2 := Lib.hid (HI.out.below hb2)
  have HR2 := Lib.hid (HR.out.of_block (hb2.block _ (World.rowIs.lt HR.out)))
  obtain ⟨AP, cP, eP⟩ := slice_shape hn2.p
  have oq := slice_one_cell hn2.q
  have or_ := slice_one_cell hn2.r
  have HSP := Lib.hid hn2.p
  subst eP
  obtain ⟨M, hM⟩ : ∃ M, M = kslN bA nA dA (fun j => dA (16 + j)) (fun j => dA (32 + j)) := ⟨_, rfl⟩
  have HM := Lib.hid hM
  rw [← hM] at HSP ⊢
  clear HA hb2 hn2 r0 HI HR HB1 hM hk2
  go_upto_region 3 with (refine store_whole (by rfl) 30 (.tmp 3) (.tmp 30) (by rfl) w2.heap.size _ 38 _ (noteF M (.slice AP M.pn cP) Q R) (by exact row_new w2 (zeroCells 0) 30 38 _ (by rfl) zero_note_at) (by rfl) (cellsOf 38 (noteF M (.slice AP M.pn cP) Q R)) (by rfl) (by kernel_rfl) (size_cellsOf _ _) (cellsOf_at _ _) (note_cells_one _ _ _ _ rfl oq or_) ?_; intro w3 hr3 ho3)
  have hb3 : Below w2.heap.size w2 w3 := ho3.below ((Below.refl w2.heap.size w2).alloc (Nat.le_refl _) (.cells (zeroCells 0) 30)) (Nat.le_refl _)
  have HB3 : Hid (Below w.heap.size w w3) := Lib.hid (HB2.out.trans (hb3.mono HB2.out.size))
  have HI3 := Lib.hid (HI2.out.below hb3)
  have HR3 := Lib.hid (HR2.out.of_block (hb3.block _ (World.rowIs.lt HR2.out)))
  have HN3 := Lib.hid hr3
  have HSP3 := Lib.hid (slice_next HSP.out hb3)
  clear ho3 hb3 hr3 HB2 HI2 HR2 HSP
  generalize w2.heap.size = g3 at *
  have hbl := blob_len lK3b (kslP nA dA) rfl (by show 3 ≤ 4; omega) (by show off (fldM [(16, nA.y), (nA.a.size, strB nA.a), (16, dA)]) 3 ≤ 200; rw [off3]; decide)
  have HPB := Lib.hid (parts_back (keyF (keyB sBob bA.L)) (fun j => dA (16 + j)) lK3b (kslP nA dA) M.p (zWord 2) (by rfl) (fun i hi => by rw [zWord2_eq, cellsOf_at _ _ i hi, key_bob, keyF_wd _ _ hi]; rfl) AP M.pn cP 3 w3 (HK.out.below HB3.out (Nat.le_refl _)) HSP3.out (by rw [HM.out]; rfl) (fun j _ => by rw [HM.out]; rfl) rfl (by decide) hbl.1 hbl.2.1)
  have d5 := HN3.out.cell (i := 35) (by omega)
  rw [show noteF M (.slice AP M.pn cP) Q R 35 = .slice AP M.pn cP from rfl] at d5
  clear hbl
  go_wp2_with fail
  refine HPB.out.mono ?_
  rintro _ w4 ⟨v4, R4, rfl, ho4, hb4⟩
  have HB4 : Hid (Below w.heap.size w w4) := Lib.hid (HB3.out.trans (hb4.mono HB3.out.size))
  have HI4 := Lib.hid (HI3.out.below hb4)
  have HR4 := Lib.hid (HR3.out.of_block (hb4.block _ (World.rowIs.lt HR3.out)))
  have HN4 := Lib.hid (HN3.out.of_block (hb4.block _ (World.rowIs.lt HN3.out)))
  rw [show (kslP nA dA).length = 3 from rfl] at ho4
  obtain ⟨Av, cv, rfl⟩ := ho4.shape
  obtain ⟨sb, so, A1, c1, rfl, p1, s1⟩ := own_parts_at ho4 1 (by omega)
  rw [show fldM (kslP nA dA) 1 = 3 from rfl] at p1 s1
  have H14 : Hid (∀ W, Below w4.heap.size w4 W → W.cell? ⟨sb, so + 1, none⟩ = some (.slice A1 3 c1) ∧ (convert 28 9 (.slice A1 3 c1)).run Tryd.prog W = .ok (.string sAnn) W) := Lib.hid fun W hW => by
    refine ⟨(hW.cell (p := ⟨sb, so + 1, none⟩) (block_lt_of_cell p1)).trans p1, ?_⟩
    have h1 := str_run _ _ _ _ _ _ ((s1.below hW).slice (g' := W.heap.size) (.inr (Nat.le_refl _)))
    rw [strOf_strB sAnn (fldE (kslP nA dA) 1) 3 rfl (fun j _ => rfl)] at h1
    exact h1
  clear HPB d5 hb4 ho4 p1 s1 HB3 HI3 HR3 HN3 HSP3
  have HA1 := answer_any bA n5 (fun _ => 0) nilV nilV nilV _ _ zDraw0 (by rfl) (fun i hi => by rw [zDraw0_eq]; exact cellsOf_at _ _ i hi) w4 (HK.out.below HB4.out (Nat.le_refl _)) HI4.out ⟨SliceOf.nil _ _ _, SliceOf.nil _ _ _, SliceOf.nil _ _ _⟩ (by decide) (by decide)
  rw [aw5_c] at HA1
  unfold bookV noteV at HA1
  rw [← zNote5_eq, HCB.out] at HA1
  obtain ⟨to5, hto5⟩ : ∃ s, s = ansTo bA n5 := ⟨_, rfl⟩
  obtain ⟨M5, hM5⟩ : ∃ s, s = ansN bA n5 (fun _ => 0) (fun j => (fun _ => (0 : BitVec 8)) (16 + j)) (fun j => (fun _ => (0 : BitVec 8)) (32 + j)) := ⟨_, rfl⟩
  rw [← hto5, ← hM5] at HA1
  have HA5 := Lib.hid HA1
  have r0 := HR4.out
  clear HA1 hto5 hM5
  go_wp2_with (refine load_as (by rfl) 27 (.tmp 1) (by rfl) (w.heap.size + 1) 0 _ 19 19 _ CB ((cells_zero _ _).trans HCB.out) r0 (by rfl) _ Tryd.underlying27 (by rfl) (by kernel_rfl) (by omega) ?_)
  refine HA5.out.mono ?_
  rintro _ w5 ⟨P5, Q5, R5, rfl, hn5, hb5⟩
  have op5 := slice_one_cell hn5.p
  have oq5 := slice_one_cell hn5.q
  have or5 := slice_one_cell hn5.r
  have HB5 : Hid (Below w.heap.size w w5) := Lib.hid (HB4.out.trans (hb5.mono HB4.out.size))
  have HN5 := Lib.hid (HN4.out.of_block (hb5.block _ (World.rowIs.lt HN4.out)))
  have H15 : Hid (∀ W, Below w5.heap.size w5 W → W.cell? ⟨sb, so + 1, none⟩ = some (.slice A1 3 c1) ∧ (convert 28 9 (.slice A1 3 c1)).run Tryd.prog W = .ok (.string sAnn) W) := Lib.hid fun W hW => H14.out W (hb5.trans (hW.mono hb5.size))
  clear HA5 r0 hb5 hn5 HB4 HI4 HR4 HN4 H14 HCB
  go_upto_region 5 with (refine store_whole (by rfl) 30 (.tmp 8) (.tmp 45) (by rfl) w5.heap.size _ 38 _ (noteF M5 P5 Q5 R5) (by exact row_new w5 (zeroCells 0) 30 38 _ (by rfl) zero_note_at) (by rfl) (cellsOf 38 (noteF M5 P5 Q5 R5)) (by rfl) (by kernel_rfl) (size_cellsOf _ _) (cellsOf_at _ _) (note_cells_one _ _ _ _ op5 oq5 or5) ?_; intro w6 hr6 ho6)
  have hb6 : Below w5.heap.size w5 w6 := ho6.below ((Below.refl w5.heap.size w5).alloc (Nat.le_refl _) (.cells (zeroCells 0) 30)) (Nat.le_refl _)
  have HB6 : Hid (Below w.heap.size w w6) := Lib.hid (HB5.out.trans (hb6.mono HB5.out.size))
  have HN6 := Lib.hid (HN5.out.of_block (hb6.block _ (World.rowIs.lt HN5.out)))
  have H16 : Hid (∀ W, Below w6.heap.size w6 W → W.cell? ⟨sb, so + 1, none⟩ = some (.slice A1 3 c1) ∧ (convert 28 9 (.slice A1 3 c1)).run Tryd.prog W = .ok (.string sAnn) W) := Lib.hid fun W hW => H15.out W (hb6.trans (hW.mono hb6.size))
  clear ho6 hr6 hb6 HB5 HN5 H15
  generalize w5.heap.size = g8 at *
  go_wp2_with fail
  obtain ⟨W6, hW6, hpt, hbW⟩ : ∃ W, W = (w6.alloc (.cells #[.int .u8 97] 5 (1, 2))).alloc (.cells #[.slice (some ⟨w6.heap.size, 0, none⟩) 1 1, .slice none 0 0] 28) ∧ PartsOf W 2 (fldM lx) (fldE lx) (.slice (some ⟨w6.heap.size + 1, 0, none⟩) 2 2) ∧ Below w6.heap.size w6 W := by
    have h1 := parts_list (w6.alloc (.cells #[.int .u8 97] 5 (1, 2))) lx #[.slice (some ⟨w6.heap.size, 0, none⟩) 1 1, .slice none 0 0] 2 rfl rfl (fun i hi => by
      match i, hi with
      | 0, _ => exact Law02.slice_lit w6 #[.int .u8 97] (1, 2) [97] 1 _ (by simp) rfl rfl
      | 1, _ => exact SliceOf.nil _ _ _)
    have hs : (w6.alloc (.cells #[.int .u8 97] 5 (1, 2))).heap.size = w6.heap.size + 1 := by simp
    rw [hs] at h1
    exact ⟨_, rfl, h1, ((Below.refl _ _).alloc (Nat.le_refl _) _).alloc (by simp) _⟩
  rw [← hW6]
  have hbl := blob_len' sX lx (by decide) (by decide) (by decide)
  have HSE := Lib.hid (sealed_any (wF 1) (wF 2) sX (zWord 1) (zWord 2) (by rfl) (fun i hi => by rw [zWord1_eq]; exact cellsOf_at _ _ i hi) (by rfl) (fun i hi => by rw [zWord2_eq]; exact cellsOf_at _ _ i hi) 2 (fldM lx) (fldE lx) _ W6 (HK.out.below (HB6.out.trans (hbW.mono HB6.out.size)) (Nat.le_refl _)) hpt (by decide))
  have HBL := Lib.hid hbl
  have HBW := Lib.hid hbW
  clear hW6 hpt hbW hbl
  refine HSE.out.mono ?_
  rintro _ w7 ⟨A9, c9, rfl, hs9, hb7⟩
  have hbb := HBW.out.trans (hb7.mono HBW.out.size)
  have HB7 : Hid (Below w.heap.size w w7) := Lib.hid (HB6.out.trans (hbb.mono HB6.out.size))
  have HN7 := Lib.hid (HN6.out.of_block (hbb.block _ (World.rowIs.lt HN6.out)))
  have H17 : Hid (∀ W, Below w7.heap.size w7 W → W.cell? ⟨sb, so + 1, none⟩ = some (.slice A1 3 c1) ∧ (convert 28 9 (.slice A1 3 c1)).run Tryd.prog W = .ok (.string sAnn) W) := Lib.hid fun W hW => H16.out W (hbb.trans (hW.mono hbb.size))
  obtain ⟨n9, hn9⟩ : ∃ n, n = sealedN sX 2 (fldM lx) := ⟨_, rfl⟩
  rw [← hn9] at hs9 ⊢
  have HPB := Lib.hid (parts_back (wF 1) (wF 2) sX lx (sealedB (wF 1) (wF 2) sX 2 (fldM lx) (fldE lx)) (zWord 1) (by rfl) (fun i hi => by rw [zWord1_eq]; exact cellsOf_at _ _ i hi) A9 n9 c9 2 w7 (HK.out.below HB7.out (Nat.le_refl _)) hs9 (by rw [hn9]; exact HBL.out.2.2) (fun j _ => rfl) rfl (by decide) HBL.out.1 HBL.out.2.1)
  clear hb7 hs9 hbb hn9 HSE HBW HB6 HN6 H16
  go_wp2_with fail
  refine HPB.out.mono ?_
  rintro _ w8 ⟨v8, R8, rfl, ho8, hb8⟩
  have HB8 : Hid (Below w.heap.size w w8) := Lib.hid (HB7.out.trans (hb8.mono HB7.out.size))
  have HN8 := Lib.hid (HN7.out.of_block (hb8.block _ (World.rowIs.lt HN7.out)))
  obtain ⟨h81, h82⟩ := H17.out w8 hb8
  rw [show lx.length = 2 from rfl] at ho8
  obtain ⟨A8, c8, rfl⟩ := ho8.shape
  have d0 := HN8.out.cell (i := 0) (by omega)
  rw [show noteF M (.slice AP M.pn cP) Q R 0 = .int .i64 M.kind from rfl, HM.out] at d0
  have d0' : w8.cell? ⟨g3, 0, none⟩ = some (.int .i64 8) := d0
  have l1 : sBob.toList = [98, 111, 98] := by decide +kernel
  have l2 : sAnn.toList = [97, 110, 110] := by decide +kernel
  clear HPB hb8 ho8 HB7 HN7 H17 HN8 d0 HM kc
  go_wp2
  go_ret
  exact ⟨rfl, HB8.out⟩
end Go.Proofs.YtaakhldhmoaplaaDoor.Kdc
namespace Go.Proofs.YtaakhldhmoaplaaDoor.Kdc
open Go Go.RowKit Go.Proofs.YtaakhldhmoaplaaDoor.Aid Go.Proofs.YtaakhldhmoaplaaDoor.Law01 Go.Proofs.YtaakhldhmoaplaaDoor.Field
open Go.Proofs.YtaakhldhmoaplaaDoor.Note (NoteP rightN firstB wordsB blobsB smallB inL hasL zeroB)
open Go.Proofs.YtaakhldhmoaplaaDoor.Book (Bk hasN keyB)

theorem name_short {s : ByteArray} (h : nameB s = true) : s.size ≤ 20 := by
  unfold nameB at h
  exact (of_decide_eq_true h).2.1
theorem right_sizes {N : NoteP} (h : rightN N = true) : N.a.size ≤ 20 ∧ N.b.size ≤ 20 := by
  unfold Note.rightN at h
  simp only [Bool.and_eq_true] at h
  have h1 := h.1.1.1.2
  unfold Note.firstB at h1
  simp only [Bool.not_eq_true', Bool.or_eq_false_iff, Bool.and_eq_false_iff, decide_eq_false_iff_not] at h1
  refine ⟨?_, ?_⟩
  · rcases h1.1.2 with h2 | h2
    · omega
    · exact name_short (by simpa using h2)
  · rcases h1.2 with h2 | h2
    · omega
    · exact name_short (by simpa using h2)
theorem req_ok {ks e : Nat → BitVec 8} {m : Nat} (h : reqC ks e m = 0) : reqF (Seal.openB ks e) = true := by
  unfold reqC at h
  by_cases h1 : partsC ks e lNs2 m 3 = 0
  · rw [if_pos h1] at h
    cases hr : reqF (Seal.openB ks e) with
    | true => rfl
    | false => rw [hr] at h; cases h
  · rw [if_neg h1] at h
    exact absurd h h1
theorem ns_ok {b : Bk} {N : NoteP} (h : nsC b N = 0) : hasN b.L N.b = true ∧ hasN b.L (nsA b N) = true ∧ (nsA b N).size ≤ 20 := by
  unfold nsC at h
  cases h1 : hasN b.L N.b with
  | false => rw [if_pos h1] at h; cases h
  | true =>
    rw [if_neg (by rw [h1]; decide)] at h
    by_cases h2 : reqC (nsKs b N) N.p N.pn ≠ 0
    · rw [if_pos h2] at h
      exact absurd h h2
    · rw [if_neg h2] at h
      by_cases h3 : nsA b N = N.b
      · rw [if_pos h3] at h; cases h
      · rw [if_neg h3] at h
        cases h4 : hasN b.L (nsA b N) with
        | false => rw [if_pos h4] at h; cases h
        | true =>
          refine ⟨rfl, rfl, ?_⟩
          have h5 := req_ok (Decidable.not_not.1 h2)
          unfold reqF at h5
          simp only [Bool.and_eq_true] at h5
          exact name_short h5.1.1
theorem ksl_ok {b : Bk} {N : NoteP} (h : kslC b N = 0) : hasN b.L N.a = true ∧ hasN b.L N.b = true := by
  unfold kslC at h
  by_cases h1 : N.a = N.b
  · rw [if_pos h1] at h; cases h
  · rw [if_neg h1] at h
    by_cases h2 : hasN b.L N.a = false ∨ hasN b.L N.b = false
    · rw [if_pos h2] at h; cases h
    · constructor
      · cases h3 : hasN b.L N.a with
        | true => rfl
        | false => exact absurd (.inl h3) h2
      · cases h3 : hasN b.L N.b with
        | true => rfl
        | false => exact absurd (.inr h3) h2
theorem blob_small (l : List (Nat × (Nat → BitVec 8))) (hl : l.length ≤ 4) (h : off (fldM l) l.length ≤ 200) : blobN l ≤ 500 := by
  unfold blobN encN
  rw [off_m2]
  omega
theorem right_three (y : Nat → BitVec 8) (pn qn : Nat) (p q : Nat → BitVec 8) (hp : pn ≤ 500) (hq : qn ≤ 500) : rightN ⟨3, ⟨#[]⟩, ⟨#[]⟩, fun _ => 0, y, pn, p, qn, q, 0, fun _ => 0⟩ = true := by
  unfold Note.rightN Note.firstB Note.wordsB Note.blobsB Note.smallB
  have e1 : Note.inL 3 65 = false := by decide
  have e2 : Note.inL 3 66 = false := by decide
  have e3 : Note.inL 3 88 = false := by decide
  have e4 : Note.inL 3 89 = true := by decide
  have e5 : Note.inL 3 80 = true := by decide
  have e6 : Note.inL 3 81 = true := by decide
  have e7 : Note.inL 3 82 = false := by decide
  have e8 : (Note.hasL 3).isEmpty = false := by decide
  have e9 : Note.zeroB (fun _ => 0) = true := by decide
  simp [e1, e2, e3, e4, e5, e6, e7, e8, hp, hq]
  exact ⟨⟨rfl, .inl rfl⟩, e9⟩
theorem right_eight (pn qn : Nat) (p q : Nat → BitVec 8) (hp : pn ≤ 500) (hq : qn ≤ 500) : rightN ⟨8, ⟨#[]⟩, ⟨#[]⟩, fun _ => 0, fun _ => 0, pn, p, qn, q, 0, fun _ => 0⟩ = true := by
  unfold Note.rightN Note.firstB Note.wordsB Note.blobsB Note.smallB
  have e1 : Note.inL 8 65 = false := by decide
  have e2 : Note.inL 8 66 = false := by decide
  have e3 : Note.inL 8 88 = false := by decide
  have e4 : Note.inL 8 89 = false := by decide
  have e5 : Note.inL 8 80 = true := by decide
  have e6 : Note.inL 8 81 = true := by decide
  have e7 : Note.inL 8 82 = false := by decide
  have e8 : (Note.hasL 8).isEmpty = false := by decide
  have e9 : Note.zeroB (fun _ => 0) = true := by decide
  simp [e1, e2, e3, e4, e5, e6, e7, e8, hp, hq]
  exact ⟨⟨rfl, .inl rfl⟩, e9⟩
end Go.Proofs.YtaakhldhmoaplaaDoor.Kdc
