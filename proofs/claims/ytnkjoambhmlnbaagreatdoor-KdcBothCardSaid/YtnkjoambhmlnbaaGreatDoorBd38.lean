/-
  What kdc.refused and kdc.requestOf do. What lies in memory while an answer is made; what an answer is, in one form. What kdc.answerNS does. What kdc.answerKSL does.
-/
import Derived.Test.YtnkjoambhmlnbaaGreatDoorBd37
import Derived.Test.YtnkjoambhmlnbaaGreatDoorBd20
import Derived.Test.YtnkjoambhmlnbaaGreatDoorBd08
import Derived.Test.YtnkjoambhmlnbaaGreatDoorBd13
import Derived.Test.YtnkjoambhmlnbaaGreatDoorBd12
import Derived.Test.YtnkjoambhmlnbaaGreatDoorBd11
import Derived.Test.YtnkjoambhmlnbaaGreatDoorBd05
import Derived.Test.YtnkjoambhmlnbaaGreatDoorBd40
import Derived.Test.YtnkjoambhmlnbaaGreatDoorBd45
namespace Go.Proofs.YtnkjoambhmlnbaaGreatDoor.Kdc
open Go Go.RowKit Go.Proofs.YtnkjoambhmlnbaaGreatDoor.Aid Go.Proofs.YtnkjoambhmlnbaaGreatDoor.Sha Go.Proofs.YtnkjoambhmlnbaaGreatDoor.Law01 Go.Proofs.YtnkjoambhmlnbaaGreatDoor.Field Go.Proofs.YtnkjoambhmlnbaaGreatDoor.Law05
open Go.Proofs.YtnkjoambhmlnbaaGreatDoor.Seal (keysB formB openB okB)
open Go.Proofs.YtnkjoambhmlnbaaGreatDoor.Aes (RowB)
open Go.Proofs.YtnkjoambhmlnbaaGreatDoor.Note (NoteP noteF noteV NoteAt zeroCells zeroCells_eq)

theorem results_mid {P : Program} {w : World} {fn : Func} {s p u : Tmp} {ty : TypeId} (hf : fn.results = #[.tmp s, .cell p ty, .tmp u]) (tmps : Array Value) (g t n : Nat) (f : Nat → Value) (d : TypeDesc)
    (hp : tmps.getD p undef = .pointer (some ⟨g, 0, none⟩)) (h : w.rowIs g t n f) (hu : P.underlying ty = some d) (hd : d.isRow = true) (hi : (P.info? ty).map (·.size) = some n) :
    (results fn tmps).run P w = .ok (.tuple #[tmps.getD s undef, .agg (cellsOf n f), tmps.getD u undef]) w := by
  have hl : (loadVar ty ⟨g, 0, none⟩).run P w = .ok (.agg (cellsOf n f)) w :=
    run_loadVar_row w g t ty _ (0, 0) d (row_heap h) hu (by cases d <;> simp_all [TypeDesc.isRow]) (by rw [size_cellsOf]; exact hi)
  simp only [results, hf]
  have hp' : tmps[p]?.getD undef = .pointer (some ⟨g, 0, none⟩) := by simpa using hp
  simp [Result.andThen, hp', asAddr, hl]
theorem nil_at (w : World) (n : NoteP) (hp : n.pn = 0) (hq : n.qn = 0) (hr : n.rn = 0) : NoteAt w n (.slice none 0 0) (.slice none 0 0) (.slice none 0 0) :=
  ⟨by rw [hp]; exact SliceOf.nil _ _ _, by rw [hq]; exact SliceOf.nil _ _ _, by rw [hr]; exact SliceOf.nil _ _ _⟩
set_option maxRecDepth 100000 in
theorem refused_any (c : Int) (w : World) : Calls Tryz.prog 17 #[.int .i64 c] w fun x w' => x = .returned (.tuple #[.string ⟨#[]⟩, noteV zeroN (.slice none 0 0) (.slice none 0 0) (.slice none 0 0), .int .i64 c]) ∧ Below w.heap.size w w' := by
  have hz : ∀ i, i < 38 → (zeroCells 0)[i]? = some (noteF zeroN (.slice none 0 0) (.slice none 0 0) (.slice none 0 0) i) := fun i hi => by
    rw [zeroCells_eq, cellsOf_at _ _ i hi]
    rfl
  have h0 := row_new w (zeroCells 0) 30 38 _ (by rfl) hz
  have hb : Below w.heap.size w (w.alloc (.cells (zeroCells 0) 30)) := (Below.refl _ _).alloc (Nat.le_refl _) _
  have HR := Lib.hid h0
  have HB := Lib.hid hb
  have HZ := Lib.hid hz
  clear h0 hb hz
  go_enter Tryz.func17, Tryz.ntmps17
  go_upto_region 1 with fail
  rw [show (#[.int .i64 0, .string ⟨#[]⟩, .string ⟨#[]⟩, .int .u8 0, .int .u8 0, .int .u8 0, .int .u8 0, .int .u8 0, .int .u8 0, .int .u8 0, .int .u8 0, .int .u8 0, .int .u8 0, .int .u8 0, .int .u8 0, .int .u8 0, .int .u8 0, .int .u8 0, .int .u8 0, .int .u8 0, .int .u8 0, .int .u8 0, .int .u8 0, .int .u8 0, .int .u8 0, .int .u8 0, .int .u8 0, .int .u8 0, .int .u8 0, .int .u8 0, .int .u8 0, .int .u8 0, .int .u8 0, .int .u8 0, .int .u8 0, .slice none 0 0, .slice none 0 0, .slice none 0 0] : Array Value) = zeroCells 0 from rfl]
  generalize w.alloc (.cells (zeroCells 0) 30) = w1 at *
  go_wp2_with (refine store_whole (by rfl) 30 (.tmp 3) (.tmp 5) (by rfl) w.heap.size _ 38 _ (noteF zeroN (.slice none 0 0) (.slice none 0 0) (.slice none 0 0)) HR.out (by rfl) _ (by rfl) (by kernel_rfl) (by kernel_rfl) HZ.out (fun i _ => Note.noteF_one _ _ _ _ rfl rfl rfl i) ?_; intro w2 hr2 ho2)
  refine bodyPost_ret (results_mid rfl _ w.heap.size _ 38 _ _ rfl hr2 Tryz.underlying30 (by rfl) (by kernel_rfl)) rfl ?_
  exact ⟨rfl, ho2.below HB.out (Nat.le_refl _)⟩
/-- What each operation yields that a request is made by. -/
def reqR (s : ByteArray) (u v : Value) (i : Nat) : Value := if i = 0 then .string s else if i = 1 then u else v
theorem reqR_one (s : ByteArray) (u v : Value) (hu : u.oneCell' = true) (hv : v.oneCell' = true) (i : Nat) : (reqR s u v i).oneCell' = true := by
  unfold reqR
  split
  · rfl
  · split
    · exact hu
    · exact hv
def zreq : Array Value := #[.string ⟨#[]⟩, .slice none 0 0, .slice none 0 0]
theorem zreq_at (i : Nat) (hi : i < 3) : zreq[i]? = some (reqR ⟨#[]⟩ (.slice none 0 0) (.slice none 0 0) i) := by
  match i, hi with
  | 0, _ => rfl
  | 1, _ => rfl
  | 2, _ => rfl
theorem lit3_at (s : ByteArray) (u v : Value) (i : Nat) (hi : i < 3) : (#[.string s, u, v] : Array Value)[i]? = some (reqR s u v i) := by
  match i, hi with
  | 0, _ => rfl
  | 1, _ => rfl
  | 2, _ => rfl
def postQ (sb so cv : Nat) (A0 : Option Addr) (m0 c0 : Nat) (a : ByteArray) (A1 : Option Addr) (m1 c1 : Nat) (A2 : Option Addr) (m2 c2 B : Nat) (i : Nat) (v : Value) (w : World) : Prop :=
  match i with
  | 0 => v = .slice (some ⟨sb, so, none⟩) 3 cv
  | 1 => v = .pointer (some ⟨sb, so, none⟩)
  | 2 => v = .slice A0 m0 c0
  | 3 => v = .string a
  | 4 => v = .slice (some ⟨sb, so, none⟩) 3 cv
  | 5 => v = .pointer (some ⟨sb, so + 1, none⟩)
  | 6 => v = .slice A1 m1 c1
  | 7 => v = .slice (some ⟨sb, so, none⟩) 3 cv
  | 8 => v = .pointer (some ⟨sb, so + 2, none⟩)
  | 9 => v = .slice A2 m2 c2
  | 10 => v = .agg #[.string a, .slice A1 m1 c1, .slice A2 m2 c2]
  | 11 => ∃ g, v = .pointer (some ⟨g, 0, none⟩) ∧ w.rowIs g 73 3 (reqR ⟨#[]⟩ (.slice none 0 0) (.slice none 0 0)) ∧ B ≤ g
  | _ => True
theorem postQ_mono (sb so cv : Nat) (A0 : Option Addr) (m0 c0 : Nat) (a : ByteArray) (A1 : Option Addr) (m1 c1 : Nat) (A2 : Option Addr) (m2 c2 B : Nat) : ∀ i v w w', Below w.heap.size w w' → postQ sb so cv A0 m0 c0 a A1 m1 c1 A2 m2 c2 B i v w → postQ sb so cv A0 m0 c0 a A1 m1 c1 A2 m2 c2 B i v w' := fun i v w w' hb h => by
  match i with
  | 0 => exact h
  | 1 => exact h
  | 2 => exact h
  | 3 => exact h
  | 4 => exact h
  | 5 => exact h
  | 6 => exact h
  | 7 => exact h
  | 8 => exact h
  | 9 => exact h
  | 10 => exact h
  | 11 =>
    obtain ⟨g, h1, h2, h3⟩ := h
    exact ⟨g, h1, h2.of_block (hb.block _ (World.rowIs.lt h2)), h3⟩
  | _ + 12 => trivial
theorem fieldM_lt (E : Nat → BitVec 8) (i : Nat) : fieldM E i ≤ 65535 := by
  unfold fieldM lenAt
  have h1 := (E (sp E i)).isLt
  have h2 := (E (sp E i + 1)).isLt
  omega
/-- What requestOf tells: the error, and the three fields. -/
def ReqPost (ks e : Nat → BitVec 8) (m : Nat) (w : World) (x : Ending) (w' : World) : Prop :=
  ∃ s u v, x = .returned (.tuple #[.agg #[.string s, u, v], .int .i64 (reqC ks e m)]) ∧ Below w.heap.size w w' ∧ (reqC ks e m = 0 → s = strOf (fieldE (openB ks e) 0) (fieldM (openB ks e) 0) ∧ nameB s = true ∧ SliceOf w' w'.heap.size 16 (fieldE (openB ks e) 1) u ∧ SliceOf w' w'.heap.size 8 (fieldE (openB ks e) 2) v) ∧ u.oneCell' = true ∧ v.oneCell' = true
set_option maxRecDepth 100000 in
set_option maxHeartbeats 1000000 in
theorem req_any (key e : Nat → BitVec 8) (C : Array Value) (hC : C.size = 16) (hCi : ∀ i, i < 16 → C[i]? = some (.int .u8 ((key i).toNat : Int))) (B : Option Addr) (m d : Nat) (w : World) (hk : Consts w) (hp : SliceOf w w.heap.size m e (.slice B m d)) :
    Calls Tryz.prog 29 #[.agg C, .slice B m d] w (ReqPost (keysB key lNs2) e m w) := by
  obtain ⟨w1, hw1, hr1, hz1, hb1⟩ : ∃ w1, w1 = (w.alloc (.cells C 25)).alloc (.cells #[.string ⟨#[]⟩, .slice none 0 0, .slice none 0 0] 73) ∧ RowB w1 w.heap.size 25 16 key ∧ w1.rowIs (w.heap.size + 1) 73 3 (reqR ⟨#[]⟩ (.slice none 0 0) (.slice none 0 0)) ∧ Below w.heap.size w w1 := by
    have r2 := row_new (w.alloc (.cells C 25)) zreq 73 3 _ rfl zreq_at
    rw [World.size_alloc] at r2
    exact ⟨_, rfl, (row_new w C 25 16 (fun j => .int .u8 ((key j).toNat : Int)) hC hCi).alloc _, r2, ((Below.refl _ _).alloc (Nat.le_refl _) _).alloc (by simp) _⟩
  have hk1 := hk.below hb1 (Nat.le_refl _)
  have hp1 := slice_any (slice_below hp hb1) (Nat.le_refl _)
  have HPA := Lib.hid (fun (C' : Array Value) h1 h2 => parts_any key e lNs2 C' h1 h2 B m d 3 w1 hk1 hp1)
  have HZ1 := Lib.hid hz1
  have HBS : Hid (w.heap.size + 1 < w1.heap.size) := Lib.hid (World.rowIs.lt hz1)
  have HB1 := Lib.hid hb1
  obtain ⟨ks, hks⟩ : ∃ ks, ks = keysB key lNs2 := ⟨_, rfl⟩
  rw [← hks] at HPA ⊢
  clear hCi hC hp hk hk1 hp1 hb1 hz1 hks
  go_enter Tryz.func29, Tryz.ntmps29
  go_upto_region 1 with fail
  rw [← hw1]
  clear hw1
  go_wp2_with (refine load_whole (by rfl) 25 (.tmp 2) (by rfl) _ _ _ _ hr1 (by rfl) _ Tryz.underlying25 rfl (by kernel_rfl) ?_)
  refine (HPA.out _ (size_cellsOf _ _) (cellsOf_at _ _)).mono ?_
  rintro _ w2 ⟨v2, R2, rfl, ho2, hb2⟩
  have HB2 : Hid (Below w.heap.size w w2) := Lib.hid (HB1.out.trans (hb2.mono HB1.out.size))
  have HZ2 := Lib.hid (HZ1.out.of_block (hb2.block _ (World.rowIs.lt HZ1.out)))
  have HRC : Hid (reqC ks e m = if partsC ks e lNs2 m 3 = 0 then (if reqF (openB ks e) = true then 0 else 3) else partsC ks e lNs2 m 3) := Lib.hid rfl
  obtain ⟨pc, hpc⟩ : ∃ pc, pc = partsC ks e lNs2 m 3 := ⟨_, rfl⟩
  have HPC := Lib.hid hpc
  rw [← hpc]
  rw [← hpc] at HRC
  clear HPA hr1 hb2 HZ1 HB1
  by_cases h0 : pc = 0
  · subst h0
    have hK : partsK ks e lNs2 m 3 = 3 := partsK_eq (n := 3) hpc.symm
    rw [hK] at ho2
    obtain ⟨Av, cv, rfl⟩ := ho2.shape
    obtain ⟨sb, so, A0, c0, rfl, p0, s0⟩ := own_parts_at ho2 0 (by omega)
    rw [Nat.add_zero] at p0
    obtain ⟨sb', so', A1, c1, hh, p1, s1⟩ := own_parts_at ho2 1 (by omega)
    simp only [Option.some.injEq, Addr.mk.injEq, and_true] at hh
    obtain ⟨rfl, rfl⟩ := hh
    obtain ⟨sb', so', A2, c2, hh, p2, s2⟩ := own_parts_at ho2 2 (by omega)
    simp only [Option.some.injEq, Addr.mk.injEq, and_true] at hh
    obtain ⟨rfl, rfl⟩ := hh
    rw [if_pos rfl] at HRC
    obtain ⟨E, hE⟩ : ∃ E, E = openB ks e := ⟨_, rfl⟩
    have HE := Lib.hid hE
    rw [← hE] at s0 s1 s2 p0 p1 p2 HRC
    obtain ⟨a, ha⟩ : ∃ a, a = strOf (fieldE E 0) (fieldM E 0) := ⟨_, rfl⟩
    have HA := Lib.hid ha
    have HRF : Hid (reqF E = (nameB a && decide (fieldM E 1 = 16) && decide (fieldM E 2 = 8))) := Lib.hid (by rw [ha]; rfl)
    have hl0 := fieldM_lt E 0
    have hl1 := fieldM_lt E 1
    have hl2 := fieldM_lt E 2
    have hsz : a.size ≤ 65535 := by rw [ha, size_strOf]; exact hl0
    obtain ⟨m0, hm0⟩ : ∃ m, m = fieldM E 0 := ⟨_, rfl⟩
    obtain ⟨m1, hm1⟩ : ∃ m, m = fieldM E 1 := ⟨_, rfl⟩
    obtain ⟨m2, hm2⟩ : ∃ m, m = fieldM E 2 := ⟨_, rfl⟩
    rw [← hm0] at ha p0 s0 hl0
    rw [← hm1] at p1 s1 hl1 HRF
    rw [← hm2] at p2 s2 hl2 HRF
    clear hm0 hm1 hm2 ho2 hE hK
    have M0 : Hid (∀ W, Below w2.heap.size w2 W → W.cell? ⟨sb, so, none⟩ = some (.slice A0 m0 c0) ∧ W.cell? ⟨sb, so + 1, none⟩ = some (.slice A1 m1 c1) ∧ W.cell? ⟨sb, so + 2, none⟩ = some (.slice A2 m2 c2) ∧ (convert 28 9 (.slice A0 m0 c0)).run Tryz.prog W = .ok (.string a) W) := Lib.hid fun W hW => by
      refine ⟨(hW.cell (p := ⟨sb, so, none⟩) (block_lt_of_cell p0)).trans p0, (hW.cell (p := ⟨sb, so + 1, none⟩) (block_lt_of_cell p1)).trans p1, (hW.cell (p := ⟨sb, so + 2, none⟩) (block_lt_of_cell p2)).trans p2, ?_⟩
      rw [ha]
      exact str_run _ _ _ _ _ _ ((s0.below hW).slice (g' := W.heap.size) (.inr (Nat.le_refl _)))
    have S1 := Lib.hid s1
    have S2 := Lib.hid s2
    clear p0 p1 p2 s0 s1 s2 ha hpc
    go_upto_region 4 with fail
    refine region_inv_tail (postQ sb so cv A0 m0 c0 a A1 m1 c1 A2 m2 c2 w2.drew.heap.size) 12 (by kernel_rfl) (by kernel_rfl) (by kernel_rfl) rfl (postQ_mono _ _ _ _ _ _ _ _ _ _ _ _ _ _) ?_ ?_
    · refine ⟨⟨⟨⟨⟨⟨⟨⟨⟨⟨⟨⟨trivial, ?_⟩, ?_⟩, ?_⟩, ?_⟩, ?_⟩, ?_⟩, ?_⟩, ?_⟩, ?_⟩, ?_⟩, ?_⟩, ?_⟩
      · refine ⟨_, rfl, fun xs W hW hd => ?_⟩
        clear hd
        simp only [fillI, List.take, List.setIfInBounds_toArray, List.set_cons_zero, List.set_cons_succ, Nat.reduceAdd, Nat.zero_add]
        go_wp2_with fail
        refine ⟨_, by (simp only [upd, Nat.reduceEqDiff, reduceIte]; rfl), ?_, ?_⟩
        · rfl
        · exact Below.refl _ _
      · refine ⟨_, rfl, fun xs W hW hd => ?_⟩
        have h0 : xs 0 = .slice (some ⟨sb, so, none⟩) 3 cv := hd 0 (by kernel_rfl)
        clear hd
        rw [upd_self h0]
        simp only [fillI, List.take, List.setIfInBounds_toArray, List.set_cons_zero, List.set_cons_succ, Nat.reduceAdd, Nat.zero_add, upd, Nat.reduceEqDiff, reduceIte]
        go_wp2_with fail
        refine ⟨_, by (simp only [upd, Nat.reduceEqDiff, reduceIte]; rfl), ?_, ?_⟩
        · rfl
        · exact Below.refl _ _
      · refine ⟨_, rfl, fun xs W hW hd => ?_⟩
        have h1 : xs 1 = .pointer (some ⟨sb, so, none⟩) := hd 1 (by kernel_rfl)
        have cc := (M0.out W (undrew hW)).1
        clear hd
        rw [upd_self h1]
        simp only [fillI, List.take, List.setIfInBounds_toArray, List.set_cons_zero, List.set_cons_succ, Nat.reduceAdd, Nat.zero_add, upd, Nat.reduceEqDiff, reduceIte]
        go_wp2_with fail
        refine ⟨_, by (simp only [upd, Nat.reduceEqDiff, reduceIte]; rfl), ?_, ?_⟩
        · rfl
        · exact Below.refl _ _
      · refine ⟨_, rfl, fun xs W hW hd => ?_⟩
        have h2 : xs 2 = .slice A0 m0 c0 := hd 2 (by kernel_rfl)
        have ks := (M0.out W (undrew hW)).2.2.2
        clear hd
        rw [upd_self h2]
        simp only [fillI, List.take, List.setIfInBounds_toArray, List.set_cons_zero, List.set_cons_succ, Nat.reduceAdd, Nat.zero_add, upd, Nat.reduceEqDiff, reduceIte]
        go_wp2_with fail
        refine ⟨_, by (simp only [upd, Nat.reduceEqDiff, reduceIte]; rfl), ?_, ?_⟩
        · rfl
        · exact Below.refl _ _
      · refine ⟨_, rfl, fun xs W hW hd => ?_⟩
        clear hd
        simp only [fillI, List.take, List.setIfInBounds_toArray, List.set_cons_zero, List.set_cons_succ, Nat.reduceAdd, Nat.zero_add]
        go_wp2_with fail
        refine ⟨_, by (simp only [upd, Nat.reduceEqDiff, reduceIte]; rfl), ?_, ?_⟩
        · rfl
        · exact Below.refl _ _
      · refine ⟨_, rfl, fun xs W hW hd => ?_⟩
        have h4 : xs 4 = .slice (some ⟨sb, so, none⟩) 3 cv := hd 4 (by kernel_rfl)
        clear hd
        rw [upd_self h4]
        simp only [fillI, List.take, List.setIfInBounds_toArray, List.set_cons_zero, List.set_cons_succ, Nat.reduceAdd, Nat.zero_add, upd, Nat.reduceEqDiff, reduceIte]
        go_wp2_with fail
        refine ⟨_, by (simp only [upd, Nat.reduceEqDiff, reduceIte]; rfl), ?_, ?_⟩
        · rfl
        · exact Below.refl _ _
      · refine ⟨_, rfl, fun xs W hW hd => ?_⟩
        have h5 : xs 5 = .pointer (some ⟨sb, so + 1, none⟩) := hd 5 (by kernel_rfl)
        have cc := (M0.out W (undrew hW)).2.1
        clear hd
        rw [upd_self h5]
        simp only [fillI, List.take, List.setIfInBounds_toArray, List.set_cons_zero, List.set_cons_succ, Nat.reduceAdd, Nat.zero_add, upd, Nat.reduceEqDiff, reduceIte]
        go_wp2_with fail
        refine ⟨_, by (simp only [upd, Nat.reduceEqDiff, reduceIte]; rfl), ?_, ?_⟩
        · rfl
        · exact Below.refl _ _
      · refine ⟨_, rfl, fun xs W hW hd => ?_⟩
        clear hd
        simp only [fillI, List.take, List.setIfInBounds_toArray, List.set_cons_zero, List.set_cons_succ, Nat.reduceAdd, Nat.zero_add]
        go_wp2_with fail
        refine ⟨_, by (simp only [upd, Nat.reduceEqDiff, reduceIte]; rfl), ?_, ?_⟩
        · rfl
        · exact Below.refl _ _
      · refine ⟨_, rfl, fun xs W hW hd => ?_⟩
        have h7 : xs 7 = .slice (some ⟨sb, so, none⟩) 3 cv := hd 7 (by kernel_rfl)
        clear hd
        rw [upd_self h7]
        simp only [fillI, List.take, List.setIfInBounds_toArray, List.set_cons_zero, List.set_cons_succ, Nat.reduceAdd, Nat.zero_add, upd, Nat.reduceEqDiff, reduceIte]
        go_wp2_with fail
        refine ⟨_, by (simp only [upd, Nat.reduceEqDiff, reduceIte]; rfl), ?_, ?_⟩
        · rfl
        · exact Below.refl _ _
      · refine ⟨_, rfl, fun xs W hW hd => ?_⟩
        have h8 : xs 8 = .pointer (some ⟨sb, so + 2, none⟩) := hd 8 (by kernel_rfl)
        have cc := (M0.out W (undrew hW)).2.2.1
        clear hd
        rw [upd_self h8]
        simp only [fillI, List.take, List.setIfInBounds_toArray, List.set_cons_zero, List.set_cons_succ, Nat.reduceAdd, Nat.zero_add, upd, Nat.reduceEqDiff, reduceIte]
        go_wp2_with fail
        refine ⟨_, by (simp only [upd, Nat.reduceEqDiff, reduceIte]; rfl), ?_, ?_⟩
        · rfl
        · exact Below.refl _ _
      · refine ⟨_, rfl, fun xs W hW hd => ?_⟩
        have h3 : xs 3 = .string a := hd 3 (by kernel_rfl)
        have h6 : xs 6 = .slice A1 m1 c1 := hd 6 (by kernel_rfl)
        have h9 : xs 9 = .slice A2 m2 c2 := hd 9 (by kernel_rfl)
        clear hd
        rw [upd_self h3]
        rw [upd_self h6]
        rw [upd_self h9]
        simp only [fillI, List.take, List.setIfInBounds_toArray, List.set_cons_zero, List.set_cons_succ, Nat.reduceAdd, Nat.zero_add, upd, Nat.reduceEqDiff, reduceIte]
        go_wp2_with fail
        refine ⟨_, by (simp only [upd, Nat.reduceEqDiff, reduceIte]; rfl), ?_, ?_⟩
        · rfl
        · exact Below.refl _ _
      · refine ⟨_, rfl, fun xs W hW hd => ?_⟩
        clear hd
        simp only [fillI, List.take, List.setIfInBounds_toArray, List.set_cons_zero, List.set_cons_succ, Nat.reduceAdd, Nat.zero_add]
        go_wp2_with fail
        refine ⟨_, by (simp only [upd, Nat.reduceEqDiff, reduceIte]; rfl), ?_, ?_⟩
        · exact ⟨_, rfl, row_new W _ 73 3 _ (by rfl) zreq_at, hW.size⟩
        · exact (Below.refl _ _).alloc (Nat.le_refl _) _
    intro xs W hW hp
    have h10 : xs 10 = .agg #[.string a, .slice A1 m1 c1, .slice A2 m2 c2] := hp 10 (by omega)
    obtain ⟨g, h11, hrow, hg⟩ : ∃ g, xs 11 = .pointer (some ⟨g, 0, none⟩) ∧ W.rowIs g 73 3 (reqR ⟨#[]⟩ (.slice none 0 0) (.slice none 0 0)) ∧ w2.drew.heap.size ≤ g := hp 11 (by omega)
    have hbW := undrew hW
    have HBW : Hid (Below w.heap.size w W) := Lib.hid (HB2.out.trans (hbW.mono HB2.out.size))
    have HZW := Lib.hid (HZ2.out.of_block (hbW.block _ (World.rowIs.lt HZ2.out)))
    have SW1 := Lib.hid ((S1.out.below hbW))
    have SW2 := Lib.hid ((S2.out.below hbW))
    have HG : Hid (w.heap.size + 1 < g ∧ w2.heap.size ≤ g ∧ Below w2.heap.size w2 W) := Lib.hid ⟨by have h1 := World.rowIs.lt HZ2.out; have h2 : w2.heap.size ≤ g := hg; omega, hg, hbW⟩
    rw [upd_self h10, upd_self h11]
    simp only [fillI, List.take, List.setIfInBounds_toArray, List.set_cons_zero, List.set_cons_succ, Nat.reduceAdd, Nat.zero_add, upd, Nat.reduceEqDiff, reduceIte]
    clear hp hW hg h10 h11
    generalize xs 0 = y0 at *
    generalize xs 1 = y1 at *
    generalize xs 2 = y2 at *
    generalize xs 3 = y3 at *
    generalize xs 4 = y4 at *
    generalize xs 5 = y5 at *
    generalize xs 6 = y6 at *
    generalize xs 7 = y7 at *
    generalize xs 8 = y8 at *
    generalize xs 9 = y9 at *
    clear xs
    refine store_whole (by rfl) 73 (.tmp 8) (.tmp 33) (by rfl) g _ 3 _ (reqR a (.slice A1 m1 c1) (.slice A2 m2 c2)) hrow (by rfl) _ (by rfl) (by kernel_rfl) (by rfl) (lit3_at _ _ _) (fun i _ => reqR_one _ _ _ rfl rfl i) ?_
    intro w3 hr3 ho3
    have hb3 : Below w2.heap.size w2 w3 := ho3.below HG.out.2.2 HG.out.2.1
    have HB3 : Hid (Below w.heap.size w w3) := Lib.hid (HB2.out.trans (hb3.mono HB2.out.size))
    have HZ3 := Lib.hid (HZ2.out.of_block (hb3.block _ (World.rowIs.lt HZ2.out)))
    have S13 := Lib.hid ((S1.out.below hb3))
    have S23 := Lib.hid ((S2.out.below hb3))
    have HR3 := Lib.hid hr3
    clear hrow hbW HBW HZW SW1 SW2 HG ho3 hb3 hr3 S1 S2 HB2 HZ2 M0
    refine NoPanic.normal ?_
    obtain ⟨CW, hCW, zCW, iCW⟩ := cells_named 16 (fun j => .int .u8 ((wordE m1 (fieldE E 1) j).toNat : Int)) (wordE m1 (fieldE E 1)) (fun _ _ => rfl)
    have HWD := Lib.hid (word_own A1 c1 m1 (fieldE E 1) w3 (by omega) (S13.out.slice (.inr (Nat.le_refl _))))
    rw [show wordV (wordE m1 (fieldE E 1)) = .agg CW from congrArg Value.agg hCW] at HWD
    clear hCW
    obtain ⟨wc, hwc⟩ : ∃ c, c = wordC m1 := ⟨_, rfl⟩
    rw [← hwc] at HWD
    have HWC := Lib.hid hwc
    clear hwc
    have d1 := HR3.out.cell (i := 1) (by omega)
    rw [show reqR a (.slice A1 m1 c1) (.slice A2 m2 c2) 1 = .slice A1 m1 c1 from rfl] at d1
    go_wp2_with fail
    refine HWD.out.mono ?_
    rintro _ w4 ⟨rfl, hb4⟩
    have HB4 : Hid (Below w.heap.size w w4) := Lib.hid (HB3.out.trans (hb4.mono HB3.out.size))
    have HZ4 := Lib.hid (HZ3.out.of_block (hb4.block _ (World.rowIs.lt HZ3.out)))
    have S14 := Lib.hid ((S13.out.below hb4))
    have S24 := Lib.hid ((S23.out.below hb4))
    have HR4 := Lib.hid (HR3.out.of_block (hb4.block _ (World.rowIs.lt HR3.out)))
    clear d1 HWD hb4 HB3 HZ3 S13 S23 HR3
    go_upto_region 6 with (refine store_whole (by rfl) 25 (.tmp 9) (.tmp 38) (by rfl) w4.heap.size _ 16 (fun _ => .int .u8 0) (fun j => .int .u8 ((wordE m1 (fieldE E 1) j).toNat : Int)) (by exact row_new w4 _ _ 16 _ (by rfl) (zero16 _ (by rfl))) (by rfl) _ (by rfl) (by kernel_rfl) zCW iCW (fun _ _ => rfl) ?_; intro w5 hr5 ho5)
    have hb5 : Below w4.heap.size w4 w5 := ho5.below ((Below.refl w4.heap.size w4).alloc (Nat.le_refl _) (.cells (Array.replicate 16 (.int .u8 0)) 25)) (Nat.le_refl _)
    have HB5 : Hid (Below w.heap.size w w5) := Lib.hid (HB4.out.trans (hb5.mono HB4.out.size))
    have HZ5 := Lib.hid (HZ4.out.of_block (hb5.block _ (World.rowIs.lt HZ4.out)))
    have S15 := Lib.hid ((S14.out.below hb5))
    have S25 := Lib.hid ((S24.out.below hb5))
    have HR5 := Lib.hid (HR4.out.of_block (hb5.block _ (World.rowIs.lt HR4.out)))
    have HTK := Lib.hid (take_own A2 c2 m2 (fieldE E 2) w5 (by omega) (S25.out.slice (.inr (Nat.le_refl _))))
    obtain ⟨tv, htv⟩ : ∃ c, c = takeV (fieldE E 2) m2 := ⟨_, rfl⟩
    obtain ⟨tc, htc⟩ : ∃ c, c = takeC m2 := ⟨_, rfl⟩
    rw [← htv, ← htc] at HTK
    have HTC := Lib.hid htc
    clear htc
    have d2 := HR5.out.cell (i := 2) (by omega)
    rw [show reqR a (.slice A1 m1 c1) (.slice A2 m2 c2) 2 = .slice A2 m2 c2 from rfl] at d2
    have HNA := Lib.hid (fun W => name_own a W (by omega))
    clear hb5 hr5 ho5 HB4 HZ4 S14 S24 HR4 htv
    generalize w4.heap.size = g9 at *
    go_wp2_with fail
    refine HTK.out.mono ?_
    rintro _ w6 ⟨rfl, hb6⟩
    have HB6 : Hid (Below w.heap.size w w6) := Lib.hid (HB5.out.trans (hb6.mono HB5.out.size))
    have HZ6 := Lib.hid (HZ5.out.of_block (hb6.block _ (World.rowIs.lt HZ5.out)))
    have S16 := Lib.hid ((S15.out.below hb6))
    have S26 := Lib.hid ((S25.out.below hb6))
    have HR6 := Lib.hid (HR5.out.of_block (hb6.block _ (World.rowIs.lt HR5.out)))
    clear d2 hb6 HTK HB5 HZ5 S15 S25 HR5
    have d0 := HR6.out.cell (i := 0) (by omega)
    rw [show reqR a (.slice A1 m1 c1) (.slice A2 m2 c2) 0 = .string a from rfl] at d0
    obtain ⟨nb, hnb⟩ : ∃ c, c = nameB a := ⟨_, rfl⟩
    rw [← hnb] at HNA HRF
    have HNB := Lib.hid hnb
    clear hnb
    go_wp2_with fail
    refine (HNA.out _).mono ?_
    rintro _ w7 ⟨rfl, hb7⟩
    have HB7 : Hid (Below w.heap.size w w7) := Lib.hid (HB6.out.trans (hb7.mono HB6.out.size))
    have HZ7 := Lib.hid (HZ6.out.of_block (hb7.block _ (World.rowIs.lt HZ6.out)))
    have S17 := Lib.hid ((S16.out.below hb7))
    have S27 := Lib.hid ((S26.out.below hb7))
    have HR7 := Lib.hid (HR6.out.of_block (hb7.block _ (World.rowIs.lt HR6.out)))
    clear d0 hb7 HNA HB6 HZ6 S16 S26 HR6
    by_cases hok : nb = true ∧ m1 = 16 ∧ m2 = 8
    · obtain ⟨rfl, rfl, rfl⟩ := hok
      have e1 : wc = 0 := by rw [HWC.out]; rfl
      have e2 : tc = 0 := by rw [HTC.out]; rfl
      subst e1 e2
      go_wp2_with (first
        | (refine load_whole_met (by rfl) 73 (.tmp 8) (by rfl) g _ 3 _ HR7.out (by rfl) _ Tryz.underlying73 (by rfl) (by kernel_rfl) ?_)
        | (refine store_whole (by rfl) 73 (.tmp 4) (.tmp 59) (by rfl) (w.heap.size + 1) _ 3 _ (reqR a (.slice A1 16 c1) (.slice A2 8 c2)) HZ7.out (by rfl) _ (by rfl) (by kernel_rfl) (size_cellsOf _ _) (cellsOf_at _ _) (fun i _ => reqR_one _ _ _ rfl rfl i) ?_; intro w8 hr8 ho8))
      refine bodyPost_ret (results_row_tmp rfl _ (w.heap.size + 1) _ 3 _ _ rfl hr8 Tryz.underlying73 (by rfl) (by kernel_rfl)) rfl ?_
      have hb8 := ho8.below HB7.out (Nat.le_succ _)
      have hrc : reqC ks e m = 0 := by rw [HRC.out, if_pos]; rw [HRF.out]; rfl
      refine ⟨a, _, _, by rw [hrc]; rfl, hb8, fun _ => ⟨by rw [HA.out, HE.out], HNB.out.symm, ?_, ?_⟩, rfl, rfl⟩
      · rw [← HE.out]
        exact (S17.out.keep (fun b hb => ho8.block b (by have := (S17.out.lt hb).1; have := HBS.out; omega))).slice (.inr (Nat.le_refl _))
      · rw [← HE.out]
        exact (S27.out.keep (fun b hb => ho8.block b (by have := (S27.out.lt hb).1; have := HBS.out; omega))).slice (.inr (Nat.le_refl _))
    · have hq : nb = false ∨ (nb = true ∧ wc ≠ 0) ∨ (nb = true ∧ wc = 0 ∧ tc ≠ 0) := by
        cases nb with
        | false => exact .inl rfl
        | true =>
          by_cases h1 : m1 = 16
          · refine .inr (.inr ⟨rfl, by rw [HWC.out, h1]; rfl, ?_⟩)
            rw [HTC.out]
            unfold takeC
            rw [if_neg (fun h2 => hok ⟨rfl, h1, h2⟩)]
            decide
          · refine .inr (.inl ⟨rfl, ?_⟩)
            rw [HWC.out]
            unfold wordC
            rw [if_neg h1]
            decide
      have hrf : reqF E = false := by
        cases hr : reqF E with
        | false => rfl
        | true =>
          rw [HRF.out] at hr
          simp only [Bool.and_eq_true, decide_eq_true_eq] at hr
          exact absurd ⟨hr.1.1, hr.1.2, hr.2⟩ hok
      have hrc : reqC ks e m = 3 := by rw [HRC.out, hrf]; rfl
      have HRC3 := Lib.hid hrc
      clear hok hrf hrc
      rcases hq with h1 | ⟨h1, h2⟩ | ⟨h1, h2, h3⟩
      · subst h1
        go_wp2_with (refine store_whole (by rfl) 73 (.tmp 4) (.tmp 58) (by rfl) (w.heap.size + 1) _ 3 _ (reqR ⟨#[]⟩ (.slice none 0 0) (.slice none 0 0)) HZ7.out (by rfl) _ (by rfl) (by kernel_rfl) (by rfl) (lit3_at _ _ _) (fun i _ => reqR_one _ _ _ rfl rfl i) ?_; intro w8 hr8 ho8)
        refine bodyPost_ret (results_row_tmp rfl _ (w.heap.size + 1) _ 3 _ _ rfl hr8 Tryz.underlying73 (by rfl) (by kernel_rfl)) rfl ?_
        refine ⟨⟨#[]⟩, .slice none 0 0, .slice none 0 0, by rw [HRC3.out]; rfl, ho8.below HB7.out (Nat.le_succ _), fun h => ?_, rfl, rfl⟩
        rw [HRC3.out] at h
        cases h
      · subst h1
        have q : (wc == 0) = false := by simpa using h2
        have qn : (wc != 0) = true := by simpa using h2
        clear h2 HWC
        go_wp2_with (refine store_whole (by rfl) 73 (.tmp 4) (.tmp 58) (by rfl) (w.heap.size + 1) _ 3 _ (reqR ⟨#[]⟩ (.slice none 0 0) (.slice none 0 0)) HZ7.out (by rfl) _ (by rfl) (by kernel_rfl) (by rfl) (lit3_at _ _ _) (fun i _ => reqR_one _ _ _ rfl rfl i) ?_; intro w8 hr8 ho8)
        refine bodyPost_ret (results_row_tmp rfl _ (w.heap.size + 1) _ 3 _ _ rfl hr8 Tryz.underlying73 (by rfl) (by kernel_rfl)) rfl ?_
        refine ⟨⟨#[]⟩, .slice none 0 0, .slice none 0 0, by rw [HRC3.out]; rfl, ho8.below HB7.out (Nat.le_succ _), fun h => ?_, rfl, rfl⟩
        rw [HRC3.out] at h
        cases h
      · subst h1 h2
        have q : (tc == 0) = false := by simpa using h3
        have qn : (tc != 0) = true := by simpa using h3
        clear h3 HTC HWC
        go_wp2_with (refine store_whole (by rfl) 73 (.tmp 4) (.tmp 58) (by rfl) (w.heap.size + 1) _ 3 _ (reqR ⟨#[]⟩ (.slice none 0 0) (.slice none 0 0)) HZ7.out (by rfl) _ (by rfl) (by kernel_rfl) (by rfl) (lit3_at _ _ _) (fun i _ => reqR_one _ _ _ rfl rfl i) ?_; intro w8 hr8 ho8)
        refine bodyPost_ret (results_row_tmp rfl _ (w.heap.size + 1) _ 3 _ _ rfl hr8 Tryz.underlying73 (by rfl) (by kernel_rfl)) rfl ?_
        refine ⟨⟨#[]⟩, .slice none 0 0, .slice none 0 0, by rw [HRC3.out]; rfl, ho8.below HB7.out (Nat.le_succ _), fun h => ?_, rfl, rfl⟩
        rw [HRC3.out] at h
        cases h
  · have hrc : reqC ks e m = pc := by rw [HRC.out, if_neg h0]
    have HRC3 := Lib.hid hrc
    have q : (pc == 0) = false := by simpa using h0
    have q0 := h0
    clear hrc ho2 hpc h0 HRC
    go_wp2_with (refine store_whole (by rfl) 73 (.tmp 4) (.tmp 21) (by rfl) (w.heap.size + 1) _ 3 _ (reqR ⟨#[]⟩ (.slice none 0 0) (.slice none 0 0)) HZ2.out (by rfl) _ (by rfl) (by kernel_rfl) (by rfl) (lit3_at _ _ _) (fun i _ => reqR_one _ _ _ rfl rfl i) ?_; intro w8 hr8 ho8)
    refine bodyPost_ret (results_row_tmp rfl _ (w.heap.size + 1) _ 3 _ _ rfl hr8 Tryz.underlying73 (by rfl) (by kernel_rfl)) rfl ?_
    exact ⟨⟨#[]⟩, .slice none 0 0, .slice none 0 0, by rw [HRC3.out]; rfl, ho8.below HB2.out (Nat.le_succ _), fun h => absurd (HRC3.out.symm.trans h) q0, rfl, rfl⟩
end Go.Proofs.YtnkjoambhmlnbaaGreatDoor.Kdc
namespace Go.Proofs.YtnkjoambhmlnbaaGreatDoor.Kdc
open Go Go.RowKit Go.Proofs.YtnkjoambhmlnbaaGreatDoor.Aid Go.Proofs.YtnkjoambhmlnbaaGreatDoor.Sha Go.Proofs.YtnkjoambhmlnbaaGreatDoor.Law01 Go.Proofs.YtnkjoambhmlnbaaGreatDoor.Field Go.Proofs.YtnkjoambhmlnbaaGreatDoor.Law05
open Go.Proofs.YtnkjoambhmlnbaaGreatDoor.Seal (keysB formB openB okB)
open Go.Proofs.YtnkjoambhmlnbaaGreatDoor.Aes (RowB)
open Go.Proofs.YtnkjoambhmlnbaaGreatDoor.Note (NoteP noteF noteV NoteAt zeroCells zeroCells_eq)
open Go.Proofs.YtnkjoambhmlnbaaGreatDoor.Book (Bk Wd keyB hasN BookIs bookF bookV wordF)


abbrev nilV : Value := .slice none 0 0
structure AnsSt (tb tn : TypeId) (b : Bk) (N : NoteP) (D : Nat → BitVec 8) (P Q R Lv Rv : Value) (w W : World) : Prop where
  bk : W.rowIs w.heap.size tb 19 (bookF b Lv Rv)
  nt : W.rowIs (w.heap.size + 1) tn 38 (noteF N P Q R)
  dr : W.rowIs (w.heap.size + 1 + 1) 31 48 (byteF D)
  zr : W.rowIs (w.heap.size + 1 + 1 + 1) tn 38 (noteF zeroN nilV nilV nilV)
  is_ : BookIs W b Lv Rv
  at_ : NoteAt W N P Q R
  hk : Consts W
  hb : Below w.heap.size w W
theorem AnsSt.step {tb tn : TypeId} {b : Bk} {N : NoteP} {D : Nat → BitVec 8} {P Q R Lv Rv : Value} {w W W' : World} (h : AnsSt tb tn b N D P Q R Lv Rv w W) (hb : Below W.heap.size W W') : AnsSt tb tn b N D P Q R Lv Rv w W' :=
  ⟨h.bk.of_block (hb.block _ (World.rowIs.lt h.bk)), h.nt.of_block (hb.block _ (World.rowIs.lt h.nt)), h.dr.of_block (hb.block _ (World.rowIs.lt h.dr)), h.zr.of_block (hb.block _ (World.rowIs.lt h.zr)), h.is_.below hb, h.at_.below hb, h.hk.below hb (Nat.le_refl _), h.hb.trans (hb.mono h.hb.size)⟩
theorem zero_note_at : ∀ i, i < 38 → (zeroCells 0)[i]? = some (noteF zeroN nilV nilV nilV i) := fun i hi => by
  rw [zeroCells_eq, cellsOf_at _ _ i hi]
  rfl
theorem ans_new (tb tn : TypeId) (b : Bk) (N : NoteP) (D : Nat → BitVec 8) (P Q R Lv Rv : Value) (CD : Array Value) (hCD : CD.size = 48) (hCDi : ∀ i, i < 48 → CD[i]? = some (.int .u8 ((D i).toNat : Int))) (w : World) (hk : Consts w) (hb : BookIs w b Lv Rv) (hn : NoteAt w N P Q R) :
    ∃ W, W = (((w.alloc (.cells (cellsOf 19 (bookF b Lv Rv)) tb)).alloc (.cells (cellsOf 38 (noteF N P Q R)) tn)).alloc (.cells CD 31)).alloc (.cells (zeroCells 0) tn) ∧ AnsSt tb tn b N D P Q R Lv Rv w W := by
  have r1 := row_new w (cellsOf 19 (bookF b Lv Rv)) tb 19 _ (size_cellsOf _ _) (cellsOf_at _ _)
  have b1 : Below w.heap.size w (w.alloc (.cells (cellsOf 19 (bookF b Lv Rv)) tb)) := (Below.refl _ _).alloc (Nat.le_refl _) _
  have s1 : (w.alloc (.cells (cellsOf 19 (bookF b Lv Rv)) tb)).heap.size = w.heap.size + 1 := by simp
  generalize w.alloc (.cells (cellsOf 19 (bookF b Lv Rv)) tb) = w1 at *
  have r2 := row_new w1 (cellsOf 38 (noteF N P Q R)) tn 38 _ (size_cellsOf _ _) (cellsOf_at _ _)
  have b2 : Below w1.heap.size w1 (w1.alloc (.cells (cellsOf 38 (noteF N P Q R)) tn)) := (Below.refl _ _).alloc (Nat.le_refl _) _
  have s2 : (w1.alloc (.cells (cellsOf 38 (noteF N P Q R)) tn)).heap.size = w1.heap.size + 1 := by simp
  generalize w1.alloc (.cells (cellsOf 38 (noteF N P Q R)) tn) = w2 at *
  have r3 := row_new w2 CD 31 48 (byteF D) hCD hCDi
  have b3 : Below w2.heap.size w2 (w2.alloc (.cells CD 31)) := (Below.refl _ _).alloc (Nat.le_refl _) _
  have s3 : (w2.alloc (.cells CD 31)).heap.size = w2.heap.size + 1 := by simp
  generalize w2.alloc (.cells CD 31) = w3 at *
  have r4 := row_new w3 (zeroCells 0) tn 38 _ (by rfl) zero_note_at
  have b4 : Below w3.heap.size w3 (w3.alloc (.cells (zeroCells 0) tn)) := (Below.refl _ _).alloc (Nat.le_refl _) _
  generalize w3.alloc (.cells (zeroCells 0) tn) = w4 at *
  have b34 := b3.trans (b4.mono b3.size)
  have b24 := b2.trans (b34.mono b2.size)
  have b14 := b1.trans (b24.mono b1.size)
  rw [s3, s2, s1] at r4
  rw [s2, s1] at r3
  rw [s1] at r2
  exact ⟨w4, rfl, r1.of_block (b24.block _ (World.rowIs.lt r1)), r2.of_block (b34.block _ (World.rowIs.lt r2)), r3.of_block (b4.block _ (World.rowIs.lt r3)), r4, hb.below b14, hn.below b14, hk.below b14 (Nat.le_refl _), b14⟩
/-- What is answered: to whom, what, the error. -/
def AnsPost (nm : ByteArray) (M : NoteP) (c : Int) (w : World) (x : Ending) (w' : World) : Prop :=
  ∃ P Q R, x = .returned (.tuple #[.string nm, noteV M P Q R, .int .i64 c]) ∧ NoteAt w' M P Q R ∧ Below w.heap.size w w'
theorem ans_none (c : Int) (w : World) (x : Ending) (w' : World) (hx : x = .returned (.tuple #[.string ⟨#[]⟩, noteV zeroN nilV nilV nilV, .int .i64 c])) (hb : Below w.heap.size w w') : AnsPost ⟨#[]⟩ zeroN c w x w' :=
  ⟨nilV, nilV, nilV, hx, nil_at _ _ rfl rfl rfl, hb⟩
theorem note_cells_one (N : NoteP) (P Q R : Value) (hp : P.oneCell' = true) (hq : Q.oneCell' = true) (hr : R.oneCell' = true) : ∀ i, i < 38 → (noteF N P Q R i).oneCell' = true := fun i _ => Note.noteF_one _ _ _ _ hp hq hr i
/-- More bytes than a row has cells lie elsewhere: a store into the row leaves them. -/
theorem slice_past {w w' : World} {z t m n : Nat} {f : Nat → Value} {e : Nat → BitVec 8} {v : Value} (h : SliceOf w w.heap.size n e v) (hr : w.rowIs z t m f) (hn : m < n) (ho : Only z w w') : SliceOf w' w'.heap.size n e v := by
  have h1 : SliceOf w z n e v := by
    obtain ⟨A, c, hv, hc, hs⟩ := h
    refine ⟨A, c, hv, hc, fun h0 => ?_⟩
    obtain ⟨sb, so, hA, _, hcell⟩ := hs h0
    refine ⟨sb, so, hA, fun hsz => ?_, hcell⟩
    subst hsz
    have h2 := hcell (n - 1) (by omega)
    rw [cell_of_row w sb (so + (n - 1)) _ _ _ (row_heap hr), Array.getElem?_eq_none (by rw [size_cellsOf]; omega)] at h2
    cases h2
  exact slice_any (h1.keep (fun b _ hne => ho.block b hne)) (Nat.le_refl _)
theorem blob_big (l : List (Nat × (Nat → BitVec 8))) : 38 < blobN l := by unfold blobN; omega
theorem off4 (a b c d : Nat) (x y z u : Nat → BitVec 8) : off (fldM [(a, x), (b, y), (c, z), (d, u)]) 4 = a + b + c + d := by
  show 0 + a + b + c + d = _
  omega
theorem off3 (a b c : Nat) (x y z : Nat → BitVec 8) : off (fldM [(a, x), (b, y), (c, z)]) 3 = a + b + c := by
  show 0 + a + b + c = _
  omega
theorem blob_len' (s : ByteArray) (l : List (Nat × (Nat → BitVec 8))) (hs : 1 ≤ s.size ∧ s.size ≤ 40) (hl : l.length ≤ 4) (h : off (fldM l) l.length ≤ 200) : putB l.length (fldM l) = true ∧ encN (fldM l) l.length ≤ 1000 ∧ sealedN s l.length (fldM l) = blobN l := by
  have h1 : putB l.length (fldM l) = true := putB_of (by omega) (fun i hi => by have := off_ge (fldM l) hi; omega)
  have h2 : encN (fldM l) l.length ≤ 1000 := by unfold encN; rw [off_m2]; omega
  exact ⟨h1, h2, sealed_len h1 hs h2⟩
/-- A short list of fields is never refused. -/
theorem blob_len (s : ByteArray) (l : List (Nat × (Nat → BitVec 8))) (hs : s.size = 3) (hl : l.length ≤ 4) (h : off (fldM l) l.length ≤ 200) : putB l.length (fldM l) = true ∧ encN (fldM l) l.length ≤ 1000 ∧ sealedN s l.length (fldM l) = blobN l := blob_len' s l (by omega) hl h
end Go.Proofs.YtnkjoambhmlnbaaGreatDoor.Kdc
namespace Go.Proofs.YtnkjoambhmlnbaaGreatDoor.Kdc
open Go Go.RowKit Go.Proofs.YtnkjoambhmlnbaaGreatDoor.Aid Go.Proofs.YtnkjoambhmlnbaaGreatDoor.Sha Go.Proofs.YtnkjoambhmlnbaaGreatDoor.Law01 Go.Proofs.YtnkjoambhmlnbaaGreatDoor.Field Go.Proofs.YtnkjoambhmlnbaaGreatDoor.Law05
open Go.Proofs.YtnkjoambhmlnbaaGreatDoor.Seal (keysB formB openB okB)
open Go.Proofs.YtnkjoambhmlnbaaGreatDoor.Aes (RowB)
open Go.Proofs.YtnkjoambhmlnbaaGreatDoor.Note (NoteP noteF noteV NoteAt zeroCells zeroCells_eq)
open Go.Proofs.YtnkjoambhmlnbaaGreatDoor.Book (Bk Wd keyB hasN BookIs bookF bookV wordF)

def zprin : Array Value := #[.string ⟨#[]⟩, .int .u8 0, .int .u8 0, .int .u8 0, .int .u8 0, .int .u8 0, .int .u8 0, .int .u8 0, .int .u8 0, .int .u8 0, .int .u8 0, .int .u8 0, .int .u8 0, .int .u8 0, .int .u8 0, .int .u8 0, .int .u8 0, .string ⟨#[]⟩, Value.nilFunc]
theorem zprin_at (i : Nat) (hi : i < 19) : zprin[i]? = some (prinF ⟨#[]⟩ (fun _ => 0) ⟨#[]⟩ Value.nilFunc i) := by
  rw [show zprin = cellsOf 19 (prinF ⟨#[]⟩ (fun _ => 0) ⟨#[]⟩ Value.nilFunc) from rfl]
  exact cellsOf_at _ _ i hi
theorem prinF_one (n : ByteArray) (k : Nat → BitVec 8) (l : ByteArray) (F : Value) (hF : F.oneCell' = true) (i : Nat) : (prinF n k l F i).oneCell' = true := by
  unfold prinF
  split
  · rfl
  · split
    · rfl
    · split
      · rfl
      · exact hF
def nsTo (b : Bk) (N : NoteP) : ByteArray := if nsC b N = 0 then nsA b N else ⟨#[]⟩
def nsM (b : Bk) (N : NoteP) (D : Nat → BitVec 8) : NoteP := if nsC b N = 0 then nsN b N D (fun j => D (16 + j)) (fun j => D (32 + j)) else zeroN
theorem ns_err {b : Bk} {N : NoteP} {D : Nat → BitVec 8} {c : Int} (hc : nsC b N = c) (h0 : c ≠ 0) {w : World} {x : Ending} {w' : World} (hx : x = .returned (.tuple #[.string ⟨#[]⟩, noteV zeroN nilV nilV nilV, .int .i64 c])) (hb : Below w.heap.size w w') : AnsPost (nsTo b N) (nsM b N D) (nsC b N) w x w' := by
  unfold nsTo nsM
  rw [hc, if_neg h0, if_neg h0]
  exact ans_none c w x w' hx hb
set_option maxRecDepth 100000 in
set_option maxHeartbeats 1000000 in
theorem answerNS_any (b : Bk) (N : NoteP) (D : Nat → BitVec 8) (P Q R Lv Rv : Value) (CD : Array Value) (hCD : CD.size = 48) (hCDi : ∀ i, i < 48 → CD[i]? = some (.int .u8 ((D i).toNat : Int))) (w : World) (hk : Consts w) (hb : BookIs w b Lv Rv) (hn : NoteAt w N P Q R) (hB : N.b.size ≤ 20) :
    Calls Tryz.prog 15 #[bookV b Lv Rv, noteV N P Q R, .agg CD] w (AnsPost (nsTo b N) (nsM b N D) (nsC b N) w) := by
  obtain ⟨W, hW, h0⟩ := ans_new 27 30 b N D P Q R Lv Rv CD hCD hCDi w hk hb hn
  have HKEY := Lib.hid (fun (n : ByteArray) (W : World) (h : BookIs W b Lv Rv) => Book.key_any b Lv Rv h.ents h.few.1 n)
  have H0 := Lib.hid h0
  have HB := Lib.hid hB
  have hp1 : ∃ A c, P = .slice A N.pn c := slice_shape hn.p
  obtain ⟨AP, cP, hP⟩ := hp1
  clear hCD hCDi hk hb hn h0 hB
  unfold bookV noteV
  unfold bookV Book.wordV at HKEY
  obtain ⟨CB, hCB⟩ : ∃ C, C = cellsOf 19 (bookF b Lv Rv) := ⟨_, rfl⟩
  obtain ⟨CN, hCN⟩ : ∃ C, C = cellsOf 38 (noteF N P Q R) := ⟨_, rfl⟩
  rw [← hCB, ← hCN] at hW ⊢
  rw [← hCB] at HKEY
  have HCB := Lib.hid hCB.symm
  clear hCB hCN
  go_enter Tryz.func15, Tryz.ntmps15
  go_upto_region 1 with fail
  rw [show (#[.int .i64 0, .string ⟨#[]⟩, .string ⟨#[]⟩, .int .u8 0, .int .u8 0, .int .u8 0, .int .u8 0, .int .u8 0, .int .u8 0, .int .u8 0, .int .u8 0, .int .u8 0, .int .u8 0, .int .u8 0, .int .u8 0, .int .u8 0, .int .u8 0, .int .u8 0, .int .u8 0, .int .u8 0, .int .u8 0, .int .u8 0, .int .u8 0, .int .u8 0, .int .u8 0, .int .u8 0, .int .u8 0, .int .u8 0, .int .u8 0, .int .u8 0, .int .u8 0, .int .u8 0, .int .u8 0, .int .u8 0, .int .u8 0, .slice none 0 0, .slice none 0 0, .slice none 0 0] : Array Value) = zeroCells 0 from rfl, ← hW]
  clear hW
  have d2 := H0.out.nt.cell (i := 2) (by omega)
  rw [show noteF N P Q R 2 = .string N.b from rfl] at d2
  have r0 := H0.out.bk
  go_wp2_with (refine load_as (by rfl) 27 (.tmp 3) (by rfl) w.heap.size 0 _ 19 19 _ CB ((cells_zero _ _).trans HCB.out) r0 (by rfl) _ Tryz.underlying27 (by rfl) (by kernel_rfl) (by omega) ?_)
  refine (HKEY.out N.b W H0.out.is_).mono ?_
  rintro _ w1 ⟨rfl, hb1⟩
  have H1 := Lib.hid (H0.out.step hb1)
  clear d2 r0 hb1 H0
  obtain ⟨K2, hK2, zK2, iK2⟩ := cells_named 16 (wordF (keyB N.b b.L)) (keyF (keyB N.b b.L)) (fun _ _ => rfl)
  rw [hK2]
  clear hK2
  go_upto_region 2 with (refine store_whole (by rfl) 25 (.tmp 9) (.tmp 23) (by rfl) w1.heap.size _ 16 (fun _ => .int .u8 0) (byteF (keyF (keyB N.b b.L))) (by exact row_new w1 _ _ 16 _ (by rfl) (zero16 _ (by rfl))) (by rfl) _ (by rfl) (by kernel_rfl) zK2 iK2 (fun _ _ => rfl) ?_; intro w2 hr2 ho2)
  have hb2 : Below w1.heap.size w1 w2 := ho2.below ((Below.refl w1.heap.size w1).alloc (Nat.le_refl _) (.cells (Array.replicate 16 (.int .u8 0)) 25)) (Nat.le_refl _)
  have H2 := Lib.hid (H1.out.step hb2)
  have HR2 := Lib.hid hr2
  have HG9 : Hid (w1.heap.size < w2.heap.size) := Lib.hid (World.rowIs.lt hr2)
  clear ho2 hb2 hr2 H1
  generalize w1.heap.size = g9 at *
  cases hh : hasN b.L N.b with
  | false =>
    have HC : Hid (nsC b N = 4) := Lib.hid (by unfold nsC; rw [if_pos hh])
    clear hh
    go_wp2_with fail
    refine (refused_any 4 _).mono ?_
    rintro _ w8 ⟨rfl, hb8⟩
    have H8 := Lib.hid (H2.out.step hb8)
    have hz8 := H8.out.zr
    clear hb8
    go_wp2_with (refine store_whole (by rfl) 30 (.tmp 7) (.tmp 29) (by rfl) (w.heap.size + 1 + 1 + 1) _ 38 _ (noteF zeroN nilV nilV nilV) hz8 (by rfl) _ (by rfl) (by kernel_rfl) (size_cellsOf _ _) (cellsOf_at _ _) (note_cells_one _ _ _ _ rfl rfl rfl) ?_; intro w9 hr9 ho9)
    refine bodyPost_ret (results_mid rfl _ (w.heap.size + 1 + 1 + 1) _ 38 _ _ rfl hr9 Tryz.underlying30 (by rfl) (by kernel_rfl)) rfl ?_
    have hb9 := ho9.below H8.out.hb (by omega)
    exact ns_err HC.out (by decide) rfl hb9
  | true =>
    have HH := Lib.hid hh
    clear hh
    go_upto_region 4 with fail
    have d5 := H2.out.nt.cell (i := 35) (by omega)
    rw [show noteF N P Q R 35 = P from rfl, hP] at d5
    have r9 := HR2.out
    have HREQ := Lib.hid (fun C h1 h2 => req_any (keyF (keyB N.b b.L)) N.p C h1 h2 AP N.pn cP w2 H2.out.hk (by have := H2.out.at_.p; rw [hP] at this; exact this))
    go_wp2_with (refine load_as (by rfl) 25 (.tmp 9) (by rfl) g9 0 _ 16 16 _ (cellsOf 16 (byteF (keyF (keyB N.b b.L)))) (cells_zero _ _) r9 (by rfl) _ Tryz.underlying25 (by rfl) (by kernel_rfl) (by omega) ?_)
    refine (HREQ.out _ (size_cellsOf _ _) (cellsOf_at _ _)).mono ?_
    rintro _ w3 ⟨s, u, v, rfl, hb3, hq, ou, ov⟩
    have H3 := Lib.hid (H2.out.step hb3)
    have HR3 := Lib.hid (HR2.out.of_block (hb3.block _ (World.rowIs.lt HR2.out)))
    have HQ := Lib.hid hq
    have HRQ : Hid (reqC (nsKs b N) N.p N.pn = reqC (keysB (keyF (keyB N.b b.L)) lNs2) N.p N.pn) := Lib.hid rfl
    obtain ⟨rc, hrc⟩ : ∃ c, c = reqC (keysB (keyF (keyB N.b b.L)) lNs2) N.p N.pn := ⟨_, rfl⟩
    have HRC := Lib.hid hrc
    rw [← hrc] at HQ HRQ ⊢
    clear d5 r9 hb3 hq HREQ H2 HR2 hrc hP
    have hz3 := row_new w3 zreq 73 3 _ (by rfl) zreq_at
    go_upto_region 5 with (refine store_whole (by rfl) 73 (.tmp 11) (.tmp 36) (by rfl) w3.heap.size _ 3 _ (reqR s u v) (by exact hz3) (by rfl) _ (by rfl) (by kernel_rfl) (by rfl) (lit3_at _ _ _) (fun i _ => reqR_one _ _ _ ou ov i) ?_; intro w4 hr4 ho4)
    have hb4 : Below w3.heap.size w3 w4 := ho4.below ((Below.refl w3.heap.size w3).alloc (Nat.le_refl _) (.cells zreq 73)) (Nat.le_refl _)
    have H4 := Lib.hid (H3.out.step hb4)
    have HR4 := Lib.hid (HR3.out.of_block (hb4.block _ (World.rowIs.lt HR3.out)))
    have HX4 := Lib.hid hr4
    have HG11 : Hid (w3.heap.size < w4.heap.size ∧ Below w3.heap.size w3 w4) := Lib.hid ⟨World.rowIs.lt hr4, hb4⟩
    have HQ4 : Hid (rc = 0 → s = nsA b N ∧ nameB s = true ∧ SliceOf w4 w4.heap.size 16 (fieldE (nsE b N) 1) u ∧ SliceOf w4 w4.heap.size 8 (fieldE (nsE b N) 2) v) := Lib.hid (fun h => ⟨(HQ.out h).1, (HQ.out h).2.1, slice_next (HQ.out h).2.2.1 hb4, slice_next (HQ.out h).2.2.2 hb4⟩)
    clear hz3 ho4 hb4 hr4 HQ H3 HR3 HG11 HG9
    have HSZ4 : Hid (w3.heap.size < w4.heap.size) := Lib.hid (World.rowIs.lt HX4.out)
    generalize w3.heap.size = g11 at *
    by_cases h0 : rc = 0
    · subst h0
      obtain ⟨hs, hsn, hsu, hsv⟩ := HQ4.out rfl
      have HSA := Lib.hid hs
      have HSN := Lib.hid hsn
      have HSU := Lib.hid hsu
      have HSV := Lib.hid hsv
      clear HQ4 hs hsn hsu hsv
      have c0 := HX4.out.cell (i := 0) (by omega)
      rw [show reqR s u v 0 = .string s from rfl] at c0
      have d2 := H4.out.nt.cell (i := 2) (by omega)
      rw [show noteF N P Q R 2 = .string N.b from rfl] at d2
      by_cases he : s = N.b
      · have HC : Hid (nsC b N = 1) := Lib.hid (by
          unfold nsC
          rw [if_neg (by rw [HH.out]; decide), if_neg (by rw [HRQ.out]; decide), if_pos (by rw [← HSA.out]; exact he)])
        have hl := Book.str_beq s N.b
        rw [decide_eq_true he] at hl
        clear he
        go_wp2_with fail
        refine (refused_any 1 _).mono ?_
        rintro _ w8 ⟨rfl, hb8⟩
        have H8 := Lib.hid (H4.out.step hb8)
        have hz8 := H8.out.zr
        clear hb8
        go_wp2_with (refine store_whole (by rfl) 30 (.tmp 7) (.tmp 52) (by rfl) (w.heap.size + 1 + 1 + 1) _ 38 _ (noteF zeroN nilV nilV nilV) hz8 (by rfl) _ (by rfl) (by kernel_rfl) (size_cellsOf _ _) (cellsOf_at _ _) (note_cells_one _ _ _ _ rfl rfl rfl) ?_; intro w9 hr9 ho9)
        refine bodyPost_ret (results_mid rfl _ (w.heap.size + 1 + 1 + 1) _ 38 _ _ rfl hr9 Tryz.underlying30 (by rfl) (by kernel_rfl)) rfl ?_
        have hb9 := ho9.below H8.out.hb (by omega)
        exact ns_err HC.out (by decide) rfl hb9
      · have HNE : Hid (¬ nsA b N = N.b) := Lib.hid (by rw [← HSA.out]; exact he)
        have hl := Book.str_beq s N.b
        rw [decide_eq_false he] at hl
        clear he
        go_upto_region 9 with fail
        clear hl
        have r0 := H4.out.bk
        go_wp2_with (refine load_as (by rfl) 27 (.tmp 3) (by rfl) w.heap.size 0 _ 19 19 _ CB ((cells_zero _ _).trans HCB.out) r0 (by rfl) _ Tryz.underlying27 (by rfl) (by kernel_rfl) (by omega) ?_)
        refine (HKEY.out s w4 H4.out.is_).mono ?_
        rintro _ w5 ⟨rfl, hb5⟩
        have H5 := Lib.hid (H4.out.step hb5)
        have HR5 := Lib.hid (HR4.out.of_block (hb5.block _ (World.rowIs.lt HR4.out)))
        have HX5 := Lib.hid (HX4.out.of_block (hb5.block _ (World.rowIs.lt HX4.out)))
        have HU5 := Lib.hid (slice_next HSU.out hb5)
        have HV5 := Lib.hid (slice_next HSV.out hb5)
        clear c0 d2 r0 hb5 H4 HR4 HX4 HSU HSV HSZ4
        obtain ⟨K5, hK5, zK5, iK5⟩ := cells_named 16 (wordF (keyB s b.L)) (keyF (keyB s b.L)) (fun _ _ => rfl)
        rw [hK5]
        clear hK5
        go_upto_region 10 with (refine store_whole (by rfl) 25 (.tmp 13) (.tmp 59) (by rfl) w5.heap.size _ 16 (fun _ => .int .u8 0) (byteF (keyF (keyB s b.L))) (by exact row_new w5 _ _ 16 _ (by rfl) (zero16 _ (by rfl))) (by rfl) _ (by rfl) (by kernel_rfl) zK5 iK5 (fun _ _ => rfl) ?_; intro w6 hr6 ho6)
        have hb6 : Below w5.heap.size w5 w6 := ho6.below ((Below.refl w5.heap.size w5).alloc (Nat.le_refl _) (.cells (Array.replicate 16 (.int .u8 0)) 25)) (Nat.le_refl _)
        have H6 := Lib.hid (H5.out.step hb6)
        have HR6 := Lib.hid (HR5.out.of_block (hb6.block _ (World.rowIs.lt HR5.out)))
        have HX6 := Lib.hid (HX5.out.of_block (hb6.block _ (World.rowIs.lt HX5.out)))
        have HU6 := Lib.hid (slice_next HU5.out hb6)
        have HV6 := Lib.hid (slice_next HV5.out hb6)
        have HS6 := Lib.hid hr6
        clear ho6 hb6 hr6 H5 HR5 HX5 HU5 HV5
        generalize w5.heap.size = g13 at *
        cases hk : hasN b.L s with
        | false =>
          have HC : Hid (nsC b N = 4) := Lib.hid (by
            unfold nsC
            rw [if_neg (by rw [HH.out]; decide), if_neg (by rw [HRQ.out]; decide), if_neg HNE.out, if_pos (by rw [← HSA.out]; exact hk)])
          clear hk
          go_wp2_with fail
          refine (refused_any 4 _).mono ?_
          rintro _ w8 ⟨rfl, hb8⟩
          have H8 := Lib.hid (H6.out.step hb8)
          have hz8 := H8.out.zr
          clear hb8
          go_wp2_with (refine store_whole (by rfl) 30 (.tmp 7) (.tmp 65) (by rfl) (w.heap.size + 1 + 1 + 1) _ 38 _ (noteF zeroN nilV nilV nilV) hz8 (by rfl) _ (by rfl) (by kernel_rfl) (size_cellsOf _ _) (cellsOf_at _ _) (note_cells_one _ _ _ _ rfl rfl rfl) ?_; intro w9 hr9 ho9)
          refine bodyPost_ret (results_mid rfl _ (w.heap.size + 1 + 1 + 1) _ 38 _ _ rfl hr9 Tryz.underlying30 (by rfl) (by kernel_rfl)) rfl ?_
          have hb9 := ho9.below H8.out.hb (by omega)
          exact ns_err HC.out (by decide) rfl hb9
        | true =>
          have HC : Hid (nsC b N = 0) := Lib.hid (by
            unfold nsC
            rw [if_neg (by rw [HH.out]; decide), if_neg (by rw [HRQ.out]; decide), if_neg HNE.out, if_neg (by rw [← HSA.out, hk]; decide)])
          clear hk
          have c0 := HX6.out.cell (i := 0) (by omega)
          rw [show reqR s u v 0 = .string s from rfl] at c0
          have r13 := HS6.out
          go_upto_region 13 with (first
            | (refine load_as (by rfl) 25 (.tmp 13) (by rfl) g13 0 _ 16 16 _ #[byteF (keyF (keyB s b.L)) 0, byteF (keyF (keyB s b.L)) 1, byteF (keyF (keyB s b.L)) 2, byteF (keyF (keyB s b.L)) 3, byteF (keyF (keyB s b.L)) 4, byteF (keyF (keyB s b.L)) 5, byteF (keyF (keyB s b.L)) 6, byteF (keyF (keyB s b.L)) 7, byteF (keyF (keyB s b.L)) 8, byteF (keyF (keyB s b.L)) 9, byteF (keyF (keyB s b.L)) 10, byteF (keyF (keyB s b.L)) 11, byteF (keyF (keyB s b.L)) 12, byteF (keyF (keyB s b.L)) 13, byteF (keyF (keyB s b.L)) 14, byteF (keyF (keyB s b.L)) 15] rfl r13 (by rfl) _ Tryz.underlying25 (by rfl) (by kernel_rfl) (by omega) ?_)
            | (refine store_whole (by rfl) 79 (.tmp 14) (.tmp 71) (by rfl) w6.heap.size _ 19 _ (prinF s (keyF (keyB s b.L)) lNs3 (.func (.func 30) #[] #[.pointer (some ⟨g11, 0, none⟩)])) (by exact row_new w6 zprin _ 19 _ (by rfl) zprin_at) (by rfl) (cellsOf 19 (prinF s (keyF (keyB s b.L)) lNs3 (.func (.func 30) #[] #[.pointer (some ⟨g11, 0, none⟩)]))) (by kernel_rfl) (by kernel_rfl) (size_cellsOf _ _) (cellsOf_at _ _) (fun i _ => prinF_one _ _ _ _ rfl i) ?_; intro w7 hr7 ho7))
          have hb7 : Below w6.heap.size w6 w7 := ho7.below ((Below.refl w6.heap.size w6).alloc (Nat.le_refl _) (.cells zprin 79)) (Nat.le_refl _)
          have H7 := Lib.hid (H6.out.step hb7)
          have HR7 := Lib.hid (HR6.out.of_block (hb7.block _ (World.rowIs.lt HR6.out)))
          have HX7 := Lib.hid (HX6.out.of_block (hb7.block _ (World.rowIs.lt HX6.out)))
          have HU7 := Lib.hid (slice_next HU6.out hb7)
          have HV7 := Lib.hid (slice_next HV6.out hb7)
          have HA7 := Lib.hid hr7
          have H6Z := Lib.hid H6.out.zr
          clear c0 r13 ho7 hb7 hr7 H6 HR6 HX6 HU6 HV6 HS6
          have HG14 := Lib.hid (World.rowIs.lt H6Z.out)
          clear H6Z
          generalize w6.heap.size = g14 at *
          have d2 := H7.out.nt.cell (i := 2) (by omega)
          rw [show noteF N P Q R 2 = .string N.b from rfl] at d2
          have r9 := HR7.out
          go_upto_region 14 with (first
            | (refine load_as (by rfl) 25 (.tmp 9) (by rfl) g9 0 _ 16 16 _ #[byteF (keyF (keyB N.b b.L)) 0, byteF (keyF (keyB N.b b.L)) 1, byteF (keyF (keyB N.b b.L)) 2, byteF (keyF (keyB N.b b.L)) 3, byteF (keyF (keyB N.b b.L)) 4, byteF (keyF (keyB N.b b.L)) 5, byteF (keyF (keyB N.b b.L)) 6, byteF (keyF (keyB N.b b.L)) 7, byteF (keyF (keyB N.b b.L)) 8, byteF (keyF (keyB N.b b.L)) 9, byteF (keyF (keyB N.b b.L)) 10, byteF (keyF (keyB N.b b.L)) 11, byteF (keyF (keyB N.b b.L)) 12, byteF (keyF (keyB N.b b.L)) 13, byteF (keyF (keyB N.b b.L)) 14, byteF (keyF (keyB N.b b.L)) 15] rfl r9 (by rfl) _ Tryz.underlying25 (by rfl) (by kernel_rfl) (by omega) ?_)
            | (refine store_whole (by rfl) 79 (.tmp 15) (.tmp 76) (by rfl) w7.heap.size _ 19 _ (prinF N.b (keyF (keyB N.b b.L)) lNst (.func (.func 31) #[] #[.pointer (some ⟨g11, 0, none⟩)])) (by exact row_new w7 zprin _ 19 _ (by rfl) zprin_at) (by rfl) (cellsOf 19 (prinF N.b (keyF (keyB N.b b.L)) lNst (.func (.func 31) #[] #[.pointer (some ⟨g11, 0, none⟩)]))) (by kernel_rfl) (by kernel_rfl) (size_cellsOf _ _) (cellsOf_at _ _) (fun i _ => prinF_one _ _ _ _ rfl i) ?_; intro w8 hr8 ho8))
          have hb8 : Below w7.heap.size w7 w8 := ho8.below ((Below.refl w7.heap.size w7).alloc (Nat.le_refl _) (.cells zprin 79)) (Nat.le_refl _)
          have H8 := Lib.hid (H7.out.step hb8)
          have HX8 := Lib.hid (HX7.out.of_block (hb8.block _ (World.rowIs.lt HX7.out)))
          have HA8 := Lib.hid (HA7.out.of_block (hb8.block _ (World.rowIs.lt HA7.out)))
          have HU8 := Lib.hid (slice_next HU7.out hb8)
          have HV8 := Lib.hid (slice_next HV7.out hb8)
          have HB8 := Lib.hid hr8
          clear d2 r9 ho8 hb8 hr8 H7 HR7 HX7 HU7 HV7 HA7
          generalize w7.heap.size = g15 at *
          have t1 := told_p g11 (fieldE (nsE b N) 1) (fieldE (nsE b N) 2) u v w8 (by rw [HX8.out.cell (i := 1) (by omega)]; rfl) (by rw [HX8.out.cell (i := 2) (by omega)]; rfl) HU8.out HV8.out
          have t2 := told_q g11 (fieldE (nsE b N) 2) v w8 (by rw [HX8.out.cell (i := 2) (by omega)]; rfl) HV8.out
          obtain ⟨CD2, hCD2, zCD2, iCD2⟩ := cells_named 48 (byteF D) D (fun _ _ => rfl)
          have HCD2 := Lib.hid hCD2
          have hsz : s.size ≤ 20 := by
            have h1 := HSN.out
            unfold nameB at h1
            exact (of_decide_eq_true h1).2.1
          have HSZ := Lib.hid hsz
          have HI := introduce_any s N.b lNs3 lNst (keyF (keyB s b.L)) (keyF (keyB N.b b.L)) _ _ _ _ _ _ D CD2 zCD2 iCD2 w8 H8.out.hk t1 t2
            (by show off (fldM [(N.b.size, strB N.b), (16, fieldE (nsE b N) 1), (16, D), (8, fieldE (nsE b N) 2)]) 4 + 4 ≤ 100000; rw [off4]; have := HB.out; omega)
            (by show off (fldM [(s.size, strB s), (16, D), (8, fieldE (nsE b N) 2)]) 3 + 3 ≤ 100000; rw [off3]; omega)
          have HI2 : Hid (Calls Tryz.prog 32 #[.agg (cellsOf 19 (prinF s (keyF (keyB s b.L)) lNs3 (.func (.func 30) #[] #[.pointer (some ⟨g11, 0, none⟩)]))), .agg (cellsOf 19 (prinF N.b (keyF (keyB N.b b.L)) lNst (.func (.func 31) #[] #[.pointer (some ⟨g11, 0, none⟩)]))), .agg CD2] w8 fun x w' =>
              ∃ P' Q', x = .returned (.tuple #[P', Q']) ∧ SliceOf w' w'.heap.size (blobN (nsP b N D)) (blobB (keyF (keyB s b.L)) (fun j => D (16 + j)) lNs3 (nsP b N D)) P' ∧ SliceOf w' w'.heap.size (blobN (nsQ b N D)) (blobB (keyF (keyB N.b b.L)) (fun j => D (32 + j)) lNst (nsQ b N D)) Q' ∧ Below w8.heap.size w8 w') := Lib.hid (by
            have e1 := (blob_len lNs3 (nsP b N D) rfl (by show 4 ≤ 4; omega) (by show off (fldM [(N.b.size, strB N.b), (16, fieldE (nsE b N) 1), (16, D), (8, fieldE (nsE b N) 2)]) 4 ≤ 200; rw [off4]; have := HB.out; omega)).2.2
            have e2 := (blob_len lNst (nsQ b N D) rfl (by show 3 ≤ 4; omega) (by show off (fldM [((nsA b N).size, strB (nsA b N)), (16, D), (8, fieldE (nsE b N) 2)]) 3 ≤ 200; rw [off3, ← HSA.out]; omega)).2.2
            refine HI.mono ?_
            rintro x w' ⟨P', Q', hx, h1, h2, h3⟩
            refine ⟨P', Q', hx, ?_, ?_, h3⟩
            · rw [← e1]
              exact h1
            · rw [← e2]
              unfold nsQ
              rw [← HSA.out]
              exact h2)
          clear t1 t2 hCD2 HI hsz HU8 HV8 HX8 zCD2 iCD2
          have r5 := H8.out.dr
          have r14 := HA8.out
          have r15 := HB8.out
          obtain ⟨CP1, hCP1⟩ : ∃ C, C = cellsOf 19 (prinF s (keyF (keyB s b.L)) lNs3 (.func (.func 30) #[] #[.pointer (some ⟨g11, 0, none⟩)])) := ⟨_, rfl⟩
          obtain ⟨CP2, hCP2⟩ : ∃ C, C = cellsOf 19 (prinF N.b (keyF (keyB N.b b.L)) lNst (.func (.func 31) #[] #[.pointer (some ⟨g11, 0, none⟩)])) := ⟨_, rfl⟩
          rw [← hCP1, ← hCP2] at HI2
          have HP1 := Lib.hid hCP1.symm
          have HP2 := Lib.hid hCP2.symm
          clear hCP1 hCP2
          simp only [Act.put]
          go_wp2_with (first
            | (refine load_as (by rfl) 79 (.tmp 14) (by rfl) g14 0 _ 19 19 _ CP1 ((cells_zero _ _).trans HP1.out) r14 (by rfl) _ Tryz.underlying79 (by rfl) (by kernel_rfl) (by omega) ?_)
            | (refine load_as (by rfl) 79 (.tmp 15) (by rfl) g15 0 _ 19 19 _ CP2 ((cells_zero _ _).trans HP2.out) r15 (by rfl) _ Tryz.underlying79 (by rfl) (by kernel_rfl) (by omega) ?_)
            | (refine load_as (by rfl) 31 (.tmp 5) (by rfl) (w.heap.size + 1 + 1) 0 _ 48 48 _ CD2 ((cells_zero _ _).trans HCD2.out) r5 (by rfl) _ Tryz.underlying31 (by rfl) (by kernel_rfl) (by omega) ?_))
          refine HI2.out.mono ?_
          rintro _ w9 ⟨P', Q', rfl, hsp, hsq, hb9⟩
          have H9 := Lib.hid (H8.out.step hb9)
          have HA9 := Lib.hid (HA8.out.of_block (hb9.block _ (World.rowIs.lt HA8.out)))
          have HSP := Lib.hid hsp
          have HSQ := Lib.hid hsq
          clear r5 r14 r15 hb9 hsp hsq H8 HA8 HB8 HI2
          obtain ⟨AP', cP', eP'⟩ := slice_shape HSP.out
          obtain ⟨AQ', cQ', eQ'⟩ := slice_shape HSQ.out
          go_upto_region 15 with fail
          refine region_mix (fun W => W.rowIs g14 79 19 (prinF s (keyF (keyB s b.L)) lNs3 (.func (.func 30) #[] #[.pointer (some ⟨g11, 0, none⟩)])) ∧ W.rowIs (w.heap.size + 1) 30 38 (noteF N P Q R)) [(0, true), (1, true), (2, true), (3, true), (4, true), (5, true), (6, true), (7, true), (8, false), (9, true)] (by kernel_rfl) (by kernel_rfl) ⟨HA9.out, H9.out.nt⟩ ?_
          refine m_val rfl (by rfl) (.pointer (some ⟨g14, 0, none⟩)) (fun W hW => by clear hW; go_simp) ?_
          simp only [Act.put, List.setIfInBounds_toArray, List.set_cons_zero, List.set_cons_succ]
          refine m_val rfl (by rfl) (.string s) (fun W hW => by have h1 := hW.1.cell (i := 0) (by omega); rw [show prinF s (keyF (keyB s b.L)) lNs3 (.func (.func 30) #[] #[.pointer (some ⟨g11, 0, none⟩)]) 0 = .string s from rfl] at h1; clear hW; go_simp) ?_
          simp only [Act.put, List.setIfInBounds_toArray, List.set_cons_zero, List.set_cons_succ]
          refine m_val rfl (by rfl) P' (fun W hW => by clear hW; go_simp) ?_
          simp only [Act.put, List.setIfInBounds_toArray, List.set_cons_zero, List.set_cons_succ]
          refine m_val rfl (by rfl) Q' (fun W hW => by clear hW; go_simp) ?_
          simp only [Act.put, List.setIfInBounds_toArray, List.set_cons_zero, List.set_cons_succ]
          refine m_val rfl (by rfl) (.pointer (some ⟨w.heap.size + 1, 19, none⟩)) (fun W hW => by clear hW; go_simp) ?_
          simp only [Act.put, List.setIfInBounds_toArray, List.set_cons_zero, List.set_cons_succ]
          refine m_load rfl (by rfl) 25 (.tmp 88) (by rfl) (w.heap.size + 1) 19 _ 38 16 _ (fun W hW => hW.2) (by rfl) _ Tryz.underlying25 (by rfl) (by kernel_rfl) (by omega) ?_
          rw [show cellsOf 16 (fun j => noteF N P Q R (19 + j)) = #[byteF (N.y) 0, byteF (N.y) 1, byteF (N.y) 2, byteF (N.y) 3, byteF (N.y) 4, byteF (N.y) 5, byteF (N.y) 6, byteF (N.y) 7, byteF (N.y) 8, byteF (N.y) 9, byteF (N.y) 10, byteF (N.y) 11, byteF (N.y) 12, byteF (N.y) 13, byteF (N.y) 14, byteF (N.y) 15] from rfl]
          simp only [Act.put, List.setIfInBounds_toArray, List.set_cons_zero, List.set_cons_succ]
          refine m_val rfl (by rfl) (.agg #[.int .i64 3, .string ⟨#[]⟩, .string ⟨#[]⟩, .int .u8 0, .int .u8 0, .int .u8 0, .int .u8 0, .int .u8 0, .int .u8 0, .int .u8 0, .int .u8 0, .int .u8 0, .int .u8 0, .int .u8 0, .int .u8 0, .int .u8 0, .int .u8 0, .int .u8 0, .int .u8 0, byteF N.y 0, byteF N.y 1, byteF N.y 2, byteF N.y 3, byteF N.y 4, byteF N.y 5, byteF N.y 6, byteF N.y 7, byteF N.y 8, byteF N.y 9, byteF N.y 10, byteF N.y 11, byteF N.y 12, byteF N.y 13, byteF N.y 14, byteF N.y 15, P', Q', .slice none 0 0]) (fun W hW => by clear hW; go_simp) ?_
          simp only [Act.put, List.setIfInBounds_toArray, List.set_cons_zero, List.set_cons_succ]
          refine m_val rfl (by rfl) (.string s) (fun W hW => by clear hW; go_simp) ?_
          simp only [Act.put, List.setIfInBounds_toArray, List.set_cons_zero, List.set_cons_succ]
          have hdr : Below w9.heap.size w9 w9.drew := (Below.refl _ _).drew
          have H10 := Lib.hid (H9.out.step hdr)
          have HSP10 := Lib.hid (slice_next HSP.out hdr)
          have HSQ10 := Lib.hid (slice_next HSQ.out hdr)
          have HA10 := Lib.hid (HA9.out.of_block (hdr.block _ (World.rowIs.lt HA9.out)))
          have OP : P'.oneCell' = true := by rw [eP']; rfl
          have OQ : Q'.oneCell' = true := by rw [eQ']; rfl
          clear hdr H9 HSP HSQ HA9 eP' eQ'
          generalize w9.drew = w10 at *
          have hz := H10.out.zr
          refine m_go rfl ?_
          go_wp2_with (refine store_whole (by rfl) 30 (.tmp 7) (.tmp 90) (by rfl) (w.heap.size + 1 + 1 + 1) _ 38 _ (noteF (nsN b N D (fun j => D (16 + j)) (fun j => D (32 + j))) P' Q' nilV) hz (by rfl) (cellsOf 38 (noteF (nsN b N D (fun j => D (16 + j)) (fun j => D (32 + j))) P' Q' nilV)) (by kernel_rfl) (by kernel_rfl) (size_cellsOf _ _) (cellsOf_at _ _) (note_cells_one _ _ _ _ OP OQ rfl) ?_; intro w11 hr11 ho11)
          have hg := HG14.out
          refine m_on ⟨HA10.out.of_block (ho11.block g14 (by omega)), H10.out.nt.of_block (ho11.block _ (by omega))⟩ ?_
          refine m_val rfl (by rfl) (.int .i64 0) (fun W hW => by clear hW; go_simp) ?_
          simp only [Act.put, List.setIfInBounds_toArray, List.set_cons_zero, List.set_cons_succ]
          refine m_end ?_
          go_wp2
          refine bodyPost_ret (results_mid rfl _ (w.heap.size + 1 + 1 + 1) _ 38 _ _ rfl hr11 Tryz.underlying30 (by rfl) (by kernel_rfl)) rfl ?_
          unfold nsTo nsM
          rw [HC.out, if_pos rfl, if_pos rfl, ← HSA.out]
          refine ⟨P', Q', nilV, rfl, ⟨?_, ?_, SliceOf.nil _ _ _⟩, ho11.below H10.out.hb (by omega)⟩
          · show SliceOf w11 w11.heap.size (blobN (nsP b N D)) (blobB (keyF (keyB (nsA b N) b.L)) (fun j => D (16 + j)) lNs3 (nsP b N D)) P'
            rw [← HSA.out]
            exact slice_past HSP10.out H10.out.zr (blob_big _) ho11
          · exact slice_past HSQ10.out H10.out.zr (blob_big _) ho11
    · have HC : Hid (nsC b N = rc) := Lib.hid (by
        unfold nsC
        rw [if_neg (by rw [HH.out]; decide), if_pos (by rw [HRQ.out]; exact h0), HRQ.out])
      have q : (rc == 0) = false := by simpa using h0
      have HQ0 := Lib.hid h0
      clear h0 HQ4
      go_wp2_with fail
      refine (refused_any rc _).mono ?_
      rintro _ w8 ⟨rfl, hb8⟩
      have H8 := Lib.hid (H4.out.step hb8)
      have hz8 := H8.out.zr
      clear hb8
      go_wp2_with (refine store_whole (by rfl) 30 (.tmp 7) (.tmp 43) (by rfl) (w.heap.size + 1 + 1 + 1) _ 38 _ (noteF zeroN nilV nilV nilV) hz8 (by rfl) _ (by rfl) (by kernel_rfl) (size_cellsOf _ _) (cellsOf_at _ _) (note_cells_one _ _ _ _ rfl rfl rfl) ?_; intro w9 hr9 ho9)
      refine bodyPost_ret (results_mid rfl _ (w.heap.size + 1 + 1 + 1) _ 38 _ _ rfl hr9 Tryz.underlying30 (by rfl) (by kernel_rfl)) rfl ?_
      have hb9 := ho9.below H8.out.hb (by omega)
      exact ns_err HC.out HQ0.out rfl hb9
end Go.Proofs.YtnkjoambhmlnbaaGreatDoor.Kdc
namespace Go.Proofs.YtnkjoambhmlnbaaGreatDoor.Kdc
open Go Go.RowKit Go.Proofs.YtnkjoambhmlnbaaGreatDoor.Aid Go.Proofs.YtnkjoambhmlnbaaGreatDoor.Sha Go.Proofs.YtnkjoambhmlnbaaGreatDoor.Law01 Go.Proofs.YtnkjoambhmlnbaaGreatDoor.Field Go.Proofs.YtnkjoambhmlnbaaGreatDoor.Law05
open Go.Proofs.YtnkjoambhmlnbaaGreatDoor.Seal (keysB formB openB okB)
open Go.Proofs.YtnkjoambhmlnbaaGreatDoor.Aes (RowB)
open Go.Proofs.YtnkjoambhmlnbaaGreatDoor.Note (NoteP noteF noteV NoteAt zeroCells zeroCells_eq)
open Go.Proofs.YtnkjoambhmlnbaaGreatDoor.Book (Bk Wd keyB hasN BookIs bookF bookV wordF)

def fnB (gw : Nat) : Value := .func (.func 55) #[] #[.pointer (some ⟨gw, 0, none⟩)]
/-- What each operation yields that a principal is made by. -/
def postB (gn o1 o2 : Nat) (nm : ByteArray) (K CY : Array Value) (k : Nat → BitVec 8) (lab : ByteArray) (y : Nat → BitVec 8) (B : Nat) (i : Nat) (v : Value) (w : World) : Prop :=
  match i with
  | 0 => v = .pointer (some ⟨gn, o1, none⟩)
  | 1 => v = .string nm
  | 2 => v = .agg K
  | 3 => v = .pointer (some ⟨gn, o2, none⟩)
  | 4 => v = .agg CY
  | 5 => ∃ gw, v = fnB gw ∧ RowB w gw 25 16 y
  | 6 => ∃ gw, v = .agg (cellsOf 19 (prinF nm k lab (fnB gw))) ∧ RowB w gw 25 16 y
  | 7 => ∃ g, v = .pointer (some ⟨g, 0, none⟩) ∧ w.rowIs g 79 19 (prinF ⟨#[]⟩ (fun _ => 0) ⟨#[]⟩ Value.nilFunc) ∧ B ≤ g
  | _ => True
theorem postB_mono (gn o1 o2 : Nat) (nm : ByteArray) (K CY : Array Value) (k : Nat → BitVec 8) (lab : ByteArray) (y : Nat → BitVec 8) (B : Nat) : ∀ i v w w', Below w.heap.size w w' → postB gn o1 o2 nm K CY k lab y B i v w → postB gn o1 o2 nm K CY k lab y B i v w' := fun i v w w' hb h => by
  match i with
  | 0 => exact h
  | 1 => exact h
  | 2 => exact h
  | 3 => exact h
  | 4 => exact h
  | 5 =>
    obtain ⟨g, h1, h2⟩ := h
    exact ⟨g, h1, World.rowIs.of_block h2 (hb.block _ (World.rowIs.lt h2))⟩
  | 6 =>
    obtain ⟨g, h1, h2⟩ := h
    exact ⟨g, h1, World.rowIs.of_block h2 (hb.block _ (World.rowIs.lt h2))⟩
  | 7 =>
    obtain ⟨g, h1, h2, h3⟩ := h
    exact ⟨g, h1, h2.of_block (hb.block _ (World.rowIs.lt h2)), h3⟩
  | _ + 8 => trivial
theorem rows_ne {W : World} {g g' t t' n n' : Nat} {f f' : Nat → Value} (ht : t ≠ t') (h : W.rowIs g t n f) (h' : W.rowIs g' t' n' f') : g ≠ g' := fun e => by
  subst e
  have h1 := row_heap h
  rw [row_heap h'] at h1
  simp only [Option.some.injEq, Obj.cells.injEq] at h1
  exact ht h1.2.1.symm
def kslTo (b : Bk) (N : NoteP) : ByteArray := if kslC b N = 0 then N.b else ⟨#[]⟩
def kslM (b : Bk) (N : NoteP) (D : Nat → BitVec 8) : NoteP := if kslC b N = 0 then kslN b N D (fun j => D (16 + j)) (fun j => D (32 + j)) else zeroN
theorem ksl_err {b : Bk} {N : NoteP} {D : Nat → BitVec 8} {c : Int} (hc : kslC b N = c) (h0 : c ≠ 0) {w : World} {x : Ending} {w' : World} (hx : x = .returned (.tuple #[.string ⟨#[]⟩, noteV zeroN nilV nilV nilV, .int .i64 c])) (hb : Below w.heap.size w w') : AnsPost (kslTo b N) (kslM b N D) (kslC b N) w x w' := by
  unfold kslTo kslM
  rw [hc, if_neg h0, if_neg h0]
  exact ans_none c w x w' hx hb
set_option maxRecDepth 100000 in
set_option maxHeartbeats 1000000 in
theorem answerKSL_any (b : Bk) (N : NoteP) (D : Nat → BitVec 8) (P Q R Lv Rv : Value) (CD : Array Value) (hCD : CD.size = 48) (hCDi : ∀ i, i < 48 → CD[i]? = some (.int .u8 ((D i).toNat : Int))) (w : World) (hk : Consts w) (hb : BookIs w b Lv Rv) (hn : NoteAt w N P Q R) (hA : N.a.size ≤ 20) (hB : N.b.size ≤ 20) :
    Calls Tryz.prog 16 #[bookV b Lv Rv, noteV N P Q R, .agg CD] w (AnsPost (kslTo b N) (kslM b N D) (kslC b N) w) := by
  obtain ⟨W, hW, h0⟩ := ans_new 27 30 b N D P Q R Lv Rv CD hCD hCDi w hk hb hn
  have HKEY := Lib.hid (fun (n : ByteArray) (W : World) (h : BookIs W b Lv Rv) => Book.key_any b Lv Rv h.ents h.few.1 n)
  have H0 := Lib.hid h0
  have HA := Lib.hid hA
  have HB := Lib.hid hB
  clear hCD hCDi hk hb hn h0 hA hB
  unfold bookV noteV
  unfold bookV Book.wordV at HKEY
  obtain ⟨CB, hCB⟩ : ∃ C, C = cellsOf 19 (bookF b Lv Rv) := ⟨_, rfl⟩
  obtain ⟨CN, hCN⟩ : ∃ C, C = cellsOf 38 (noteF N P Q R) := ⟨_, rfl⟩
  rw [← hCB, ← hCN] at hW ⊢
  rw [← hCB] at HKEY
  have HCB := Lib.hid hCB.symm
  clear hCB hCN
  go_enter Tryz.func16, Tryz.ntmps16
  go_upto_region 1 with fail
  rw [show (#[.int .i64 0, .string ⟨#[]⟩, .string ⟨#[]⟩, .int .u8 0, .int .u8 0, .int .u8 0, .int .u8 0, .int .u8 0, .int .u8 0, .int .u8 0, .int .u8 0, .int .u8 0, .int .u8 0, .int .u8 0, .int .u8 0, .int .u8 0, .int .u8 0, .int .u8 0, .int .u8 0, .int .u8 0, .int .u8 0, .int .u8 0, .int .u8 0, .int .u8 0, .int .u8 0, .int .u8 0, .int .u8 0, .int .u8 0, .int .u8 0, .int .u8 0, .int .u8 0, .int .u8 0, .int .u8 0, .int .u8 0, .int .u8 0, .slice none 0 0, .slice none 0 0, .slice none 0 0] : Array Value) = zeroCells 0 from rfl, ← hW]
  clear hW
  have d1 := H0.out.nt.cell (i := 1) (by omega)
  rw [show noteF N P Q R 1 = .string N.a from rfl] at d1
  have d2 := H0.out.nt.cell (i := 2) (by omega)
  rw [show noteF N P Q R 2 = .string N.b from rfl] at d2
  by_cases he : N.a = N.b
  · have HC : Hid (kslC b N = 1) := Lib.hid (by unfold kslC; rw [if_pos he])
    have hl := Book.str_beq N.a N.b
    rw [decide_eq_true he] at hl
    clear he
    go_wp2_with fail
    refine (refused_any 1 _).mono ?_
    rintro _ w8 ⟨rfl, hb8⟩
    have H8 := Lib.hid (H0.out.step hb8)
    have hz8 := H8.out.zr
    clear hb8
    go_wp2_with (refine store_whole (by rfl) 30 (.tmp 7) (.tmp 24) (by rfl) (w.heap.size + 1 + 1 + 1) _ 38 _ (noteF zeroN nilV nilV nilV) hz8 (by rfl) _ (by rfl) (by kernel_rfl) (size_cellsOf _ _) (cellsOf_at _ _) (note_cells_one _ _ _ _ rfl rfl rfl) ?_; intro w9 hr9 ho9)
    refine bodyPost_ret (results_mid rfl _ (w.heap.size + 1 + 1 + 1) _ 38 _ _ rfl hr9 Tryz.underlying30 (by rfl) (by kernel_rfl)) rfl ?_
    have hb9 := ho9.below H8.out.hb (by omega)
    exact ksl_err HC.out (by decide) rfl hb9
  have HNE := Lib.hid he
  have hl := Book.str_beq N.a N.b
  rw [decide_eq_false he] at hl
  clear he
  go_upto_region 3 with fail
  clear hl
  have r0 := H0.out.bk
  go_wp2_with (refine load_as (by rfl) 27 (.tmp 3) (by rfl) w.heap.size 0 _ 19 19 _ CB ((cells_zero _ _).trans HCB.out) r0 (by rfl) _ Tryz.underlying27 (by rfl) (by kernel_rfl) (by omega) ?_)
  refine (HKEY.out N.a W H0.out.is_).mono ?_
  rintro _ w1 ⟨rfl, hb1⟩
  have H1 := Lib.hid (H0.out.step hb1)
  clear d1 d2 r0 hb1 H0
  obtain ⟨K2, hK2, zK2, iK2⟩ := cells_named 16 (wordF (keyB N.a b.L)) (keyF (keyB N.a b.L)) (fun _ _ => rfl)
  rw [hK2]
  clear hK2
  go_upto_region 4 with (refine store_whole (by rfl) 25 (.tmp 9) (.tmp 31) (by rfl) w1.heap.size _ 16 (fun _ => .int .u8 0) (byteF (keyF (keyB N.a b.L))) (by exact row_new w1 _ _ 16 _ (by rfl) (zero16 _ (by rfl))) (by rfl) _ (by rfl) (by kernel_rfl) zK2 iK2 (fun _ _ => rfl) ?_; intro w2 hr2 ho2)
  have hb2 : Below w1.heap.size w1 w2 := ho2.below ((Below.refl w1.heap.size w1).alloc (Nat.le_refl _) (.cells (Array.replicate 16 (.int .u8 0)) 25)) (Nat.le_refl _)
  have H2 := Lib.hid (H1.out.step hb2)
  have HR2 := Lib.hid hr2
  clear ho2 hb2 hr2 H1
  generalize w1.heap.size = g9 at *
  have r0 := H2.out.bk
  have d2 := H2.out.nt.cell (i := 2) (by omega)
  rw [show noteF N P Q R 2 = .string N.b from rfl] at d2
  go_wp2_with (refine load_as (by rfl) 27 (.tmp 3) (by rfl) w.heap.size 0 _ 19 19 _ CB ((cells_zero _ _).trans HCB.out) r0 (by rfl) _ Tryz.underlying27 (by rfl) (by kernel_rfl) (by omega) ?_)
  refine (HKEY.out N.b w2 H2.out.is_).mono ?_
  rintro _ w3 ⟨rfl, hb3⟩
  have H3 := Lib.hid (H2.out.step hb3)
  have HR3 := Lib.hid (HR2.out.of_block (hb3.block _ (World.rowIs.lt HR2.out)))
  clear d2 r0 hb3 H2 HR2
  obtain ⟨K4, hK4, zK4, iK4⟩ := cells_named 16 (wordF (keyB N.b b.L)) (keyF (keyB N.b b.L)) (fun _ _ => rfl)
  rw [hK4]
  clear hK4
  go_upto_region 5 with (refine store_whole (by rfl) 25 (.tmp 11) (.tmp 38) (by rfl) w3.heap.size _ 16 (fun _ => .int .u8 0) (byteF (keyF (keyB N.b b.L))) (by exact row_new w3 _ _ 16 _ (by rfl) (zero16 _ (by rfl))) (by rfl) _ (by rfl) (by kernel_rfl) zK4 iK4 (fun _ _ => rfl) ?_; intro w4 hr4 ho4)
  have hb4 : Below w3.heap.size w3 w4 := ho4.below ((Below.refl w3.heap.size w3).alloc (Nat.le_refl _) (.cells (Array.replicate 16 (.int .u8 0)) 25)) (Nat.le_refl _)
  have H4 := Lib.hid (H3.out.step hb4)
  have HR4 := Lib.hid (HR3.out.of_block (hb4.block _ (World.rowIs.lt HR3.out)))
  have HS4 := Lib.hid hr4
  clear ho4 hb4 hr4 H3 HR3
  generalize w3.heap.size = g11 at *
  by_cases hab : hasN b.L N.a = false ∨ hasN b.L N.b = false
  · have HC : Hid (kslC b N = 4) := Lib.hid (by unfold kslC; rw [if_neg HNE.out, if_pos hab])
    cases ha : hasN b.L N.a with
    | false =>
      clear hab ha
      go_wp2_with fail
      refine (refused_any 4 _).mono ?_
      rintro _ w8 ⟨rfl, hb8⟩
      have H8 := Lib.hid (H4.out.step hb8)
      have hz8 := H8.out.zr
      clear hb8
      go_wp2_with (refine store_whole (by rfl) 30 (.tmp 7) (.tmp 48) (by rfl) (w.heap.size + 1 + 1 + 1) _ 38 _ (noteF zeroN nilV nilV nilV) hz8 (by rfl) _ (by rfl) (by kernel_rfl) (size_cellsOf _ _) (cellsOf_at _ _) (note_cells_one _ _ _ _ rfl rfl rfl) ?_; intro w9 hr9 ho9)
      refine bodyPost_ret (results_mid rfl _ (w.heap.size + 1 + 1 + 1) _ 38 _ _ rfl hr9 Tryz.underlying30 (by rfl) (by kernel_rfl)) rfl ?_
      have hb9 := ho9.below H8.out.hb (by omega)
      exact ksl_err HC.out (by decide) rfl hb9
    | true =>
      cases hbb : hasN b.L N.b with
      | false =>
        clear hab ha hbb
        go_wp2_with fail
        refine (refused_any 4 _).mono ?_
        rintro _ w8 ⟨rfl, hb8⟩
        have H8 := Lib.hid (H4.out.step hb8)
        have hz8 := H8.out.zr
        clear hb8
        go_wp2_with (refine store_whole (by rfl) 30 (.tmp 7) (.tmp 48) (by rfl) (w.heap.size + 1 + 1 + 1) _ 38 _ (noteF zeroN nilV nilV nilV) hz8 (by rfl) _ (by rfl) (by kernel_rfl) (size_cellsOf _ _) (cellsOf_at _ _) (note_cells_one _ _ _ _ rfl rfl rfl) ?_; intro w9 hr9 ho9)
        refine bodyPost_ret (results_mid rfl _ (w.heap.size + 1 + 1 + 1) _ 38 _ _ rfl hr9 Tryz.underlying30 (by rfl) (by kernel_rfl)) rfl ?_
        have hb9 := ho9.below H8.out.hb (by omega)
        exact ksl_err HC.out (by decide) rfl hb9
      | true => exact absurd hab (by rw [ha, hbb]; decide)
  have HC : Hid (kslC b N = 0) := Lib.hid (by unfold kslC; rw [if_neg HNE.out, if_neg hab])
  have ha : hasN b.L N.a = true := by
    cases h : hasN b.L N.a with
    | true => rfl
    | false => exact absurd (.inl h) hab
  have hbb : hasN b.L N.b = true := by
    cases h : hasN b.L N.b with
    | true => rfl
    | false => exact absurd (.inr h) hab
  rw [ha, hbb]
  clear hab ha hbb
  go_upto_region 7 with fail
  obtain ⟨CY, hCY, zCY, iCY⟩ := cells_named 16 (fun j => noteF N P Q R (19 + j)) N.y (fun i hi => by unfold noteF; rw [if_neg (by omega), if_neg (by omega), if_neg (by omega), if_neg (by omega), if_pos (by omega), Nat.add_sub_cancel_left])
  obtain ⟨CX, hCX, zCX, iCX⟩ := cells_named 16 (fun j => noteF N P Q R (3 + j)) N.x (fun i hi => by unfold noteF; rw [if_neg (by omega), if_neg (by omega), if_neg (by omega), if_pos (by omega), Nat.add_sub_cancel_left])
  have HCY := Lib.hid (And.intro hCY (And.intro zCY iCY))
  have HCX := Lib.hid (And.intro hCX (And.intro zCX iCX))
  clear hCY zCY iCY hCX zCX iCX
  have M0 : Hid (∀ W, Below w4.heap.size w4 W → W.rowIs g11 25 16 (byteF (keyF (keyB N.b b.L))) ∧ W.rowIs (w.heap.size + 1) 30 38 (noteF N P Q R)) := Lib.hid fun W hW => ⟨HS4.out.of_block (hW.block _ (World.rowIs.lt HS4.out)), H4.out.nt.of_block (hW.block _ (World.rowIs.lt H4.out.nt))⟩
  refine region_inv_tail (postB (w.heap.size + 1) 2 19 N.b #[byteF (keyF (keyB N.b b.L)) 0, byteF (keyF (keyB N.b b.L)) 1, byteF (keyF (keyB N.b b.L)) 2, byteF (keyF (keyB N.b b.L)) 3, byteF (keyF (keyB N.b b.L)) 4, byteF (keyF (keyB N.b b.L)) 5, byteF (keyF (keyB N.b b.L)) 6, byteF (keyF (keyB N.b b.L)) 7, byteF (keyF (keyB N.b b.L)) 8, byteF (keyF (keyB N.b b.L)) 9, byteF (keyF (keyB N.b b.L)) 10, byteF (keyF (keyB N.b b.L)) 11, byteF (keyF (keyB N.b b.L)) 12, byteF (keyF (keyB N.b b.L)) 13, byteF (keyF (keyB N.b b.L)) 14, byteF (keyF (keyB N.b b.L)) 15] CY (keyF (keyB N.b b.L)) lK3b N.y w4.drew.heap.size) 8 (by kernel_rfl) (by kernel_rfl) (by kernel_rfl) rfl (postB_mono _ _ _ _ _ _ _ _ _ _) ?_ ?_
  · refine ⟨⟨⟨⟨⟨⟨⟨⟨trivial, ?_⟩, ?_⟩, ?_⟩, ?_⟩, ?_⟩, ?_⟩, ?_⟩, ?_⟩
    · refine ⟨_, rfl, fun xs W hW hd => ?_⟩
      clear hd
      simp only [fillI, List.take, List.setIfInBounds_toArray, List.set_cons_zero, List.set_cons_succ, Nat.reduceAdd, Nat.zero_add]
      go_wp2_with fail
      refine ⟨_, by (simp only [upd, Nat.reduceEqDiff, reduceIte]; rfl), ?_, ?_⟩
      · rfl
      · exact Below.refl _ _
    · refine ⟨_, rfl, fun xs W hW hd => ?_⟩
      have h0 : xs 0 = .pointer (some ⟨w.heap.size + 1, 2, none⟩) := hd 0 (by kernel_rfl)
      have cc := (M0.out W (undrew hW)).2.cell (i := 2) (by omega)
      rw [show noteF N P Q R 2 = .string N.b from rfl] at cc
      clear hd
      rw [upd_self h0]
      simp only [fillI, List.take, List.setIfInBounds_toArray, List.set_cons_zero, List.set_cons_succ, Nat.reduceAdd, Nat.zero_add, upd, Nat.reduceEqDiff, reduceIte]
      go_wp2_with fail
      refine ⟨_, by (simp only [upd, Nat.reduceEqDiff, reduceIte]; rfl), ?_, ?_⟩
      · rfl
      · exact Below.refl _ _
    · refine ⟨_, rfl, fun xs W hW hd => ?_⟩
      have hr := (M0.out W (undrew hW)).1
      clear hd
      simp only [fillI, List.take, List.setIfInBounds_toArray, List.set_cons_zero, List.set_cons_succ, Nat.reduceAdd, Nat.zero_add]
      refine load_as (by rfl) 25 (.tmp 11) (by rfl) g11 0 _ 16 16 _ #[byteF (keyF (keyB N.b b.L)) 0, byteF (keyF (keyB N.b b.L)) 1, byteF (keyF (keyB N.b b.L)) 2, byteF (keyF (keyB N.b b.L)) 3, byteF (keyF (keyB N.b b.L)) 4, byteF (keyF (keyB N.b b.L)) 5, byteF (keyF (keyB N.b b.L)) 6, byteF (keyF (keyB N.b b.L)) 7, byteF (keyF (keyB N.b b.L)) 8, byteF (keyF (keyB N.b b.L)) 9, byteF (keyF (keyB N.b b.L)) 10, byteF (keyF (keyB N.b b.L)) 11, byteF (keyF (keyB N.b b.L)) 12, byteF (keyF (keyB N.b b.L)) 13, byteF (keyF (keyB N.b b.L)) 14, byteF (keyF (keyB N.b b.L)) 15] rfl hr (by rfl) _ Tryz.underlying25 (by rfl) (by kernel_rfl) (by omega) ?_
      refine ⟨_, by (simp only [upd, Nat.reduceEqDiff, reduceIte]; rfl), ?_, ?_⟩
      · rfl
      · exact Below.refl _ _
    · refine ⟨_, rfl, fun xs W hW hd => ?_⟩
      clear hd
      simp only [fillI, List.take, List.setIfInBounds_toArray, List.set_cons_zero, List.set_cons_succ, Nat.reduceAdd, Nat.zero_add]
      go_wp2_with fail
      refine ⟨_, by (simp only [upd, Nat.reduceEqDiff, reduceIte]; rfl), ?_, ?_⟩
      · rfl
      · exact Below.refl _ _
    · refine ⟨_, rfl, fun xs W hW hd => ?_⟩
      have h3 : xs 3 = .pointer (some ⟨w.heap.size + 1, 19, none⟩) := hd 3 (by kernel_rfl)
      have hr := (M0.out W (undrew hW)).2
      clear hd
      rw [upd_self h3]
      simp only [fillI, List.take, List.setIfInBounds_toArray, List.set_cons_zero, List.set_cons_succ, Nat.reduceAdd, Nat.zero_add, upd, Nat.reduceEqDiff, reduceIte]
      refine load_as (by rfl) 25 (.tmp 53) (by rfl) (w.heap.size + 1) 19 _ 38 16 _ CY HCY.out.1 hr (by rfl) _ Tryz.underlying25 (by rfl) (by kernel_rfl) (by omega) ?_
      refine ⟨_, by (simp only [upd, Nat.reduceEqDiff, reduceIte]; rfl), ?_, ?_⟩
      · rfl
      · exact Below.refl _ _
    · refine ⟨_, rfl, fun xs W hW hd => ?_⟩
      have h4 : xs 4 = .agg CY := hd 4 (by kernel_rfl)
      have HC := Lib.hid (behind_any N.y CY HCY.out.2.1 HCY.out.2.2 W)
      clear hd
      rw [upd_self h4]
      simp only [fillI, List.take, List.setIfInBounds_toArray, List.set_cons_zero, List.set_cons_succ, Nat.reduceAdd, Nat.zero_add, upd, Nat.reduceEqDiff, reduceIte]
      go_wp2_with fail
      refine HC.out.mono ?_
      rintro _ W2 ⟨gw, rfl, hrw, hb2⟩
      have HRW := Lib.hid hrw
      have HB2 := Lib.hid hb2
      clear hrw hb2
      go_wp2_with fail
      refine ⟨_, by (simp only [upd, Nat.reduceEqDiff, reduceIte]; rfl), ?_, ?_⟩
      · exact ⟨gw, rfl, HRW.out⟩
      · exact HB2.out
    · refine ⟨_, rfl, fun xs W hW hd => ?_⟩
      have h1 : xs 1 = .string N.b := hd 1 (by kernel_rfl)
      have h2 : xs 2 = .agg #[byteF (keyF (keyB N.b b.L)) 0, byteF (keyF (keyB N.b b.L)) 1, byteF (keyF (keyB N.b b.L)) 2, byteF (keyF (keyB N.b b.L)) 3, byteF (keyF (keyB N.b b.L)) 4, byteF (keyF (keyB N.b b.L)) 5, byteF (keyF (keyB N.b b.L)) 6, byteF (keyF (keyB N.b b.L)) 7, byteF (keyF (keyB N.b b.L)) 8, byteF (keyF (keyB N.b b.L)) 9, byteF (keyF (keyB N.b b.L)) 10, byteF (keyF (keyB N.b b.L)) 11, byteF (keyF (keyB N.b b.L)) 12, byteF (keyF (keyB N.b b.L)) 13, byteF (keyF (keyB N.b b.L)) 14, byteF (keyF (keyB N.b b.L)) 15] := hd 2 (by kernel_rfl)
      obtain ⟨gw, h5, hrw⟩ : ∃ gw, xs 5 = fnB gw ∧ RowB W gw 25 16 N.y := hd 5 (by kernel_rfl)
      have HRW := Lib.hid hrw
      unfold fnB at h5
      clear hrw
      clear hd
      rw [upd_self h1]
      rw [upd_self h2]
      rw [upd_self h5]
      simp only [fillI, List.take, List.setIfInBounds_toArray, List.set_cons_zero, List.set_cons_succ, Nat.reduceAdd, Nat.zero_add, upd, Nat.reduceEqDiff, reduceIte]
      go_wp2_with fail
      refine ⟨_, by (simp only [upd, Nat.reduceEqDiff, reduceIte]; rfl), ?_, ?_⟩
      · exact ⟨gw, rfl, HRW.out⟩
      · exact Below.refl _ _
    · refine ⟨_, rfl, fun xs W hW hd => ?_⟩
      clear hd
      simp only [fillI, List.take, List.setIfInBounds_toArray, List.set_cons_zero, List.set_cons_succ, Nat.reduceAdd, Nat.zero_add]
      go_wp2_with fail
      refine ⟨_, by (simp only [upd, Nat.reduceEqDiff, reduceIte]; rfl), ?_, ?_⟩
      · exact ⟨_, rfl, row_new W _ 79 19 _ (by rfl) zprin_at, hW.size⟩
      · exact (Below.refl _ _).alloc (Nat.le_refl _) _
  intro xs W5 hW hp
  obtain ⟨gw, h6, hrw⟩ : ∃ gw, xs 6 = .agg (cellsOf 19 (prinF N.b (keyF (keyB N.b b.L)) lK3b (fnB gw))) ∧ RowB W5 gw 25 16 N.y := hp 6 (by omega)
  obtain ⟨g13, h7, hz, hg⟩ : ∃ g, xs 7 = .pointer (some ⟨g, 0, none⟩) ∧ W5.rowIs g 79 19 (prinF ⟨#[]⟩ (fun _ => 0) ⟨#[]⟩ Value.nilFunc) ∧ w4.drew.heap.size ≤ g := hp 7 (by omega)
  have hne : gw ≠ g13 := rows_ne (by decide) hrw hz
  have hbW := undrew hW
  obtain ⟨C6, hC6⟩ : ∃ C, C = cellsOf 19 (prinF N.b (keyF (keyB N.b b.L)) lK3b (fnB gw)) := ⟨_, rfl⟩
  rw [← hC6] at h6
  have HC6 := Lib.hid hC6
  have hg' : w4.heap.size ≤ g13 := hg
  rw [upd_self h6, upd_self h7]
  simp only [fillI, List.take, List.setIfInBounds_toArray, List.set_cons_zero, List.set_cons_succ, Nat.reduceAdd, Nat.zero_add, upd, Nat.reduceEqDiff, reduceIte]
  clear hp hW hg h6 h7 hC6
  generalize xs 0 = y0 at *
  generalize xs 1 = y1 at *
  generalize xs 2 = y2 at *
  generalize xs 3 = y3 at *
  generalize xs 4 = y4 at *
  generalize xs 5 = y5 at *
  clear xs
  refine store_whole (by rfl) 79 (.tmp 13) (.tmp 56) (by rfl) g13 _ 19 _ (prinF N.b (keyF (keyB N.b b.L)) lK3b (fnB gw)) hz (by rfl) _ (by rfl) (by kernel_rfl) (by rw [HC6.out]; exact size_cellsOf _ _) (by rw [HC6.out]; exact cellsOf_at _ _) (fun i _ => prinF_one _ _ _ _ rfl i) ?_
  intro w6 hr1 ho1
  refine NoPanic.normal ?_
  have hb6 : Below w4.heap.size w4 w6 := ho1.below hbW hg'
  have H6 := Lib.hid (H4.out.step hb6)
  have HA6 := Lib.hid hr1
  have HW6 : Hid (RowB w6 gw 25 16 N.y) := Lib.hid (World.rowIs.of_block hrw (ho1.block _ hne))
  clear hr1 ho1 hrw hz hne hbW hg'
  have HR6 := Lib.hid (HR4.out.of_block (hb6.block _ (World.rowIs.lt HR4.out)))
  clear hb6 H4 HS4 HR4 M0
  go_upto_region 8 with fail
  have M6 : Hid (∀ W, Below w6.heap.size w6 W → W.rowIs g9 25 16 (byteF (keyF (keyB N.a b.L))) ∧ W.rowIs (w.heap.size + 1) 30 38 (noteF N P Q R)) := Lib.hid fun W hW => ⟨HR6.out.of_block (hW.block _ (World.rowIs.lt HR6.out)), H6.out.nt.of_block (hW.block _ (World.rowIs.lt H6.out.nt))⟩
  simp only [Act.put]
  refine region_inv_tail (postB (w.heap.size + 1) 1 3 N.a #[byteF (keyF (keyB N.a b.L)) 0, byteF (keyF (keyB N.a b.L)) 1, byteF (keyF (keyB N.a b.L)) 2, byteF (keyF (keyB N.a b.L)) 3, byteF (keyF (keyB N.a b.L)) 4, byteF (keyF (keyB N.a b.L)) 5, byteF (keyF (keyB N.a b.L)) 6, byteF (keyF (keyB N.a b.L)) 7, byteF (keyF (keyB N.a b.L)) 8, byteF (keyF (keyB N.a b.L)) 9, byteF (keyF (keyB N.a b.L)) 10, byteF (keyF (keyB N.a b.L)) 11, byteF (keyF (keyB N.a b.L)) 12, byteF (keyF (keyB N.a b.L)) 13, byteF (keyF (keyB N.a b.L)) 14, byteF (keyF (keyB N.a b.L)) 15] CX (keyF (keyB N.a b.L)) lK3a N.x w6.drew.heap.size) 8 (by kernel_rfl) (by kernel_rfl) (by kernel_rfl) rfl (postB_mono _ _ _ _ _ _ _ _ _ _) ?_ ?_
  · refine ⟨⟨⟨⟨⟨⟨⟨⟨trivial, ?_⟩, ?_⟩, ?_⟩, ?_⟩, ?_⟩, ?_⟩, ?_⟩, ?_⟩
    · refine ⟨_, rfl, fun xs W hW hd => ?_⟩
      clear hd
      simp only [fillI, List.take, List.setIfInBounds_toArray, List.set_cons_zero, List.set_cons_succ, Nat.reduceAdd, Nat.zero_add]
      go_wp2_with fail
      refine ⟨_, by (simp only [upd, Nat.reduceEqDiff, reduceIte]; rfl), ?_, ?_⟩
      · rfl
      · exact Below.refl _ _
    · refine ⟨_, rfl, fun xs W hW hd => ?_⟩
      have h0 : xs 0 = .pointer (some ⟨w.heap.size + 1, 1, none⟩) := hd 0 (by kernel_rfl)
      have cc := (M6.out W (undrew hW)).2.cell (i := 1) (by omega)
      rw [show noteF N P Q R 1 = .string N.a from rfl] at cc
      clear hd
      rw [upd_self h0]
      simp only [fillI, List.take, List.setIfInBounds_toArray, List.set_cons_zero, List.set_cons_succ, Nat.reduceAdd, Nat.zero_add, upd, Nat.reduceEqDiff, reduceIte]
      go_wp2_with fail
      refine ⟨_, by (simp only [upd, Nat.reduceEqDiff, reduceIte]; rfl), ?_, ?_⟩
      · rfl
      · exact Below.refl _ _
    · refine ⟨_, rfl, fun xs W hW hd => ?_⟩
      have hr := (M6.out W (undrew hW)).1
      clear hd
      simp only [fillI, List.take, List.setIfInBounds_toArray, List.set_cons_zero, List.set_cons_succ, Nat.reduceAdd, Nat.zero_add]
      refine load_as (by rfl) 25 (.tmp 9) (by rfl) g9 0 _ 16 16 _ #[byteF (keyF (keyB N.a b.L)) 0, byteF (keyF (keyB N.a b.L)) 1, byteF (keyF (keyB N.a b.L)) 2, byteF (keyF (keyB N.a b.L)) 3, byteF (keyF (keyB N.a b.L)) 4, byteF (keyF (keyB N.a b.L)) 5, byteF (keyF (keyB N.a b.L)) 6, byteF (keyF (keyB N.a b.L)) 7, byteF (keyF (keyB N.a b.L)) 8, byteF (keyF (keyB N.a b.L)) 9, byteF (keyF (keyB N.a b.L)) 10, byteF (keyF (keyB N.a b.L)) 11, byteF (keyF (keyB N.a b.L)) 12, byteF (keyF (keyB N.a b.L)) 13, byteF (keyF (keyB N.a b.L)) 14, byteF (keyF (keyB N.a b.L)) 15] rfl hr (by rfl) _ Tryz.underlying25 (by rfl) (by kernel_rfl) (by omega) ?_
      refine ⟨_, by (simp only [upd, Nat.reduceEqDiff, reduceIte]; rfl), ?_, ?_⟩
      · rfl
      · exact Below.refl _ _
    · refine ⟨_, rfl, fun xs W hW hd => ?_⟩
      clear hd
      simp only [fillI, List.take, List.setIfInBounds_toArray, List.set_cons_zero, List.set_cons_succ, Nat.reduceAdd, Nat.zero_add]
      go_wp2_with fail
      refine ⟨_, by (simp only [upd, Nat.reduceEqDiff, reduceIte]; rfl), ?_, ?_⟩
      · rfl
      · exact Below.refl _ _
    · refine ⟨_, rfl, fun xs W hW hd => ?_⟩
      have h3 : xs 3 = .pointer (some ⟨w.heap.size + 1, 3, none⟩) := hd 3 (by kernel_rfl)
      have hr := (M6.out W (undrew hW)).2
      clear hd
      rw [upd_self h3]
      simp only [fillI, List.take, List.setIfInBounds_toArray, List.set_cons_zero, List.set_cons_succ, Nat.reduceAdd, Nat.zero_add, upd, Nat.reduceEqDiff, reduceIte]
      refine load_as (by rfl) 25 (.tmp 60) (by rfl) (w.heap.size + 1) 3 _ 38 16 _ CX HCX.out.1 hr (by rfl) _ Tryz.underlying25 (by rfl) (by kernel_rfl) (by omega) ?_
      refine ⟨_, by (simp only [upd, Nat.reduceEqDiff, reduceIte]; rfl), ?_, ?_⟩
      · rfl
      · exact Below.refl _ _
    · refine ⟨_, rfl, fun xs W hW hd => ?_⟩
      have h4 : xs 4 = .agg CX := hd 4 (by kernel_rfl)
      have HC := Lib.hid (behind_any N.x CX HCX.out.2.1 HCX.out.2.2 W)
      clear hd
      rw [upd_self h4]
      simp only [fillI, List.take, List.setIfInBounds_toArray, List.set_cons_zero, List.set_cons_succ, Nat.reduceAdd, Nat.zero_add, upd, Nat.reduceEqDiff, reduceIte]
      go_wp2_with fail
      refine HC.out.mono ?_
      rintro _ W2 ⟨gw, rfl, hrw, hb2⟩
      have HRW := Lib.hid hrw
      have HB2 := Lib.hid hb2
      clear hrw hb2
      go_wp2_with fail
      refine ⟨_, by (simp only [upd, Nat.reduceEqDiff, reduceIte]; rfl), ?_, ?_⟩
      · exact ⟨gw, rfl, HRW.out⟩
      · exact HB2.out
    · refine ⟨_, rfl, fun xs W hW hd => ?_⟩
      have h1 : xs 1 = .string N.a := hd 1 (by kernel_rfl)
      have h2 : xs 2 = .agg #[byteF (keyF (keyB N.a b.L)) 0, byteF (keyF (keyB N.a b.L)) 1, byteF (keyF (keyB N.a b.L)) 2, byteF (keyF (keyB N.a b.L)) 3, byteF (keyF (keyB N.a b.L)) 4, byteF (keyF (keyB N.a b.L)) 5, byteF (keyF (keyB N.a b.L)) 6, byteF (keyF (keyB N.a b.L)) 7, byteF (keyF (keyB N.a b.L)) 8, byteF (keyF (keyB N.a b.L)) 9, byteF (keyF (keyB N.a b.L)) 10, byteF (keyF (keyB N.a b.L)) 11, byteF (keyF (keyB N.a b.L)) 12, byteF (keyF (keyB N.a b.L)) 13, byteF (keyF (keyB N.a b.L)) 14, byteF (keyF (keyB N.a b.L)) 15] := hd 2 (by kernel_rfl)
      obtain ⟨gw, h5, hrw⟩ : ∃ gw, xs 5 = fnB gw ∧ RowB W gw 25 16 N.x := hd 5 (by kernel_rfl)
      have HRW := Lib.hid hrw
      unfold fnB at h5
      clear hrw
      clear hd
      rw [upd_self h1]
      rw [upd_self h2]
      rw [upd_self h5]
      simp only [fillI, List.take, List.setIfInBounds_toArray, List.set_cons_zero, List.set_cons_succ, Nat.reduceAdd, Nat.zero_add, upd, Nat.reduceEqDiff, reduceIte]
      go_wp2_with fail
      refine ⟨_, by (simp only [upd, Nat.reduceEqDiff, reduceIte]; rfl), ?_, ?_⟩
      · exact ⟨gw, rfl, HRW.out⟩
      · exact Below.refl _ _
    · refine ⟨_, rfl, fun xs W hW hd => ?_⟩
      clear hd
      simp only [fillI, List.take, List.setIfInBounds_toArray, List.set_cons_zero, List.set_cons_succ, Nat.reduceAdd, Nat.zero_add]
      go_wp2_with fail
      refine ⟨_, by (simp only [upd, Nat.reduceEqDiff, reduceIte]; rfl), ?_, ?_⟩
      · exact ⟨_, rfl, row_new W _ 79 19 _ (by rfl) zprin_at, hW.size⟩
      · exact (Below.refl _ _).alloc (Nat.le_refl _) _
  intro xs W7 hW hp
  obtain ⟨gv, h6, hrw⟩ : ∃ gw, xs 6 = .agg (cellsOf 19 (prinF N.a (keyF (keyB N.a b.L)) lK3a (fnB gw))) ∧ RowB W7 gw 25 16 N.x := hp 6 (by omega)
  obtain ⟨g14, h7, hz, hg⟩ : ∃ g, xs 7 = .pointer (some ⟨g, 0, none⟩) ∧ W7.rowIs g 79 19 (prinF ⟨#[]⟩ (fun _ => 0) ⟨#[]⟩ Value.nilFunc) ∧ w6.drew.heap.size ≤ g := hp 7 (by omega)
  have hne : gv ≠ g14 := rows_ne (by decide) hrw hz
  have hbW := undrew hW
  obtain ⟨C6, hC6⟩ : ∃ C, C = cellsOf 19 (prinF N.a (keyF (keyB N.a b.L)) lK3a (fnB gv)) := ⟨_, rfl⟩
  rw [← hC6] at h6
  have HC6 := Lib.hid hC6
  have hg' : w6.heap.size ≤ g14 := hg
  rw [upd_self h6, upd_self h7]
  simp only [fillI, List.take, List.setIfInBounds_toArray, List.set_cons_zero, List.set_cons_succ, Nat.reduceAdd, Nat.zero_add, upd, Nat.reduceEqDiff, reduceIte]
  clear hp hW hg h6 h7 hC6
  generalize xs 0 = z0 at *
  generalize xs 1 = z1 at *
  generalize xs 2 = z2 at *
  generalize xs 3 = z3 at *
  generalize xs 4 = z4 at *
  generalize xs 5 = z5 at *
  clear xs
  refine store_whole (by rfl) 79 (.tmp 14) (.tmp 63) (by rfl) g14 _ 19 _ (prinF N.a (keyF (keyB N.a b.L)) lK3a (fnB gv)) hz (by rfl) _ (by rfl) (by kernel_rfl) (by rw [HC6.out]; exact size_cellsOf _ _) (by rw [HC6.out]; exact cellsOf_at _ _) (fun i _ => prinF_one _ _ _ _ rfl i) ?_
  intro w8 hr1 ho1
  refine NoPanic.normal ?_
  have hb8 : Below w6.heap.size w6 w8 := ho1.below hbW hg'
  have H8 := Lib.hid (H6.out.step hb8)
  have HB8 := Lib.hid hr1
  have HV8 : Hid (RowB w8 gv 25 16 N.x) := Lib.hid (World.rowIs.of_block hrw (ho1.block _ hne))
  clear hr1 ho1 hrw hz hne hbW hg'
  have HA8 := Lib.hid (HA6.out.of_block (hb8.block _ (World.rowIs.lt HA6.out)))
  have HW8 := Lib.hid (World.rowIs.of_block HW6.out (hb8.block _ (World.rowIs.lt HW6.out)))
  clear hb8 H6 HR6 HA6 HW6 M6
  simp only [Act.put]
  go_upto_region 9 with fail
  have t1 := told_k gw N.y w8 HW8.out
  have t2 := told_k gv N.x w8 HV8.out
  obtain ⟨CD2, hCD2, zCD2, iCD2⟩ := cells_named 48 (byteF D) D (fun _ _ => rfl)
  have HCD2 := Lib.hid hCD2
  have HI := introduce_any N.b N.a lK3b lK3a (keyF (keyB N.b b.L)) (keyF (keyB N.a b.L)) _ _ _ _ _ _ D CD2 zCD2 iCD2 w8 H8.out.hk t1 t2
    (by show off (fldM [(16, N.y), (N.a.size, strB N.a), (16, D)]) 3 + 3 ≤ 100000; rw [off3]; have := HA.out; omega)
    (by show off (fldM [(16, N.x), (N.b.size, strB N.b), (16, D)]) 3 + 3 ≤ 100000; rw [off3]; have := HB.out; omega)
  have HI2 : Hid (Calls Tryz.prog 32 #[.agg (cellsOf 19 (prinF N.b (keyF (keyB N.b b.L)) lK3b (fnB gw))), .agg (cellsOf 19 (prinF N.a (keyF (keyB N.a b.L)) lK3a (fnB gv))), .agg CD2] w8 fun x w' =>
      ∃ P' Q', x = .returned (.tuple #[P', Q']) ∧ SliceOf w' w'.heap.size (blobN (kslP N D)) (blobB (keyF (keyB N.b b.L)) (fun j => D (16 + j)) lK3b (kslP N D)) P' ∧ SliceOf w' w'.heap.size (blobN (kslQ N D)) (blobB (keyF (keyB N.a b.L)) (fun j => D (32 + j)) lK3a (kslQ N D)) Q' ∧ Below w8.heap.size w8 w') := Lib.hid (by
    have e1 := (blob_len lK3b (kslP N D) rfl (by show 3 ≤ 4; omega) (by show off (fldM [(16, N.y), (N.a.size, strB N.a), (16, D)]) 3 ≤ 200; rw [off3]; have := HA.out; omega)).2.2
    have e2 := (blob_len lK3a (kslQ N D) rfl (by show 3 ≤ 4; omega) (by show off (fldM [(16, N.x), (N.b.size, strB N.b), (16, D)]) 3 ≤ 200; rw [off3]; have := HB.out; omega)).2.2
    refine HI.mono ?_
    rintro x w' ⟨P', Q', hx, h1, h2, h3⟩
    refine ⟨P', Q', hx, ?_, ?_, h3⟩
    · rw [← e1]
      exact h1
    · rw [← e2]
      exact h2)
  clear t1 t2 hCD2 HI zCD2 iCD2 HW8 HV8
  have r5 := H8.out.dr
  have r13 := HA8.out
  have r14 := HB8.out
  obtain ⟨CP1, hCP1⟩ : ∃ C, C = cellsOf 19 (prinF N.b (keyF (keyB N.b b.L)) lK3b (fnB gw)) := ⟨_, rfl⟩
  obtain ⟨CP2, hCP2⟩ : ∃ C, C = cellsOf 19 (prinF N.a (keyF (keyB N.a b.L)) lK3a (fnB gv)) := ⟨_, rfl⟩
  rw [← hCP1, ← hCP2] at HI2
  have HP1 := Lib.hid hCP1.symm
  have HP2 := Lib.hid hCP2.symm
  clear hCP1 hCP2
  go_wp2_with (first
    | (refine load_as (by rfl) 79 (.tmp 13) (by rfl) g13 0 _ 19 19 _ CP1 ((cells_zero _ _).trans HP1.out) r13 (by rfl) _ Tryz.underlying79 (by rfl) (by kernel_rfl) (by omega) ?_)
    | (refine load_as (by rfl) 79 (.tmp 14) (by rfl) g14 0 _ 19 19 _ CP2 ((cells_zero _ _).trans HP2.out) r14 (by rfl) _ Tryz.underlying79 (by rfl) (by kernel_rfl) (by omega) ?_)
    | (refine load_as (by rfl) 31 (.tmp 5) (by rfl) (w.heap.size + 1 + 1) 0 _ 48 48 _ CD2 ((cells_zero _ _).trans HCD2.out) r5 (by rfl) _ Tryz.underlying31 (by rfl) (by kernel_rfl) (by omega) ?_))
  refine HI2.out.mono ?_
  rintro _ w9 ⟨P', Q', rfl, hsp, hsq, hb9⟩
  have H9 := Lib.hid (H8.out.step hb9)
  have HSP := Lib.hid hsp
  have HSQ := Lib.hid hsq
  have HA9 := Lib.hid (HA8.out.of_block (hb9.block _ (World.rowIs.lt HA8.out)))
  clear r5 r13 r14 hb9 hsp hsq H8 HA8 HB8 HI2
  obtain ⟨AP', cP', eP'⟩ := slice_shape HSP.out
  obtain ⟨AQ', cQ', eQ'⟩ := slice_shape HSQ.out
  obtain ⟨n1, hn1⟩ : ∃ n, n = blobN (kslP N D) := ⟨_, rfl⟩
  obtain ⟨n2, hn2⟩ : ∃ n, n = blobN (kslQ N D) := ⟨_, rfl⟩
  rw [← hn1] at HSP eP'
  rw [← hn2] at HSQ eQ'
  subst eP' eQ'
  have HN1 := Lib.hid hn1
  have HN2 := Lib.hid hn2
  clear hn1 hn2
  have hz := H9.out.zr
  have d0 := HA9.out.cell (i := 0) (by omega)
  rw [show prinF N.b (keyF (keyB N.b b.L)) lK3b (fnB gw) 0 = .string N.b from rfl] at d0
  go_wp2_with (refine store_whole (by rfl) 30 (.tmp 7) (.tmp 75) (by rfl) (w.heap.size + 1 + 1 + 1) _ 38 _ (noteF (kslN b N D (fun j => D (16 + j)) (fun j => D (32 + j))) (.slice AP' n1 cP') (.slice AQ' n2 cQ') nilV) hz (by rfl) (cellsOf 38 (noteF (kslN b N D (fun j => D (16 + j)) (fun j => D (32 + j))) (.slice AP' n1 cP') (.slice AQ' n2 cQ') nilV)) (by kernel_rfl) (by kernel_rfl) (size_cellsOf _ _) (cellsOf_at _ _) (note_cells_one _ _ _ _ rfl rfl rfl) ?_; intro w11 hr11 ho11)
  refine bodyPost_ret (results_mid rfl _ (w.heap.size + 1 + 1 + 1) _ 38 _ _ rfl hr11 Tryz.underlying30 (by rfl) (by kernel_rfl)) rfl ?_
  unfold kslTo kslM
  rw [HC.out, if_pos rfl, if_pos rfl]
  refine ⟨_, _, nilV, rfl, ⟨?_, ?_, SliceOf.nil _ _ _⟩, ho11.below H9.out.hb (by omega)⟩
  · show SliceOf w11 w11.heap.size (blobN (kslP N D)) _ _
    rw [← HN1.out]
    exact slice_past HSP.out H9.out.zr (by rw [HN1.out]; exact blob_big _) ho11
  · show SliceOf w11 w11.heap.size (blobN (kslQ N D)) _ _
    rw [← HN2.out]
    exact slice_past HSQ.out H9.out.zr (by rw [HN2.out]; exact blob_big _) ho11
end Go.Proofs.YtnkjoambhmlnbaaGreatDoor.Kdc
