/-
  What the program's functions that point at a note's fields do; what the functions over them do. What the program does with one field of a note, whatever its type: what treatmentOf answers, and what its four functions do.
-/
import Derived.Test.YtnkjoambhmlnbaaGreatDoorBd11
import Derived.Test.YtnkjoambhmlnbaaGreatDoorBd05
import Derived.Test.YtnkjoambhmlnbaaGreatDoorBd12
import Derived.Test.YtnkjoambhmlnbaaGreatDoorBd13
import Derived.Test.YtnkjoambhmlnbaaGreatDoorBd14
import Derived.Test.YtnkjoambhmlnbaaGreatDoorBd15
import Derived.Test.YtnkjoambhmlnbaaGreatDoorBd18
import Derived.Test.YtnkjoambhmlnbaaGreatDoorBd20
import Derived.Deep.QuietTactic
import Derived.BigQuiet
import Derived.Deep.RegionWith
import Derived.Deep.DeepCutAuto
namespace Go.Proofs.YtnkjoambhmlnbaaGreatDoor.Note
open Go Go.RowKit Go.Proofs.YtnkjoambhmlnbaaGreatDoor.Aid Go.Proofs.YtnkjoambhmlnbaaGreatDoor.Law01 Go.Proofs.YtnkjoambhmlnbaaGreatDoor.Field

abbrev ptr (g o : Nat) : Value := .pointer (some ⟨g, o, none⟩)
/-- A function that points at the field which begins at o. -/
structure Get (G g o : Nat) : Prop where
  enter : ∀ args w, (callFunc G args).run Tryz.prog w = .ok (.enter G args) w
  run : ∀ W, Calls Tryz.prog G #[ptr g 0] W fun x w' => x = .returned (ptr g o) ∧ w' = W
theorem get_65 (g : Nat) : Get 35 g 1 := ⟨fun args w => by go_simp, fun W => by
  go_enter Tryz.func35, Tryz.ntmps35
  go_wp2
  go_ret
  exact ⟨rfl, rfl⟩⟩
theorem get_66 (g : Nat) : Get 36 g 2 := ⟨fun args w => by go_simp, fun W => by
  go_enter Tryz.func36, Tryz.ntmps36
  go_wp2
  go_ret
  exact ⟨rfl, rfl⟩⟩
theorem get_88 (g : Nat) : Get 38 g 3 := ⟨fun args w => by go_simp, fun W => by
  go_enter Tryz.func38, Tryz.ntmps38
  go_wp2
  go_ret
  exact ⟨rfl, rfl⟩⟩
theorem get_89 (g : Nat) : Get 39 g 19 := ⟨fun args w => by go_simp, fun W => by
  go_enter Tryz.func39, Tryz.ntmps39
  go_wp2
  go_ret
  exact ⟨rfl, rfl⟩⟩
theorem get_80 (g : Nat) : Get 41 g 35 := ⟨fun args w => by go_simp, fun W => by
  go_enter Tryz.func41, Tryz.ntmps41
  go_wp2
  go_ret
  exact ⟨rfl, rfl⟩⟩
theorem get_81 (g : Nat) : Get 42 g 36 := ⟨fun args w => by go_simp, fun W => by
  go_enter Tryz.func42, Tryz.ntmps42
  go_wp2
  go_ret
  exact ⟨rfl, rfl⟩⟩
theorem get_82 (g : Nat) : Get 43 g 37 := ⟨fun args w => by go_simp, fun W => by
  go_enter Tryz.func43, Tryz.ntmps43
  go_wp2
  go_ret
  exact ⟨rfl, rfl⟩⟩
def getF (c : Nat) : Nat := if c = 65 then 35 else if c = 66 then 36 else if c = 88 then 38 else if c = 89 then 39 else if c = 80 then 41 else if c = 81 then 42 else 43
def offL (c : Nat) : Nat := if c = 65 then 1 else if c = 66 then 2 else if c = 88 then 3 else if c = 89 then 19 else if c = 80 then 35 else if c = 81 then 36 else 37
theorem get_all (c : Nat) (hc : seven c) (g : Nat) : Get (getF c) g (offL c) := by
  rcases hc with rfl | rfl | rfl | rfl | rfl | rfl | rfl
  · exact get_65 g
  · exact get_66 g
  · exact get_88 g
  · exact get_89 g
  · exact get_80 g
  · exact get_81 g
  · exact get_82 g

/-- The variable that holds each kind's letters. -/
structure Table10 (w : World) : Prop where
  c : ∀ i, i < 17 → w.cell? ⟨0, i, none⟩ = some (.string (strL (table.getD i [])))
theorem Table10.lt {w : World} (h : Table10 w) : 0 < w.heap.size := block_lt_of_cell (h.c 0 (by omega))
theorem Table10.below {w w' : World} (h : Table10 w) {B : Nat} (hb : Below B w w') (hB : w.heap.size ≤ B) : Table10 w' := by
  have hl := h.lt
  exact ⟨fun i hi => (hb.cell (p := ⟨0, i, none⟩) (by simp; omega)).trans (h.c i hi)⟩
/-- What a store into one block leaves. -/
theorem leaves_cell {w W : World} {g j : Nat} {v : Value} (h : Below w.heap.size w W) : Cache.Leaves (fun b => b = g) w (W.setCell ⟨g, j, none⟩ v) :=
  ⟨by simpa [World.setCell] using h.os, by simpa [World.setCell] using h.tape, by simpa [World.setCell] using h.output, by have := h.size; simpa [World.setCell] using this, fun b hb hn => (heap_setCell_other _ _ _ _ (by simpa using hn)).trans (h.block b hb)⟩
theorem leaves_only {w W W' : World} {g : Nat} (h : Below w.heap.size w W) (ho : Only g W W') : Cache.Leaves (fun b => b = g) w W' :=
  ⟨ho.os.trans h.os, ho.tape.trans h.tape, ho.output.trans h.output, by rw [ho.size]; exact h.size, fun b hb hn => (ho.block b hn).trans (h.block b hb)⟩
def fn (G : Nat) : Value := .func (.func G) #[] #[]
/-- Two texts are the same just if their bytes are. -/
theorem same_to (e f : Nat → BitVec 8) : ∀ n, (∀ j, j < n → e j = f j) → Mac.sameTo e f n = true
  | 0, _ => rfl
  | n + 1, h => by
    show (Mac.sameTo e f n && (e n == f n)) = true
    rw [same_to e f n (fun j hj => h j (by omega)), h n (by omega)]
    simp
theorem str_same (e f : Nat → BitVec 8) (n m : Nat) : ((strOf e n).toList == (strOf f m).toList) = Mac.sameBytes n m e f := by
  have h1 : ((strOf e n).toList == (strOf f m).toList) = true ↔ strOf e n = strOf f m := by
    rw [beq_iff_eq, ByteArray.toList_eq, ByteArray.toList_eq]
    exact ⟨fun h => by
      have := Array.toList_inj.1 h
      cases hx : strOf e n; cases hy : strOf f m
      rw [hx, hy] at this
      exact congrArg ByteArray.mk this, fun h => by rw [h]⟩
  have h2 : Mac.sameBytes n m e f = true ↔ strOf e n = strOf f m := by
    constructor
    · intro h
      obtain ⟨rfl, ha⟩ := same_all h
      refine str_ext (by rw [size_strOf, size_strOf]) (fun j hj => ?_)
      rw [size_strOf] at hj
      rw [strB_strOf _ _ _ hj, strB_strOf _ _ _ hj, ha j hj]
    · intro h
      have hz : n = m := by have := congrArg ByteArray.size h; rw [size_strOf, size_strOf] at this; exact this
      subst hz
      unfold Mac.sameBytes
      rw [same_to e f n (fun j hj => by
        have : strB (strOf e n) j = strB (strOf f n) j := by rw [h]
        rw [strB_strOf _ _ _ hj, strB_strOf _ _ _ hj] at this
        exact this)]
      simp
  rw [Bool.eq_iff_iff]
  exact h1.trans h2.symm
theorem name_valid (G g o a : Nat) (s : ByteArray) (W : World) (hG : Get G g o) (ha : W.cell? ⟨a, 0, none⟩ = some (fn G)) (hs : W.cell? ⟨g, o, none⟩ = some (.string s)) (hz : s.size ≤ 9000000000000000000) :
    Calls Tryz.prog 56 #[ptr g 0, ptr a 0] W fun x w' => x = .returned (.bool (nameB s)) ∧ Below W.heap.size W w' := by
  unfold fn at ha
  have eG := hG.enter
  have HG := Lib.hid hG
  have HZ := Lib.hid hz
  clear hG hz
  go_enter Tryz.func56, Tryz.ntmps56
  go_wp2_with fail
  refine (HG.out.run _).mono ?_
  rintro _ _ ⟨rfl, rfl⟩
  go_wp2_with fail
  refine (name_own s _ HZ.out).mono ?_
  rintro _ w1 ⟨rfl, hb1⟩
  go_wp2
  go_ret
  exact ⟨rfl, hb1⟩
set_option maxHeartbeats 1000000 in
theorem name_same (G g h o a : Nat) (s t : ByteArray) (W : World) (hG : Get G g o) (hH : Get G h o) (ha : W.cell? ⟨a, 0, none⟩ = some (fn G)) (hs : W.cell? ⟨g, o, none⟩ = some (.string s)) (ht : W.cell? ⟨h, o, none⟩ = some (.string t)) :
    Calls Tryz.prog 57 #[ptr g 0, ptr h 0, ptr a 0] W fun x w' => x = .returned (.bool (s.toList == t.toList)) ∧ Below W.heap.size W w' := by
  unfold fn at ha
  have eG := hG.enter
  have HG := Lib.hid hG
  have HH := Lib.hid hH
  clear hG hH
  go_enter Tryz.func57, Tryz.ntmps57
  go_upto_region 1 with fail
  refine region_held (fun w' => ∃ q, w' = W.drewN q) (by kernel_rfl) (by kernel_rfl) ⟨1, rfl⟩ ?_
  refine q_val (by rfl) (.func (.func G) #[] #[]) (fun w' ⟨q, hq⟩ => by subst hq; go_simp) ?_
  simp only [Act.put, List.setIfInBounds_toArray, List.set_cons_zero, List.set_cons_succ]
  refine q_val (by rfl) (ptr g 0) (fun w' ⟨q, hq⟩ => by subst hq; go_simp) ?_
  simp only [Act.put, List.setIfInBounds_toArray, List.set_cons_zero, List.set_cons_succ]
  refine q_call (by rfl) G #[ptr g 0] (fun w' => by go_simp) (ptr g o) (fun w' hq => (HG.out.run w').mono (fun _ _ ⟨h1, h2⟩ => ⟨h1, h2 ▸ hq⟩)) ?_
  simp only [Act.put, List.setIfInBounds_toArray, List.set_cons_zero, List.set_cons_succ]
  refine q_val (by rfl) (ptr g o) (fun w' ⟨q, hq⟩ => by subst hq; go_simp) ?_
  simp only [Act.put, List.setIfInBounds_toArray, List.set_cons_zero, List.set_cons_succ]
  refine q_val (by rfl) (.string s) (fun w' ⟨q, hq⟩ => by subst hq; go_simp) ?_
  simp only [Act.put, List.setIfInBounds_toArray, List.set_cons_zero, List.set_cons_succ]
  refine q_val (by rfl) (.func (.func G) #[] #[]) (fun w' ⟨q, hq⟩ => by subst hq; go_simp) ?_
  simp only [Act.put, List.setIfInBounds_toArray, List.set_cons_zero, List.set_cons_succ]
  refine q_val (by rfl) (ptr h 0) (fun w' ⟨q, hq⟩ => by subst hq; go_simp) ?_
  simp only [Act.put, List.setIfInBounds_toArray, List.set_cons_zero, List.set_cons_succ]
  refine q_call (by rfl) G #[ptr h 0] (fun w' => by go_simp) (ptr h o) (fun w' hq => (HH.out.run w').mono (fun _ _ ⟨h1, h2⟩ => ⟨h1, h2 ▸ hq⟩)) ?_
  simp only [Act.put, List.setIfInBounds_toArray, List.set_cons_zero, List.set_cons_succ]
  refine q_val (by rfl) (ptr h o) (fun w' ⟨q, hq⟩ => by subst hq; go_simp) ?_
  simp only [Act.put, List.setIfInBounds_toArray, List.set_cons_zero, List.set_cons_succ]
  refine q_val (by rfl) (.string t) (fun w' ⟨q, hq⟩ => by subst hq; go_simp) ?_
  simp only [Act.put, List.setIfInBounds_toArray, List.set_cons_zero, List.set_cons_succ]
  refine q_val (by rfl) (.bool (s.toList == t.toList)) (fun w' ⟨q, hq⟩ => by subst hq; go_simp) ?_
  simp only [Act.put, List.setIfInBounds_toArray, List.set_cons_zero, List.set_cons_succ]
  refine q_val (by rfl) (.bool (s.toList == t.toList)) (fun w' ⟨q, hq⟩ => by subst hq; go_simp) ?_
  simp only [Act.put, List.setIfInBounds_toArray, List.set_cons_zero, List.set_cons_succ]
  intro w' ⟨q, hq⟩
  subst hq
  go_wp2
  go_ret
  exact ⟨rfl, drewN_from (Below.refl _ _) q⟩
theorem name_encode (G g o a : Nat) (s : ByteArray) (W : World) (hG : Get G g o) (ha : W.cell? ⟨a, 0, none⟩ = some (fn G)) (hs : W.cell? ⟨g, o, none⟩ = some (.string s)) :
    Calls Tryz.prog 58 #[ptr g 0, ptr a 0] W fun x w' => ∃ A c, x = .returned (.slice A s.size c) ∧ (∀ g, (g < W.heap.size ∨ w'.heap.size ≤ g) → SliceOf w' g s.size (strB s) (.slice A s.size c)) ∧ Below W.heap.size W w' := by
  unfold fn at ha
  have eG := hG.enter
  have HG := Lib.hid hG
  clear hG
  have kx := fun (W : World) => Lib.run_convert_string_bytes (P := Tryz.prog) W 9 28 5 s Tryz.underlying9 Tryz.underlying28 Tryz.underlying5
  go_enter Tryz.func58, Tryz.ntmps58
  go_wp2_with fail
  refine (HG.out.run _).mono ?_
  rintro _ _ ⟨rfl, rfl⟩
  go_wp2
  go_ret
  exact ⟨_, _, rfl, fun g hg => strB_slice _ s g (by rcases hg with h | h <;> first | omega | (rw [Lib.bytesWorld_size] at h; omega)), strB_below _ s⟩
theorem name_decode (G g o a : Nat) (f : Nat → Value) (A : Option Addr) (c n : Nat) (E : Nat → BitVec 8) (W : World) (hG : Get G g o) (ha : W.cell? ⟨a, 0, none⟩ = some (fn G)) (hr : W.rowIs g 30 38 f) (ho : o < 38) (s : ByteArray) (hf : f o = .string s) (hs : SliceOf W W.heap.size n E (.slice A n c)) :
    Calls Tryz.prog 59 #[ptr g 0, .slice A n c, ptr a 0] W fun x w' => x = .returned (.int .i64 0) ∧ w'.rowIs g 30 38 (fun j => if j = o then .string (strOf E n) else f j) ∧ Cache.Leaves (fun b => b = g) W w' := by
  unfold fn at ha
  have eG := hG.enter
  have HG := Lib.hid hG
  have HR := Lib.hid hr
  have KS := fun q => str_run A c n E W.heap.size (W.drewN q) (slice_below hs (drewN_from (Below.refl _ _) q))
  clear hG hr
  go_enter Tryz.func59, Tryz.ntmps59
  go_upto_region 1 with fail
  refine region_mix_last (fun w' => ∃ q, w' = W.drewN q) 6 [(0, true), (1, true), (3, true), (4, true), (2, false), (5, true)] (by kernel_rfl) (by rfl) (by kernel_rfl) ⟨1, rfl⟩ ?_
  refine m_val rfl (by rfl) (.func (.func G) #[] #[]) (fun w' ⟨q, hq⟩ => by subst hq; go_simp) ?_
  simp only [Act.put, List.setIfInBounds_toArray, List.set_cons_zero, List.set_cons_succ]
  refine m_val rfl (by rfl) (ptr g 0) (fun w' ⟨q, hq⟩ => by subst hq; go_simp) ?_
  simp only [Act.put, List.setIfInBounds_toArray, List.set_cons_zero, List.set_cons_succ]
  refine m_val rfl (by rfl) (.slice A n c) (fun w' ⟨q, hq⟩ => by subst hq; go_simp) ?_
  simp only [Act.put, List.setIfInBounds_toArray, List.set_cons_zero, List.set_cons_succ]
  refine m_val rfl (by rfl) (.string (strOf E n)) (fun w' ⟨q, hq⟩ => by subst hq; go_simp) ?_
  simp only [Act.put, List.setIfInBounds_toArray, List.set_cons_zero, List.set_cons_succ]
  refine m_go rfl ?_
  go_wp2_with fail
  refine (HG.out.run _).mono ?_
  rintro _ _ ⟨rfl, rfl⟩
  go_wp2_with fail
  refine m_on ⟨1, rfl⟩ ?_
  refine m_val rfl (by rfl) (ptr g o) (fun w' ⟨q, hq⟩ => by subst hq; go_simp) ?_
  simp only [Act.put, List.setIfInBounds_toArray, List.set_cons_zero, List.set_cons_succ]
  refine m_end ?_
  have hd : W.drew.rowIs g 30 38 f := HR.out
  have HD := Lib.hid hd
  have d0 := hd.cell (i := o) ho
  have f0 := hd.frozen o
  rw [hf] at d0
  have HB : Hid (Below W.heap.size W W.drew) := Lib.hid (Below.refl _ _).drew
  clear hd HR KS ha hs
  dsimp only
  go_wp2_with fail
  refine NoPanic.normal ?_
  go_wp2
  go_ret
  exact ⟨rfl, HD.out.set o _, leaves_cell HB.out⟩
theorem word_valid (g : Nat) (W : World) : Calls Tryz.prog 60 #[ptr g 0] W fun x w' => x = .returned (.bool true) ∧ Below W.heap.size W w' := by
  go_enter Tryz.func60, Tryz.ntmps60
  go_wp2
  go_ret
  exact ⟨rfl, Below.refl _ _⟩
theorem word_at {f : Nat → Value} {o : Nat} {X : Nat → BitVec 8} (hf : ∀ i, i < 16 → f (o + i) = .int .u8 ((X i).toNat : Int)) (i : Nat) (hi : i < 16) : (cellsOf 16 (fun j => f (o + j)))[i]? = some (.int .u8 ((X i).toNat : Int)) := by
  rw [cellsOf_at _ _ _ hi, hf i hi]
theorem word_same (G g h o a : Nat) (f e : Nat → Value) (X Y : Nat → BitVec 8) (W : World) (hG : Get G g o) (hH : Get G h o) (ha : W.cell? ⟨a, 0, none⟩ = some (fn G)) (hr : W.rowIs g 30 38 f) (hs : W.rowIs h 30 38 e) (ho : o + 16 ≤ 38)
    (hf : ∀ i, i < 16 → f (o + i) = .int .u8 ((X i).toNat : Int)) (he : ∀ i, i < 16 → e (o + i) = .int .u8 ((Y i).toNat : Int)) :
    Calls Tryz.prog 61 #[ptr g 0, ptr h 0, ptr a 0] W fun x w' => x = .returned (.bool (sameUpto X Y 16)) ∧ Below W.heap.size W w' := by
  unfold fn at ha
  have eG := hG.enter
  have HG := Lib.hid hG
  have HH := Lib.hid hH
  have HR : Hid (∀ w', (∃ q, w' = W.drewN q) → w'.rowIs g 30 38 f) := Lib.hid (fun w' ⟨q, hq⟩ => by subst hq; exact World.rowIs.of_block hr ((drewN_from (Below.refl _ _) q).block _ hr.lt))
  have HS : Hid (∀ w', (∃ q, w' = W.drewN q) → w'.rowIs h 30 38 e) := Lib.hid (fun w' ⟨q, hq⟩ => by subst hq; exact World.rowIs.of_block hs ((drewN_from (Below.refl _ _) q).block _ hs.lt))
  have eq := fun W => run_equalIn_bytes (P := Tryz.prog) (len := 16) 9998 Tryz.underlying25 Tryz.underlying5 (by kernel_rfl) _ _ X Y (word_at hf) (word_at he) W
  have EQ := Lib.hid eq
  clear hG hH hr hs hf he eq
  go_enter Tryz.func61, Tryz.ntmps61
  go_upto_region 1 with fail
  refine region_held (fun w' => ∃ q, w' = W.drewN q) (by kernel_rfl) (by kernel_rfl) ⟨1, rfl⟩ ?_
  refine q_val (by rfl) (.func (.func G) #[] #[]) (fun w' ⟨q, hq⟩ => by subst hq; go_simp) ?_
  simp only [Act.put, List.setIfInBounds_toArray, List.set_cons_zero, List.set_cons_succ]
  refine q_val (by rfl) (ptr g 0) (fun w' ⟨q, hq⟩ => by subst hq; go_simp) ?_
  simp only [Act.put, List.setIfInBounds_toArray, List.set_cons_zero, List.set_cons_succ]
  refine q_call (by rfl) G #[ptr g 0] (fun w' => by go_simp) (ptr g o) (fun w' hq => (HG.out.run w').mono (fun _ _ ⟨h1, h2⟩ => ⟨h1, h2 ▸ hq⟩)) ?_
  simp only [Act.put, List.setIfInBounds_toArray, List.set_cons_zero, List.set_cons_succ]
  refine q_val (by rfl) (ptr g o) (fun w' ⟨q, hq⟩ => by subst hq; go_simp) ?_
  simp only [Act.put, List.setIfInBounds_toArray, List.set_cons_zero, List.set_cons_succ]
  refine q_load (by rfl) 25 (.tmp 9) (by rfl) g o _ 38 16 _ HR.out (by rfl) _ Tryz.underlying25 rfl (by kernel_rfl) ho ?_
  simp only [Act.put, List.setIfInBounds_toArray, List.set_cons_zero, List.set_cons_succ]
  refine q_val (by rfl) (.func (.func G) #[] #[]) (fun w' ⟨q, hq⟩ => by subst hq; go_simp) ?_
  simp only [Act.put, List.setIfInBounds_toArray, List.set_cons_zero, List.set_cons_succ]
  refine q_val (by rfl) (ptr h 0) (fun w' ⟨q, hq⟩ => by subst hq; go_simp) ?_
  simp only [Act.put, List.setIfInBounds_toArray, List.set_cons_zero, List.set_cons_succ]
  refine q_call (by rfl) G #[ptr h 0] (fun w' => by go_simp) (ptr h o) (fun w' hq => (HH.out.run w').mono (fun _ _ ⟨h1, h2⟩ => ⟨h1, h2 ▸ hq⟩)) ?_
  simp only [Act.put, List.setIfInBounds_toArray, List.set_cons_zero, List.set_cons_succ]
  refine q_val (by rfl) (ptr h o) (fun w' ⟨q, hq⟩ => by subst hq; go_simp) ?_
  simp only [Act.put, List.setIfInBounds_toArray, List.set_cons_zero, List.set_cons_succ]
  refine q_load (by rfl) 25 (.tmp 14) (by rfl) h o _ 38 16 _ HS.out (by rfl) _ Tryz.underlying25 rfl (by kernel_rfl) ho ?_
  simp only [Act.put, List.setIfInBounds_toArray, List.set_cons_zero, List.set_cons_succ]
  have kx := EQ.out
  refine q_val (by rfl) (.bool (sameUpto X Y 16)) (fun w' ⟨q, hq⟩ => by subst hq; go_simp) ?_
  simp only [Act.put, List.setIfInBounds_toArray, List.set_cons_zero, List.set_cons_succ]
  refine q_val (by rfl) (.bool (sameUpto X Y 16)) (fun w' ⟨q, hq⟩ => by subst hq; go_simp) ?_
  simp only [Act.put, List.setIfInBounds_toArray, List.set_cons_zero, List.set_cons_succ]
  intro w' ⟨q, hq⟩
  subst hq
  go_wp2
  go_ret
  exact ⟨rfl, drewN_from (Below.refl _ _) q⟩
theorem all16 (b o : Nat) (W : World) : (Instr.sliceAt 25 (.pointer (some ⟨b, o, none⟩)) none none none).run Tryz.prog W = .ok (.slice (some ⟨b, o, none⟩) 16 16) W := by
  have hu := Tryz.underlying25
  have hsz : (Tryz.prog.info? 5).map (·.size) = some 1 := by kernel_rfl
  cases hq : Tryz.prog.info? 5 with
  | none => simp [hq] at hsz
  | some i => simp [Instr.sliceAt, Instr.sliceBounds, Instr.sureAddr, Sem.run_bind, run_underlying hu W, Result.andThen, sizeOf, typeInfo, hq, Addr.add]
theorem word_encode (G g o a : Nat) (W : World) (hG : Get G g o) (ha : W.cell? ⟨a, 0, none⟩ = some (fn G)) :
    Calls Tryz.prog 62 #[ptr g 0, ptr a 0] W fun x w' => x = .returned (.slice (some ⟨g, o, none⟩) 16 16) ∧ w' = W := by
  unfold fn at ha
  have eG := hG.enter
  have HG := Lib.hid hG
  clear hG
  have kx := all16
  go_enter Tryz.func62, Tryz.ntmps62
  go_wp2_with fail
  refine (HG.out.run _).mono ?_
  rintro _ _ ⟨rfl, rfl⟩
  go_wp2
  go_ret
  exact ⟨rfl, rfl⟩
set_option maxRecDepth 100000 in
theorem word_decode (G g o a : Nat) (f : Nat → Value) (A : Option Addr) (c n : Nat) (E : Nat → BitVec 8) (W : World) (hG : Get G g o) (ha : W.cell? ⟨a, 0, none⟩ = some (fn G)) (hr : W.rowIs g 30 38 f) (ho : o + 16 ≤ 38) (hn : n ≤ 1000000) (hs : SliceOf W W.heap.size n E (.slice A n c)) :
    Calls Tryz.prog 63 #[ptr g 0, .slice A n c, ptr a 0] W fun x w' => x = .returned (.int .i64 (wordC n)) ∧ w'.rowIs g 30 38 (fun j => if o ≤ j ∧ j < o + 16 then .int .u8 ((wordE n E (j - o)).toNat : Int) else f j) ∧ Cache.Leaves (fun b => b = g) W w' := by
  unfold fn at ha
  have eG := hG.enter
  have HG := Lib.hid hG
  have HF := Lib.hid (word_own A c n E W hn hs)
  have HR := Lib.hid hr
  have HA := Lib.hid ha
  clear hG hr hs ha
  go_enter Tryz.func63, Tryz.ntmps63
  go_wp2_with fail
  refine HF.out.mono ?_
  rintro _ w1 ⟨rfl, hb1⟩
  have HR1 := Lib.hid (World.rowIs.of_block HR.out (hb1.block _ (World.rowIs.lt HR.out)))
  have HA1 := Lib.hid ((hb1.cell (p := ⟨a, 0, none⟩) (block_lt_of_cell HA.out)).trans HA.out)
  have HB1 := Lib.hid hb1
  have HLT1 := Lib.hid (World.rowIs.lt HR1.out)
  have HZ := Lib.hid (row_new w1 (Array.replicate 16 (.int .u8 0)) 25 16 (fun _ => .int .u8 0) (by simp) (zero16 _ rfl))
  clear hb1 HF HR HA hn
  unfold wordV
  go_upto_region 2 with (refine store_whole (by rfl) 25 (.tmp 6) (.tmp 11) (by rfl) w1.heap.size _ 16 _ (fun i => .int .u8 ((wordE n E i).toNat : Int)) HZ.out (by rfl) _ (by rfl) (by kernel_rfl) (size_cellsOf _ _) (cellsOf_at _ _) (fun _ _ => rfl) ?_
                         intro w2 hr2 ho2)
  have HZ2 := Lib.hid hr2
  have HR2 := Lib.hid (ho2.row (HR1.out.alloc (.cells (Array.replicate 16 (.int .u8 0)) 25)) (Nat.ne_of_lt HLT1.out))
  have HB2 : Hid (Below W.heap.size W w2) := Lib.hid (ho2.below (HB1.out.alloc HB1.out.size _) HB1.out.size)
  have ha2 : w2.cell? ⟨a, 0, none⟩ = some (.func (.func G) #[] #[]) := by
    have hal : Below w1.heap.size w1 w2 := ho2.below ((Below.refl _ _).alloc (Nat.le_refl _) _) (Nat.le_refl _)
    exact (hal.cell (p := ⟨a, 0, none⟩) (block_lt_of_cell HA1.out)).trans HA1.out
  have HZd : Hid (∀ w', (∃ q, w' = w2.drewN q) → w'.rowIs w1.heap.size 25 16 (fun i => .int .u8 ((wordE n E i).toNat : Int))) := Lib.hid (fun w' ⟨q, hq⟩ => by subst hq; exact World.rowIs.of_block HZ2.out ((drewN_from (Below.refl _ _) q).block _ HZ2.out.lt))
  clear hr2 ho2 HZ HA1 HR1 HB1 HLT1 HZ2
  generalize w1.heap.size = z at *
  refine region_mix_last (fun w' => ∃ q, w' = w2.drewN q) 5 [(0, true), (1, true), (3, true), (2, false), (4, true)] (by kernel_rfl) (by rfl) (by kernel_rfl) ⟨1, rfl⟩ ?_
  refine m_val rfl (by rfl) (.func (.func G) #[] #[]) (fun w' ⟨q, hq⟩ => by subst hq; go_simp) ?_
  simp only [Act.put, List.setIfInBounds_toArray, List.set_cons_zero, List.set_cons_succ]
  refine m_val rfl (by rfl) (ptr g 0) (fun w' ⟨q, hq⟩ => by subst hq; go_simp) ?_
  simp only [Act.put, List.setIfInBounds_toArray, List.set_cons_zero, List.set_cons_succ]
  refine m_load rfl (by rfl) 25 (.tmp 6) (by rfl) z 0 _ 16 16 _ HZd.out (by rfl) _ Tryz.underlying25 rfl (by kernel_rfl) (by omega) ?_
  simp only [Act.put, List.setIfInBounds_toArray, List.set_cons_zero, List.set_cons_succ]
  refine m_go rfl ?_
  go_wp2_with fail
  refine (HG.out.run _).mono ?_
  rintro _ _ ⟨rfl, rfl⟩
  go_wp2_with fail
  refine m_on ⟨1, rfl⟩ ?_
  refine m_val rfl (by rfl) (ptr g o) (fun w' ⟨q, hq⟩ => by subst hq; go_simp) ?_
  simp only [Act.put, List.setIfInBounds_toArray, List.set_cons_zero, List.set_cons_succ]
  refine m_end ?_
  have HD : Hid (w2.drew.rowIs g 30 38 f) := Lib.hid HR2.out
  have HB : Hid (Below W.heap.size W w2.drew) := Lib.hid HB2.out.drew
  clear HR2 HB2 ha2 HZd
  dsimp only
  go_wp2_with (refine store_row (by rfl) 25 (.tmp 17) (.tmp 16) (by rfl) g o _ 38 16 _ (fun i => .int .u8 ((wordE n E (0 + i)).toNat : Int)) HD.out (by rfl) _ (by rfl) (by kernel_rfl) ho (size_cellsOf _ _) (cellsOf_at _ _) (fun _ _ => rfl) ?_
               intro w3 hr3 ho3)
  refine NoPanic.normal ?_
  have HR3 : Hid (w3.rowIs g 30 38 (fun j => if o ≤ j ∧ j < o + 16 then .int .u8 ((wordE n E (j - o)).toNat : Int) else f j)) := Lib.hid (hr3.congr (fun j _ => by simp only [Nat.zero_add]))
  have HB3 := Lib.hid (leaves_only HB.out ho3)
  clear hr3 ho3 HD HB
  go_wp2
  go_ret
  exact ⟨rfl, HR3.out, HB3.out⟩
theorem blob_valid (G g o a : Nat) (A : Option Addr) (c n : Nat) (W : World) (hG : Get G g o) (ha : W.cell? ⟨a, 0, none⟩ = some (fn G)) (hs : W.cell? ⟨g, o, none⟩ = some (.slice A n c)) :
    Calls Tryz.prog 64 #[ptr g 0, ptr a 0] W fun x w' => x = .returned (.bool (decide (n ≤ 500))) ∧ Below W.heap.size W w' := by
  unfold fn at ha
  have eG := hG.enter
  have HG := Lib.hid hG
  have hd : decide (n ≤ 500) = decide ((n : Int) ≤ 500) := decide_eq_decide.2 (by omega)
  have HD := Lib.hid hd
  clear hG hd
  go_enter Tryz.func64, Tryz.ntmps64
  go_wp2_with fail
  refine (HG.out.run _).mono ?_
  rintro _ _ ⟨rfl, rfl⟩
  go_wp2
  go_ret
  exact ⟨by rw [HD.out]; rfl, Below.refl _ _⟩
theorem equal_any (A B : Option Addr) (c n d m : Nat) (e f : Nat → BitVec 8) (W : World) (h : SliceOf W W.heap.size n e (.slice A n c)) (k : SliceOf W W.heap.size m f (.slice B m d)) :
    Calls Tryz.prog 66 #[.slice A n c, .slice B m d] W fun x w' => x = .returned (.bool (Mac.sameBytes n m e f)) ∧ w' = W := by
  have k1 := str_run A c n e _ W h
  have k2 := str_run B d m f _ W k
  have hs := str_same e f n m
  clear h k
  go_enter Tryz.func66, Tryz.ntmps66
  go_wp2
  go_ret
  exact ⟨by rw [← hs]; rfl, rfl⟩
theorem blob_same (G g h o a : Nat) (A B : Option Addr) (c n d m : Nat) (e f : Nat → BitVec 8) (W : World) (hG : Get G g o) (hH : Get G h o) (ha : W.cell? ⟨a, 0, none⟩ = some (fn G)) (hs : W.cell? ⟨g, o, none⟩ = some (.slice A n c)) (ht : W.cell? ⟨h, o, none⟩ = some (.slice B m d))
    (h1 : SliceOf W W.heap.size n e (.slice A n c)) (h2 : SliceOf W W.heap.size m f (.slice B m d)) :
    Calls Tryz.prog 65 #[ptr g 0, ptr h 0, ptr a 0] W fun x w' => x = .returned (.bool (Mac.sameBytes n m e f)) ∧ Below W.heap.size W w' := by
  unfold fn at ha
  have eG := hG.enter
  have HG := Lib.hid hG
  have HH := Lib.hid hH
  have H1 := Lib.hid h1
  have H2 := Lib.hid h2
  clear hG hH h1 h2
  go_enter Tryz.func65, Tryz.ntmps65
  go_upto_region 1 with fail
  refine region_held (fun w' => ∃ q, w' = W.drewN q) (by kernel_rfl) (by kernel_rfl) ⟨1, rfl⟩ ?_
  refine q_val (by rfl) (.func (.func G) #[] #[]) (fun w' ⟨q, hq⟩ => by subst hq; go_simp) ?_
  simp only [Act.put, List.setIfInBounds_toArray, List.set_cons_zero, List.set_cons_succ]
  refine q_val (by rfl) (ptr g 0) (fun w' ⟨q, hq⟩ => by subst hq; go_simp) ?_
  simp only [Act.put, List.setIfInBounds_toArray, List.set_cons_zero, List.set_cons_succ]
  refine q_call (by rfl) G #[ptr g 0] (fun w' => by go_simp) (ptr g o) (fun w' hq => (HG.out.run w').mono (fun _ _ ⟨h1, h2⟩ => ⟨h1, h2 ▸ hq⟩)) ?_
  simp only [Act.put, List.setIfInBounds_toArray, List.set_cons_zero, List.set_cons_succ]
  refine q_val (by rfl) (ptr g o) (fun w' ⟨q, hq⟩ => by subst hq; go_simp) ?_
  simp only [Act.put, List.setIfInBounds_toArray, List.set_cons_zero, List.set_cons_succ]
  refine q_val (by rfl) (.slice A n c) (fun w' ⟨q, hq⟩ => by subst hq; go_simp) ?_
  simp only [Act.put, List.setIfInBounds_toArray, List.set_cons_zero, List.set_cons_succ]
  refine q_val (by rfl) (.func (.func G) #[] #[]) (fun w' ⟨q, hq⟩ => by subst hq; go_simp) ?_
  simp only [Act.put, List.setIfInBounds_toArray, List.set_cons_zero, List.set_cons_succ]
  refine q_val (by rfl) (ptr h 0) (fun w' ⟨q, hq⟩ => by subst hq; go_simp) ?_
  simp only [Act.put, List.setIfInBounds_toArray, List.set_cons_zero, List.set_cons_succ]
  refine q_call (by rfl) G #[ptr h 0] (fun w' => by go_simp) (ptr h o) (fun w' hq => (HH.out.run w').mono (fun _ _ ⟨h1, h2⟩ => ⟨h1, h2 ▸ hq⟩)) ?_
  simp only [Act.put, List.setIfInBounds_toArray, List.set_cons_zero, List.set_cons_succ]
  refine q_val (by rfl) (ptr h o) (fun w' ⟨q, hq⟩ => by subst hq; go_simp) ?_
  simp only [Act.put, List.setIfInBounds_toArray, List.set_cons_zero, List.set_cons_succ]
  refine q_val (by rfl) (.slice B m d) (fun w' ⟨q, hq⟩ => by subst hq; go_simp) ?_
  simp only [Act.put, List.setIfInBounds_toArray, List.set_cons_zero, List.set_cons_succ]
  refine q_call (by rfl) 66 #[.slice A n c, .slice B m d] (fun w' => by go_simp) (.bool (Mac.sameBytes n m e f)) (fun w' hq => by
    obtain ⟨q, rfl⟩ := hq
    have hb := drewN_from (Below.refl W.heap.size W) q
    exact (equal_any A B c n d m e f _ (slice_any (slice_below H1.out hb) (Nat.le_refl _)) (slice_any (slice_below H2.out hb) (Nat.le_refl _))).mono (fun _ _ ⟨h1, h2⟩ => ⟨h1, q, h2⟩)) ?_
  simp only [Act.put, List.setIfInBounds_toArray, List.set_cons_zero, List.set_cons_succ]
  refine q_val (by rfl) (.bool (Mac.sameBytes n m e f)) (fun w' ⟨q, hq⟩ => by subst hq; go_simp) ?_
  simp only [Act.put, List.setIfInBounds_toArray, List.set_cons_zero, List.set_cons_succ]
  intro w' ⟨q, hq⟩
  subst hq
  go_wp2
  go_ret
  exact ⟨rfl, drewN_from (Below.refl _ _) q⟩
theorem blob_encode (G g o a : Nat) (A : Option Addr) (c n : Nat) (W : World) (hG : Get G g o) (ha : W.cell? ⟨a, 0, none⟩ = some (fn G)) (hs : W.cell? ⟨g, o, none⟩ = some (.slice A n c)) :
    Calls Tryz.prog 67 #[ptr g 0, ptr a 0] W fun x w' => x = .returned (.slice A n c) ∧ w' = W := by
  unfold fn at ha
  have eG := hG.enter
  have HG := Lib.hid hG
  clear hG
  go_enter Tryz.func67, Tryz.ntmps67
  go_wp2_with fail
  refine (HG.out.run _).mono ?_
  rintro _ _ ⟨rfl, rfl⟩
  go_wp2
  go_ret
  exact ⟨rfl, rfl⟩
theorem blob_decode (G g o a : Nat) (f : Nat → Value) (A : Option Addr) (c n : Nat) (W : World) (hG : Get G g o) (ha : W.cell? ⟨a, 0, none⟩ = some (fn G)) (hr : W.rowIs g 30 38 f) (ho : o < 38) (B : Option Addr) (d m : Nat) (hf : f o = .slice B m d) :
    Calls Tryz.prog 68 #[ptr g 0, .slice A n c, ptr a 0] W fun x w' => x = .returned (.int .i64 0) ∧ w'.rowIs g 30 38 (fun j => if j = o then .slice A n c else f j) ∧ Cache.Leaves (fun b => b = g) W w' := by
  unfold fn at ha
  have eG := hG.enter
  have HG := Lib.hid hG
  have HR := Lib.hid hr
  clear hG hr
  go_enter Tryz.func68, Tryz.ntmps68
  go_wp2_with fail
  refine (HG.out.run _).mono ?_
  rintro _ _ ⟨rfl, rfl⟩
  have HD := HR
  have d0 := HR.out.cell (i := o) ho
  have f0 := HR.out.frozen o
  rw [hf] at d0
  go_wp2
  go_ret
  exact ⟨rfl, HD.out.set o _, leaves_cell (Below.refl _ _)⟩
end Go.Proofs.YtnkjoambhmlnbaaGreatDoor.Note

namespace Go.Proofs.YtnkjoambhmlnbaaGreatDoor.Note
open Go Go.RowKit Go.Proofs.YtnkjoambhmlnbaaGreatDoor.Aid Go.Proofs.YtnkjoambhmlnbaaGreatDoor.Law01 Go.Proofs.YtnkjoambhmlnbaaGreatDoor.Field

def isN (c : Nat) : Bool := decide (c = 65 ∨ c = 66)
def valF (c : Nat) : Nat := if isN c then 56 else if isW c then 60 else 64
def samF (c : Nat) : Nat := if isN c then 57 else if isW c then 61 else 65
def encF (c : Nat) : Nat := if isN c then 58 else if isW c then 62 else 67
def decF (c : Nat) : Nat := if isN c then 59 else if isW c then 63 else 68
def valCap (c a : Nat) : Array Value := if isW c then #[] else #[ptr a 0]
def valV (c a : Nat) : Value := .func (.func (valF c)) #[] (valCap c a)
def samV (c a : Nat) : Value := .func (.func (samF c)) #[] #[ptr a 0]
def encV (c a : Nat) : Value := .func (.func (encF c)) #[] #[ptr a 0]
def decV (c a : Nat) : Value := .func (.func (decF c)) #[] #[ptr a 0]
/-- A function of the program's that may be called. -/
def Enters (G : Nat) : Prop := ∀ args w, (callFunc G args).run Tryz.prog w = .ok (.enter G args) w
theorem val_enters {c : Nat} (hc : seven c) : Enters (valF c) := by
  rcases hc with rfl | rfl | rfl | rfl | rfl | rfl | rfl
  all_goals (intro args w; simp only [valF, isN, isW]; go_simp)
theorem sam_enters {c : Nat} (hc : seven c) : Enters (samF c) := by
  rcases hc with rfl | rfl | rfl | rfl | rfl | rfl | rfl
  all_goals (intro args w; simp only [samF, isN, isW]; go_simp)
theorem enc_enters {c : Nat} (hc : seven c) : Enters (encF c) := by
  rcases hc with rfl | rfl | rfl | rfl | rfl | rfl | rfl
  all_goals (intro args w; simp only [encF, isN, isW]; go_simp)
theorem dec_enters {c : Nat} (hc : seven c) : Enters (decF c) := by
  rcases hc with rfl | rfl | rfl | rfl | rfl | rfl | rfl
  all_goals (intro args w; simp only [decF, isN, isW]; go_simp)

def tfn (v s e d : Value) (i : Nat) : Value := if i = 0 then v else if i = 1 then s else if i = 2 then e else d
theorem tfn_cells (v s e d : Value) : cellsOf 4 (tfn v s e d) = #[v, s, e, d] := rfl
theorem tfn_at (v s e d : Value) (C : Array Value) (hC : C = #[v, s, e, d]) (i : Nat) (hi : i < 4) : C[i]? = some (tfn v s e d i) := by
  subst hC
  match i, hi with
  | 0, _ => rfl
  | 1, _ => rfl
  | 2, _ => rfl
  | 3, _ => rfl
theorem tfn_one (v s e d : Value) (h1 : v.oneCell' = true) (h2 : s.oneCell' = true) (h3 : e.oneCell' = true) (h4 : d.oneCell' = true) (i : Nat) : (tfn v s e d i).oneCell' = true := by
  unfold tfn
  repeat' split
  all_goals assumption
theorem nil4 (w : World) : (w.alloc (.cells #[.nilFunc, .nilFunc, .nilFunc, .nilFunc] 57)).rowIs w.heap.size 57 4 (fun _ => .nilFunc) :=
  row_new w _ _ 4 _ rfl (fun i hi => by
    match i, hi with
    | 0, _ => rfl
    | 1, _ => rfl
    | 2, _ => rfl
    | 3, _ => rfl)
set_option maxRecDepth 100000 in
theorem of_name_any (G : Nat) (w : World) : Calls Tryz.prog 34 #[fn G] w fun x w' => ∃ a, x = .returned (.agg (cellsOf 4 (tfn (.func (.func 56) #[] #[ptr a 0]) (.func (.func 57) #[] #[ptr a 0]) (.func (.func 58) #[] #[ptr a 0]) (.func (.func 59) #[] #[ptr a 0])))) ∧ w'.cell? ⟨a, 0, none⟩ = some (fn G) ∧ Below w.heap.size w w' := by
  unfold fn
  have HR := Lib.hid (nil4 (w.alloc (.cells #[.func (.func G) #[] #[]] 85)))
  have ha : (w.alloc (.cells #[.func (.func G) #[] #[]] 85)).cell? ⟨w.heap.size, 0, none⟩ = some (.func (.func G) #[] #[]) := by rw [World.cell?_alloc_new]; rfl
  have hb : Below w.heap.size w (w.alloc (.cells #[.func (.func G) #[] #[]] 85)) := (Below.refl _ _).alloc (Nat.le_refl _) _
  have hz : (w.alloc (.cells #[.func (.func G) #[] #[]] 85)).heap.size = w.heap.size + 1 := by simp
  have HA := Lib.hid ha
  have HB := Lib.hid hb
  have HZ := Lib.hid hz
  rw [hz] at HR
  clear ha hb hz
  go_enter Tryz.func34, Tryz.ntmps34
  go_upto_region 1 with fail
  generalize w.alloc (.cells #[.func (.func G) #[] #[]] 85) = w1 at *
  obtain ⟨a, ha⟩ : ∃ a, a = w.heap.size := ⟨_, rfl⟩
  go_wp2_with (refine store_whole (by rfl) 57 (.tmp 2) (.tmp 7) (by rfl) (w.heap.size + 1) _ 4 _ (tfn (.func (.func 56) #[] #[ptr a 0]) (.func (.func 57) #[] #[ptr a 0]) (.func (.func 58) #[] #[ptr a 0]) (.func (.func 59) #[] #[ptr a 0])) HR.out (by rfl) _ (by rfl) (by kernel_rfl) (by rfl) (tfn_at _ _ _ _ _ (by rw [ha])) (fun i _ => tfn_one _ _ _ _ rfl rfl rfl rfl i) ?_
               intro w2 hr2 ho2)
  have hb2 : Below w.heap.size w w2 := ho2.below (HB.out.alloc HB.out.size _) (by omega)
  have ha2 : w2.cell? ⟨a, 0, none⟩ = some (.func (.func G) #[] #[]) := by
    have hal : Below w1.heap.size w1 w2 := ho2.below ((Below.refl _ _).alloc (Nat.le_refl _) _) (by rw [HZ.out]; exact Nat.le_refl _)
    rw [ha, hal.cell (p := ⟨w.heap.size, 0, none⟩) (block_lt_of_cell HA.out)]
    exact HA.out
  exact bodyPost_ret (results_row rfl _ (w.heap.size + 1) _ _ _ _ (by rfl) hr2 Tryz.underlying57 rfl (by kernel_rfl)) rfl ⟨a, rfl, ha2, hb2⟩
set_option maxRecDepth 100000 in
theorem of_word_any (G : Nat) (w : World) : Calls Tryz.prog 37 #[fn G] w fun x w' => ∃ a, x = .returned (.agg (cellsOf 4 (tfn (.func (.func 60) #[] #[]) (.func (.func 61) #[] #[ptr a 0]) (.func (.func 62) #[] #[ptr a 0]) (.func (.func 63) #[] #[ptr a 0])))) ∧ w'.cell? ⟨a, 0, none⟩ = some (fn G) ∧ Below w.heap.size w w' := by
  unfold fn
  have HR := Lib.hid (nil4 (w.alloc (.cells #[.func (.func G) #[] #[]] 88)))
  have ha : (w.alloc (.cells #[.func (.func G) #[] #[]] 88)).cell? ⟨w.heap.size, 0, none⟩ = some (.func (.func G) #[] #[]) := by rw [World.cell?_alloc_new]; rfl
  have hb : Below w.heap.size w (w.alloc (.cells #[.func (.func G) #[] #[]] 88)) := (Below.refl _ _).alloc (Nat.le_refl _) _
  have hz : (w.alloc (.cells #[.func (.func G) #[] #[]] 88)).heap.size = w.heap.size + 1 := by simp
  have HA := Lib.hid ha
  have HB := Lib.hid hb
  have HZ := Lib.hid hz
  rw [hz] at HR
  clear ha hb hz
  go_enter Tryz.func37, Tryz.ntmps37
  go_upto_region 1 with fail
  generalize w.alloc (.cells #[.func (.func G) #[] #[]] 88) = w1 at *
  obtain ⟨a, ha⟩ : ∃ a, a = w.heap.size := ⟨_, rfl⟩
  go_wp2_with (refine store_whole (by rfl) 57 (.tmp 2) (.tmp 6) (by rfl) (w.heap.size + 1) _ 4 _ (tfn (.func (.func 60) #[] #[]) (.func (.func 61) #[] #[ptr a 0]) (.func (.func 62) #[] #[ptr a 0]) (.func (.func 63) #[] #[ptr a 0])) HR.out (by rfl) _ (by rfl) (by kernel_rfl) (by rfl) (tfn_at _ _ _ _ _ (by rw [ha])) (fun i _ => tfn_one _ _ _ _ rfl rfl rfl rfl i) ?_
               intro w2 hr2 ho2)
  have hb2 : Below w.heap.size w w2 := ho2.below (HB.out.alloc HB.out.size _) (by omega)
  have ha2 : w2.cell? ⟨a, 0, none⟩ = some (.func (.func G) #[] #[]) := by
    have hal : Below w1.heap.size w1 w2 := ho2.below ((Below.refl _ _).alloc (Nat.le_refl _) _) (by rw [HZ.out]; exact Nat.le_refl _)
    rw [ha, hal.cell (p := ⟨w.heap.size, 0, none⟩) (block_lt_of_cell HA.out)]
    exact HA.out
  exact bodyPost_ret (results_row rfl _ (w.heap.size + 1) _ _ _ _ (by rfl) hr2 Tryz.underlying57 rfl (by kernel_rfl)) rfl ⟨a, rfl, ha2, hb2⟩
set_option maxRecDepth 100000 in
theorem of_blob_any (G : Nat) (w : World) : Calls Tryz.prog 40 #[fn G] w fun x w' => ∃ a, x = .returned (.agg (cellsOf 4 (tfn (.func (.func 64) #[] #[ptr a 0]) (.func (.func 65) #[] #[ptr a 0]) (.func (.func 67) #[] #[ptr a 0]) (.func (.func 68) #[] #[ptr a 0])))) ∧ w'.cell? ⟨a, 0, none⟩ = some (fn G) ∧ Below w.heap.size w w' := by
  unfold fn
  have HR := Lib.hid (nil4 (w.alloc (.cells #[.func (.func G) #[] #[]] 91)))
  have ha : (w.alloc (.cells #[.func (.func G) #[] #[]] 91)).cell? ⟨w.heap.size, 0, none⟩ = some (.func (.func G) #[] #[]) := by rw [World.cell?_alloc_new]; rfl
  have hb : Below w.heap.size w (w.alloc (.cells #[.func (.func G) #[] #[]] 91)) := (Below.refl _ _).alloc (Nat.le_refl _) _
  have hz : (w.alloc (.cells #[.func (.func G) #[] #[]] 91)).heap.size = w.heap.size + 1 := by simp
  have HA := Lib.hid ha
  have HB := Lib.hid hb
  have HZ := Lib.hid hz
  rw [hz] at HR
  clear ha hb hz
  go_enter Tryz.func40, Tryz.ntmps40
  go_upto_region 1 with fail
  generalize w.alloc (.cells #[.func (.func G) #[] #[]] 91) = w1 at *
  obtain ⟨a, ha⟩ : ∃ a, a = w.heap.size := ⟨_, rfl⟩
  go_wp2_with (refine store_whole (by rfl) 57 (.tmp 2) (.tmp 7) (by rfl) (w.heap.size + 1) _ 4 _ (tfn (.func (.func 64) #[] #[ptr a 0]) (.func (.func 65) #[] #[ptr a 0]) (.func (.func 67) #[] #[ptr a 0]) (.func (.func 68) #[] #[ptr a 0])) HR.out (by rfl) _ (by rfl) (by kernel_rfl) (by rfl) (tfn_at _ _ _ _ _ (by rw [ha])) (fun i _ => tfn_one _ _ _ _ rfl rfl rfl rfl i) ?_
               intro w2 hr2 ho2)
  have hb2 : Below w.heap.size w w2 := ho2.below (HB.out.alloc HB.out.size _) (by omega)
  have ha2 : w2.cell? ⟨a, 0, none⟩ = some (.func (.func G) #[] #[]) := by
    have hal : Below w1.heap.size w1 w2 := ho2.below ((Below.refl _ _).alloc (Nat.le_refl _) _) (by rw [HZ.out]; exact Nat.le_refl _)
    rw [ha, hal.cell (p := ⟨w.heap.size, 0, none⟩) (block_lt_of_cell HA.out)]
    exact HA.out
  exact bodyPost_ret (results_row rfl _ (w.heap.size + 1) _ _ _ _ (by rfl) hr2 Tryz.underlying57 rfl (by kernel_rfl)) rfl ⟨a, rfl, ha2, hb2⟩
/-- What treatmentOf answers: four functions that carry the one that points at the field. -/
def treatV (c a : Nat) : Value := .agg (cellsOf 4 (tfn (valV c a) (samV c a) (encV c a) (decV c a)))
set_option maxRecDepth 100000 in
theorem treat_65 (w : World) : Calls Tryz.prog 18 #[.int .i32 65] w fun x w' => ∃ a, x = .returned (treatV 65 a) ∧ w'.cell? ⟨a, 0, none⟩ = some (fn (getF 65)) ∧ Below w.heap.size w w' := by
  have HR := Lib.hid (nil4 w)
  have HB : Hid (Below w.heap.size w (w.alloc (.cells #[.nilFunc, .nilFunc, .nilFunc, .nilFunc] 57))) := Lib.hid ((Below.refl _ _).alloc (Nat.le_refl _) _)
  have HF := Lib.hid (fun W => of_name_any 35 W)
  unfold fn at HF
  go_enter Tryz.func18, Tryz.ntmps18
  go_upto_region 1 with fail
  generalize w.alloc (.cells #[.nilFunc, .nilFunc, .nilFunc, .nilFunc] 57) = w1 at *
  go_wp2_with fail
  refine (HF.out _).mono ?_
  rintro _ w2 ⟨a, rfl, ha2, hb2⟩
  have HR2 := Lib.hid (World.rowIs.of_block HR.out (hb2.block _ (World.rowIs.lt HR.out)))
  have HB2 := Lib.hid (HB.out.trans (hb2.mono HB.out.size))
  have HA2 := Lib.hid ha2
  have HW := Lib.hid hb2
  clear hb2 ha2 HR HB HF
  go_wp2_with (refine store_whole (by rfl) 57 (.tmp 2) (.tmp 7) (by rfl) w.heap.size _ 4 _ _ HR2.out (by rfl) _ (by rfl) (by kernel_rfl) (size_cellsOf _ _) (cellsOf_at _ _) (fun i _ => tfn_one _ _ _ _ rfl rfl rfl rfl i) ?_
               intro w3 hr3 ho3)
  have ha3 : w3.cell? ⟨a, 0, none⟩ = some (fn (getF 65)) := by
    have hne : a ≠ w.heap.size := fun e => by
      have h1 := HA2.out
      rw [e, HR2.out.cell (i := 0) (by omega)] at h1
      exact absurd h1 (by simp)
    rw [World.cell?_of_block (a := ⟨a, 0, none⟩) (ho3.block a hne)]
    exact HA2.out
  exact bodyPost_ret (results_row rfl _ w.heap.size _ _ _ _ (by rfl) hr3 Tryz.underlying57 rfl (by kernel_rfl)) rfl ⟨a, rfl, ha3, ho3.below HB2.out (Nat.le_refl _)⟩
set_option maxRecDepth 100000 in
theorem treat_66 (w : World) : Calls Tryz.prog 18 #[.int .i32 66] w fun x w' => ∃ a, x = .returned (treatV 66 a) ∧ w'.cell? ⟨a, 0, none⟩ = some (fn (getF 66)) ∧ Below w.heap.size w w' := by
  have HR := Lib.hid (nil4 w)
  have HB : Hid (Below w.heap.size w (w.alloc (.cells #[.nilFunc, .nilFunc, .nilFunc, .nilFunc] 57))) := Lib.hid ((Below.refl _ _).alloc (Nat.le_refl _) _)
  have HF := Lib.hid (fun W => of_name_any 36 W)
  unfold fn at HF
  go_enter Tryz.func18, Tryz.ntmps18
  go_upto_region 1 with fail
  generalize w.alloc (.cells #[.nilFunc, .nilFunc, .nilFunc, .nilFunc] 57) = w1 at *
  go_wp2_with fail
  refine (HF.out _).mono ?_
  rintro _ w2 ⟨a, rfl, ha2, hb2⟩
  have HR2 := Lib.hid (World.rowIs.of_block HR.out (hb2.block _ (World.rowIs.lt HR.out)))
  have HB2 := Lib.hid (HB.out.trans (hb2.mono HB.out.size))
  have HA2 := Lib.hid ha2
  have HW := Lib.hid hb2
  clear hb2 ha2 HR HB HF
  go_wp2_with (refine store_whole (by rfl) 57 (.tmp 2) (.tmp 10) (by rfl) w.heap.size _ 4 _ _ HR2.out (by rfl) _ (by rfl) (by kernel_rfl) (size_cellsOf _ _) (cellsOf_at _ _) (fun i _ => tfn_one _ _ _ _ rfl rfl rfl rfl i) ?_
               intro w3 hr3 ho3)
  have ha3 : w3.cell? ⟨a, 0, none⟩ = some (fn (getF 66)) := by
    have hne : a ≠ w.heap.size := fun e => by
      have h1 := HA2.out
      rw [e, HR2.out.cell (i := 0) (by omega)] at h1
      exact absurd h1 (by simp)
    rw [World.cell?_of_block (a := ⟨a, 0, none⟩) (ho3.block a hne)]
    exact HA2.out
  exact bodyPost_ret (results_row rfl _ w.heap.size _ _ _ _ (by rfl) hr3 Tryz.underlying57 rfl (by kernel_rfl)) rfl ⟨a, rfl, ha3, ho3.below HB2.out (Nat.le_refl _)⟩
set_option maxRecDepth 100000 in
theorem treat_88 (w : World) : Calls Tryz.prog 18 #[.int .i32 88] w fun x w' => ∃ a, x = .returned (treatV 88 a) ∧ w'.cell? ⟨a, 0, none⟩ = some (fn (getF 88)) ∧ Below w.heap.size w w' := by
  have HR := Lib.hid (nil4 w)
  have HB : Hid (Below w.heap.size w (w.alloc (.cells #[.nilFunc, .nilFunc, .nilFunc, .nilFunc] 57))) := Lib.hid ((Below.refl _ _).alloc (Nat.le_refl _) _)
  have HF := Lib.hid (fun W => of_word_any 38 W)
  unfold fn at HF
  go_enter Tryz.func18, Tryz.ntmps18
  go_upto_region 1 with fail
  generalize w.alloc (.cells #[.nilFunc, .nilFunc, .nilFunc, .nilFunc] 57) = w1 at *
  go_wp2_with fail
  refine (HF.out _).mono ?_
  rintro _ w2 ⟨a, rfl, ha2, hb2⟩
  have HR2 := Lib.hid (World.rowIs.of_block HR.out (hb2.block _ (World.rowIs.lt HR.out)))
  have HB2 := Lib.hid (HB.out.trans (hb2.mono HB.out.size))
  have HA2 := Lib.hid ha2
  have HW := Lib.hid hb2
  clear hb2 ha2 HR HB HF
  go_wp2_with (refine store_whole (by rfl) 57 (.tmp 2) (.tmp 13) (by rfl) w.heap.size _ 4 _ _ HR2.out (by rfl) _ (by rfl) (by kernel_rfl) (size_cellsOf _ _) (cellsOf_at _ _) (fun i _ => tfn_one _ _ _ _ rfl rfl rfl rfl i) ?_
               intro w3 hr3 ho3)
  have ha3 : w3.cell? ⟨a, 0, none⟩ = some (fn (getF 88)) := by
    have hne : a ≠ w.heap.size := fun e => by
      have h1 := HA2.out
      rw [e, HR2.out.cell (i := 0) (by omega)] at h1
      exact absurd h1 (by simp)
    rw [World.cell?_of_block (a := ⟨a, 0, none⟩) (ho3.block a hne)]
    exact HA2.out
  exact bodyPost_ret (results_row rfl _ w.heap.size _ _ _ _ (by rfl) hr3 Tryz.underlying57 rfl (by kernel_rfl)) rfl ⟨a, rfl, ha3, ho3.below HB2.out (Nat.le_refl _)⟩
set_option maxRecDepth 100000 in
theorem treat_89 (w : World) : Calls Tryz.prog 18 #[.int .i32 89] w fun x w' => ∃ a, x = .returned (treatV 89 a) ∧ w'.cell? ⟨a, 0, none⟩ = some (fn (getF 89)) ∧ Below w.heap.size w w' := by
  have HR := Lib.hid (nil4 w)
  have HB : Hid (Below w.heap.size w (w.alloc (.cells #[.nilFunc, .nilFunc, .nilFunc, .nilFunc] 57))) := Lib.hid ((Below.refl _ _).alloc (Nat.le_refl _) _)
  have HF := Lib.hid (fun W => of_word_any 39 W)
  unfold fn at HF
  go_enter Tryz.func18, Tryz.ntmps18
  go_upto_region 1 with fail
  generalize w.alloc (.cells #[.nilFunc, .nilFunc, .nilFunc, .nilFunc] 57) = w1 at *
  go_wp2_with fail
  refine (HF.out _).mono ?_
  rintro _ w2 ⟨a, rfl, ha2, hb2⟩
  have HR2 := Lib.hid (World.rowIs.of_block HR.out (hb2.block _ (World.rowIs.lt HR.out)))
  have HB2 := Lib.hid (HB.out.trans (hb2.mono HB.out.size))
  have HA2 := Lib.hid ha2
  have HW := Lib.hid hb2
  clear hb2 ha2 HR HB HF
  go_wp2_with (refine store_whole (by rfl) 57 (.tmp 2) (.tmp 16) (by rfl) w.heap.size _ 4 _ _ HR2.out (by rfl) _ (by rfl) (by kernel_rfl) (size_cellsOf _ _) (cellsOf_at _ _) (fun i _ => tfn_one _ _ _ _ rfl rfl rfl rfl i) ?_
               intro w3 hr3 ho3)
  have ha3 : w3.cell? ⟨a, 0, none⟩ = some (fn (getF 89)) := by
    have hne : a ≠ w.heap.size := fun e => by
      have h1 := HA2.out
      rw [e, HR2.out.cell (i := 0) (by omega)] at h1
      exact absurd h1 (by simp)
    rw [World.cell?_of_block (a := ⟨a, 0, none⟩) (ho3.block a hne)]
    exact HA2.out
  exact bodyPost_ret (results_row rfl _ w.heap.size _ _ _ _ (by rfl) hr3 Tryz.underlying57 rfl (by kernel_rfl)) rfl ⟨a, rfl, ha3, ho3.below HB2.out (Nat.le_refl _)⟩
set_option maxRecDepth 100000 in
theorem treat_80 (w : World) : Calls Tryz.prog 18 #[.int .i32 80] w fun x w' => ∃ a, x = .returned (treatV 80 a) ∧ w'.cell? ⟨a, 0, none⟩ = some (fn (getF 80)) ∧ Below w.heap.size w w' := by
  have HR := Lib.hid (nil4 w)
  have HB : Hid (Below w.heap.size w (w.alloc (.cells #[.nilFunc, .nilFunc, .nilFunc, .nilFunc] 57))) := Lib.hid ((Below.refl _ _).alloc (Nat.le_refl _) _)
  have HF := Lib.hid (fun W => of_blob_any 41 W)
  unfold fn at HF
  go_enter Tryz.func18, Tryz.ntmps18
  go_upto_region 1 with fail
  generalize w.alloc (.cells #[.nilFunc, .nilFunc, .nilFunc, .nilFunc] 57) = w1 at *
  go_wp2_with fail
  refine (HF.out _).mono ?_
  rintro _ w2 ⟨a, rfl, ha2, hb2⟩
  have HR2 := Lib.hid (World.rowIs.of_block HR.out (hb2.block _ (World.rowIs.lt HR.out)))
  have HB2 := Lib.hid (HB.out.trans (hb2.mono HB.out.size))
  have HA2 := Lib.hid ha2
  have HW := Lib.hid hb2
  clear hb2 ha2 HR HB HF
  go_wp2_with (refine store_whole (by rfl) 57 (.tmp 2) (.tmp 19) (by rfl) w.heap.size _ 4 _ _ HR2.out (by rfl) _ (by rfl) (by kernel_rfl) (size_cellsOf _ _) (cellsOf_at _ _) (fun i _ => tfn_one _ _ _ _ rfl rfl rfl rfl i) ?_
               intro w3 hr3 ho3)
  have ha3 : w3.cell? ⟨a, 0, none⟩ = some (fn (getF 80)) := by
    have hne : a ≠ w.heap.size := fun e => by
      have h1 := HA2.out
      rw [e, HR2.out.cell (i := 0) (by omega)] at h1
      exact absurd h1 (by simp)
    rw [World.cell?_of_block (a := ⟨a, 0, none⟩) (ho3.block a hne)]
    exact HA2.out
  exact bodyPost_ret (results_row rfl _ w.heap.size _ _ _ _ (by rfl) hr3 Tryz.underlying57 rfl (by kernel_rfl)) rfl ⟨a, rfl, ha3, ho3.below HB2.out (Nat.le_refl _)⟩
set_option maxRecDepth 100000 in
theorem treat_81 (w : World) : Calls Tryz.prog 18 #[.int .i32 81] w fun x w' => ∃ a, x = .returned (treatV 81 a) ∧ w'.cell? ⟨a, 0, none⟩ = some (fn (getF 81)) ∧ Below w.heap.size w w' := by
  have HR := Lib.hid (nil4 w)
  have HB : Hid (Below w.heap.size w (w.alloc (.cells #[.nilFunc, .nilFunc, .nilFunc, .nilFunc] 57))) := Lib.hid ((Below.refl _ _).alloc (Nat.le_refl _) _)
  have HF := Lib.hid (fun W => of_blob_any 42 W)
  unfold fn at HF
  go_enter Tryz.func18, Tryz.ntmps18
  go_upto_region 1 with fail
  generalize w.alloc (.cells #[.nilFunc, .nilFunc, .nilFunc, .nilFunc] 57) = w1 at *
  go_wp2_with fail
  refine (HF.out _).mono ?_
  rintro _ w2 ⟨a, rfl, ha2, hb2⟩
  have HR2 := Lib.hid (World.rowIs.of_block HR.out (hb2.block _ (World.rowIs.lt HR.out)))
  have HB2 := Lib.hid (HB.out.trans (hb2.mono HB.out.size))
  have HA2 := Lib.hid ha2
  have HW := Lib.hid hb2
  clear hb2 ha2 HR HB HF
  go_wp2_with (refine store_whole (by rfl) 57 (.tmp 2) (.tmp 22) (by rfl) w.heap.size _ 4 _ _ HR2.out (by rfl) _ (by rfl) (by kernel_rfl) (size_cellsOf _ _) (cellsOf_at _ _) (fun i _ => tfn_one _ _ _ _ rfl rfl rfl rfl i) ?_
               intro w3 hr3 ho3)
  have ha3 : w3.cell? ⟨a, 0, none⟩ = some (fn (getF 81)) := by
    have hne : a ≠ w.heap.size := fun e => by
      have h1 := HA2.out
      rw [e, HR2.out.cell (i := 0) (by omega)] at h1
      exact absurd h1 (by simp)
    rw [World.cell?_of_block (a := ⟨a, 0, none⟩) (ho3.block a hne)]
    exact HA2.out
  exact bodyPost_ret (results_row rfl _ w.heap.size _ _ _ _ (by rfl) hr3 Tryz.underlying57 rfl (by kernel_rfl)) rfl ⟨a, rfl, ha3, ho3.below HB2.out (Nat.le_refl _)⟩
set_option maxRecDepth 100000 in
theorem treat_82 (w : World) : Calls Tryz.prog 18 #[.int .i32 82] w fun x w' => ∃ a, x = .returned (treatV 82 a) ∧ w'.cell? ⟨a, 0, none⟩ = some (fn (getF 82)) ∧ Below w.heap.size w w' := by
  have HR := Lib.hid (nil4 w)
  have HB : Hid (Below w.heap.size w (w.alloc (.cells #[.nilFunc, .nilFunc, .nilFunc, .nilFunc] 57))) := Lib.hid ((Below.refl _ _).alloc (Nat.le_refl _) _)
  have HF := Lib.hid (fun W => of_blob_any 43 W)
  unfold fn at HF
  go_enter Tryz.func18, Tryz.ntmps18
  go_upto_region 1 with fail
  generalize w.alloc (.cells #[.nilFunc, .nilFunc, .nilFunc, .nilFunc] 57) = w1 at *
  go_wp2_with fail
  refine (HF.out _).mono ?_
  rintro _ w2 ⟨a, rfl, ha2, hb2⟩
  have HR2 := Lib.hid (World.rowIs.of_block HR.out (hb2.block _ (World.rowIs.lt HR.out)))
  have HB2 := Lib.hid (HB.out.trans (hb2.mono HB.out.size))
  have HA2 := Lib.hid ha2
  have HW := Lib.hid hb2
  clear hb2 ha2 HR HB HF
  go_wp2_with (refine store_whole (by rfl) 57 (.tmp 2) (.tmp 4) (by rfl) w.heap.size _ 4 _ _ HR2.out (by rfl) _ (by rfl) (by kernel_rfl) (size_cellsOf _ _) (cellsOf_at _ _) (fun i _ => tfn_one _ _ _ _ rfl rfl rfl rfl i) ?_
               intro w3 hr3 ho3)
  have ha3 : w3.cell? ⟨a, 0, none⟩ = some (fn (getF 82)) := by
    have hne : a ≠ w.heap.size := fun e => by
      have h1 := HA2.out
      rw [e, HR2.out.cell (i := 0) (by omega)] at h1
      exact absurd h1 (by simp)
    rw [World.cell?_of_block (a := ⟨a, 0, none⟩) (ho3.block a hne)]
    exact HA2.out
  exact bodyPost_ret (results_row rfl _ w.heap.size _ _ _ _ (by rfl) hr3 Tryz.underlying57 rfl (by kernel_rfl)) rfl ⟨a, rfl, ha3, ho3.below HB2.out (Nat.le_refl _)⟩
theorem treat_any (c : Nat) (hc : seven c) (w : World) : Calls Tryz.prog 18 #[.int .i32 (c : Int)] w fun x w' => ∃ a, x = .returned (treatV c a) ∧ w'.cell? ⟨a, 0, none⟩ = some (fn (getF c)) ∧ Below w.heap.size w w' := by
  rcases hc with rfl | rfl | rfl | rfl | rfl | rfl | rfl
  · exact treat_65 w
  · exact treat_66 w
  · exact treat_88 w
  · exact treat_89 w
  · exact treat_80 w
  · exact treat_81 w
  · exact treat_82 w
/-- May a field of a right note be so? -/
def validC (c : Nat) (N : NoteP) : Bool := if c = 65 then nameB N.a else if c = 66 then nameB N.b else if c = 80 then decide (N.pn ≤ 500) else if c = 81 then decide (N.qn ≤ 500) else if c = 82 then decide (N.rn ≤ 500) else true
/-- Is a field the same in two notes? -/
def sameC (c : Nat) (N M : NoteP) : Bool := if c = 65 then N.a.toList == M.a.toList else if c = 66 then N.b.toList == M.b.toList else if c = 88 then sameUpto N.x M.x 16 else if c = 89 then sameUpto N.y M.y 16 else if c = 80 then Mac.sameBytes N.pn M.pn N.p M.p else if c = 81 then Mac.sameBytes N.qn M.qn N.q M.q else Mac.sameBytes N.rn M.rn N.r M.r
theorem f_x (N : NoteP) (P Q R : Value) (i : Nat) (hi : i < 16) : noteF N P Q R (3 + i) = .int .u8 ((N.x i).toNat : Int) := by
  have := cell_x N P Q R i hi
  rw [cellsOf_at _ _ _ hi] at this
  exact Option.some.inj this
theorem f_y (N : NoteP) (P Q R : Value) (i : Nat) (hi : i < 16) : noteF N P Q R (19 + i) = .int .u8 ((N.y i).toNat : Int) := by
  have := cell_y N P Q R i hi
  rw [cellsOf_at _ _ _ hi] at this
  exact Option.some.inj this
theorem valid_any (c : Nat) (hc : seven c) (g a : Nat) (N : NoteP) (P Q R : Value) (W : World) (ha : W.cell? ⟨a, 0, none⟩ = some (fn (getF c))) (hr : W.rowIs g 30 38 (noteF N P Q R)) (hn : NoteAt W N P Q R) (la : N.a.size ≤ 1000000) (lb : N.b.size ≤ 1000000) :
    Calls Tryz.prog (valF c) (#[ptr g 0] ++ valCap c a) W fun x w' => x = .returned (.bool (validC c N)) ∧ Below W.heap.size W w' := by
  obtain ⟨⟨AP, cP, rfl, _, _⟩, ⟨AQ, cQ, rfl, _, _⟩, ⟨AR, cR, rfl, _, _⟩⟩ := hn
  rcases hc with rfl | rfl | rfl | rfl | rfl | rfl | rfl
  · exact name_valid _ g 1 a N.a W (get_65 g) ha (hr.cell (i := 1) (by omega)) (by omega)
  · exact name_valid _ g 2 a N.b W (get_66 g) ha (hr.cell (i := 2) (by omega)) (by omega)
  · exact word_valid g W
  · exact word_valid g W
  · exact blob_valid _ g 35 a AP cP N.pn W (get_80 g) ha (hr.cell (i := 35) (by omega))
  · exact blob_valid _ g 36 a AQ cQ N.qn W (get_81 g) ha (hr.cell (i := 36) (by omega))
  · exact blob_valid _ g 37 a AR cR N.rn W (get_82 g) ha (hr.cell (i := 37) (by omega))
theorem same_any (c : Nat) (hc : seven c) (g h a : Nat) (N M : NoteP) (P Q R P' Q' R' : Value) (W : World) (ha : W.cell? ⟨a, 0, none⟩ = some (fn (getF c))) (hr : W.rowIs g 30 38 (noteF N P Q R)) (hs : W.rowIs h 30 38 (noteF M P' Q' R')) (hn : NoteAt W N P Q R) (hm : NoteAt W M P' Q' R') :
    Calls Tryz.prog (samF c) #[ptr g 0, ptr h 0, ptr a 0] W fun x w' => x = .returned (.bool (sameC c N M)) ∧ Below W.heap.size W w' := by
  have HN := hn
  have HM := hm
  obtain ⟨⟨AP, cP, rfl, _, _⟩, ⟨AQ, cQ, rfl, _, _⟩, ⟨AR, cR, rfl, _, _⟩⟩ := hn
  obtain ⟨⟨BP, dP, rfl, _, _⟩, ⟨BQ, dQ, rfl, _, _⟩, ⟨BR, dR, rfl, _, _⟩⟩ := hm
  rcases hc with rfl | rfl | rfl | rfl | rfl | rfl | rfl
  · exact name_same _ g h 1 a N.a M.a W (get_65 g) (get_65 h) ha (hr.cell (i := 1) (by omega)) (hs.cell (i := 1) (by omega))
  · exact name_same _ g h 2 a N.b M.b W (get_66 g) (get_66 h) ha (hr.cell (i := 2) (by omega)) (hs.cell (i := 2) (by omega))
  · exact word_same _ g h 3 a _ _ N.x M.x W (get_88 g) (get_88 h) ha hr hs (by omega) (f_x N _ _ _) (f_x M _ _ _)
  · exact word_same _ g h 19 a _ _ N.y M.y W (get_89 g) (get_89 h) ha hr hs (by omega) (f_y N _ _ _) (f_y M _ _ _)
  · exact blob_same _ g h 35 a AP BP cP N.pn dP M.pn N.p M.p W (get_80 g) (get_80 h) ha (hr.cell (i := 35) (by omega)) (hs.cell (i := 35) (by omega)) HN.p HM.p
  · exact blob_same _ g h 36 a AQ BQ cQ N.qn dQ M.qn N.q M.q W (get_81 g) (get_81 h) ha (hr.cell (i := 36) (by omega)) (hs.cell (i := 36) (by omega)) HN.q HM.q
  · exact blob_same _ g h 37 a AR BR cR N.rn dR M.rn N.r M.r W (get_82 g) (get_82 h) ha (hr.cell (i := 37) (by omega)) (hs.cell (i := 37) (by omega)) HN.r HM.r
/-- The field's bytes, in a slice that stands in none of the blocks from B on that were there (but a text's, which stand in a new one). -/
theorem encode_any (c : Nat) (hc : seven c) (g a B : Nat) (N : NoteP) (P Q R : Value) (W : World) (ha : W.cell? ⟨a, 0, none⟩ = some (fn (getF c))) (hr : W.rowIs g 30 38 (noteF N P Q R)) (hg : g < B) (hBW : B ≤ W.heap.size)
    (hn : ∀ b, B ≤ b → SliceOf W b N.pn N.p P ∧ SliceOf W b N.qn N.q Q ∧ SliceOf W b N.rn N.r R) :
    Calls Tryz.prog (encF c) #[ptr g 0, ptr a 0] W fun x w' => ∃ A cap, x = .returned (.slice A (partM N c) cap) ∧ (∀ b, ((B ≤ b ∧ b < W.heap.size) ∨ w'.heap.size ≤ b) → SliceOf w' b (partM N c) (partE N c) (.slice A (partM N c) cap)) ∧ Below W.heap.size W w' := by
  have hz : ∀ b, ((B ≤ b ∧ b < W.heap.size) ∨ W.heap.size ≤ b) → B ≤ b := fun b hb => by omega
  have hsl := hn B (Nat.le_refl _)
  obtain ⟨⟨AP, cP, rfl, _, _⟩, ⟨AQ, cQ, rfl, _, _⟩, ⟨AR, cR, rfl, _, _⟩⟩ := hsl
  have wd : ∀ (o : Nat) (X : Nat → BitVec 8), o + 16 ≤ 38 → (∀ i, i < 16 → noteF N (.slice AP N.pn cP) (.slice AQ N.qn cQ) (.slice AR N.rn cR) (o + i) = .int .u8 ((X i).toNat : Int)) → ∀ b, B ≤ b → SliceOf W b 16 X (.slice (some ⟨g, o, none⟩) 16 16) := fun o X ho hX b hb =>
    ⟨_, 16, rfl, Nat.le_refl _, fun _ => ⟨g, o, rfl, by omega, fun j hj => by rw [hr.cell (i := o + j) (by omega), hX j hj]⟩⟩
  rcases hc with rfl | rfl | rfl | rfl | rfl | rfl | rfl
  · exact (name_encode _ g 1 a N.a W (get_65 g) ha (hr.cell (i := 1) (by omega))).mono (fun _ _ ⟨A, cap, h1, h2, h3⟩ => ⟨A, cap, h1, fun b hb => h2 b (by omega), h3⟩)
  · exact (name_encode _ g 2 a N.b W (get_66 g) ha (hr.cell (i := 2) (by omega))).mono (fun _ _ ⟨A, cap, h1, h2, h3⟩ => ⟨A, cap, h1, fun b hb => h2 b (by omega), h3⟩)
  · exact (word_encode _ g 3 a W (get_88 g) ha).mono (fun _ _ ⟨h1, h2⟩ => ⟨_, 16, h1, fun b hb => by subst h2; exact wd 3 N.x (by omega) (f_x N _ _ _) b (hz b hb), by rw [h2]; exact Below.refl _ _⟩)
  · exact (word_encode _ g 19 a W (get_89 g) ha).mono (fun _ _ ⟨h1, h2⟩ => ⟨_, 16, h1, fun b hb => by subst h2; exact wd 19 N.y (by omega) (f_y N _ _ _) b (hz b hb), by rw [h2]; exact Below.refl _ _⟩)
  · exact (blob_encode _ g 35 a AP cP N.pn W (get_80 g) ha (hr.cell (i := 35) (by omega))).mono (fun _ _ ⟨h1, h2⟩ => ⟨_, _, h1, fun b hb => by subst h2; exact (hn b (hz b hb)).1, by rw [h2]; exact Below.refl _ _⟩)
  · exact (blob_encode _ g 36 a AQ cQ N.qn W (get_81 g) ha (hr.cell (i := 36) (by omega))).mono (fun _ _ ⟨h1, h2⟩ => ⟨_, _, h1, fun b hb => by subst h2; exact (hn b (hz b hb)).2.1, by rw [h2]; exact Below.refl _ _⟩)
  · exact (blob_encode _ g 37 a AR cR N.rn W (get_82 g) ha (hr.cell (i := 37) (by omega))).mono (fun _ _ ⟨h1, h2⟩ => ⟨_, _, h1, fun b hb => by subst h2; exact (hn b (hz b hb)).2.2, by rw [h2]; exact Below.refl _ _⟩)
/-- Which slice a field holds, once it has been set. -/
def setP (c : Nat) (V P : Value) : Value := if c = 80 then V else P
def setQ (c : Nat) (V Q : Value) : Value := if c = 81 then V else Q
def setR (c : Nat) (V R : Value) : Value := if c = 82 then V else R
def decC (c n : Nat) : Int := if isW c then wordC n else 0
theorem decode_any (c : Nat) (hc : seven c) (g a : Nat) (N : NoteP) (P Q R : Value) (A : Option Addr) (cap n : Nat) (E : Nat → BitVec 8) (W : World) (ha : W.cell? ⟨a, 0, none⟩ = some (fn (getF c))) (hr : W.rowIs g 30 38 (noteF N P Q R))
    (hp : ∃ A c m, P = .slice A m c) (hq : ∃ A c m, Q = .slice A m c) (hR : ∃ A c m, R = .slice A m c) (hn : n ≤ 1000000) (hs : SliceOf W W.heap.size n E (.slice A n cap)) :
    Calls Tryz.prog (decF c) #[ptr g 0, .slice A n cap, ptr a 0] W fun x w' => x = .returned (.int .i64 (decC c n)) ∧ w'.rowIs g 30 38 (noteF (setL c n E N) (setP c (.slice A n cap) P) (setQ c (.slice A n cap) Q) (setR c (.slice A n cap) R)) ∧ Cache.Leaves (fun b => b = g) W w' := by
  obtain ⟨AP, cP, nP, rfl⟩ := hp
  obtain ⟨AQ, cQ, nQ, rfl⟩ := hq
  obtain ⟨AR, cR, nR, rfl⟩ := hR
  rcases hc with rfl | rfl | rfl | rfl | rfl | rfl | rfl
  · exact (name_decode _ g 1 a _ A cap n E W (get_65 g) ha hr (by omega) N.a rfl hs).mono (fun _ _ ⟨h1, h2, h3⟩ => ⟨h1, h2.congr (fun i _ => noteF_65 _ _ _ _ _ _ i), h3⟩)
  · exact (name_decode _ g 2 a _ A cap n E W (get_66 g) ha hr (by omega) N.b rfl hs).mono (fun _ _ ⟨h1, h2, h3⟩ => ⟨h1, h2.congr (fun i _ => noteF_66 _ _ _ _ _ _ i), h3⟩)
  · exact (word_decode _ g 3 a _ A cap n E W (get_88 g) ha hr (by omega) hn hs).mono (fun _ _ ⟨h1, h2, h3⟩ => ⟨h1, h2.congr (fun i _ => noteF_88 _ _ _ _ _ _ i), h3⟩)
  · exact (word_decode _ g 19 a _ A cap n E W (get_89 g) ha hr (by omega) hn hs).mono (fun _ _ ⟨h1, h2, h3⟩ => ⟨h1, h2.congr (fun i _ => noteF_89 _ _ _ _ _ _ i), h3⟩)
  · exact (blob_decode _ g 35 a _ A cap n W (get_80 g) ha hr (by omega) _ _ _ rfl).mono (fun _ _ ⟨h1, h2, h3⟩ => ⟨h1, h2.congr (fun i _ => noteF_80 _ _ _ _ _ n E i), h3⟩)
  · exact (blob_decode _ g 36 a _ A cap n W (get_81 g) ha hr (by omega) _ _ _ rfl).mono (fun _ _ ⟨h1, h2, h3⟩ => ⟨h1, h2.congr (fun i _ => noteF_81 _ _ _ _ _ n E i), h3⟩)
  · exact (blob_decode _ g 37 a _ A cap n W (get_82 g) ha hr (by omega) _ _ _ rfl).mono (fun _ _ ⟨h1, h2, h3⟩ => ⟨h1, h2.congr (fun i hi => noteF_82 _ _ _ _ _ n E i hi), h3⟩)
theorem field_1 (v s e d : Value) (W : World) : (Instr.field 57 (.agg #[v, s, e, d]) 1).run Tryz.prog W = .ok s W := by kernel_rfl
theorem field_2 (v s e d : Value) (W : World) : (Instr.field 57 (.agg #[v, s, e, d]) 2).run Tryz.prog W = .ok e W := by kernel_rfl
theorem field_3 (v s e d : Value) (W : World) : (Instr.field 57 (.agg #[v, s, e, d]) 3).run Tryz.prog W = .ok d W := by kernel_rfl
end Go.Proofs.YtnkjoambhmlnbaaGreatDoor.Note
