/-
  What kdc.introduce does: the two parts of an answer, whatever functions make what each principal is told.
-/
import Derived.Test.YtnkjoambhmlnbaaGreatDoorBd37
import Derived.Test.YtnkjoambhmlnbaaGreatDoorBd13
import Derived.Test.YtnkjoambhmlnbaaGreatDoorBd12
import Derived.Test.YtnkjoambhmlnbaaGreatDoorBd08
namespace Go.Proofs.YtnkjoambhmlnbaaGreatDoor.Kdc
open Go Go.RowKit Go.Proofs.YtnkjoambhmlnbaaGreatDoor.Aid Go.Proofs.YtnkjoambhmlnbaaGreatDoor.Sha Go.Proofs.YtnkjoambhmlnbaaGreatDoor.Law01 Go.Proofs.YtnkjoambhmlnbaaGreatDoor.Field Go.Proofs.YtnkjoambhmlnbaaGreatDoor.Law05
open Go.Proofs.YtnkjoambhmlnbaaGreatDoor.Seal (keysB formB openB okB)
open Go.Proofs.YtnkjoambhmlnbaaGreatDoor.Aes (RowB)

def prinF (n : ByteArray) (k : Nat → BitVec 8) (l : ByteArray) (F : Value) (i : Nat) : Value := if i = 0 then .string n else if i < 17 then .int .u8 ((k (i - 1)).toNat : Int) else if i = 17 then .string l else F
/-- What each operation yields that a part is made by. -/
def postI (g g' b5 o b8 : Nat) (K Dw : Array Value) (l n : ByteArray) (F : Value) (L : List Fld) (N : Nat) (B : Nat → BitVec 8) (i : Nat) (v : Value) (w : World) : Prop :=
  match i with
  | 0 => v = .pointer (some ⟨g, 1, none⟩)
  | 1 => v = .agg K
  | 2 => v = .pointer (some ⟨g, 17, none⟩)
  | 3 => v = .string l
  | 4 => v = .pointer (some ⟨b5, o, none⟩)
  | 5 => v = .agg Dw
  | 6 => v = .pointer (some ⟨g, 18, none⟩)
  | 7 => v = F
  | 8 => v = .pointer (some ⟨g', 0, none⟩)
  | 9 => v = .string n
  | 10 => SliceOf w w.heap.size n.size (strB n) v
  | 11 => v = .slice (some ⟨b8, 0, none⟩) 16 16
  | 12 => PartsOf w L.length (fldM L) (fldE L) v
  | 13 => SliceOf w w.heap.size N B v
  | 14 => SliceOf w w.heap.size N B v
  | _ => True
theorem postI_mono (g g' b5 o b8 : Nat) (K Dw : Array Value) (l n : ByteArray) (F : Value) (L : List Fld) (N : Nat) (B : Nat → BitVec 8) : ∀ i v w w', Below w.heap.size w w' → postI g g' b5 o b8 K Dw l n F L N B i v w → postI g g' b5 o b8 K Dw l n F L N B i v w' := fun i v w w' hb h => by
  match i with
  | 0 => exact h
  | 1 => exact h
  | 2 => exact h
  | 3 => exact h
  | 4 => exact h
  | 5 => exact h
  | 6 => exact h
  | 7 => exact h
  | 8 => exact h
  | 9 => exact h
  | 10 => exact slice_next h hb
  | 11 => exact h
  | 12 => exact PartsOf.below h hb
  | 13 => exact slice_next h hb
  | 14 => exact slice_next h hb
  | _ + 15 => trivial
set_option maxRecDepth 100000 in
set_option maxHeartbeats 1000000 in
theorem introduce_any (n1 n2 l1 l2 : ByteArray) (k1 k2 : Nat → BitVec 8) (g1 g2 : Nat) (caps1 caps2 : Array Value) (T1 T2 : Fld → (Nat → BitVec 8) → List Fld) (D : Nat → BitVec 8) (CD : Array Value) (hCD : CD.size = 48) (hCDi : ∀ i, i < 48 → CD[i]? = some (.int .u8 ((D i).toNat : Int)))
    (w : World) (hk : Consts w) (t1 : Told w g1 caps1 T1) (t2 : Told w g2 caps2 T2) (q1 : off (fldM (T1 (n2.size, strB n2) D)) (T1 (n2.size, strB n2) D).length + (T1 (n2.size, strB n2) D).length ≤ 100000) (q2 : off (fldM (T2 (n1.size, strB n1) D)) (T2 (n1.size, strB n1) D).length + (T2 (n1.size, strB n1) D).length ≤ 100000) :
    Calls Tryz.prog 32 #[.agg (cellsOf 19 (prinF n1 k1 l1 (.func (.func g1) #[] caps1))), .agg (cellsOf 19 (prinF n2 k2 l2 (.func (.func g2) #[] caps2))), .agg CD] w fun x w' =>
      ∃ P Q, x = .returned (.tuple #[P, Q]) ∧ SliceOf w' w'.heap.size (sealedN l1 (T1 (n2.size, strB n2) D).length (fldM (T1 (n2.size, strB n2) D))) (sealedB k1 (fun j => D (16 + j)) l1 (T1 (n2.size, strB n2) D).length (fldM (T1 (n2.size, strB n2) D)) (fldE (T1 (n2.size, strB n2) D))) P ∧
        SliceOf w' w'.heap.size (sealedN l2 (T2 (n1.size, strB n1) D).length (fldM (T2 (n1.size, strB n1) D))) (sealedB k2 (fun j => D (32 + j)) l2 (T2 (n1.size, strB n1) D).length (fldM (T2 (n1.size, strB n1) D)) (fldE (T2 (n1.size, strB n1) D))) Q ∧ Below w.heap.size w w' := by
  obtain ⟨F1, hF1⟩ : ∃ F, F = Value.func (.func g1) #[] caps1 := ⟨_, rfl⟩
  obtain ⟨F2, hF2⟩ : ∃ F, F = Value.func (.func g2) #[] caps2 := ⟨_, rfl⟩
  rw [← hF1, ← hF2]
  have FE1 := Lib.hid hF1
  have FE2 := Lib.hid hF2
  have o1 : F1.oneCell' = true := by rw [hF1]; rfl
  have o2 : F2.oneCell' = true := by rw [hF2]; rfl
  have O1 := Lib.hid o1
  have O2 := Lib.hid o2
  have T1W := Lib.hid t1
  have T2W := Lib.hid t2
  clear hF1 hF2 o1 o2 t1 t2
  obtain ⟨L1, hL1⟩ : ∃ L, L = T1 (n2.size, strB n2) D := ⟨_, rfl⟩
  obtain ⟨L2, hL2⟩ : ∃ L, L = T2 (n1.size, strB n1) D := ⟨_, rfl⟩
  have HL1 := Lib.hid hL1
  have HL2 := Lib.hid hL2
  rw [← hL1, ← hL2]
  rw [← hL1] at q1
  rw [← hL2] at q2
  have Q1 := Lib.hid q1
  have Q2 := Lib.hid q2
  clear hL1 hL2 q1 q2
  obtain ⟨N1, hN1⟩ : ∃ N, N = sealedN l1 L1.length (fldM L1) := ⟨_, rfl⟩
  obtain ⟨N2, hN2⟩ : ∃ N, N = sealedN l2 L2.length (fldM L2) := ⟨_, rfl⟩
  obtain ⟨B1, hB1⟩ : ∃ B, B = sealedB k1 (fun j => D (16 + j)) l1 L1.length (fldM L1) (fldE L1) := ⟨_, rfl⟩
  obtain ⟨B2, hB2⟩ : ∃ B, B = sealedB k2 (fun j => D (32 + j)) l2 L2.length (fldM L2) (fldE L2) := ⟨_, rfl⟩
  rw [← hN1, ← hN2, ← hB1, ← hB2]
  have E1 := Lib.hid (And.intro hN1 hB1)
  have E2 := Lib.hid (And.intro hN2 hB2)
  clear hN1 hN2 hB1 hB2
  obtain ⟨w0, hw0, M⟩ : ∃ w0, w0 = ((w.alloc (.cells (cellsOf 19 (prinF n1 k1 l1 F1)) 79)).alloc (.cells (cellsOf 19 (prinF n2 k2 l2 F2)) 79)).alloc (.cells CD 31) ∧ (w0.rowIs w.heap.size 79 19 (prinF n1 k1 l1 F1) ∧ w0.rowIs (w.heap.size + 1) 79 19 (prinF n2 k2 l2 F2) ∧ w0.rowIs (w.heap.size + 1 + 1) 31 48 (byteF D) ∧ Below w.heap.size w w0 ∧ w0.heap.size = w.heap.size + 3) := by
    have r1 := row_new w (cellsOf 19 (prinF n1 k1 l1 F1)) 79 19 _ (size_cellsOf _ _) (cellsOf_at _ _)
    have r2 := row_new (w.alloc (.cells (cellsOf 19 (prinF n1 k1 l1 F1)) 79)) (cellsOf 19 (prinF n2 k2 l2 F2)) 79 19 _ (size_cellsOf _ _) (cellsOf_at _ _)
    have r3 := row_new ((w.alloc (.cells (cellsOf 19 (prinF n1 k1 l1 F1)) 79)).alloc (.cells (cellsOf 19 (prinF n2 k2 l2 F2)) 79)) CD 31 48 (byteF D) hCD hCDi
    rw [World.size_alloc] at r2
    rw [World.size_alloc, World.size_alloc] at r3
    exact ⟨_, rfl, (r1.alloc _).alloc _, r2.alloc _, r3, (((Below.refl _ _).alloc (Nat.le_refl _) _).alloc (by simp) _).alloc (by simp; omega) _, by simp⟩
  have HM := Lib.hid M
  have HK := Lib.hid hk
  clear hCD hCDi M hk
  generalize cellsOf 19 (prinF n1 k1 l1 F1) = C1 at *
  generalize cellsOf 19 (prinF n2 k2 l2 F2) = C2 at *
  go_enter Tryz.func32, Tryz.ntmps32
  go_upto_region 1 with fail
  rw [← hw0]
  clear hw0
  obtain ⟨K0, hK0, zK0, iK0⟩ := cells_named 16 (fun j => byteF D (0 + j)) D (fun i _ => by rw [Nat.zero_add]; rfl)
  have HK0 := Lib.hid hK0
  have hR5 := HM.out.2.2.1
  go_upto_region 2 with (first
    | (refine load_as (by rfl) 25 (.tmp 9) (by rfl) (w.heap.size + 1 + 1) 0 _ 48 16 _ K0 HK0.out hR5 (by rfl) _ Tryz.underlying25 (by rfl) (by kernel_rfl) (by omega) ?_)
    | (refine store_whole (by rfl) 25 (.tmp 8) (.tmp 10) (by rfl) w0.heap.size _ 16 (fun _ => .int .u8 0) (byteF D) (by exact row_new w0 _ _ 16 _ (by rfl) (zero16 _ (by rfl))) (by rfl) _ (by rfl) (by kernel_rfl) zK0 iK0 (fun _ _ => rfl) ?_
       intro w1 hr1 ho1))
  have hal := (Below.refl w0.heap.size w0).alloc (Nat.le_refl _) (.cells (Array.replicate 16 (.int .u8 0)) 25)
  have hb1 : Below w0.heap.size w0 w1 := ho1.below hal (Nat.le_refl _)
  have HB0 : Hid (Below w.heap.size w w1) := Lib.hid (HM.out.2.2.2.1.trans (hb1.mono HM.out.2.2.2.1.size))
  have M0 : Hid (∀ W, Below w1.heap.size w1 W → W.rowIs w.heap.size 79 19 (prinF n1 k1 l1 F1) ∧ W.rowIs (w.heap.size + 1) 79 19 (prinF n2 k2 l2 F2) ∧ W.rowIs (w.heap.size + 1 + 1) 31 48 (byteF D) ∧ W.rowIs w0.heap.size 25 16 (byteF D) ∧ Consts W) := Lib.hid fun W hW => by
    have e1 := HM.out.1.of_block (hb1.block _ (World.rowIs.lt HM.out.1))
    have e2 := HM.out.2.1.of_block (hb1.block _ (World.rowIs.lt HM.out.2.1))
    have e3 := HM.out.2.2.1.of_block (hb1.block _ (World.rowIs.lt HM.out.2.2.1))
    exact ⟨e1.of_block (hW.block _ (World.rowIs.lt e1)), e2.of_block (hW.block _ (World.rowIs.lt e2)), e3.of_block (hW.block _ (World.rowIs.lt e3)), hr1.of_block (hW.block _ (World.rowIs.lt hr1)), (HK.out.below HM.out.2.2.2.1 (Nat.le_refl _)).below (hb1.trans (hW.mono hb1.size)) (Nat.le_refl _)⟩
  obtain ⟨K1, hK1, zK1, iK1⟩ := cells_named 16 (fun j => prinF n1 k1 l1 F1 (1 + j)) k1 (fun i hi => by unfold prinF; rw [if_neg (by omega), if_pos (by omega), Nat.add_sub_cancel_left])
  obtain ⟨K2, hK2, zK2, iK2⟩ := cells_named 16 (fun j => prinF n2 k2 l2 F2 (1 + j)) k2 (fun i hi => by unfold prinF; rw [if_neg (by omega), if_pos (by omega), Nat.add_sub_cancel_left])
  obtain ⟨D1, hD1, zD1, iD1⟩ := cells_named 16 (fun j => byteF D (16 + j)) (fun j => D (16 + j)) (fun i _ => rfl)
  obtain ⟨D2, hD2, zD2, iD2⟩ := cells_named 16 (fun j => byteF D (32 + j)) (fun j => D (32 + j)) (fun i _ => rfl)
  have HK1 := Lib.hid hK1
  have HK2 := Lib.hid hK2
  have HD1 := Lib.hid hD1
  have HD2 := Lib.hid hD2
  have ZK1 := Lib.hid (And.intro zK1 iK1)
  have ZK2 := Lib.hid (And.intro zK2 iK2)
  have ZD1 := Lib.hid (And.intro zD1 iD1)
  have ZD2 := Lib.hid (And.intro zD2 iD2)
  have KS := Lib.hid (fun W => Seal.all_run (P := Tryz.prog) 25 5 16 Tryz.underlying25 (by kernel_rfl) w0.heap.size 0 W)
  have KA := Lib.hid (fun (W : World) (s : ByteArray) => Lib.run_convert_string_bytes (P := Tryz.prog) W 9 28 5 s Tryz.underlying9 Tryz.underlying28 Tryz.underlying5)
  have HSZ : Hid (w.heap.size + 1 + 1 < w0.heap.size) := Lib.hid (by have := HM.out.2.2.2.2; omega)
  clear hK0 hK1 hK2 hD1 hD2 zK0 zK1 zK2 zD1 zD2 iK0 iK1 iK2 iD1 iD2 HK0 HM hr1 ho1 hal hb1 hR5 HK
  generalize w0.heap.size = b8 at *
  simp only [Act.put]
  refine region_inv_all (postI w.heap.size (w.heap.size + 1) (w.heap.size + 1 + 1) 16 b8 K1 D1 l1 n2 F1 L1 N1 B1) 15 (by kernel_rfl) (by kernel_rfl) (by kernel_rfl) (postI_mono _ _ _ _ _ _ _ _ _ _ _ _ _) ?_ ?_
  · refine ⟨⟨⟨⟨⟨⟨⟨⟨⟨⟨⟨⟨⟨⟨⟨trivial, ?_⟩, ?_⟩, ?_⟩, ?_⟩, ?_⟩, ?_⟩, ?_⟩, ?_⟩, ?_⟩, ?_⟩, ?_⟩, ?_⟩, ?_⟩, ?_⟩, ?_⟩
    · refine ⟨_, rfl, fun xs W hW hd => ?_⟩
      clear hd
      simp only [fillI, List.take, List.setIfInBounds_toArray, List.set_cons_zero, List.set_cons_succ, Nat.reduceAdd, Nat.zero_add]
      go_wp2_with fail
      refine ⟨_, by (simp only [upd, Nat.reduceEqDiff, reduceIte]; rfl), ?_, ?_⟩
      · rfl
      · exact Below.refl _ _
    · refine ⟨_, rfl, fun xs W hW hd => ?_⟩
      have h0 : xs 0 = .pointer (some ⟨w.heap.size, 1, none⟩) := hd 0 (by kernel_rfl)
      have hr := (M0.out W (undrew hW)).1
      clear hd
      rw [upd_self h0]
      simp only [fillI, List.take, List.setIfInBounds_toArray, List.set_cons_zero, List.set_cons_succ, Nat.reduceAdd, Nat.zero_add, upd, Nat.reduceEqDiff, reduceIte]
      refine load_as (by rfl) 25 (.tmp 11) (by rfl) w.heap.size 1 _ 19 16 _ K1 HK1.out hr (by rfl) _ Tryz.underlying25 (by rfl) (by kernel_rfl) (by omega) ?_
      refine ⟨_, by (simp only [upd, Nat.reduceEqDiff, reduceIte]; rfl), ?_, ?_⟩
      · rfl
      · exact Below.refl _ _
    · refine ⟨_, rfl, fun xs W hW hd => ?_⟩
      clear hd
      simp only [fillI, List.take, List.setIfInBounds_toArray, List.set_cons_zero, List.set_cons_succ, Nat.reduceAdd, Nat.zero_add]
      go_wp2_with fail
      refine ⟨_, by (simp only [upd, Nat.reduceEqDiff, reduceIte]; rfl), ?_, ?_⟩
      · rfl
      · exact Below.refl _ _
    · refine ⟨_, rfl, fun xs W hW hd => ?_⟩
      have h2 : xs 2 = .pointer (some ⟨w.heap.size, 17, none⟩) := hd 2 (by kernel_rfl)
      have c1 := ((M0.out W (undrew hW)).1).cell (i := 17) (by omega)
      rw [show prinF n1 k1 l1 F1 17 = .string l1 from rfl] at c1
      clear hd
      rw [upd_self h2]
      simp only [fillI, List.take, List.setIfInBounds_toArray, List.set_cons_zero, List.set_cons_succ, Nat.reduceAdd, Nat.zero_add, upd, Nat.reduceEqDiff, reduceIte]
      go_wp2_with fail
      refine ⟨_, by (simp only [upd, Nat.reduceEqDiff, reduceIte]; rfl), ?_, ?_⟩
      · rfl
      · exact Below.refl _ _
    · refine ⟨_, rfl, fun xs W hW hd => ?_⟩
      clear hd
      simp only [fillI, List.take, List.setIfInBounds_toArray, List.set_cons_zero, List.set_cons_succ, Nat.reduceAdd, Nat.zero_add]
      go_wp2_with fail
      refine ⟨_, by (simp only [upd, Nat.reduceEqDiff, reduceIte]; rfl), ?_, ?_⟩
      · rfl
      · exact Below.refl _ _
    · refine ⟨_, rfl, fun xs W hW hd => ?_⟩
      have h4 : xs 4 = .pointer (some ⟨w.heap.size + 1 + 1, 16, none⟩) := hd 4 (by kernel_rfl)
      have hr := (M0.out W (undrew hW)).2.2.1
      clear hd
      rw [upd_self h4]
      simp only [fillI, List.take, List.setIfInBounds_toArray, List.set_cons_zero, List.set_cons_succ, Nat.reduceAdd, Nat.zero_add, upd, Nat.reduceEqDiff, reduceIte]
      refine load_as (by rfl) 25 (.tmp 15) (by rfl) (w.heap.size + 1 + 1) 16 _ 48 16 _ D1 HD1.out hr (by rfl) _ Tryz.underlying25 (by rfl) (by kernel_rfl) (by omega) ?_
      refine ⟨_, by (simp only [upd, Nat.reduceEqDiff, reduceIte]; rfl), ?_, ?_⟩
      · rfl
      · exact Below.refl _ _
    · refine ⟨_, rfl, fun xs W hW hd => ?_⟩
      clear hd
      simp only [fillI, List.take, List.setIfInBounds_toArray, List.set_cons_zero, List.set_cons_succ, Nat.reduceAdd, Nat.zero_add]
      go_wp2_with fail
      refine ⟨_, by (simp only [upd, Nat.reduceEqDiff, reduceIte]; rfl), ?_, ?_⟩
      · rfl
      · exact Below.refl _ _
    · refine ⟨_, rfl, fun xs W hW hd => ?_⟩
      have h6 : xs 6 = .pointer (some ⟨w.heap.size, 18, none⟩) := hd 6 (by kernel_rfl)
      have c1 := ((M0.out W (undrew hW)).1).cell (i := 18) (by omega)
      rw [show prinF n1 k1 l1 F1 18 = F1 from rfl] at c1
      clear hd
      rw [upd_self h6]
      simp only [fillI, List.take, List.setIfInBounds_toArray, List.set_cons_zero, List.set_cons_succ, Nat.reduceAdd, Nat.zero_add, upd, Nat.reduceEqDiff, reduceIte]
      go_wp2_with fail
      refine ⟨_, by (simp only [upd, Nat.reduceEqDiff, reduceIte]; rfl), ?_, ?_⟩
      · rfl
      · exact Below.refl _ _
    · refine ⟨_, rfl, fun xs W hW hd => ?_⟩
      clear hd
      simp only [fillI, List.take, List.setIfInBounds_toArray, List.set_cons_zero, List.set_cons_succ, Nat.reduceAdd, Nat.zero_add]
      go_wp2_with fail
      refine ⟨_, by (simp only [upd, Nat.reduceEqDiff, reduceIte]; rfl), ?_, ?_⟩
      · rfl
      · exact Below.refl _ _
    · refine ⟨_, rfl, fun xs W hW hd => ?_⟩
      have h8 : xs 8 = .pointer (some ⟨(w.heap.size + 1), 0, none⟩) := hd 8 (by kernel_rfl)
      have c1 := ((M0.out W (undrew hW)).2.1).cell (i := 0) (by omega)
      rw [show prinF n2 k2 l2 F2 0 = .string n2 from rfl] at c1
      clear hd
      rw [upd_self h8]
      simp only [fillI, List.take, List.setIfInBounds_toArray, List.set_cons_zero, List.set_cons_succ, Nat.reduceAdd, Nat.zero_add, upd, Nat.reduceEqDiff, reduceIte]
      go_wp2_with fail
      refine ⟨_, by (simp only [upd, Nat.reduceEqDiff, reduceIte]; rfl), ?_, ?_⟩
      · rfl
      · exact Below.refl _ _
    · refine ⟨_, rfl, fun xs W hW hd => ?_⟩
      have h9 : xs 9 = .string n2 := hd 9 (by kernel_rfl)
      clear hd
      rw [upd_self h9]
      simp only [fillI, List.take, List.setIfInBounds_toArray, List.set_cons_zero, List.set_cons_succ, Nat.reduceAdd, Nat.zero_add, upd, Nat.reduceEqDiff, reduceIte]
      have kx := KA.out W n2
      go_wp2_with fail
      refine ⟨_, by (simp only [upd, Nat.reduceEqDiff, reduceIte]; rfl), ?_, ?_⟩
      · exact strB_slice W n2 _ (by rw [Lib.bytesWorld_size]; omega)
      · exact strB_below W n2
    · refine ⟨_, rfl, fun xs W hW hd => ?_⟩
      clear hd
      simp only [fillI, List.take, List.setIfInBounds_toArray, List.set_cons_zero, List.set_cons_succ, Nat.reduceAdd, Nat.zero_add]
      have ka := KS.out
      go_wp2_with fail
      refine ⟨_, by (simp only [upd, Nat.reduceEqDiff, reduceIte]; rfl), ?_, ?_⟩
      · rfl
      · exact Below.refl _ _
    · refine ⟨_, rfl, fun xs W hW hd => ?_⟩
      have h7 : xs 7 = F1 := hd 7 (by kernel_rfl)
      have h10 : SliceOf W W.heap.size n2.size (strB n2) (xs 10) := hd 10 (by kernel_rfl)
      have h11 : xs 11 = .slice (some ⟨b8, 0, none⟩) 16 16 := hd 11 (by kernel_rfl)
      have hs := row_cells W b8 0 16 D (World.rowIs.lt (M0.out W (undrew hW)).2.2.2.1) (fun j hj => by rw [Nat.zero_add]; exact (M0.out W (undrew hW)).2.2.2.1.cell hj)
      have HC := Lib.hid (T1W.out.run W (xs 10) _ (n2.size, strB n2) D (HB0.out.trans ((undrew hW).mono HB0.out.size)) h10 hs)
      have eG := T1W.out.enter
      have HF := FE1.out
      obtain ⟨A10, c10, e10⟩ := slice_shape h10
      rw [e10] at HC
      clear h10 hs
      clear hd
      rw [upd_self h7]
      rw [upd_self e10]
      rw [upd_self h11]
      simp only [fillI, List.take, List.setIfInBounds_toArray, List.set_cons_zero, List.set_cons_succ, Nat.reduceAdd, Nat.zero_add, upd, Nat.reduceEqDiff, reduceIte]
      rw [HF]
      go_wp2_with fail
      refine HC.out.mono ?_
      rintro _ W2 ⟨z, rfl, hz, hb2⟩
      have HZ := Lib.hid hz
      have HB2 := Lib.hid hb2
      clear hz hb2
      go_wp2_with fail
      refine ⟨_, by (simp only [upd, Nat.reduceEqDiff, reduceIte]; rfl), ?_, ?_⟩
      · rw [HL1.out]; exact HZ.out
      · exact HB2.out
    · refine ⟨_, rfl, fun xs W hW hd => ?_⟩
      have h1 : xs 1 = .agg K1 := hd 1 (by kernel_rfl)
      have h3 : xs 3 = .string l1 := hd 3 (by kernel_rfl)
      have h5 : xs 5 = .agg D1 := hd 5 (by kernel_rfl)
      have h12 : PartsOf W L1.length (fldM L1) (fldE L1) (xs 12) := hd 12 (by kernel_rfl)
      have HC := Lib.hid (sealed_any k1 (fun j => D (16 + j)) l1 K1 D1 ZK1.out.1 ZK1.out.2 ZD1.out.1 ZD1.out.2 L1.length (fldM L1) (fldE L1) (xs 12) W (M0.out W (undrew hW)).2.2.2.2 h12 Q1.out)
      generalize hx12 : xs 12 = p12 at *
      clear h12
      clear hd
      rw [upd_self h1]
      rw [upd_self h3]
      rw [upd_self h5]
      rw [upd_self hx12]
      simp only [fillI, List.take, List.setIfInBounds_toArray, List.set_cons_zero, List.set_cons_succ, Nat.reduceAdd, Nat.zero_add, upd, Nat.reduceEqDiff, reduceIte]
      go_wp2_with fail
      refine HC.out.mono ?_
      rintro _ W2 ⟨A2, c2, rfl, hs2, hb2⟩
      have HS2 := Lib.hid hs2
      have HB2 := Lib.hid hb2
      clear hs2 hb2
      go_wp2_with fail
      refine ⟨_, by (simp only [upd, Nat.reduceEqDiff, reduceIte]; rfl), ?_, ?_⟩
      · rw [E1.out.1, E1.out.2]; exact HS2.out
      · exact HB2.out
    · refine ⟨_, rfl, fun xs W hW hd => ?_⟩
      have h13 : SliceOf W W.heap.size N1 B1 (xs 13) := hd 13 (by kernel_rfl)
      have HS := Lib.hid h13
      generalize hx13 : xs 13 = p13 at *
      clear h13
      clear hd
      rw [upd_self hx13]
      simp only [fillI, List.take, List.setIfInBounds_toArray, List.set_cons_zero, List.set_cons_succ, Nat.reduceAdd, Nat.zero_add, upd, Nat.reduceEqDiff, reduceIte]
      go_wp2_with fail
      refine ⟨_, by (simp only [upd, Nat.reduceEqDiff, reduceIte]; rfl), ?_, ?_⟩
      · exact HS.out
      · exact Below.refl _ _
  · intro xs w2 hW hp
    have h14 : SliceOf w2 w2.heap.size N1 B1 (xs 14) := hp 14 (by omega)
    have HP1 := Lib.hid h14
    have hb2 := undrew hW
    have HB2 : Hid (Below w.heap.size w w2) := Lib.hid (HB0.out.trans (hb2.mono HB0.out.size))
    have M2 : Hid (∀ W, Below w2.heap.size w2 W → W.rowIs w.heap.size 79 19 (prinF n1 k1 l1 F1) ∧ W.rowIs (w.heap.size + 1) 79 19 (prinF n2 k2 l2 F2) ∧ W.rowIs (w.heap.size + 1 + 1) 31 48 (byteF D) ∧ W.rowIs b8 25 16 (byteF D) ∧ Consts W) := Lib.hid fun W hV => M0.out W (hb2.trans (hV.mono hb2.size))
    obtain ⟨A14, c14, e14⟩ := slice_shape h14
    rw [e14] at HP1
    rw [upd_self e14]
    simp only [fillI, List.take, List.setIfInBounds_toArray, List.set_cons_zero, List.set_cons_succ, Nat.reduceAdd, Nat.zero_add, upd, Nat.reduceEqDiff, reduceIte]
    clear hp hW h14 hb2 e14 M0 HB0
    generalize xs 0 = y0 at *
    generalize xs 1 = y1 at *
    generalize xs 2 = y2 at *
    generalize xs 3 = y3 at *
    generalize xs 4 = y4 at *
    generalize xs 5 = y5 at *
    generalize xs 6 = y6 at *
    generalize xs 7 = y7 at *
    generalize xs 8 = y8 at *
    generalize xs 9 = y9 at *
    generalize xs 10 = y10 at *
    generalize xs 11 = y11 at *
    generalize xs 12 = y12 at *
    generalize xs 13 = y13 at *
    clear xs
    go_upto_region 3 with fail

    refine region_inv_all (postI (w.heap.size + 1) w.heap.size (w.heap.size + 1 + 1) 32 b8 K2 D2 l2 n1 F2 L2 N2 B2) 15 (by kernel_rfl) (by kernel_rfl) (by kernel_rfl) (postI_mono _ _ _ _ _ _ _ _ _ _ _ _ _) ?_ ?_
    · refine ⟨⟨⟨⟨⟨⟨⟨⟨⟨⟨⟨⟨⟨⟨⟨trivial, ?_⟩, ?_⟩, ?_⟩, ?_⟩, ?_⟩, ?_⟩, ?_⟩, ?_⟩, ?_⟩, ?_⟩, ?_⟩, ?_⟩, ?_⟩, ?_⟩, ?_⟩
      · refine ⟨_, rfl, fun xs W hW hd => ?_⟩
        clear hd
        simp only [fillI, List.take, List.setIfInBounds_toArray, List.set_cons_zero, List.set_cons_succ, Nat.reduceAdd, Nat.zero_add]
        go_wp2_with fail
        refine ⟨_, by (simp only [upd, Nat.reduceEqDiff, reduceIte]; rfl), ?_, ?_⟩
        · rfl
        · exact Below.refl _ _
      · refine ⟨_, rfl, fun xs W hW hd => ?_⟩
        have h0 : xs 0 = .pointer (some ⟨(w.heap.size + 1), 1, none⟩) := hd 0 (by kernel_rfl)
        have hr := (M2.out W (undrew hW)).2.1
        clear hd
        rw [upd_self h0]
        simp only [fillI, List.take, List.setIfInBounds_toArray, List.set_cons_zero, List.set_cons_succ, Nat.reduceAdd, Nat.zero_add, upd, Nat.reduceEqDiff, reduceIte]
        refine load_as (by rfl) 25 (.tmp 25) (by rfl) (w.heap.size + 1) 1 _ 19 16 _ K2 HK2.out hr (by rfl) _ Tryz.underlying25 (by rfl) (by kernel_rfl) (by omega) ?_
        refine ⟨_, by (simp only [upd, Nat.reduceEqDiff, reduceIte]; rfl), ?_, ?_⟩
        · rfl
        · exact Below.refl _ _
      · refine ⟨_, rfl, fun xs W hW hd => ?_⟩
        clear hd
        simp only [fillI, List.take, List.setIfInBounds_toArray, List.set_cons_zero, List.set_cons_succ, Nat.reduceAdd, Nat.zero_add]
        go_wp2_with fail
        refine ⟨_, by (simp only [upd, Nat.reduceEqDiff, reduceIte]; rfl), ?_, ?_⟩
        · rfl
        · exact Below.refl _ _
      · refine ⟨_, rfl, fun xs W hW hd => ?_⟩
        have h2 : xs 2 = .pointer (some ⟨(w.heap.size + 1), 17, none⟩) := hd 2 (by kernel_rfl)
        have c1 := ((M2.out W (undrew hW)).2.1).cell (i := 17) (by omega)
        rw [show prinF n2 k2 l2 F2 17 = .string l2 from rfl] at c1
        clear hd
        rw [upd_self h2]
        simp only [fillI, List.take, List.setIfInBounds_toArray, List.set_cons_zero, List.set_cons_succ, Nat.reduceAdd, Nat.zero_add, upd, Nat.reduceEqDiff, reduceIte]
        go_wp2_with fail
        refine ⟨_, by (simp only [upd, Nat.reduceEqDiff, reduceIte]; rfl), ?_, ?_⟩
        · rfl
        · exact Below.refl _ _
      · refine ⟨_, rfl, fun xs W hW hd => ?_⟩
        clear hd
        simp only [fillI, List.take, List.setIfInBounds_toArray, List.set_cons_zero, List.set_cons_succ, Nat.reduceAdd, Nat.zero_add]
        go_wp2_with fail
        refine ⟨_, by (simp only [upd, Nat.reduceEqDiff, reduceIte]; rfl), ?_, ?_⟩
        · rfl
        · exact Below.refl _ _
      · refine ⟨_, rfl, fun xs W hW hd => ?_⟩
        have h4 : xs 4 = .pointer (some ⟨w.heap.size + 1 + 1, 32, none⟩) := hd 4 (by kernel_rfl)
        have hr := (M2.out W (undrew hW)).2.2.1
        clear hd
        rw [upd_self h4]
        simp only [fillI, List.take, List.setIfInBounds_toArray, List.set_cons_zero, List.set_cons_succ, Nat.reduceAdd, Nat.zero_add, upd, Nat.reduceEqDiff, reduceIte]
        refine load_as (by rfl) 25 (.tmp 29) (by rfl) (w.heap.size + 1 + 1) 32 _ 48 16 _ D2 HD2.out hr (by rfl) _ Tryz.underlying25 (by rfl) (by kernel_rfl) (by omega) ?_
        refine ⟨_, by (simp only [upd, Nat.reduceEqDiff, reduceIte]; rfl), ?_, ?_⟩
        · rfl
        · exact Below.refl _ _
      · refine ⟨_, rfl, fun xs W hW hd => ?_⟩
        clear hd
        simp only [fillI, List.take, List.setIfInBounds_toArray, List.set_cons_zero, List.set_cons_succ, Nat.reduceAdd, Nat.zero_add]
        go_wp2_with fail
        refine ⟨_, by (simp only [upd, Nat.reduceEqDiff, reduceIte]; rfl), ?_, ?_⟩
        · rfl
        · exact Below.refl _ _
      · refine ⟨_, rfl, fun xs W hW hd => ?_⟩
        have h6 : xs 6 = .pointer (some ⟨(w.heap.size + 1), 18, none⟩) := hd 6 (by kernel_rfl)
        have c1 := ((M2.out W (undrew hW)).2.1).cell (i := 18) (by omega)
        rw [show prinF n2 k2 l2 F2 18 = F2 from rfl] at c1
        clear hd
        rw [upd_self h6]
        simp only [fillI, List.take, List.setIfInBounds_toArray, List.set_cons_zero, List.set_cons_succ, Nat.reduceAdd, Nat.zero_add, upd, Nat.reduceEqDiff, reduceIte]
        go_wp2_with fail
        refine ⟨_, by (simp only [upd, Nat.reduceEqDiff, reduceIte]; rfl), ?_, ?_⟩
        · rfl
        · exact Below.refl _ _
      · refine ⟨_, rfl, fun xs W hW hd => ?_⟩
        clear hd
        simp only [fillI, List.take, List.setIfInBounds_toArray, List.set_cons_zero, List.set_cons_succ, Nat.reduceAdd, Nat.zero_add]
        go_wp2_with fail
        refine ⟨_, by (simp only [upd, Nat.reduceEqDiff, reduceIte]; rfl), ?_, ?_⟩
        · rfl
        · exact Below.refl _ _
      · refine ⟨_, rfl, fun xs W hW hd => ?_⟩
        have h8 : xs 8 = .pointer (some ⟨w.heap.size, 0, none⟩) := hd 8 (by kernel_rfl)
        have c1 := ((M2.out W (undrew hW)).1).cell (i := 0) (by omega)
        rw [show prinF n1 k1 l1 F1 0 = .string n1 from rfl] at c1
        clear hd
        rw [upd_self h8]
        simp only [fillI, List.take, List.setIfInBounds_toArray, List.set_cons_zero, List.set_cons_succ, Nat.reduceAdd, Nat.zero_add, upd, Nat.reduceEqDiff, reduceIte]
        go_wp2_with fail
        refine ⟨_, by (simp only [upd, Nat.reduceEqDiff, reduceIte]; rfl), ?_, ?_⟩
        · rfl
        · exact Below.refl _ _
      · refine ⟨_, rfl, fun xs W hW hd => ?_⟩
        have h9 : xs 9 = .string n1 := hd 9 (by kernel_rfl)
        clear hd
        rw [upd_self h9]
        simp only [fillI, List.take, List.setIfInBounds_toArray, List.set_cons_zero, List.set_cons_succ, Nat.reduceAdd, Nat.zero_add, upd, Nat.reduceEqDiff, reduceIte]
        have kx := KA.out W n1
        go_wp2_with fail
        refine ⟨_, by (simp only [upd, Nat.reduceEqDiff, reduceIte]; rfl), ?_, ?_⟩
        · exact strB_slice W n1 _ (by rw [Lib.bytesWorld_size]; omega)
        · exact strB_below W n1
      · refine ⟨_, rfl, fun xs W hW hd => ?_⟩
        clear hd
        simp only [fillI, List.take, List.setIfInBounds_toArray, List.set_cons_zero, List.set_cons_succ, Nat.reduceAdd, Nat.zero_add]
        have ka := KS.out
        go_wp2_with fail
        refine ⟨_, by (simp only [upd, Nat.reduceEqDiff, reduceIte]; rfl), ?_, ?_⟩
        · rfl
        · exact Below.refl _ _
      · refine ⟨_, rfl, fun xs W hW hd => ?_⟩
        have h7 : xs 7 = F2 := hd 7 (by kernel_rfl)
        have h10 : SliceOf W W.heap.size n1.size (strB n1) (xs 10) := hd 10 (by kernel_rfl)
        have h11 : xs 11 = .slice (some ⟨b8, 0, none⟩) 16 16 := hd 11 (by kernel_rfl)
        have hs := row_cells W b8 0 16 D (World.rowIs.lt (M2.out W (undrew hW)).2.2.2.1) (fun j hj => by rw [Nat.zero_add]; exact (M2.out W (undrew hW)).2.2.2.1.cell hj)
        have HC := Lib.hid (T2W.out.run W (xs 10) _ (n1.size, strB n1) D (HB2.out.trans ((undrew hW).mono HB2.out.size)) h10 hs)
        have eG := T2W.out.enter
        have HF := FE2.out
        obtain ⟨A10, c10, e10⟩ := slice_shape h10
        rw [e10] at HC
        clear h10 hs
        clear hd
        rw [upd_self h7]
        rw [upd_self e10]
        rw [upd_self h11]
        simp only [fillI, List.take, List.setIfInBounds_toArray, List.set_cons_zero, List.set_cons_succ, Nat.reduceAdd, Nat.zero_add, upd, Nat.reduceEqDiff, reduceIte]
        rw [HF]
        go_wp2_with fail
        refine HC.out.mono ?_
        rintro _ W2 ⟨z, rfl, hz, hb2⟩
        have HZ := Lib.hid hz
        have HB3 := Lib.hid hb2
        clear hz hb2
        go_wp2_with fail
        refine ⟨_, by (simp only [upd, Nat.reduceEqDiff, reduceIte]; rfl), ?_, ?_⟩
        · rw [HL2.out]; exact HZ.out
        · exact HB3.out
      · refine ⟨_, rfl, fun xs W hW hd => ?_⟩
        have h1 : xs 1 = .agg K2 := hd 1 (by kernel_rfl)
        have h3 : xs 3 = .string l2 := hd 3 (by kernel_rfl)
        have h5 : xs 5 = .agg D2 := hd 5 (by kernel_rfl)
        have h12 : PartsOf W L2.length (fldM L2) (fldE L2) (xs 12) := hd 12 (by kernel_rfl)
        have HC := Lib.hid (sealed_any k2 (fun j => D (32 + j)) l2 K2 D2 ZK2.out.1 ZK2.out.2 ZD2.out.1 ZD2.out.2 L2.length (fldM L2) (fldE L2) (xs 12) W (M2.out W (undrew hW)).2.2.2.2 h12 Q2.out)
        generalize hx12 : xs 12 = p12 at *
        clear h12
        clear hd
        rw [upd_self h1]
        rw [upd_self h3]
        rw [upd_self h5]
        rw [upd_self hx12]
        simp only [fillI, List.take, List.setIfInBounds_toArray, List.set_cons_zero, List.set_cons_succ, Nat.reduceAdd, Nat.zero_add, upd, Nat.reduceEqDiff, reduceIte]
        go_wp2_with fail
        refine HC.out.mono ?_
        rintro _ W2 ⟨A2, c2, rfl, hs2, hb2⟩
        have HS2 := Lib.hid hs2
        have HB3 := Lib.hid hb2
        clear hs2 hb2
        go_wp2_with fail
        refine ⟨_, by (simp only [upd, Nat.reduceEqDiff, reduceIte]; rfl), ?_, ?_⟩
        · rw [E2.out.1, E2.out.2]; exact HS2.out
        · exact HB3.out
      · refine ⟨_, rfl, fun xs W hW hd => ?_⟩
        have h13 : SliceOf W W.heap.size N2 B2 (xs 13) := hd 13 (by kernel_rfl)
        have HS := Lib.hid h13
        generalize hx13 : xs 13 = p13 at *
        clear h13
        clear hd
        rw [upd_self hx13]
        simp only [fillI, List.take, List.setIfInBounds_toArray, List.set_cons_zero, List.set_cons_succ, Nat.reduceAdd, Nat.zero_add, upd, Nat.reduceEqDiff, reduceIte]
        go_wp2_with fail
        refine ⟨_, by (simp only [upd, Nat.reduceEqDiff, reduceIte]; rfl), ?_, ?_⟩
        · exact HS.out
        · exact Below.refl _ _
    · intro xs w4 hW hp
      have h14 : SliceOf w4 w4.heap.size N2 B2 (xs 14) := hp 14 (by omega)
      have HP2 := Lib.hid h14
      have hb4 := undrew hW
      have HB4 : Hid (Below w.heap.size w w4) := Lib.hid (HB2.out.trans (hb4.mono HB2.out.size))
      have HP14 := Lib.hid (slice_next HP1.out hb4)
      obtain ⟨A24, c24, e24⟩ := slice_shape h14
      rw [e24] at HP2
      rw [upd_self e24]
      simp only [fillI, List.take, List.setIfInBounds_toArray, List.set_cons_zero, List.set_cons_succ, Nat.reduceAdd, Nat.zero_add, upd, Nat.reduceEqDiff, reduceIte]
      clear hp hW h14 hb4 e24 M2 HB2 HP1
      generalize xs 0 = z0 at *
      generalize xs 1 = z1 at *
      generalize xs 2 = z2 at *
      generalize xs 3 = z3 at *
      generalize xs 4 = z4 at *
      generalize xs 5 = z5 at *
      generalize xs 6 = z6 at *
      generalize xs 7 = z7 at *
      generalize xs 8 = z8 at *
      generalize xs 9 = z9 at *
      generalize xs 10 = z10 at *
      generalize xs 11 = z11 at *
      generalize xs 12 = z12 at *
      generalize xs 13 = z13 at *
      clear xs
      go_wp2
      go_ret2
      exact ⟨_, _, rfl, HP14.out, HP2.out, HB4.out⟩
end Go.Proofs.YtnkjoambhmlnbaaGreatDoor.Kdc
