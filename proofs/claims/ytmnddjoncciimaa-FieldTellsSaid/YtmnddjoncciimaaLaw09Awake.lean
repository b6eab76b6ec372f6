/-
  bartizanlaw09.awake, by what the functions of package field do: true.
-/
import Derived.Test.YtmnddjoncciimaaFieldHas
import Derived.Test.YtmnddjoncciimaaMem
import Derived.Test.YtmnddjoncciimaaStrBytes
import Derived.Test.YtmnddjoncciimaaFirst
import Derived.Deep.DeepCutAuto
namespace Go.Proofs.Ytmnddjoncciimaa.Field
open Go Go.RowKit Go.Proofs.Ytmnddjoncciimaa.Aid Go.Proofs.Ytmnddjoncciimaa.Law01

def abM (i : Nat) : Nat := if i = 0 then 2 else 0
def abE (i j : Nat) : BitVec 8 := if i = 0 then (if j = 0 then 97 else 98) else 0
theorem ab_parts (w : World) (W : World) (hW : W = (w.alloc (.cells #[.int .u8 97, .int .u8 98] 5 (2, 3))).alloc (.cells #[.slice (some ⟨w.heap.size, 0, none⟩) 2 2, .slice none 0 0] 23)) :
    PartsOf W 2 abM abE (.slice (some ⟨w.heap.size + 1, 0, none⟩) 2 2) := by
  subst hW
  have r1 : ∀ j, j < 2 → (w.alloc (.cells #[.int .u8 97, .int .u8 98] 5 (2, 3))).cell? ⟨w.heap.size, j, none⟩ = some (.int .u8 ((abE 0 j).toNat : Int)) := fun j hj => by
    rw [World.cell?_alloc_mark]
    match j, hj with
    | 0, _ => rfl
    | 1, _ => rfl
  have r2 := row_new (w.alloc (.cells #[.int .u8 97, .int .u8 98] 5 (2, 3))) #[.slice (some ⟨w.heap.size, 0, none⟩) 2 2, .slice none 0 0] 23 2 (fun j => if j = 0 then .slice (some ⟨w.heap.size, 0, none⟩) 2 2 else .slice none 0 0) rfl (fun i hi => by
    match i, hi with
    | 0, _ => rfl
    | 1, _ => rfl)
  rw [World.size_alloc] at r2
  refine ⟨_, 2, rfl, fun _ => ⟨w.heap.size + 1, 0, rfl, fun i hi => ?_⟩⟩
  rw [Nat.zero_add]
  match i, hi with
  | 0, _ => exact ⟨_, r2.cell (i := 0) (by omega), _, 2, rfl, by decide, fun _ => ⟨w.heap.size, 0, rfl, by simp; omega, fun j hj => by rw [Nat.zero_add]; exact Lib.cell?_alloc_marked _ (r1 j hj)⟩⟩
  | 1, _ => exact ⟨_, r2.cell (i := 1) (by omega), SliceOf.nil _ _ _⟩
theorem zero_eql (W : World) : (binOp .eql 36 (.agg #[Value.int .u8 0, Value.int .u8 0, Value.int .u8 0, Value.int .u8 0, Value.int .u8 0, Value.int .u8 0, Value.int .u8 0, Value.int .u8 0, Value.int .u8 0, Value.int .u8 0, Value.int .u8 0, Value.int .u8 0, Value.int .u8 0, Value.int .u8 0, Value.int .u8 0, Value.int .u8 0]) (.agg #[Value.int .u8 0, Value.int .u8 0, Value.int .u8 0, Value.int .u8 0, Value.int .u8 0, Value.int .u8 0, Value.int .u8 0, Value.int .u8 0, Value.int .u8 0, Value.int .u8 0, Value.int .u8 0, Value.int .u8 0, Value.int .u8 0, Value.int .u8 0, Value.int .u8 0, Value.int .u8 0])).run Try.prog W = .ok (.bool true) W :=
  run_eql_same Try.underlying36 Try.underlying5 (by kernel_rfl) _ (fun i hi => ⟨0, zero16 _ rfl i hi⟩) W
theorem ab_str : strOf (abE 0) 2 = ⟨#[97, 98]⟩ := by rfl
theorem ab_enc : encB abM abE 2 1 = 2 := by decide
set_option maxRecDepth 100000 in
set_option maxHeartbeats 2000000 in
theorem awake_any (C : FieldHas) (w : World) : Calls Try.prog 6 #[] w fun x w' => x = .returned (.bool true) ∧ Below w.heap.size w w' := by
  have hp1 := ab_parts w _ rfl
  have f1 := fun W hW => C.put 2 abM abE (.slice (some ⟨w.heap.size + 1, 0, none⟩) 2 2) W hW (by decide)
  have hpb : putB 2 abM = true := by decide
  rw [show putC 2 abM = 0 by unfold putC; rw [if_pos hpb], show putN 2 abM = 6 by unfold putN; rw [if_pos hpb]; decide] at f1
  have F1 := Lib.hid f1
  have HP1 := Lib.hid hp1
  have HPB := Lib.hid hpb
  clear f1 hp1 hpb
  have hb0 : Below w.heap.size w ((w.alloc (.cells #[.int .u8 97, .int .u8 98] 5 (2, 3))).alloc (.cells #[.slice (some ⟨w.heap.size, 0, none⟩) 2 2, .slice none 0 0] 23)) := ((Below.refl _ _).alloc (Nat.le_refl _) _).alloc (by simp) _
  have kc := fun (w : World) (C : Array Value) (n c : Nat) => Lib.run_convert_bytes_const (P := Try.prog) w 23 5 C n c Try.underlying23 Try.underlying5
  go_enter Try.func6, Try.ntmps6
  go_wp2_with fail
  refine (F1.out _ HP1.out).mono ?_
  rintro _ wa ⟨r, rfl, hr, hb⟩
  clear kc HP1 F1
  have hsp1 := split_put (len := 2) (m := abM) abE HPB.out
  have hb1 := hb0.trans (hb.mono hb0.size)
  replace hr := own_base hr hb0.size
  generalize (w.alloc (.cells #[.int .u8 97, .int .u8 98] 5 (2, 3))).alloc (.cells #[.slice (some ⟨w.heap.size, 0, none⟩) 2 2, .slice none 0 0] 23) = w0 at *
  obtain ⟨g1, cap1, rfl, hg1, -, -, hc1, -⟩ := own_cells hr (by decide)
  have f2 := C.split (some ⟨g1, 0, none⟩) cap1 6 (encB abM abE 2) wa (by omega) (hr.slice (.inr (Nat.le_refl _)))
  have F2 := Lib.hid f2
  have HR := Lib.hid hr
  have HB1 := Lib.hid hb1
  have HSP := Lib.hid hsp1
  clear f2 hr hb hb0 hb1 hsp1 hc1
  go_wp2_with fail
  refine F2.out.mono ?_
  rintro _ wb ⟨k, c, v, R, hspec, rfl, hown, hb⟩
  have hu := split_unique hspec (show SplitSpec (encB abM abE 2) 6 2 0 from HSP.out.1)
  obtain ⟨rfl, rfl⟩ := hu
  rw [if_pos rfl] at hown
  obtain ⟨Av, cv, rfl⟩ := hown.shape
  have hpv := PartsOf.congr hown.parts (m' := abM) (e' := abE) (fun i hi => ⟨(HSP.out.2 i hi).1, fun j hj => (HSP.out.2 i hi).2 j (by rw [← (HSP.out.2 i hi).1]; exact hj)⟩)
  have hb2 := HB1.out.trans (hb.mono HB1.out.size)
  have hr2 := HR.out.below hb
  clear F2 HR HB1 HSP hspec hown HPB
  have HPV := Lib.hid hpv
  have HR2 := Lib.hid hr2
  have HB2 := Lib.hid hb2
  have f3 := C.number (-2)
  have f4 := fun A c W h => C.take A c 8 (numB (-2)) W (by omega) h
  rw [(take_num (-2) (by omega) (by omega)).1, (take_num (-2) (by omega) (by omega)).2] at f4
  have f5 := fun A c W h => C.word A c 16 (fun _ => 0) W (by omega) h
  rw [show wordC 16 = 0 by unfold wordC; rw [if_pos rfl], wordV_congr (E := wordE 16 (fun _ => 0)) (F := fun _ => 0) (fun j hj => by unfold wordE; rw [if_pos rfl])] at f5
  have f6 := fun W => C.name ⟨#[107, 100, 99, 49]⟩ W (by decide)
  have f7 := fun W => C.name ⟨#[75, 100, 99]⟩ W (by decide)
  rw [show nameB ⟨#[107, 100, 99, 49]⟩ = true by decide] at f6
  rw [show nameB ⟨#[75, 100, 99]⟩ = false by decide] at f7
  unfold wordV at f5
  have F3 := Lib.hid f3
  have F4 := Lib.hid f4
  have F5 := Lib.hid f5
  have F6 := Lib.hid f6
  have F7 := Lib.hid f7
  clear hpv hr2 hb2 hb f3 f4 f5 f6 f7
  go_wp2_with fail
  refine (F3.out _).mono ?_
  rintro _ wn ⟨vn, rfl, hn, hb⟩
  have hpv := PartsOf.below HPV.out hb
  have hr2 := HR2.out.below hb
  have hb2 := HB2.out.trans (hb.mono HB2.out.size)
  obtain ⟨An, cn, rfl, -, -⟩ := own_shape hn
  have hsn := Lib.hid (hn.slice (.inr (Nat.le_refl _)))
  clear HPV HR2 HB2 hn hb F3
  have HPV := Lib.hid hpv
  have HR2 := Lib.hid hr2
  have HB2 := Lib.hid hb2
  clear hpv hr2 hb2
  go_wp2_with fail
  refine (F4.out _ _ _ hsn.out).mono ?_
  rintro _ wt ⟨rfl, hb⟩
  have hpv := PartsOf.below HPV.out hb
  have hr2 := HR2.out.below hb
  have hb2 := HB2.out.trans (hb.mono HB2.out.size)
  clear HPV HR2 HB2 hb F4 hsn
  have HPV := Lib.hid hpv
  have HR2 := Lib.hid hr2
  have HB2 := Lib.hid hb2
  clear hpv hr2 hb2
  go_wp2_with (at_make
               refine make_own (by rfl) (.const (.int .i64 16)) (.const (.int .i64 16)) (by rfl) .i64 .i64 16 (by rfl) (by rfl) (by omega) ?_
               intro wm hm hb)
  have hpv := PartsOf.below HPV.out hb
  have hr2 := HR2.out.below hb
  have hb2 := HB2.out.trans (hb.mono HB2.out.size)
  have hsn := hm.slice (g' := wm.heap.size) (.inr (Nat.le_refl _))
  clear HPV HR2 HB2 hb hm
  refine (F5.out _ _ _ hsn).mono ?_
  rintro _ ww ⟨rfl, hb⟩
  replace hpv := PartsOf.below hpv hb
  replace hr2 := hr2.below hb
  replace hb2 := hb2.trans (hb.mono hb2.size)
  clear hb hsn F5
  have HPV := Lib.hid hpv
  have HR2 := Lib.hid hr2
  have HB2 := Lib.hid hb2
  clear hpv hr2 hb2
  go_upto_region 5 with (refine store_whole (by rfl) 36 (.tmp 7) (.tmp 29) (by rfl) ww.heap.size _ 16 (fun _ => .int .u8 0) (fun _ => .int .u8 0) (by exact row_new ww _ _ 16 _ (by rfl) (zero16 _ (by rfl))) (by rfl) _ (by rfl) (by kernel_rfl) (size_cellsOf _ _) (cellsOf_at _ _) (fun _ _ => rfl) ?_
                         intro wx hrw how)
  have hbx : Below ww.heap.size ww wx := how.below ((Below.refl _ ww).alloc (Nat.le_refl _) (.cells (Array.replicate 16 (.int .u8 0)) 36)) (Nat.le_refl _)
  have hpv := PartsOf.below HPV.out hbx
  obtain ⟨sv, ov, A0, cap0, rfl, hp0, hs0⟩ := PartsOf.at_ hpv 0 (by omega)
  have hs0' : SliceOf wx wx.heap.size 2 (abE 0) (.slice A0 2 cap0) := hs0
  have ks := str_run A0 cap0 2 (abE 0) wx.heap.size wx hs0'
  rw [ab_str] at ks
  have hb1 := (own_at (HR2.out.below hbx) 1 (by omega)).1
  rw [ab_enc] at hb1
  have hp0' : wx.cell? ⟨sv, ov, none⟩ = some (.slice A0 2 cap0) := hp0
  have hb2 := HB2.out.trans (hbx.mono HB2.out.size)
  have HB3 := Lib.hid hb2
  have c0 := hrw.cell (i := 0) (by omega)
  have c1 := hrw.cell (i := 1) (by omega)
  have c2 := hrw.cell (i := 2) (by omega)
  have c3 := hrw.cell (i := 3) (by omega)
  have c4 := hrw.cell (i := 4) (by omega)
  have c5 := hrw.cell (i := 5) (by omega)
  have c6 := hrw.cell (i := 6) (by omega)
  have c7 := hrw.cell (i := 7) (by omega)
  have c8 := hrw.cell (i := 8) (by omega)
  have c9 := hrw.cell (i := 9) (by omega)
  have c10 := hrw.cell (i := 10) (by omega)
  have c11 := hrw.cell (i := 11) (by omega)
  have c12 := hrw.cell (i := 12) (by omega)
  have c13 := hrw.cell (i := 13) (by omega)
  have c14 := hrw.cell (i := 14) (by omega)
  have c15 := hrw.cell (i := 15) (by omega)
  have kq := zero_eql
  clear how hbx hpv hp0 hs0 hs0' HPV HR2 HB2 hrw hb2
  go_wp2_with fail
  refine (F6.out _).mono ?_
  rintro _ wy ⟨rfl, hb6⟩
  have HB6 := Lib.hid (HB3.out.trans (hb6.mono HB3.out.size))
  clear hb6 F6 HB3 c0 c1 c2 c3 c4 c5 c6 c7 c8 c9 c10 c11 c12 c13 c14 c15 ks hb1 hp0' kq
  go_wp2_with fail
  refine (F7.out _).mono ?_
  rintro _ wz ⟨rfl, hb7⟩
  have HB7 := Lib.hid (HB6.out.trans (hb7.mono HB6.out.size))
  clear hb7 F7 HB6
  go_wp2
  go_ret
  exact ⟨rfl, HB7.out⟩
end Go.Proofs.Ytmnddjoncciimaa.Field
