/-
  awake of layer 11: three keys in a table of two.
-/
import Derived.Test.YtmoepcobhapghaaCacheHeld
import Derived.WalkSmall
import Derived.WalkMore
namespace Go.Proofs.Ytmoepcobhapghaa.Law11
open Go Go.RowKit Go.Proofs.Ytmoepcobhapghaa.Aid Go.Proofs.Ytmoepcobhapghaa.Cache

set_option maxRecDepth 100000 in
set_option maxHeartbeats 2000000 in
theorem awake_any {Rep : RepI} (H : CacheHas Rep) (w : World) : Calls Try.prog 6 #[] w fun x w' => x = .returned (.bool true) ∧ Below w.heap.size w w' := by
  have N2 := Lib.hid (H.tab.newH 2 (by omega) w w (Below.refl _ _))
  have HH := Lib.hid H
  clear H
  go_enter Try.func6, Try.ntmps6
  go_wp2_with fail
  refine N2.out.mono ?_
  rintro _ w1 ⟨p, rfl, h1, hb1⟩
  clear N2
  have h1 := Lib.hid h1
  clear hb1
  go_wp2_with fail
  refine (HH.out.tab.new_no 0 w1 (by omega)).mono ?_
  rintro _ w2 ⟨rfl, hb2⟩
  have h2 := Lib.hid (HH.out.tab.more (K' := fun _ => False) h1.out hb2 (fun b hb => hb.elim))
  clear h1 hb2
  go_wp2_with fail
  refine (HH.out.tab.putH h2.out 5 _ ⟨by omega, by omega⟩).mono ?_
  rintro _ w3 ⟨rfl, h3, -⟩
  have E1 : putL 2 [] (5 : Int) (⟨#[97]⟩ : ByteArray) = [(5, ⟨#[97]⟩)] := rfl
  rw [E1] at h3
  have h3 := Lib.hid h3
  clear h2 E1
  go_wp2_with fail
  refine (HH.out.tab.putH h3.out 6 _ ⟨by omega, by omega⟩).mono ?_
  rintro _ w4 ⟨rfl, h4, -⟩
  have E1 : putL 2 [((5 : Int), (⟨#[97]⟩ : ByteArray))] 6 ⟨#[98]⟩ = [(5, ⟨#[97]⟩), (6, ⟨#[98]⟩)] := rfl
  rw [E1] at h4
  have h4 := Lib.hid h4
  clear h3 E1
  go_wp2_with fail
  refine (HH.out.tab.putH h4.out 7 _ ⟨by omega, by omega⟩).mono ?_
  rintro _ w5 ⟨rfl, h5, -⟩
  have E1 : putL 2 [((5 : Int), (⟨#[97]⟩ : ByteArray)), (6, ⟨#[98]⟩)] 7 ⟨#[99]⟩ = [(6, ⟨#[98]⟩), (7, ⟨#[99]⟩)] := rfl
  rw [E1] at h5
  rw [show goneK 0 2 (keysL [((5 : Int), (⟨#[97]⟩ : ByteArray)), (6, ⟨#[98]⟩)]) 7 = 5 from rfl, show goneB 2 (keysL [((5 : Int), (⟨#[97]⟩ : ByteArray)), (6, ⟨#[98]⟩)]) 7 = true from rfl]
  have h5 := Lib.hid h5
  clear h4 E1
  go_wp2_with fail
  refine (HH.out.tab.getH h5.out 6 ⟨by omega, by omega⟩).mono ?_
  rintro _ w6 ⟨rfl, h6, -⟩
  rw [show (getL [((6 : Int), (⟨#[98]⟩ : ByteArray)), (7, ⟨#[99]⟩)] 6).getD ByteArray.empty = ⟨#[98]⟩ from rfl, show hasK (keysL [((6 : Int), (⟨#[98]⟩ : ByteArray)), (7, ⟨#[99]⟩)]) 6 = true from rfl]
  have h6 := Lib.hid h6
  clear h5
  go_wp2_with fail
  refine (HH.out.tab.lenH h6.out).mono ?_
  rintro _ w7 ⟨rfl, h7, -⟩
  have h7 := Lib.hid h7
  clear h6
  go_wp2_with fail
  refine (HH.out.tab.dropH h7.out 6 ⟨by omega, by omega⟩).mono ?_
  rintro _ w8 ⟨rfl, h8, -⟩
  have E1 : dropL [((6 : Int), (⟨#[98]⟩ : ByteArray)), (7, ⟨#[99]⟩)] 6 = [(7, ⟨#[99]⟩)] := rfl
  rw [E1] at h8
  rw [show hasK (keysL [((6 : Int), (⟨#[98]⟩ : ByteArray)), (7, ⟨#[99]⟩)]) 6 = true from rfl]
  have h8 := Lib.hid h8
  clear h7 E1
  go_wp2_with fail
  refine (HH.out.keysH h8.out).mono ?_
  rintro _ w9 ⟨A, c, rfl, -, r, h9, -⟩
  have h9 := Lib.hid h9
  clear h8
  go_wp2
  go_ret
  exact ⟨rfl, h9.out.bel⟩
end Go.Proofs.Ytmoepcobhapghaa.Law11
