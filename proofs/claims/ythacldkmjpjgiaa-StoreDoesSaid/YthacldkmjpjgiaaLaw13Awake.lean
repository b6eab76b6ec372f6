/-
  'awake' of layer 13.
-/
import Derived.Test.YthacldkmjpjgiaaStoreHeld
import Derived.Test.YthacldkmjpjgiaaOwn
import Derived.Lib.SlBytesConst
import Derived.WalkSmall
import Derived.WalkMore
namespace Go.Proofs.Ythacldkmjpjgiaa.Law13
open Go Go.RowKit Go.Proofs.Ythacldkmjpjgiaa.Aid Go.Proofs.Ythacldkmjpjgiaa.Cache Go.Proofs.Ythacldkmjpjgiaa.Store

def eA (x y : BitVec 8) (j : Nat) : BitVec 8 := if j = 0 then x else y
def a1 : St := appS 5 st0 2 (eA 97 98)
def a2 : St := syncS a1
def a3 : St := appS 5 a2 2 (eA 99 100)
def a4 : St := appS 5 a3 2 (eA 101 102)
def a5 : St := crashS a4 1
def a6 : St := fuseS a5 0
def a7 : St := syncS a6
set_option maxRecDepth 100000 in
set_option maxHeartbeats 2000000 in
theorem awake_in {Rep : RepSt} (H : StoreHas Rep) (w : World) : Calls Try.prog 6 #[] w fun e w' => e = .returned (.bool true) ∧ Below w.heap.size w w' := by
  have HH := Lib.hid H
  have kc := fun (w : World) (C : Array Value) (n c : Nat) => Lib.run_convert_bytes_const (P := Try.prog) w 33 5 C n c Try.underlying33 Try.underlying5
  have two : ∀ (W : World) (mk : Nat × Nat) (x y : BitVec 8) (zx zy : Int), zx = (x.toNat : Int) → zy = (y.toNat : Int) → BytesIn (W.alloc (.cells #[.int .u8 zx, .int .u8 zy] 5 mk)) (fun b => b = W.heap.size) 2 (eA x y) (.slice (some ⟨W.heap.size, 0, none⟩) 2 2) := fun W mk x y zx zy h1 h2 => by
    refine ⟨_, 2, rfl, Nat.le_refl _, fun _ => ⟨W.heap.size, 0, rfl, rfl, fun j hj => ?_⟩⟩
    subst h1 h2
    rcases (show j = 0 ∨ j = 1 by omega) with rfl | rfl
    · exact World.cell?_alloc_mark W _ 5 mk 0
    · exact World.cell?_alloc_mark W _ 5 mk 1
  have TWO := Lib.hid two
  clear H two
  go_enter Try.func6, Try.ntmps6
  go_wp2_with fail
  refine (HH.out.form.newH 5 (by omega) w w (Below.refl _ _)).mono ?_
  rintro _ w1 ⟨p, rfl, h1, -⟩
  have H1 := Lib.hid h1
  clear h1
  go_wp2_with fail
  have b1 : Below w1.heap.size w1 (w1.alloc (.cells #[.int .u8 97, .int .u8 98] 5 (2, 3))) := (Below.refl _ _).alloc (Nat.le_refl _) _
  refine (HH.out.form.appH (HH.out.form.more (K' := fun b => b = w1.heap.size) H1.out b1 (fun b hb => .inr (by rw [hb]; simp))) 2 (eA 97 98) _ ((TWO.out w1 (2, 3) 97 98 97 98 rfl rfl).less (fun b _ hb => .inr hb)) (by decide)).mono ?_
  rintro _ w2 ⟨rfl, g, -⟩
  rw [show appC 5 st0 2 = 0 from rfl]
  have H2 : Hid (Held Rep w w2 (fun _ => False) (.pointer (some p)) 5 a1) := Lib.hid (g.less (fun _ h => h.elim))
  clear g b1 H1
  go_wp2_with fail
  refine (HH.out.form.syncH H2.out).mono ?_
  rintro _ w3 ⟨rfl, g, -⟩
  rw [show syncC a1 = 0 from rfl]
  have H3 : Hid (Held Rep w w3 (fun _ => False) (.pointer (some p)) 5 a2) := Lib.hid g
  clear g H2
  go_wp2_with fail
  have b3 : Below w3.heap.size w3 (w3.alloc (.cells #[.int .u8 99, .int .u8 100] 5 (2, 3))) := (Below.refl _ _).alloc (Nat.le_refl _) _
  refine (HH.out.form.appH (HH.out.form.more (K' := fun b => b = w3.heap.size) H3.out b3 (fun b hb => .inr (by rw [hb]; simp))) 2 (eA 99 100) _ ((TWO.out w3 (2, 3) 99 100 99 100 rfl rfl).less (fun b _ hb => .inr hb)) (by decide)).mono ?_
  rintro _ w4 ⟨rfl, g, -⟩
  rw [show appC 5 a2 2 = 0 from rfl]
  have H4 : Hid (Held Rep w w4 (fun _ => False) (.pointer (some p)) 5 a3) := Lib.hid (g.less (fun _ h => h.elim))
  clear g b3 H3
  go_wp2_with fail
  have b4 : Below w4.heap.size w4 (w4.alloc (.cells #[.int .u8 101, .int .u8 102] 5 (2, 3))) := (Below.refl _ _).alloc (Nat.le_refl _) _
  refine (HH.out.form.appH (HH.out.form.more (K' := fun b => b = w4.heap.size) H4.out b4 (fun b hb => .inr (by rw [hb]; simp))) 2 (eA 101 102) _ ((TWO.out w4 (2, 3) 101 102 101 102 rfl rfl).less (fun b _ hb => .inr hb)) (by decide)).mono ?_
  rintro _ w5 ⟨rfl, g, -⟩
  rw [show appC 5 a3 2 = 7 from rfl]
  have H5 : Hid (Held Rep w w5 (fun _ => False) (.pointer (some p)) 5 a4) := Lib.hid (g.less (fun _ h => h.elim))
  clear g b4 H4
  go_wp2_with fail
  refine (HH.out.form.crashH H5.out 1 (by omega) (by omega)).mono ?_
  rintro _ w6 ⟨rfl, g, -⟩
  have H6 : Hid (Held Rep w w6 (fun _ => False) (.pointer (some p)) 5 a5) := Lib.hid g
  clear g H5
  go_wp2_with fail
  refine (HH.out.readH H6.out).mono ?_
  rintro _ w7 ⟨bv, r, rfl, -, g, hby, -⟩
  have kb : ∃ cv : Value, cv = bv ∧ (convert 33 9 cv).run Try.prog w7 = .ok (.string ⟨#[97, 98, 99]⟩) w7 := by
    obtain ⟨A, c, rfl, hc, hr⟩ := hby
    obtain ⟨sb, so, rfl, -, hj⟩ := hr (by decide)
    refine ⟨_, rfl, ?_⟩
    have hn : a5.n = 3 := rfl
    rw [hn]
    refine run_convert_bytes_back w7 33 9 5 ⟨sb, so, none⟩ c [97, 98, 99] Try.underlying33 Try.underlying5 Try.underlying9 (fun j hj' => ?_)
    rw [Addr.add_mid]
    have h3 : j < 3 := by simpa using hj'
    have := hj j (by rw [hn]; exact h3)
    rcases (show j = 0 ∨ j = 1 ∨ j = 2 by omega) with rfl | rfl | rfl
    · exact this
    · exact this
    · exact this
  obtain ⟨cv, rfl, kb⟩ := kb
  have H7 : Hid (Held Rep w w7 (fun _ => False) (.pointer (some p)) 5 a5) := Lib.hid (g.less (fun _ h => h.elim))
  clear g hby H6
  go_wp2_with fail
  refine (HH.out.form.fuseH H7.out 0 (by omega) (by omega)).mono ?_
  rintro _ w8 ⟨rfl, g, -⟩
  have H8 : Hid (Held Rep w w8 (fun _ => False) (.pointer (some p)) 5 a6) := Lib.hid g
  clear g H7 kb
  go_wp2_with fail
  refine (HH.out.form.syncH H8.out).mono ?_
  rintro _ w9 ⟨rfl, g, -⟩
  rw [show syncC a6 = 8 from rfl]
  have H9 : Hid (Held Rep w w9 (fun _ => False) (.pointer (some p)) 5 a7) := Lib.hid g
  clear g H8
  go_wp2_with fail
  refine (HH.out.form.turnH H9.out 9 1 (by omega) (by omega)).mono ?_
  rintro _ w10 ⟨rfl, g, -⟩
  rw [show turnC a7 9 = 4 from rfl]
  have B10 := Lib.hid g.bel
  clear g H9
  go_wp2
  go_ret
  exact ⟨rfl, B10.out⟩
end Go.Proofs.Ythacldkmjpjgiaa.Law13
