/-
  'awake' of layer 12.
-/
import Derived.Test.YtefghgoeppfpfaaNetHeld
import Derived.Test.YtefghgoeppfpfaaMix
import Derived.Test.YtefghgoeppfpfaaOwn
import Derived.Lib.SlBytesConst
namespace Go.Proofs.Ytefghgoeppfpfaa.Law12
open Go Go.RowKit Go.Proofs.Ytefghgoeppfpfaa.Aid Go.Proofs.Ytefghgoeppfpfaa.Cache Go.Proofs.Ytefghgoeppfpfaa.Net

def sa : ByteArray := ⟨#[97]⟩
def sb : ByteArray := ⟨#[98]⟩
def sc : ByteArray := ⟨#[99]⟩
def l1 : Lt := ⟨sa, sb, 1, fun _ => 120, by decide, by decide⟩
def l2 : Lt := ⟨sc, ⟨#[]⟩, 0, fun _ => 0, by decide, none_small⟩
def l3 : Lt := ⟨⟨#[]⟩, ⟨#[]⟩, 0, fun _ => 0, none_small, none_small⟩
set_option maxRecDepth 100000 in
set_option maxHeartbeats 2000000 in
theorem awake_in {Rep : RepN} (H : NetHas Rep) (w : World) : Calls Try.prog 6 #[] w fun e w' => e = .returned (.bool true) ∧ Below w.heap.size w w' := by
  have HH := Lib.hid H
  have kc := fun (w : World) (C : Array Value) (n c : Nat) => Lib.run_convert_bytes_const (P := Try.prog) w 32 5 C n c Try.underlying32 Try.underlying5
  clear H
  go_enter Try.func6, Try.ntmps6
  go_wp2_with fail
  refine (HH.out.form.newH 2 (by omega) w w (Below.refl _ _)).mono ?_
  rintro _ w1 ⟨p, rfl, h1, -⟩
  have H1 := Lib.hid h1
  clear h1
  go_wp2_with fail
  have b1 : Below w1.heap.size w1 (w1.alloc (.cells #[.int .u8 120] 5 (1, 2))) := (Below.refl _ _).alloc (Nat.le_refl _) _
  have g1 := HH.out.form.more (K' := fun _ => False) H1.out b1 (fun _ h => h.elim)
  have s1 : SliceOf (w1.alloc (.cells #[.int .u8 120] 5 (1, 2))) (w1.alloc (.cells #[.int .u8 120] 5 (1, 2))).heap.size l1.n l1.e (.slice (some ⟨w1.heap.size, 0, none⟩) 1 1) :=
    ⟨_, 1, rfl, Nat.le_refl _, fun _ => ⟨w1.heap.size, 0, rfl, by simp, fun j hj => by
      obtain rfl : j = 0 := by have : l1.n = 1 := rfl; omega
      exact World.cell?_alloc_mark w1 #[.int .u8 120] 5 (1, 2) 0⟩⟩
  refine (HH.out.form.sendH g1 l1 (.slice (some ⟨w1.heap.size, 0, none⟩) 1 1) s1 (by decide)).mono ?_
  rintro _ w2 ⟨rfl, g2, -⟩
  have H2 := Lib.hid g2
  clear g1 g2 s1 b1 H1
  rw [show sendC 2 [] = 0 from rfl]
  go_wp2_with fail
  refine (HH.out.form.sendH H2.out l2 (.slice none 0 0) ⟨none, 0, rfl, Nat.le_refl _, fun h => absurd h (by decide)⟩ (by decide)).mono ?_
  rintro _ w3 ⟨rfl, g3, -⟩
  have H3 := Lib.hid g3
  clear g3 H2
  rw [show sendC 2 (sendL 2 [] l1) = 0 from rfl]
  go_wp2_with fail
  refine (HH.out.form.sendH H3.out l3 (.slice none 0 0) ⟨none, 0, rfl, Nat.le_refl _, fun h => absurd h (by decide)⟩ (by decide)).mono ?_
  rintro _ w4 ⟨rfl, g4, -⟩
  have e4 : sendL 2 (sendL 2 (sendL 2 [] l1) l2) l3 = [l1, l2] := rfl
  rw [e4] at g4
  have H4 := Lib.hid g4
  clear g4 H3 e4
  rw [show sendC 2 (sendL 2 (sendL 2 [] l1) l2) = 7 from rfl]
  go_wp2_with fail
  refine (HH.out.form.laterH H4.out).mono ?_
  rintro _ w5 ⟨rfl, g5, -⟩
  rw [show laterL [l1, l2] = [l2, l1] from rfl] at g5
  have H5 := Lib.hid g5
  clear g5 H4
  rw [show decide (0 < [l1, l2].length) = true from rfl]
  go_wp2_with fail
  refine (HH.out.takeH H5.out).mono ?_
  rintro _ w6 ⟨A6, c6, r6, rfl, -, g6, got6⟩
  rw [show [l2, l1].headD zeroL = l2 from rfl, show decide (0 < [l2, l1].length) = true from rfl, show [l2, l1].tail = [l1] from rfl] at *
  have H6 := Lib.hid (g6.less (K' := fun _ => False) (fun _ h => h.elim))
  clear g6 got6 H5
  unfold ltV
  go_wp2_with fail
  have b6 : Below w6.heap.size w6 (w6.alloc (.cells #[.string l2.f, .string l2.t, .slice A6 l2.n c6] 34)) := (Below.refl _ _).alloc (Nat.le_refl _) _
  have y0 : (w6.alloc (.cells #[.string l2.f, .string l2.t, .slice A6 l2.n c6] 34)).cell? ⟨w6.heap.size, 0, none⟩ = some (.string ⟨#[99]⟩) := by go_simp; rfl
  have g7 := HH.out.form.more (K' := fun b => b = w6.heap.size) H6.out b6 (fun b hb => .inr (by rw [hb]; simp))
  have Y0 := Lib.hid y0
  have G7 := Lib.hid g7
  clear y0 g7 b6 H6
  generalize w6.alloc (.cells #[.string l2.f, .string l2.t, .slice A6 l2.n c6] 34) = w7 at *
  generalize w6.heap.size = k6 at *
  refine (HH.out.form.twiceH G7.out).mono ?_
  rintro _ w8 ⟨rfl, g8, kp⟩
  rw [show twiceL 2 [l1] = [l1, l1] from rfl] at g8
  rw [show twiceC 2 [l1] = 0 from rfl]
  have Y8 := Lib.hid (kp.cell Y0.out rfl)
  have G8 := Lib.hid g8
  clear g8 kp G7 Y0
  go_wp2_with fail
  refine (HH.out.takeH G8.out).mono ?_
  rintro _ w9 ⟨A9, c9, r9, rfl, kp, g9, got9⟩
  rw [show [l1, l1].headD zeroL = l1 from rfl, show decide (0 < [l1, l1].length) = true from rfl, show [l1, l1].tail = [l1] from rfl] at *
  have y9 := kp.cell Y8.out rfl
  obtain ⟨g, o, rfl, hr, -⟩ := got9.at_ (by decide)
  have kb : ∀ W : World, Below w9.heap.size w9 W → (convert 32 9 (.slice (some ⟨g, o, none⟩) 1 c9)).run Try.prog W = .ok (.string ⟨#[120]⟩) W := fun W hW => by
    have hlt : ∀ b, r9 b → b < w9.heap.size := fun b hb => g9.old b (.inl hb)
    obtain ⟨A, c, hv, -, hc⟩ := got9.read W (fun b hb => hW.block b (hlt b hb))
    obtain ⟨sb', so', hA, -, hj⟩ := hc (by decide)
    cases hv
    cases hA
    refine run_convert_bytes_back W 32 9 5 ⟨g, o, none⟩ c9 [120] Try.underlying32 Try.underlying5 Try.underlying9 (fun j hj' => ?_)
    obtain rfl : j = 0 := by simpa using hj'
    rw [Addr.add_mid]
    exact hj 0 (by decide)
  have b9 : Below w9.heap.size w9 (w9.alloc (.cells #[.string l1.f, .string l1.t, .slice (some ⟨g, o, none⟩) l1.n c9] 34)) := (Below.refl _ _).alloc (Nat.le_refl _) _
  have kb9 := kb _ b9
  have y1 : (w9.alloc (.cells #[.string l1.f, .string l1.t, .slice (some ⟨g, o, none⟩) l1.n c9] 34)).cell? ⟨w9.heap.size, 1, none⟩ = some (.string ⟨#[98]⟩) := by go_simp; rfl
  have y2 : (w9.alloc (.cells #[.string l1.f, .string l1.t, .slice (some ⟨g, o, none⟩) l1.n c9] 34)).cell? ⟨w9.heap.size, 2, none⟩ = some (.slice (some ⟨g, o, none⟩) 1 c9) := by go_simp; rfl
  have y0 := (b9.cell (p := ⟨k6, 0, none⟩) (block_lt_of_cell y9)).trans y9
  have G9 := Lib.hid (HH.out.form.more (K' := fun _ => False) g9 b9 (fun _ h => h.elim))
  clear g9 kp got9 G8 Y8 kb b9 y9 hr
  unfold ltV
  go_wp2_with fail
  refine (HH.out.lenH G9.out).mono ?_
  rintro _ w10 ⟨rfl, g10, -⟩
  have B10 := Lib.hid g10.bel
  clear g10 kb9 y0 y1 y2 G9
  go_wp2
  go_ret
  exact ⟨rfl, B10.out⟩
end Go.Proofs.Ytefghgoeppfpfaa.Law12
