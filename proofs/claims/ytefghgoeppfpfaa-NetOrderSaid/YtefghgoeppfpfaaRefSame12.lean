/-
  What the document's Same of letters does.
-/
import Derived.Test.YtefghgoeppfpfaaNetPlain
import Derived.Test.YtefghgoeppfpfaaRefTake12
import Derived.Test.YtefghgoeppfpfaaSame
import Derived.Test.YtefghgoeppfpfaaOwn
import Derived.Test.YtefghgoeppfpfaaMix
namespace Go.Proofs.Ytefghgoeppfpfaa.Net
open Go Go.RowKit Go.Proofs.Ytefghgoeppfpfaa.Aid Go.Proofs.Ytefghgoeppfpfaa.Cache

/-- Are letters the same? -/
def sameLt (x y : Lt) : Bool := decide (x.f.toList = y.f.toList) && decide (x.t.toList = y.t.toList) && Mac.sameBytes x.n y.n x.e y.e
theorem sameLt_refl (x : Lt) : sameLt x x = true := by
  unfold sameLt
  simp [Mac.same_refl x.e x.e x.n (fun _ _ => rfl)]
set_option maxRecDepth 100000 in
set_option maxHeartbeats 2000000 in
theorem refSame12_any (x y : Lt) (av bv : Value) (w : World) (hx : SliceOf w w.heap.size x.n x.e av) (hy : SliceOf w w.heap.size y.n y.e bv) (hxn : x.n ≤ 2000) (hyn : y.n ≤ 2000) :
    Calls Try.prog 14 #[ltV x av, ltV y bv] w fun e w' => e = .returned (.bool (sameLt x y)) ∧ Below w.heap.size w w' := by
  obtain ⟨A, c, rfl, hc, hr⟩ := hx
  obtain ⟨B, d, rfl, hd, hs⟩ := hy
  have HX : Hid (SliceOf w w.heap.size x.n x.e (.slice A x.n c)) := ⟨A, c, rfl, hc, hr⟩
  have HY : Hid (SliceOf w w.heap.size y.n y.e (.slice B y.n d)) := ⟨B, d, rfl, hd, hs⟩
  clear hr hs
  unfold ltV
  have HB := Lib.hid (((Below.refl w.heap.size w).alloc (Nat.le_refl _) (.cells #[.string x.f, .string x.t, .slice A x.n c] 39)).alloc (by simp) (.cells #[.string y.f, .string y.t, .slice B y.n d] 39))
  go_enter Try.func14, Try.ntmps14
  by_cases hf : x.f.toList = y.f.toList
  · by_cases ht : x.t.toList = y.t.toList
    · have e1 : sameLt x y = Mac.sameBytes x.n y.n x.e y.e := by unfold sameLt; simp [hf, ht]
      rw [e1]
      clear e1
      go_wp2_with fail
      have hx2 := slice_here (slice_below (slice_below HX.out ((Below.refl _ _).alloc (Nat.le_refl _) (.cells #[.string x.f, .string x.t, .slice A x.n c] 39))) ((Below.refl _ _).alloc (Nat.le_refl _) (.cells #[.string y.f, .string y.t, .slice B y.n d] 39)))
      have hy2 := slice_here (slice_below (slice_below HY.out ((Below.refl _ _).alloc (Nat.le_refl _) (.cells #[.string x.f, .string x.t, .slice A x.n c] 39))) ((Below.refl _ _).alloc (Nat.le_refl _) (.cells #[.string y.f, .string y.t, .slice B y.n d] 39)))
      refine (Mac.same_gen A B x.n y.n c d x.e y.e _ _ _ hx2 hy2 (by omega) (by omega)).mono ?_
      rintro _ w4 ⟨rfl, q, rfl⟩
      have HB4 := Lib.hid (drewN_below0 HB.out q)
      clear hx2 hy2 HB HX HY
      go_wp2
      go_ret
      exact ⟨rfl, HB4.out⟩
    · have e1 : sameLt x y = false := by unfold sameLt; simp [ht]
      rw [e1]
      clear e1
      go_wp2
      go_ret
      exact ⟨rfl, HB.out⟩
  · have e1 : sameLt x y = false := by unfold sameLt; simp [hf]
    rw [e1]
    clear e1
    go_wp2
    go_ret
    exact ⟨rfl, HB.out⟩
end Go.Proofs.Ytefghgoeppfpfaa.Net
