/-
  What the document's Twice does.
-/
import Derived.Test.YtefghgoeppfpfaaRefLater12
import Derived.Test.YtefghgoeppfpfaaMix
namespace Go.Proofs.Ytefghgoeppfpfaa.Net
open Go Go.RowKit Go.Proofs.Ytefghgoeppfpfaa.Aid Go.Proofs.Ytefghgoeppfpfaa.Cache

set_option maxRecDepth 100000 in
set_option maxHeartbeats 2000000 in
theorem refTwice12_any {w : World} {F : Nat → Prop} {v : Value} {room : Nat} {l : List Lt} (h : RefNet w F v room l) :
    Calls Try.prog 18 #[v] w fun e w' => e = .returned (.int .i64 (twiceC room l)) ∧ Moved RefNet F w w' v room (twiceL room l) := by
  have H0 := Lib.hid h
  obtain ⟨g, Lv, rfl, h⟩ := h
  have hgl := h.lt g h.fg
  cases l with
  | nil =>
    obtain ⟨A, c, rfl, -, -⟩ := h.letters
    have c1 := h.row.cell (i := 1) (by omega)
    rw [show netF room (.slice A ([] : List Lt).length c) 1 = .slice A 0 c from rfl] at c1
    clear h
    go_enter Try.func18, Try.ntmps18
    go_wp2
    go_ret
    exact ⟨rfl, F, H0.out, Cache.Leaves.refl _ _, fun _ h => .inl h⟩
  | cons x t =>
    obtain ⟨A, c, rfl, hc, hr⟩ := h.letters
    obtain ⟨gl, o, rfl, hgF, hi⟩ := hr (by simp)
    obtain ⟨d0, d1, bv, d2, hs, hbF, hxn⟩ := hi 0 x rfl
    have hglt := h.lt gl hgF.1
    have c1 := h.row.cell (i := 1) (by omega)
    rw [show netF room (.slice (some ⟨gl, o, none⟩) (x :: t).length c) 1 = .slice (some ⟨gl, o, none⟩) (x :: t).length c from rfl] at c1
    rw [Nat.zero_mul, Nat.add_zero] at d0 d1 d2
    obtain ⟨bA, bc, hbv, hbc, hbr⟩ := hs
    subst hbv
    obtain ⟨n, hn⟩ : ∃ n, n = (x :: t).length := ⟨_, rfl⟩
    have e1 : twiceC room (x :: t) = sendC room (x :: t) := by unfold twiceC; rw [if_neg (by simp)]
    have e2 : twiceL room (x :: t) = sendL room (x :: t) x := by unfold twiceL; rw [if_neg (by simp)]; rfl
    rw [e1, e2]
    have HS := Lib.hid (refSend12_any x (.slice bA x.n bc) H0.out (slice_here ⟨bA, bc, rfl, hbc, hbr⟩) hxn)
    rw [← hn] at c1 hc
    have hn1 : 1 ≤ n := by rw [hn]; simp
    have q0 : ((n : Int) == 0) = false := by simp; omega
    have q1 : (0 : Int) < (n : Int) := by omega
    clear h hi hr hbF hbr hn e1 e2
    go_enter Try.func18, Try.ntmps18
    go_wp2_with fail
    refine HS.out.mono ?_
    rintro _ w4 ⟨rfl, h4⟩
    have H4 := Lib.hid h4
    clear h4 HS H0
    go_wp2
    go_ret
    exact ⟨rfl, H4.out⟩
end Go.Proofs.Ytefghgoeppfpfaa.Net
