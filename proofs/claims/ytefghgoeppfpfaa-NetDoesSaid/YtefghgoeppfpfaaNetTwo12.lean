/-
  The program's net and the document's, side by side.
-/
import Derived.Test.YtefghgoeppfpfaaNetHeld
import Derived.Test.YtefghgoeppfpfaaRefForm12
namespace Go.Proofs.Ytefghgoeppfpfaa.Net
open Go Go.RowKit Go.Proofs.Ytefghgoeppfpfaa.Aid Go.Proofs.Ytefghgoeppfpfaa.Cache

section
variable {Rep : RepN} {w0 W : World} {X : Nat → Prop} {a b : Value} {m g : Nat} {l lb : List Lt}
theorem NetHas.len2R (H : NetHas Rep) (h : Two Rep RefNet w0 W X a (.pointer (some ⟨g, 0, none⟩)) m l lb) :
    Calls Try.prog 19 #[a] W fun e W' => e = .returned (.int .i64 (l.length : Int)) ∧ Two Rep RefNet w0 W' X a (.pointer (some ⟨g, 0, none⟩)) m l lb ∧ Keep X W W' ∧ W'.heap[g]? = W.heap[g]? := by
  obtain ⟨FA, FB, h⟩ := h
  refine (H.len h.ra).mono (fun e W' ⟨h1, h2⟩ => ?_)
  obtain ⟨h3, h4⟩ := H.form.mv2 refForm.keep h h2
  refine ⟨h1, h3, h4, ?_⟩
  obtain ⟨g', Lv, hv, hi⟩ := h.rb
  simp only [Value.pointer.injEq, Option.some.injEq, Addr.mk.injEq, and_true] at hv
  subst hv
  obtain ⟨_, _, h5, _⟩ := h2
  exact h5.block g (h.ltb g hi.fg) (fun hA => h.ab g hA hi.fg)
theorem two_read (h : Two Rep RefNet w0 W X a (.pointer (some ⟨g, 0, none⟩)) m l lb) : ∃ A c, W.cell? ⟨g, 1, none⟩ = some (.slice A lb.length c) := by
  obtain ⟨FA, FB, h⟩ := h
  obtain ⟨g', A, c, hv, hc⟩ := h.rb.read
  simp only [Value.pointer.injEq, Option.some.injEq, Addr.mk.injEq, and_true] at hv
  subst hv
  exact ⟨A, c, hc⟩
theorem two_small (h : Two Rep RefNet w0 W X a b m l lb) : (lb.headD zeroL).n ≤ 2000 := by obtain ⟨FA, FB, h⟩ := h; exact h.rb.small
end
end Go.Proofs.Ytefghgoeppfpfaa.Net
