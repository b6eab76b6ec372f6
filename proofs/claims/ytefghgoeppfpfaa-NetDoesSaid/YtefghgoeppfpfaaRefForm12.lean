/-
  The document's net has the program's form.
-/
import Derived.Test.YtefghgoeppfpfaaRefTwice12
import Derived.Test.YtefghgoeppfpfaaNetHas
namespace Go.Proofs.Ytefghgoeppfpfaa.Net
open Go Go.RowKit Go.Proofs.Ytefghgoeppfpfaa.Aid Go.Proofs.Ytefghgoeppfpfaa.Cache

theorem refForm : NetForm 9 11 13 16 18 RefNet where
  keep := fun W W' F v m l h hk => by obtain ⟨g, Lv, hv, h⟩ := h; exact ⟨g, Lv, hv, h.kept hk⟩
  lt := fun h => h.lt
  ptr := fun h => by obtain ⟨g, Lv, hv, h⟩ := h; exact ⟨_, hv⟩
  fits := fun h => by obtain ⟨g, Lv, hv, h⟩ := h; exact ⟨h.len, h.most⟩
  small := fun h => h.small
  new_no := refNew12_no
  new_ok := refNew12_ok
  send := fun x bv h hs hn => refSend12_any x bv h hs hn
  take := fun h => (refTake12_any h).mono (fun e w' ⟨bv, h1, h2, h3, h4, _⟩ => ⟨bv, h1, ⟨_, h2, h3, fun b hb => .inl hb⟩, h4⟩)
  later := refLater12_any
  twice := refTwice12_any
/-- How many letters it has: what a law reads. -/
theorem RefNet.read {W : World} {F : Nat → Prop} {v : Value} {m : Nat} {l : List Lt} (h : RefNet W F v m l) : ∃ g A c, v = .pointer (some ⟨g, 0, none⟩) ∧ W.cell? ⟨g, 1, none⟩ = some (.slice A l.length c) := by
  obtain ⟨g, Lv, hv, h⟩ := h
  obtain ⟨A, c, rfl, _⟩ := h.letters
  exact ⟨g, A, c, hv, h.row.cell (i := 1) (by omega)⟩
end Go.Proofs.Ytefghgoeppfpfaa.Net
