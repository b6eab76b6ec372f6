/-
  What the document's Later and Twice do.
-/
import Derived.Test.YtefghgoeppfpfaaRefSend12
import Derived.Test.YtefghgoeppfpfaaKept
namespace Go.Proofs.Ytefghgoeppfpfaa.Net
open Go Go.RowKit Go.Proofs.Ytefghgoeppfpfaa.Aid Go.Proofs.Ytefghgoeppfpfaa.Cache

theorem RefNet.lt {W : World} {F : Nat → Prop} {v : Value} {room : Nat} {l : List Lt} (h : RefNet W F v room l) : ∀ b, F b → b < W.heap.size := by obtain ⟨g, Lv, _, h⟩ := h; exact h.lt
theorem RefNet.keep {W W' : World} {F : Nat → Prop} {v : Value} {room : Nat} {l : List Lt} (h : RefNet W F v room l) (hk : ∀ b, F b → W'.heap[b]? = W.heap[b]?) (hs : W.heap.size ≤ W'.heap.size) : RefNet W' F v room l := by obtain ⟨g, Lv, hv, h⟩ := h; exact ⟨g, Lv, hv, h.keep hk hs⟩
theorem RefNet.small {W : World} {F : Nat → Prop} {v : Value} {room : Nat} {l : List Lt} (h : RefNet W F v room l) : (l.headD zeroL).n ≤ 2000 := by
  obtain ⟨g, Lv, _, h⟩ := h
  obtain ⟨A, c, _, _, hr⟩ := h.letters
  cases l with
  | nil => exact Nat.zero_le _
  | cons x t =>
    obtain ⟨g, o, _, _, hi⟩ := hr (by simp)
    obtain ⟨_, _, bv, _, _, _, h6⟩ := hi 0 x rfl
    exact h6
set_option maxRecDepth 100000 in
set_option maxHeartbeats 2000000 in
theorem refLater12_any {w : World} {F : Nat → Prop} {v : Value} {room : Nat} {l : List Lt} (h : RefNet w F v room l) :
    Calls Try.prog 16 #[v] w fun e w' => e = .returned (.bool (decide (0 < l.length))) ∧ Moved RefNet F w w' v room (laterL l) := by
  have hsm := h.small
  have HT := refTake12_any h
  obtain ⟨g, Lv, rfl, hin⟩ := h
  have HL := Lib.hid hin.len
  have HF := Lib.hid hin.lt
  clear hin
  go_enter Try.func16, Try.ntmps16
  go_wp2_with fail
  refine HT.mono ?_
  rintro _ w2 ⟨bv, rfl, h2, hl2, hs2, hb2⟩
  clear HT
  cases l with
  | nil =>
    obtain ⟨bA, bc, rfl, -, -⟩ := hs2
    have hbl : Below w2.heap.size w2 (w2.alloc (.cells #[.string ByteArray.empty, .string ByteArray.empty, .slice bA zeroL.n bc] 39)) := (Below.refl _ _).alloc (Nat.le_refl _) _
    have H3 := Lib.hid (h2.keep (W' := w2.alloc (.cells #[.string ByteArray.empty, .string ByteArray.empty, .slice bA zeroL.n bc] 39)) (fun b hb => hbl.block b (h2.lt b hb)) hbl.size)
    have HL3 := Lib.hid (hl2.trans (Cache.Leaves.of_below (F := F) hbl) (fun _ h _ => h))
    clear h2 hl2 hb2 hbl
    unfold ltV
    simp only [List.headD_nil] at *
    rw [show zeroL.f = ByteArray.empty from rfl, show zeroL.t = ByteArray.empty from rfl]
    go_wp2
    go_ret
    exact ⟨rfl, F, H3.out, HL3.out, fun _ h => .inl h⟩
  | cons x t =>
    obtain ⟨bA, bc, rfl, hbc, hbr⟩ := hs2
    have H2 := Lib.hid h2
    have HL2 := Lib.hid hl2
    have HB2 := Lib.hid hb2
    have HS2 : Hid (SliceOf w2 w2.heap.size x.n x.e (.slice bA x.n bc)) := ⟨bA, bc, rfl, hbc, hbr⟩
    clear h2 hl2 hb2 hbr
    unfold ltV
    simp only [List.headD_cons] at *
    go_wp2_with fail
    have hbl : Below w2.heap.size w2 (w2.alloc (.cells #[.string x.f, .string x.t, .slice bA x.n bc] 39)) := (Below.refl _ _).alloc (Nat.le_refl _) _
    have h3 := H2.out.keep (W' := w2.alloc (.cells #[.string x.f, .string x.t, .slice bA x.n bc] 39)) (fun b hb => hbl.block b (H2.out.lt b hb)) hbl.size
    refine (refSend12_any x (.slice bA x.n bc) h3 (slice_here (slice_below HS2.out hbl)) hsm).mono ?_
    rintro _ w4 ⟨rfl, F4, h4, hl4, hf4⟩
    have hq : (x :: t).tail.length < room := by have := HL.out; simp at this ⊢; omega
    have e2 : sendL room (x :: t).tail x = laterL (x :: t) := by unfold sendL; rw [if_pos hq]; rfl
    rw [e2] at h4
    have H4 := Lib.hid h4
    have HL4 := Lib.hid ((HL2.out.trans (Cache.Leaves.of_below (F := F) hbl) (fun _ h _ => h)).trans hl4 (fun _ h _ => h))
    have HF4 : Hid (∀ b, F4 b → F b ∨ w.heap.size ≤ b) := Lib.hid (fun b hb => (hf4 b hb).imp id (fun h => by have := HL2.out.size; have := hbl.size; omega))
    clear h4 hl4 hf4 hbl h3 e2 H2 HL2 HB2 HS2
    go_wp2
    go_ret
    exact ⟨rfl, F4, H4.out, HL4.out, HF4.out⟩
end Go.Proofs.Ytefghgoeppfpfaa.Net
