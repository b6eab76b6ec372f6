/-
  The program's own journal: where it lies; broken, heed, Records.
-/
import Derived.Test.YtpnkcacmmjmehaaDoorJrCopy
namespace Go.Proofs.YtpnkcacmmjmehaaDoor.Jour
open Go Go.RowKit Go.Proofs.YtpnkcacmmjmehaaDoor.Aid Go.Proofs.YtpnkcacmmjmehaaDoor.Sha Go.Proofs.YtpnkcacmmjmehaaDoor.Cache Go.Proofs.YtpnkcacmmjmehaaDoor.Store

def jrP (s V : Value) (i : Nat) : Value := if i = 0 then s else V
theorem jrP0 (s V : Value) : jrP s V 0 = s := rfl
theorem jrP1 (s V : Value) : jrP s V 1 = V := rfl
structure OwnJ (W : World) (F : Nat → Prop) (g : Nat) (s V : Value) (L : List By) : Prop where
  row : W.rowIs g 49 2 (jrP s V)
  fg : F g
  lt : ∀ b, F b → b < W.heap.size
  recs : RecsOwn W (fun b => F b ∧ b ≠ g) L V
/-- A journal on a store s; a broken one has none. -/
def RepJO (W : World) (F : Nat → Prop) (j s : Value) (L : List By) : Prop := ∃ g V, j = .pointer (some ⟨g, 0, none⟩) ∧ OwnJ W F g s V L
section
variable {W W' : World} {F F' : Nat → Prop} {g : Nat} {s V : Value} {L : List By}
theorem OwnJ.kept (h : OwnJ W F g s V L) (hk : ∀ b, F b → W'.heap[b]? = W.heap[b]?) : OwnJ W' F g s V L :=
  ⟨h.row.of_block (hk g h.fg), h.fg, fun b hb => by
    have h1 := hk b hb
    rw [Array.getElem?_eq_getElem (h.lt b hb)] at h1
    exact (Array.getElem?_eq_some_iff.1 h1).1, h.recs.keep (fun b _ hb => hk b hb.1)⟩
theorem OwnJ.below (h : OwnJ W F g s V L) (hb : Below W.heap.size W W') : OwnJ W' F g s V L := h.kept (fun b hf => hb.block b (h.lt b hf))
/-- The store is let go of. -/
theorem OwnJ.brk (h : OwnJ W F g s V L) : OwnJ (W.setCell ⟨g, 0, none⟩ (.pointer none)) F g (.pointer none) V L ∧ Cache.Leaves F W (W.setCell ⟨g, 0, none⟩ (.pointer none)) := by
  have oth : ∀ b, b ≠ g → (W.setCell ⟨g, 0, none⟩ (.pointer none)).heap[b]? = W.heap[b]? := fun b hb => heap_setCell_other _ _ _ _ (by simpa using hb)
  have hsz : (W.setCell ⟨g, 0, none⟩ (.pointer none)).heap.size = W.heap.size := by simp [World.setCell]
  exact ⟨⟨(h.row.set 0 (.pointer none)).congr (fun i hi => by match i, hi with | 0, _ => rfl | 1, _ => rfl), h.fg, fun b hb => by rw [hsz]; exact h.lt b hb, h.recs.keep (fun b _ hb => oth b hb.2)⟩, ⟨rfl, rfl, rfl, by rw [hsz]; exact Nat.le_refl _, fun b _ hn => oth b (fun e => hn (e ▸ h.fg))⟩⟩
/-- Other records in the place of the old ones. -/
theorem OwnJ.fresh {W2 : World} {V' : Value} {L' : List By} {K : Nat → Prop} (h : OwnJ W F g s V L) (hb : Cache.Leaves (fun b => F b ∧ b ≠ g) W W2) (hr : RecsOwn W2 (fun b => (F b ∨ W.heap.size ≤ b) ∧ b ≠ g) L' V') (hK : ∀ b, b < W2.heap.size → F b ∨ W.heap.size ≤ b → K b) (hlt : ∀ b, K b → b < W2.heap.size) :
    OwnJ (W2.setCell ⟨g, 1, none⟩ V') K g s V' L' ∧ Cache.Leaves F W (W2.setCell ⟨g, 1, none⟩ V') := by
  have oth : ∀ b, b ≠ g → (W2.setCell ⟨g, 1, none⟩ V').heap[b]? = W2.heap[b]? := fun b hb => heap_setCell_other _ _ _ _ (by simpa using hb)
  have hsz : (W2.setCell ⟨g, 1, none⟩ V').heap.size = W2.heap.size := by simp [World.setCell]
  have hg : W2.heap[g]? = W.heap[g]? := hb.block g (h.lt g h.fg) (fun x => x.2 rfl)
  refine ⟨⟨((h.row.of_block hg).set 1 V').congr (fun i hi => by match i, hi with | 0, _ => rfl | 1, _ => rfl), hK g (Nat.lt_of_lt_of_le (h.lt g h.fg) hb.size) (.inl h.fg), fun b hb' => by rw [hsz]; exact hlt b hb', ?_⟩, ⟨hb.os, hb.tape, hb.output, by rw [hsz]; exact hb.size, fun b hlt' hn => (oth b (fun e => hn (e ▸ h.fg))).trans (hb.block b hlt' (fun x => hn x.1))⟩⟩
  exact (hr.keep (fun b _ hb' => oth b hb'.2)).less (fun b hlt' hb' => ⟨hK b (by rw [← hsz]; exact hlt') hb'.1, hb'.2⟩)
end
theorem jbroken {w : World} {F : Nat → Prop} {g : Nat} {p : Option Addr} {V : Value} {L : List By} (h : OwnJ w F g (.pointer p) V L) :
    Calls Tryd.prog 17 #[.pointer (some ⟨g, 0, none⟩)] w fun x w' => x = .returned (.bool p.isNone) ∧ w' = w := by
  have c0 := h.row.cell (i := 0) (by omega)
  rw [jrP0] at c0
  clear h
  cases p with
  | none =>
    go_enter Tryd.func17, Tryd.ntmps17
    go_wp2
    go_ret
    exact ⟨rfl, rfl⟩
  | some a =>
    go_enter Tryd.func17, Tryd.ntmps17
    go_wp2
    go_ret
    exact ⟨rfl, rfl⟩
/-- heed: a journal breaks on any error but a lack of room. -/
theorem jheed {w : World} {F : Nat → Prop} {g : Nat} {s V : Value} {L : List By} (h : OwnJ w F g s V L) (e : Int) :
    Calls Tryd.prog 20 #[.pointer (some ⟨g, 0, none⟩), .int .i64 e] w fun x w' => x = .returned (.int .i64 e) ∧ (e = 0 ∨ e = 7 → w' = w) ∧ (¬ (e = 0 ∨ e = 7) → OwnJ w' F g (.pointer none) V L) ∧ Cache.Leaves F w w' := by
  have HB := Lib.hid h.brk
  have c0 := h.row.cell (i := 0) (by omega)
  have f0 := h.row.frozen 0
  rw [jrP0] at c0
  clear h
  by_cases h0 : e = 0
  · subst h0
    go_enter Tryd.func20, Tryd.ntmps20
    go_wp2
    go_ret
    exact ⟨rfl, fun _ => rfl, fun hn => absurd (by simp) hn, Cache.Leaves.refl _ _⟩
  · by_cases h7 : e = 7
    · subst h7
      go_enter Tryd.func20, Tryd.ntmps20
      go_wp2
      go_ret
      exact ⟨rfl, fun _ => rfl, fun hn => absurd (by simp) hn, Cache.Leaves.refl _ _⟩
    · have q0 : (e != 0) = true := by simp [h0]
      have q7 : (e != 7) = true := by simp [h7]
      have HN : Hid (¬ (e = 0 ∨ e = 7)) := Lib.hid (fun h => h.elim h0 h7)
      clear h0 h7
      go_enter Tryd.func20, Tryd.ntmps20
      go_wp2
      go_ret
      exact ⟨rfl, fun hn => absurd hn HN.out, fun _ => HB.out.1, HB.out.2⟩
theorem jrecs {w : World} {F : Nat → Prop} {g : Nat} {s V : Value} {L : List By} (h : OwnJ w F g s V L) (hl : L.length ≤ 100000) (hs : ∀ x ∈ L, x.length ≤ 1000000) :
    Calls Tryd.prog 13 #[.pointer (some ⟨g, 0, none⟩)] w fun y w' => ∃ v, y = .returned v ∧ Below w.heap.size w w' ∧ PartsP w' (fun b => w.heap.size ≤ b) L v := by
  have c1 := h.row.cell (i := 1) (by omega)
  rw [jrP1] at c1
  have HC := Lib.hid (jcopyAll h.recs.parts hl hs)
  clear h hl hs
  go_enter Tryd.func13, Tryd.ntmps13
  go_wp2_with fail
  refine HC.out.mono ?_
  rintro _ w1 ⟨v, rfl, hr, hb⟩
  have HR := Lib.hid hr.parts
  have HB := Lib.hid hb
  clear hr hb HC
  go_wp2
  go_ret
  exact ⟨_, rfl, HB.out, HR.out⟩
end Go.Proofs.YtpnkcacmmjmehaaDoor.Jour
