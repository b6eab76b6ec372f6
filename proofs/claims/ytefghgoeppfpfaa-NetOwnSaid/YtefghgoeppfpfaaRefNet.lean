/-
  The document's net: where it lies; what its New does.
-/
import Derived.Test.YtefghgoeppfpfaaNetPlain
import Derived.Test.YtefghgoeppfpfaaProg
import Derived.WalkSmall
import Derived.WalkMore
namespace Go.Proofs.Ytefghgoeppfpfaa.Net
open Go Go.RowKit Go.Proofs.Ytefghgoeppfpfaa.Aid Go.Proofs.Ytefghgoeppfpfaa.Cache

def netF (room : Nat) (Lv : Value) (j : Nat) : Value := if j = 0 then .int .i64 (room : Int) else Lv
/-- Letters in a slice, three cells each, their bytes in blocks of F. -/
def LettersAt (W : World) (F : Nat → Prop) (v : Value) (l : List Lt) : Prop :=
  ∃ A c, v = .slice A l.length c ∧ l.length ≤ c ∧ (0 < l.length → ∃ g o, A = some ⟨g, o, none⟩ ∧ F g ∧ ∀ i x, l[i]? = some x →
    W.cell? ⟨g, o + i * 3, none⟩ = some (.string x.f) ∧ W.cell? ⟨g, o + i * 3 + 1, none⟩ = some (.string x.t) ∧ ∃ bv, W.cell? ⟨g, o + i * 3 + 2, none⟩ = some bv ∧ SliceOf W W.heap.size x.n x.e bv ∧ (∀ b, bv.ownBlock = some b → F b ∧ b < W.heap.size) ∧ x.n ≤ 2000)
structure RefNetIn (W : World) (F : Nat → Prop) (g : Nat) (Lv : Value) (room : Nat) (l : List Lt) : Prop where
  row : W.rowIs g 49 2 (netF room Lv)
  fg : F g
  lt : ∀ b, F b → b < W.heap.size
  letters : LettersAt W (fun b => F b ∧ b ≠ g) Lv l
  len : l.length ≤ room
  most : 1 ≤ room ∧ room ≤ 1000
def RefNet (W : World) (F : Nat → Prop) (v : Value) (room : Nat) (l : List Lt) : Prop := ∃ g Lv, v = .pointer (some ⟨g, 0, none⟩) ∧ RefNetIn W F g Lv room l
theorem LettersAt.kept {W W' : World} {F : Nat → Prop} {v : Value} {l : List Lt} (h : LettersAt W F v l) (hk : ∀ b, F b → W'.heap[b]? = W.heap[b]?) : LettersAt W' F v l := by
  obtain ⟨A, c, rfl, hc, hr⟩ := h
  refine ⟨A, c, rfl, hc, fun h0 => ?_⟩
  obtain ⟨g, o, rfl, hg, hi⟩ := hr h0
  have hlt : ∀ b, F b → b < W.heap.size → b < W'.heap.size := fun b hb hl => by
    have h1 := hk b hb
    rw [Array.getElem?_eq_getElem hl] at h1
    exact (Array.getElem?_eq_some_iff.1 h1).1
  have hcell : ∀ {j : Nat} {u : Value}, W.cell? ⟨g, j, none⟩ = some u → W'.cell? ⟨g, j, none⟩ = some u := fun {j u} h => by
    rw [← h]
    unfold World.cell?
    rw [hk g hg]
  refine ⟨g, o, rfl, hg, fun i x hx => ?_⟩
  obtain ⟨h1, h2, bv, h3, ⟨A', c', hbv, hc', hr'⟩, h5, h6⟩ := hi i x hx
  subst hbv
  refine ⟨hcell h1, hcell h2, _, hcell h3, ⟨A', c', rfl, hc', fun hn => ?_⟩, fun b hb => ⟨(h5 b hb).1, hlt b (h5 b hb).1 (h5 b hb).2⟩, h6⟩
  obtain ⟨sb, so, rfl, hne, hj⟩ := hr' hn
  have hsb := h5 sb rfl
  refine ⟨sb, so, rfl, Nat.ne_of_lt (hlt sb hsb.1 hsb.2), fun j hjn => ?_⟩
  rw [← hj j hjn]
  unfold World.cell?
  rw [hk sb hsb.1]
theorem LettersAt.keep {W W' : World} {F : Nat → Prop} {v : Value} {l : List Lt} (h : LettersAt W F v l) (hk : ∀ b, F b → W'.heap[b]? = W.heap[b]?) (_ : W.heap.size ≤ W'.heap.size) : LettersAt W' F v l := h.kept hk
theorem RefNetIn.kept {W W' : World} {F : Nat → Prop} {g : Nat} {Lv : Value} {room : Nat} {l : List Lt} (h : RefNetIn W F g Lv room l) (hk : ∀ b, F b → W'.heap[b]? = W.heap[b]?) : RefNetIn W' F g Lv room l :=
  ⟨h.row.of_block (hk g h.fg), h.fg, fun b hb => by
    have h1 := hk b hb
    rw [Array.getElem?_eq_getElem (h.lt b hb)] at h1
    exact (Array.getElem?_eq_some_iff.1 h1).1, h.letters.kept (fun b hb => hk b hb.1), h.len, h.most⟩
theorem RefNetIn.keep {W W' : World} {F : Nat → Prop} {g : Nat} {Lv : Value} {room : Nat} {l : List Lt} (h : RefNetIn W F g Lv room l) (hk : ∀ b, F b → W'.heap[b]? = W.heap[b]?) (_ : W.heap.size ≤ W'.heap.size) : RefNetIn W' F g Lv room l := h.kept hk
theorem netNew_at (room : Nat) (Lv : Value) (i : Nat) (hi : i < 2) : (#[Value.int .i64 (room : Int), Lv] : Array Value)[i]? = some (netF room Lv i) := by
  match i, hi with
  | 0, _ => rfl
  | 1, _ => rfl
theorem refNew12_no (room : Int) (w : World) (h : ¬ (1 ≤ room ∧ room ≤ 1000)) : Calls Try.prog 9 #[.int .i64 room] w fun x w' => x = .returned (.tuple #[.pointer none, .int .i64 1]) ∧ Below w.heap.size w w' := by
  by_cases h1 : room < 1
  · clear h
    go_enter Try.func9, Try.ntmps9
    go_wp2
    go_ret2
    exact ⟨rfl, Below.refl _ _⟩
  · have h2 : (1000 : Int) < room := by omega
    clear h
    go_enter Try.func9, Try.ntmps9
    go_wp2
    go_ret2
    exact ⟨rfl, Below.refl _ _⟩
theorem refNew12_ok (room : Nat) (w : World) (h : 1 ≤ room ∧ room ≤ 1000) : Calls Try.prog 9 #[.int .i64 (room : Int)] w fun x w' =>
    ∃ v F, x = .returned (.tuple #[v, .int .i64 0]) ∧ RefNet w' F v room [] ∧ (∀ b, F b → w.heap.size ≤ b) ∧ Below w.heap.size w w' := by
  have h1 : ¬ (room : Int) < 1 := by omega
  have h2 : ¬ (1000 : Int) < (room : Int) := by omega
  have hr : RefNet (w.alloc (.cells #[.int .i64 (room : Int), .slice none 0 0] 49)) (fun b => b = w.heap.size) (.pointer (some ⟨w.heap.size, 0, none⟩)) room [] :=
    ⟨w.heap.size, .slice none 0 0, rfl, row_new w _ _ 2 _ rfl (fun i hi => netNew_at room _ i hi), rfl, fun b hb => by rw [hb]; simp, ⟨none, 0, rfl, Nat.le_refl _, fun h => absurd h (Nat.lt_irrefl _)⟩, Nat.zero_le _, h⟩
  have HR := Lib.hid hr
  have HB := Lib.hid ((Below.refl w.heap.size w).alloc (Nat.le_refl _) (.cells #[.int .i64 (room : Int), .slice none 0 0] 49))
  clear h hr
  go_enter Try.func9, Try.ntmps9
  go_wp2
  go_ret2
  exact ⟨_, rfl, _, HR.out, fun b hb => Nat.le_of_eq hb.symm, HB.out⟩
end Go.Proofs.Ytefghgoeppfpfaa.Net
