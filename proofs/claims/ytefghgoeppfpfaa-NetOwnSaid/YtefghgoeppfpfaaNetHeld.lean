/-
  A net while a law goes on: alone, or beside another; blocks that no call on it touches.
-/
import Derived.Test.YtefghgoeppfpfaaNetHas
namespace Go.Proofs.Ytefghgoeppfpfaa.Net
open Go Go.RowKit Go.Proofs.Ytefghgoeppfpfaa.Aid Go.Proofs.Ytefghgoeppfpfaa.Cache

theorem Held.write {γ : Type} {Rep : World → (Nat → Prop) → Value → Nat → γ → Prop} {w0 W : World} {K : Nat → Prop} {v : Value} {m : Nat} {l : γ} (h : Held Rep w0 W K v m l) (hk : KeepR Rep) {g j : Nat} {u : Value} (hg : K g) (hge : w0.heap.size ≤ g) : Held Rep w0 (W.setCell ⟨g, j, none⟩ u) K v m l := by
  obtain ⟨F, h⟩ := h
  have oth : ∀ b, b ≠ g → (W.setCell ⟨g, j, none⟩ u).heap[b]? = W.heap[b]? := fun b hb => heap_setCell_other _ _ _ _ (by simpa using hb)
  have hsz : (W.setCell ⟨g, j, none⟩ u).heap.size = W.heap.size := by simp [World.setCell]
  refine ⟨F, hk _ _ _ _ _ _ h.rep (fun b hb => oth b (fun e => h.apart b hb (e ▸ hg))), fun b hb => by rw [hsz]; exact h.lt b hb, h.ge, h.apart, ?_, fun b hb => by rw [hsz]; exact h.old b hb⟩
  have hb := h.bel
  exact ⟨by simpa [World.setCell] using hb.os, by simpa [World.setCell] using hb.tape, by simpa [World.setCell] using hb.output, by rw [hsz]; exact hb.size, fun b hlt => (oth b (by omega)).trans (hb.block b hlt)⟩
section
variable {Rep : RepN} {fNew fSend fTake fLater fTwice : FuncId} {w0 W : World} {K : Nat → Prop} {v : Value} {m : Nat} {l : List Lt}
theorem NetForm.mv (H : NetForm fNew fSend fTake fLater fTwice Rep) {W W' : World} {F : Nat → Prop} {l' : List Lt} (h : HeldIn Rep w0 W K F v m l) (hm : Moved Rep F W W' v m l') : Held Rep w0 W' K v m l' ∧ Keep K W W' := h.move H.lt hm
theorem NetForm.more (H : NetForm fNew fSend fTake fLater fTwice Rep) {W W' : World} {K' : Nat → Prop} (h : Held Rep w0 W K v m l) (hb : Below W.heap.size W W') (hK : ∀ b, K' b → K b ∨ (W.heap.size ≤ b ∧ b < W'.heap.size)) : Held Rep w0 W' K' v m l := h.more (fun hr hk => H.keep _ _ _ _ _ _ hr hk) hb hK
theorem NetForm.fitsH (H : NetForm fNew fSend fTake fLater fTwice Rep) (h : Held Rep w0 W K v m l) : l.length ≤ m ∧ 1 ≤ m ∧ m ≤ 1000 := by obtain ⟨F, h⟩ := h; exact H.fits h.rep
theorem NetForm.newH (H : NetForm fNew fSend fTake fLater fTwice Rep) (m : Nat) (hm : 1 ≤ m ∧ m ≤ 1000) (w0 W : World) (hb : Below w0.heap.size w0 W) : Calls Try.prog fNew #[.int .i64 (m : Int)] W fun x W' => ∃ p, x = .returned (.tuple #[.pointer (some p), .int .i64 0]) ∧ Held Rep w0 W' (fun _ => False) (.pointer (some p)) m [] ∧ Below W.heap.size W W' :=
  (H.new_ok m W hm).mono (fun x W' ⟨v, F, h1, h2, h3, h4⟩ => by
    obtain ⟨p, rfl⟩ := H.ptr h2
    exact ⟨p, h1, ⟨F, h2, H.lt h2, fun b hf => Nat.le_trans hb.size (h3 b hf), fun _ _ h => h, hb.trans (h4.mono hb.size), fun _ h => h.elim⟩, h4⟩)
theorem NetForm.sendH (H : NetForm fNew fSend fTake fLater fTwice Rep) (h : Held Rep w0 W K v m l) (x : Lt) (bv : Value) (hs : SliceOf W W.heap.size x.n x.e bv) (hn : x.n ≤ 2000) : Calls Try.prog fSend #[v, ltV x bv] W fun e W' => e = .returned (.int .i64 (sendC m l)) ∧ Held Rep w0 W' K v m (sendL m l x) ∧ Keep K W W' := by
  obtain ⟨F, h⟩ := h
  exact (H.send x bv h.rep hs hn).mono (fun e W' ⟨h1, h2⟩ => ⟨h1, H.mv h h2⟩)
theorem NetForm.laterH (H : NetForm fNew fSend fTake fLater fTwice Rep) (h : Held Rep w0 W K v m l) : Calls Try.prog fLater #[v] W fun e W' => e = .returned (.bool (decide (0 < l.length))) ∧ Held Rep w0 W' K v m (laterL l) ∧ Keep K W W' := by
  obtain ⟨F, h⟩ := h
  exact (H.later h.rep).mono (fun e W' ⟨h1, h2⟩ => ⟨h1, H.mv h h2⟩)
theorem NetForm.twiceH (H : NetForm fNew fSend fTake fLater fTwice Rep) (h : Held Rep w0 W K v m l) : Calls Try.prog fTwice #[v] W fun e W' => e = .returned (.int .i64 (twiceC m l)) ∧ Held Rep w0 W' K v m (twiceL m l) ∧ Keep K W W' := by
  obtain ⟨F, h⟩ := h
  exact (H.twice h.rep).mono (fun e W' ⟨h1, h2⟩ => ⟨h1, H.mv h h2⟩)
theorem NetHas.lenH (H : NetHas Rep) (h : Held Rep w0 W K v m l) : Calls Try.prog 19 #[v] W fun e W' => e = .returned (.int .i64 (l.length : Int)) ∧ Held Rep w0 W' K v m l ∧ Keep K W W' := by
  obtain ⟨F, h⟩ := h
  exact (H.len h.rep).mono (fun e W' ⟨h1, h2⟩ => ⟨h1, H.form.mv h h2⟩)
/-- What Take hands back is the caller's: bytes in a block that no later call touches. -/
structure Got (w0 W : World) (r : Nat → Prop) (x : Lt) (A : Option Addr) (c : Nat) : Prop where
  read : ∀ W2 : World, (∀ b, r b → W2.heap[b]? = W.heap[b]?) → SliceOf W2 W2.heap.size x.n x.e (.slice A x.n c)
  new : ∀ b, r b → w0.heap.size ≤ b
  at_ : 0 < x.n → ∃ g o, A = some ⟨g, o, none⟩ ∧ r g ∧ ∀ j, W.frozen? ⟨g, j, none⟩ = false
theorem TakenOwn.got {W W' : World} {F F' : Nat → Prop} {x : Lt} {bv : Value} (h : TakenOwn W W' F F' x.n x.e bv) (hge : ∀ b, F b → w0.heap.size ≤ b) (hw : w0.heap.size ≤ W.heap.size) : ∃ A c r, bv = .slice A x.n c ∧ Got w0 W' r x A c ∧ (∀ b, r b → ¬ F' b) ∧ (∀ b, r b → F b ∨ W.heap.size ≤ b) ∧ ∀ b, r b → b < W'.heap.size := by
  obtain ⟨A, c, rfl, hc, hr⟩ := h
  by_cases h0 : 0 < x.n
  · obtain ⟨g, o, rfl, hg, hn, hj, hf⟩ := hr h0
    have hlt := block_lt_of_cell (hj 0 h0)
    refine ⟨_, c, fun b => b = g, rfl, ⟨fun W2 h2 => ⟨_, c, rfl, hc, fun _ => ⟨g, o, rfl, ?_, fun j hjn => ?_⟩⟩, fun b hb => ?_, fun _ => ⟨g, o, rfl, rfl, hf⟩⟩, fun b hb => by rw [hb]; exact hn, fun b hb => by rw [hb]; exact hg, fun b hb => by rw [hb]; exact hlt⟩
    · have h1 := h2 g rfl
      rw [Array.getElem?_eq_getElem hlt] at h1
      exact Nat.ne_of_lt (Array.getElem?_eq_some_iff.1 h1).1
    · rw [← hj j hjn]
      unfold World.cell?
      rw [h2 g rfl]
    · rw [hb]
      rcases hg with h3 | h3
      · exact hge g h3
      · omega
  · exact ⟨A, c, fun _ => False, rfl, ⟨fun W2 _ => ⟨A, c, rfl, hc, fun h => absurd h h0⟩, fun _ h => h.elim, fun h => absurd h h0⟩, fun _ h => h.elim, fun _ h => h.elim, fun _ h => h.elim⟩
theorem NetHas.takeH (H : NetHas Rep) (h : Held Rep w0 W K v m l) : Calls Try.prog 12 #[v] W fun e W' => ∃ A c r, e = .returned (.tuple #[ltV (l.headD zeroL) (.slice A (l.headD zeroL).n c), .bool (decide (0 < l.length))]) ∧ Keep K W W' ∧ Held Rep w0 W' (fun b => r b ∨ K b) v m l.tail ∧ Got w0 W' r (l.headD zeroL) A c := by
  obtain ⟨F, h⟩ := h
  refine (H.own h.rep).mono ?_
  rintro e W' ⟨bv, F', rfl, h2, h3, h4, h5⟩
  obtain ⟨A, c, r, rfl, hg, hr1, hr2, hr3⟩ := h5.got h.ge h.bel.size
  obtain ⟨⟨F2, hh⟩, hK⟩ := H.form.mv h ⟨F', h2, h3, h4⟩
  refine ⟨A, c, r, rfl, hK, ⟨F', h2, H.form.lt h2, fun b hb => ?_, fun b hb hrk => ?_, hh.bel, fun b hb => ?_⟩, hg⟩
  · rcases h4 b hb with h6 | h6
    · exact h.ge b h6
    · exact Nat.le_trans h.bel.size h6
  · rcases hrk with h6 | h6
    · exact hr1 b h6 hb
    · rcases h4 b hb with h7 | h7
      · exact h.apart b h7 h6
      · have := h.old b h6; omega
  · rcases hb with hb | hb
    · exact hr3 b hb
    · exact Nat.lt_of_lt_of_le (h.old b hb) h3.size
end
section
variable {δ : Type} {Rep : RepN} {RB : World → (Nat → Prop) → Value → Nat → δ → Prop} {fNew fSend fTake fLater fTwice : FuncId} {w0 W : World} {X : Nat → Prop} {a b : Value} {m : Nat} {l : List Lt} {lb : δ}
theorem NetForm.mv2 (H : NetForm fNew fSend fTake fLater fTwice Rep) (hkb : KeepR RB) {W' : World} {FA FB : Nat → Prop} {l' : List Lt}
    (h : TwoIn Rep RB w0 W X FA FB a b m l lb) (hm : Moved Rep FA W W' a m l') : Two Rep RB w0 W' X a b m l' lb ∧ Keep X W W' := h.move H.lt (fun hx => hkb _ _ _ _ _ _ h.rb hx) hm
theorem NetForm.send2 (H : NetForm fNew fSend fTake fLater fTwice Rep) (hkb : KeepR RB) (h : Two Rep RB w0 W X a b m l lb) (x : Lt) (bv : Value) (hs : SliceOf W W.heap.size x.n x.e bv) (hn : x.n ≤ 2000) :
    Calls Try.prog fSend #[a, ltV x bv] W fun e W' => e = .returned (.int .i64 (sendC m l)) ∧ Two Rep RB w0 W' X a b m (sendL m l x) lb ∧ Keep X W W' := by
  obtain ⟨FA, FB, h⟩ := h
  exact (H.send x bv h.ra hs hn).mono (fun e W' ⟨h1, h2⟩ => ⟨h1, H.mv2 hkb h h2⟩)
theorem NetForm.later2 (H : NetForm fNew fSend fTake fLater fTwice Rep) (hkb : KeepR RB) (h : Two Rep RB w0 W X a b m l lb) :
    Calls Try.prog fLater #[a] W fun e W' => e = .returned (.bool (decide (0 < l.length))) ∧ Two Rep RB w0 W' X a b m (laterL l) lb ∧ Keep X W W' := by
  obtain ⟨FA, FB, h⟩ := h
  exact (H.later h.ra).mono (fun e W' ⟨h1, h2⟩ => ⟨h1, H.mv2 hkb h h2⟩)
theorem NetForm.twice2 (H : NetForm fNew fSend fTake fLater fTwice Rep) (hkb : KeepR RB) (h : Two Rep RB w0 W X a b m l lb) :
    Calls Try.prog fTwice #[a] W fun e W' => e = .returned (.int .i64 (twiceC m l)) ∧ Two Rep RB w0 W' X a b m (twiceL m l) lb ∧ Keep X W W' := by
  obtain ⟨FA, FB, h⟩ := h
  exact (H.twice h.ra).mono (fun e W' ⟨h1, h2⟩ => ⟨h1, H.mv2 hkb h h2⟩)
theorem NetForm.take2 (H : NetForm fNew fSend fTake fLater fTwice Rep) (hkb : KeepR RB) (h : Two Rep RB w0 W X a b m l lb) :
    Calls Try.prog fTake #[a] W fun e W' => ∃ A c, e = .returned (.tuple #[ltV (l.headD zeroL) (.slice A (l.headD zeroL).n c), .bool (decide (0 < l.length))]) ∧ SliceOf W' W'.heap.size (l.headD zeroL).n (l.headD zeroL).e (.slice A (l.headD zeroL).n c) ∧ Two Rep RB w0 W' X a b m l.tail lb ∧ Keep X W W' := by
  obtain ⟨FA, FB, h⟩ := h
  refine (H.take h.ra).mono (fun e W' ⟨bv, h1, h2, h3⟩ => ?_)
  have h4 := h3
  obtain ⟨A, c, rfl, -, -⟩ := h4
  exact ⟨A, c, h1, h3, H.mv2 hkb h h2⟩
theorem NetHas.len2 (H : NetHas Rep) (hkb : KeepR RB) (h : Two Rep RB w0 W X a b m l lb) :
    Calls Try.prog 19 #[a] W fun e W' => e = .returned (.int .i64 (l.length : Int)) ∧ Two Rep RB w0 W' X a b m l lb ∧ Keep X W W' := by
  obtain ⟨FA, FB, h⟩ := h
  exact (H.len h.ra).mono (fun e W' ⟨h1, h2⟩ => ⟨h1, H.form.mv2 hkb h h2⟩)
/-- The program's Take: the bytes lie apart from both nets. -/
theorem NetHas.own2 (H : NetHas Rep) (hkb : KeepR RB) (h : Two Rep RB w0 W X a b m l lb) :
    Calls Try.prog 12 #[a] W fun e W' => ∃ A c r, e = .returned (.tuple #[ltV (l.headD zeroL) (.slice A (l.headD zeroL).n c), .bool (decide (0 < l.length))]) ∧ Got w0 W' r (l.headD zeroL) A c ∧ Two Rep RB w0 W' (fun x => r x ∨ X x) a b m l.tail lb ∧ Keep X W W' := by
  obtain ⟨FA, FB, h⟩ := h
  refine (H.own h.ra).mono ?_
  rintro e W' ⟨bv, F', rfl, h2, h3, h4, h5⟩
  obtain ⟨A, c, r, rfl, hg, hr1, hr2, hr3⟩ := h5.got h.gea h.bel.size
  have hbel : Below w0.heap.size w0 W' := h.bel.trans (h3.below h.bel.size h.gea)
  have hsz := h3.size
  refine ⟨A, c, r, rfl, hg, ⟨F', FB, h2, hkb _ _ _ _ _ _ h.rb (fun x hx => h3.block x (h.ltb x hx) (fun hA => h.ab x hA hx)), H.form.lt h2, fun x hx => Nat.lt_of_lt_of_le (h.ltb x hx) hsz, fun x hx => ?_, h.geb, fun x hx hy => ?_, fun x hx hy => ?_, fun x hx hy => ?_, hbel, fun x hx => ?_⟩, fun x hx => h3.block x (h.old x hx) (fun hA => h.ax x hA hx)⟩
  · rcases h4 x hx with h6 | h6
    · exact h.gea x h6
    · exact Nat.le_trans h.bel.size h6
  · rcases h4 x hx with h6 | h6
    · exact h.ab x h6 hy
    · have := h.ltb x hy; omega
  · rcases hy with hy | hy
    · exact hr1 x hy hx
    · rcases h4 x hx with h6 | h6
      · exact h.ax x h6 hy
      · have := h.old x hy; omega
  · rcases hy with hy | hy
    · rcases hr2 x hy with h6 | h6
      · exact h.ab x h6 hx
      · have := h.ltb x hx; omega
    · exact h.bx x hx hy
  · rcases hx with hx | hx
    · exact hr3 x hx
    · exact Nat.lt_of_lt_of_le (h.old x hx) hsz
end
end Go.Proofs.Ytefghgoeppfpfaa.Net
