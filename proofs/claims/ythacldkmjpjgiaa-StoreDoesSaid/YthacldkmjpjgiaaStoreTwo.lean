/-
  The program's store and the document's, side by side; one alone; an operation on either.
-/
import Derived.Test.YthacldkmjpjgiaaStoreHeld
import Derived.Test.YthacldkmjpjgiaaRefForm13
import Derived.Test.YthacldkmjpjgiaaLaw13Do
namespace Go.Proofs.Ythacldkmjpjgiaa.Law13
open Go Go.RowKit Go.Proofs.Ythacldkmjpjgiaa.Aid Go.Proofs.Ythacldkmjpjgiaa.Cache Go.Proofs.Ythacldkmjpjgiaa.Store

section
variable {Rep : RepSt} {w0 W : World} {X : Nat → Prop} {a b : Value} {m : Nat} {s sb : St}
theorem two_ok (H : StoreHas Rep) (h : Two Rep RefSt w0 W X a b m s sb) : s.ok m := by obtain ⟨FA, FB, h⟩ := h; exact H.form.ok h.ra
theorem two_do (H : StoreHas Rep) (h : Two Rep RefSt w0 W X a b m s sb) (d k : Int) (n : Nat) (e : Nat → BitVec 8) (A : Option Addr) (c : Nat) (hb : BytesIn W (okB w0 X) n e (.slice A n c)) (hn : n ≤ 2000) (hk : -9223372036854775808 ≤ k ∧ k ≤ 9223372036854775807) :
    Calls Try.prog 10 #[a, .agg #[.int .i64 d, .int .i64 k, .slice A n c]] W fun x W' => x = .returned (.int .i64 (doC m s d k n)) ∧ Two Rep RefSt w0 W' X a b m (doS m s d k n e) sb ∧ Keep X W W' := by
  obtain ⟨FA, FB, h⟩ := h
  exact (do_in H.form d k n e A c h.ra (two_apart h hb) hn hk.1 hk.2).mono (fun x W' ⟨h1, h2⟩ => ⟨h1, H.form.mv2 refForm13.keep h h2⟩)
theorem two_told (H : StoreHas Rep) (h : Two Rep RefSt w0 W X a b m s sb) (d k : Int) (n : Nat) (e : Nat → BitVec 8) (A : Option Addr) (c : Nat) (hb : BytesIn W (okB w0 X) n e (.slice A n c)) (hn : n ≤ 2000) (hk : -9223372036854775808 ≤ k ∧ k ≤ 9223372036854775807) :
    Calls Try.prog 11 #[b, .agg #[.int .i64 d, .int .i64 k, .slice A n c]] W fun x W' => x = .returned (.int .i64 (doC m sb d k n)) ∧ Two Rep RefSt w0 W' X a b m s (doS m sb d k n e) ∧ Keep X W W' := by
  obtain ⟨FB, FA, h⟩ := h.swap
  exact (told_in refForm13 d k n e A c h.ra (two_apart h hb) hn hk.1 hk.2).mono (fun x W' ⟨h1, h2⟩ => ⟨h1, (refForm13.mv2 H.form.keep h h2).1.swap, (refForm13.mv2 H.form.keep h h2).2⟩)
theorem held_do (H : StoreHas Rep) (h : Held Rep w0 W X a m s) (d k : Int) (n : Nat) (e : Nat → BitVec 8) (A : Option Addr) (c : Nat) (hb : BytesIn W (okB w0 X) n e (.slice A n c)) (hn : n ≤ 2000) (hk : -9223372036854775808 ≤ k ∧ k ≤ 9223372036854775807) :
    Calls Try.prog 10 #[a, .agg #[.int .i64 d, .int .i64 k, .slice A n c]] W fun x W' => x = .returned (.int .i64 (doC m s d k n)) ∧ Held Rep w0 W' X a m (doS m s d k n e) ∧ Keep X W W' := by
  obtain ⟨F, h⟩ := h
  exact (do_in H.form d k n e A c h.rep (held_apart h hb) hn hk.1 hk.2).mono (fun x W' ⟨h1, h2⟩ => ⟨h1, H.form.mv h h2⟩)
/-- The program's Read: its bytes lie apart from both stores. -/
theorem two_read13 (H : StoreHas Rep) (h : Two Rep RefSt w0 W X a b m s sb) : Calls Try.prog 13 #[a] W fun x W' => ∃ A c r, x = .returned (.slice A s.n c) ∧ Two Rep RefSt w0 W' (fun z => r z ∨ X z) a b m s sb ∧ Keep X W W' ∧ BytesIn W' r s.n s.e (.slice A s.n c) ∧ (∀ z, r z → W.heap.size ≤ z) ∧ (∀ g, b = .pointer (some ⟨g, 0, none⟩) → W'.heap[g]? = W.heap[g]?) := by
  obtain ⟨FA, FB, h⟩ := h
  refine (H.read h.ra).mono ?_
  rintro x W' ⟨bv, F', rfl, h2, h3, h4, h5⟩
  have hsz := h3.size
  have hbel : Below w0.heap.size w0 W' := h.bel.trans (h3.below h.bel.size h.gea)
  have hkp : ∀ x, FB x → W'.heap[x]? = W.heap[x]? := fun x hx => h3.block x (h.ltb x hx) (fun hA => h.ab x hA hx)
  obtain ⟨A, c, rfl, hc, hr⟩ := h5
  refine ⟨A, c, fun z => W.heap.size ≤ z ∧ z < W'.heap.size ∧ ¬ F' z, rfl, ⟨F', FB, h2, refForm13.keep _ _ _ _ _ _ h.rb hkp, H.form.lt h2, fun x hx => Nat.lt_of_lt_of_le (h.ltb x hx) hsz, fun x hx => ?_, h.geb, fun x hx hy => ?_, fun x hx hy => ?_, fun x hx hy => ?_, hbel, fun x hx => ?_⟩, fun x hx => h3.block x (h.old x hx) (fun hA => h.ax x hA hx), ⟨A, c, rfl, hc, fun h0 => ?_⟩, fun z hz => hz.1, fun g hg => ?_⟩
  · rcases h4 x hx with h6 | h6
    · exact h.gea x h6
    · exact Nat.le_trans h.bel.size h6
  · rcases h4 x hx with h6 | h6
    · exact h.ab x h6 hy
    · have := h.ltb x hy; omega
  · rcases hy with hy | hy
    · exact hy.2.2 hx
    · rcases h4 x hx with h6 | h6
      · exact h.ax x h6 hy
      · have := h.old x hy; omega
  · rcases hy with hy | hy
    · have := h.ltb x hx; omega
    · exact h.bx x hx hy
  · rcases hx with hx | hx
    · exact hx.2.1
    · exact Nat.lt_of_lt_of_le (h.old x hx) hsz
  · obtain ⟨sb', so, hA, hn, hj⟩ := hr h0
    exact ⟨sb', so, hA, ⟨Nat.le_of_not_lt (fun h => hn (.inr h)), block_lt_of_cell (hj 0 h0), fun h => hn (.inl h)⟩, hj⟩
  · obtain ⟨g', Bv, hv, _, _, _, _, hF, _⟩ := h.rb.row
    rw [hg] at hv
    simp only [Value.pointer.injEq, Option.some.injEq, Addr.mk.injEq, and_true] at hv
    subst hv
    exact hkp g hF
/-- What a law reads of the document's store. -/
theorem two_row {g : Nat} (h : Two Rep RefSt w0 W X a (.pointer (some ⟨g, 0, none⟩)) m s sb) : ∃ A c, W.cell? ⟨g, 0, none⟩ = some (.slice A sb.n c) ∧ W.cell? ⟨g, 1, none⟩ = some (.int .i64 (sb.sure : Int)) ∧ SliceOf W W.heap.size sb.n sb.e (.slice A sb.n c) := by
  obtain ⟨FA, FB, h⟩ := h
  obtain ⟨g', Bv, hv, h0, h1, h2, ⟨A, c, he⟩, _, _⟩ := h.rb.row
  simp only [Value.pointer.injEq, Option.some.injEq, Addr.mk.injEq, and_true] at hv
  subst hv he
  exact ⟨A, c, h0, h1, h2⟩
end
end Go.Proofs.Ythacldkmjpjgiaa.Law13
