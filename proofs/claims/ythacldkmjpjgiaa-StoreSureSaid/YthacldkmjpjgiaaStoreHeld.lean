/-
  A store while a law goes on: alone, or beside another; blocks that no call on it touches.
-/
import Derived.Test.YthacldkmjpjgiaaStoreHas
namespace Go.Proofs.Ythacldkmjpjgiaa.Store
open Go Go.RowKit Go.Proofs.Ythacldkmjpjgiaa.Aid Go.Proofs.Ythacldkmjpjgiaa.Cache

section
variable {Rep : RepSt} {fNew fApp fSync fRep fFuse fCrash fTurn : FuncId} {w0 W : World} {K : Nat → Prop} {v : Value} {m : Nat} {s : St}
theorem StForm.mv (H : StForm fNew fApp fSync fRep fFuse fCrash fTurn Rep) {W W' : World} {F : Nat → Prop} {s' : St} (h : HeldIn Rep w0 W K F v m s) (hm : Moved Rep F W W' v m s') : Held Rep w0 W' K v m s' ∧ Keep K W W' := h.move H.lt hm
theorem StForm.more (H : StForm fNew fApp fSync fRep fFuse fCrash fTurn Rep) {W W' : World} {K' : Nat → Prop} (h : Held Rep w0 W K v m s) (hb : Below W.heap.size W W') (hK : ∀ b, K' b → K b ∨ (W.heap.size ≤ b ∧ b < W'.heap.size)) : Held Rep w0 W' K' v m s := h.more (fun hr hk => H.keep _ _ _ _ _ _ hr hk) hb hK
theorem StForm.okH (H : StForm fNew fApp fSync fRep fFuse fCrash fTurn Rep) (h : Held Rep w0 W K v m s) : s.ok m := by obtain ⟨F, h⟩ := h; exact H.ok h.rep
theorem StForm.newH (H : StForm fNew fApp fSync fRep fFuse fCrash fTurn Rep) (m : Nat) (hm : m ≤ 1048576) (w0 W : World) (hb : Below w0.heap.size w0 W) : Calls Try.prog fNew #[.int .i64 (m : Int)] W fun x W' => ∃ p, x = .returned (.tuple #[.pointer (some p), .int .i64 0]) ∧ Held Rep w0 W' (fun _ => False) (.pointer (some p)) m st0 ∧ Below W.heap.size W W' :=
  (H.new_ok m W hm).mono (fun x W' ⟨v, F, h1, h2, h3, h4⟩ => by
    obtain ⟨p, rfl⟩ := H.ptr h2
    exact ⟨p, h1, ⟨F, h2, H.lt h2, fun b hf => Nat.le_trans hb.size (h3 b hf), fun _ _ h => h, hb.trans (h4.mono hb.size), fun _ h => h.elim⟩, h4⟩)
theorem held_apart {F : Nat → Prop} (h : HeldIn Rep w0 W K F v m s) {n : Nat} {e : Nat → BitVec 8} {bv : Value} (hb : BytesIn W (okB w0 K) n e bv) : Apart W F n e bv := hb.apart (fun b hb hF => by
  rcases hb with h1 | h1
  · have := h.ge b hF; omega
  · exact h.apart b hF h1)
theorem StForm.appH (H : StForm fNew fApp fSync fRep fFuse fCrash fTurn Rep) (h : Held Rep w0 W K v m s) (n : Nat) (e : Nat → BitVec 8) (bv : Value) (hb : BytesIn W (okB w0 K) n e bv) (hn : n ≤ 2000) : Calls Try.prog fApp #[v, bv] W fun x W' => x = .returned (.int .i64 (appC m s n)) ∧ Held Rep w0 W' K v m (appS m s n e) ∧ Keep K W W' := by
  obtain ⟨F, h⟩ := h
  exact (H.app n e bv h.rep (held_apart h hb) hn).mono (fun x W' ⟨h1, h2⟩ => ⟨h1, H.mv h h2⟩)
theorem StForm.repH (H : StForm fNew fApp fSync fRep fFuse fCrash fTurn Rep) (h : Held Rep w0 W K v m s) (n : Nat) (e : Nat → BitVec 8) (bv : Value) (hb : BytesIn W (okB w0 K) n e bv) (hn : n ≤ 2000) : Calls Try.prog fRep #[v, bv] W fun x W' => x = .returned (.int .i64 (repC m s n)) ∧ Held Rep w0 W' K v m (repS m s n e) ∧ Keep K W W' := by
  obtain ⟨F, h⟩ := h
  exact (H.rep n e bv h.rep (held_apart h hb) hn).mono (fun x W' ⟨h1, h2⟩ => ⟨h1, H.mv h h2⟩)
theorem StForm.syncH (H : StForm fNew fApp fSync fRep fFuse fCrash fTurn Rep) (h : Held Rep w0 W K v m s) : Calls Try.prog fSync #[v] W fun x W' => x = .returned (.int .i64 (syncC s)) ∧ Held Rep w0 W' K v m (syncS s) ∧ Keep K W W' := by
  obtain ⟨F, h⟩ := h
  exact (H.sync h.rep).mono (fun x W' ⟨h1, h2⟩ => ⟨h1, H.mv h h2⟩)
theorem StForm.fuseH (H : StForm fNew fApp fSync fRep fFuse fCrash fTurn Rep) (h : Held Rep w0 W K v m s) (k : Int) (h1 : -9223372036854775808 ≤ k) (h2 : k ≤ 9223372036854775807) : Calls Try.prog fFuse #[v, .int .i64 k] W fun x W' => x = .returned (.tuple #[]) ∧ Held Rep w0 W' K v m (fuseS s k) ∧ Keep K W W' := by
  obtain ⟨F, h⟩ := h
  exact (H.fuse k h.rep h1 h2).mono (fun x W' ⟨h1, h2⟩ => ⟨h1, H.mv h h2⟩)
theorem StForm.crashH (H : StForm fNew fApp fSync fRep fFuse fCrash fTurn Rep) (h : Held Rep w0 W K v m s) (k : Int) (h1 : -9223372036854775808 ≤ k) (h2 : k ≤ 9223372036854775807) : Calls Try.prog fCrash #[v, .int .i64 k] W fun x W' => x = .returned (.tuple #[]) ∧ Held Rep w0 W' K v m (crashS s k) ∧ Keep K W W' := by
  obtain ⟨F, h⟩ := h
  exact (H.crash k h.rep h1 h2).mono (fun x W' ⟨h1, h2⟩ => ⟨h1, H.mv h h2⟩)
theorem StForm.turnH (H : StForm fNew fApp fSync fRep fFuse fCrash fTurn Rep) (h : Held Rep w0 W K v m s) (k : Int) (x : BitVec 8) (h1 : -9223372036854775808 ≤ k) (h2 : k ≤ 9223372036854775807) : Calls Try.prog fTurn #[v, .int .i64 k, .int .u8 (x.toNat : Int)] W fun y W' => y = .returned (.int .i64 (turnC s k)) ∧ Held Rep w0 W' K v m (turnS s k x) ∧ Keep K W W' := by
  obtain ⟨F, h⟩ := h
  exact (H.turn k x h.rep h1 h2).mono (fun x W' ⟨h1, h2⟩ => ⟨h1, H.mv h h2⟩)
/-- What Read hands back lies in blocks r, new ones, which no later call touches. -/
theorem StoreHas.readH (H : StoreHas Rep) (h : Held Rep w0 W K v m s) : Calls Try.prog 13 #[v] W fun x W' => ∃ bv r, x = .returned bv ∧ Keep K W W' ∧ Held Rep w0 W' (fun b => r b ∨ K b) v m s ∧ BytesIn W' r s.n s.e bv ∧ ∀ b, r b → W.heap.size ≤ b := by
  obtain ⟨F, h⟩ := h
  refine (H.read h.rep).mono ?_
  rintro x W' ⟨bv, F', rfl, h2, h3, h4, h5⟩
  obtain ⟨-, hK⟩ := H.form.mv h ⟨F', h2, h3, h4⟩
  have hsz := h3.size
  have hbel : Below w0.heap.size w0 W' := h.bel.trans (h3.below h.bel.size h.ge)
  obtain ⟨A, c, hv, hc, hr⟩ := h5
  refine ⟨bv, fun b => W.heap.size ≤ b ∧ b < W'.heap.size ∧ ¬ F' b, rfl, hK, ⟨F', h2, H.form.lt h2, fun b hb => ?_, fun b hb hrk => ?_, hbel, fun b hb => ?_⟩, ⟨A, c, hv, hc, fun h0 => ?_⟩, fun b hb => hb.1⟩
  · rcases h4 b hb with h6 | h6
    · exact h.ge b h6
    · exact Nat.le_trans h.bel.size h6
  · rcases hrk with h6 | h6
    · exact h6.2.2 hb
    · rcases h4 b hb with h7 | h7
      · exact h.apart b h7 h6
      · have := h.old b h6; omega
  · rcases hb with h6 | h6
    · exact h6.2.1
    · exact Nat.lt_of_lt_of_le (h.old b h6) hsz
  · obtain ⟨sb, so, hA, hn, hj⟩ := hr h0
    exact ⟨sb, so, hA, ⟨Nat.le_of_not_lt (fun h => hn (.inr h)), block_lt_of_cell (hj 0 h0), fun h => hn (.inl h)⟩, hj⟩
end
section
variable {δ : Type} {Rep : RepSt} {RB : World → (Nat → Prop) → Value → Nat → δ → Prop} {fNew fApp fSync fRep fFuse fCrash fTurn : FuncId} {w0 W : World} {X : Nat → Prop} {a b : Value} {m : Nat} {s : St} {sb : δ}
theorem StForm.mv2 (H : StForm fNew fApp fSync fRep fFuse fCrash fTurn Rep) (hkb : KeepR RB) {W' : World} {FA FB : Nat → Prop} {s' : St}
    (h : TwoIn Rep RB w0 W X FA FB a b m s sb) (hm : Moved Rep FA W W' a m s') : Two Rep RB w0 W' X a b m s' sb ∧ Keep X W W' := h.move H.lt (fun hx => hkb _ _ _ _ _ _ h.rb hx) hm
theorem two_apart {FA FB : Nat → Prop} (h : TwoIn Rep RB w0 W X FA FB a b m s sb) {n : Nat} {e : Nat → BitVec 8} {bv : Value} (hb : BytesIn W (okB w0 X) n e bv) : Apart W FA n e bv := hb.apart (fun b hb hF => by
  rcases hb with h1 | h1
  · have := h.gea b hF; omega
  · exact h.ax b hF h1)
end
end Go.Proofs.Ythacldkmjpjgiaa.Store
