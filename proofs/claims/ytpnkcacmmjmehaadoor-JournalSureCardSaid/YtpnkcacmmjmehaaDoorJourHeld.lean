/-
  A store and a journal on it while the law goes on; blocks that no call on them touches.
-/
import Derived.Test.YtpnkcacmmjmehaaDoorJourHas
namespace Go.Proofs.YtpnkcacmmjmehaaDoor.Jour
open Go Go.RowKit Go.Proofs.YtpnkcacmmjmehaaDoor.Aid Go.Proofs.YtpnkcacmmjmehaaDoor.Cache Go.Proofs.YtpnkcacmmjmehaaDoor.Store

def RJB (RJ : RepJ) (s : Value) : World → (Nat → Prop) → Value → Nat → List By → Prop := fun W F v _ L => RJ W F v s L
/-- A store s, and a journal j on it. -/
abbrev JT (RS : RepSt) (RJ : RepJ) (w0 W : World) (X : Nat → Prop) (s j : Value) (m : Nat) (st : St) (L : List By) : Prop := Two RS (RJB RJ s) w0 W X s j m st L
section
variable {RS : RepSt} {RJ : RepJ} {D : By → By} {w0 W : World} {X K : Nat → Prop} {s j : Value} {m : Nat} {st : St} {L : List By}
theorem JourHas.keepB (H : JourHas w0 RS RJ D) (s : Value) : KeepR (RJB RJ s) := fun _ _ _ _ _ _ h hk => H.keepJ h hk
theorem JourHas.more (H : JourHas w0 RS RJ D) {W' : World} {X' : Nat → Prop} (h : JT RS RJ w0 W X s j m st L) (hb : Below W.heap.size W W') (hX : ∀ x, X' x → X x ∨ (W.heap.size ≤ x ∧ x < W'.heap.size)) : JT RS RJ w0 W' X' s j m st L := Two.more h H.keep (H.keepB s) hb hX
theorem JourHas.moreH (H : JourHas w0 RS RJ D) {W' : World} {K' : Nat → Prop} (h : Held RS w0 W K s m st) (hb : Below W.heap.size W W') (hK : ∀ b, K' b → K b ∨ (W.heap.size ≤ b ∧ b < W'.heap.size)) : Held RS w0 W' K' s m st := h.more (fun hr hk => H.keep _ _ _ _ _ _ hr hk) hb hK
theorem JourHas.okT (H : JourHas w0 RS RJ D) (h : JT RS RJ w0 W X s j m st L) : st.ok m := by obtain ⟨FA, FB, h⟩ := h; exact H.ok h.ra
theorem JT.held (h : JT RS RJ w0 W X s j m st L) : Held RS w0 W X s m st := by
  obtain ⟨FA, FB, h⟩ := h
  exact ⟨FA, h.ra, h.lta, h.gea, h.ax, h.bel, h.old⟩
theorem JourHas.newH (H : JourHas w0 RS RJ D) (m : Nat) (hm : m ≤ 1048576) (W : World) (hb : Below w0.heap.size w0 W) : Calls Tryd.prog 6 #[.int .i64 (m : Int)] W fun x W' => ∃ p, x = .returned (.tuple #[.pointer (some p), .int .i64 0]) ∧ Held RS w0 W' (fun _ => False) (.pointer (some p)) m st0 :=
  (H.new m W hm).mono (fun _ _ ⟨p, F, h1, h2, h3, h4⟩ => ⟨p, h1, ⟨F, h2, H.lt h2, fun b hf => Nat.le_trans hb.size (h3 b hf), fun _ _ h => h, hb.trans (h4.mono hb.size), fun _ h => h.elim⟩⟩)
theorem JourHas.fuseH (H : JourHas w0 RS RJ D) (h : Held RS w0 W K s m st) (k : Int) (h1 : -9223372036854775808 ≤ k) (h2 : k ≤ 9223372036854775807) : Calls Tryd.prog 8 #[s, .int .i64 k] W fun x W' => x = .returned (.tuple #[]) ∧ Held RS w0 W' K s m (fuseS st k) ∧ Keep K W W' := by
  obtain ⟨F, h⟩ := h
  exact (H.fuse k h.rep h1 h2).mono (fun x W' ⟨h1, h2⟩ => ⟨h1, h.move H.lt h2⟩)
theorem JourHas.fuseT (H : JourHas w0 RS RJ D) (h : JT RS RJ w0 W X s j m st L) (k : Int) (h1 : -9223372036854775808 ≤ k) (h2 : k ≤ 9223372036854775807) : Calls Tryd.prog 8 #[s, .int .i64 k] W fun x W' => x = .returned (.tuple #[]) ∧ JT RS RJ w0 W' X s j m (fuseS st k) L ∧ Keep X W W' := by
  obtain ⟨FA, FB, h⟩ := h
  exact (H.fuse k h.ra h1 h2).mono (fun x W' ⟨h1, h2⟩ => ⟨h1, h.move H.lt (fun hx => H.keepJ h.rb hx) h2⟩)
theorem JourHas.crashH (H : JourHas w0 RS RJ D) (h : Held RS w0 W K s m st) (k : Int) (h1 : -9223372036854775808 ≤ k) (h2 : k ≤ 9223372036854775807) : Calls Tryd.prog 11 #[s, .int .i64 k] W fun x W' => x = .returned (.tuple #[]) ∧ Held RS w0 W' K s m (crashS st k) ∧ Keep K W W' := by
  obtain ⟨F, h⟩ := h
  exact (H.crash k h.rep h1 h2).mono (fun x W' ⟨h1, h2⟩ => ⟨h1, h.move H.lt h2⟩)
/-- What is behind a call that leaves all but the footprints: a store and a journal. -/
theorem two_after (H : JourHas w0 RS RJ D) {W' : World} {F F' FJ : Nat → Prop} {j' : Value} {st' : St} {L' : List By} (hb : Below w0.heap.size w0 W) (hge : ∀ b, F b → w0.heap.size ≤ b) (hX : ∀ b, F b → ¬ X b) (hold : ∀ b, X b → b < W.heap.size)
    (h1 : RS W' F' s m st') (h2 : RJ W' FJ j' s L') (hd : ∀ b, FJ b → ¬ F' b) (hl : Cache.Leaves F W W') (hn : ∀ b, F' b ∨ FJ b → F b ∨ W.heap.size ≤ b) : JT RS RJ w0 W' X s j' m st' L' ∧ Keep X W W' := by
  have hbel : Below w0.heap.size w0 W' := hb.trans (hl.below hb.size hge)
  have g : ∀ b, F' b ∨ FJ b → w0.heap.size ≤ b := fun b hb' => (hn b hb').elim (hge b) (fun h => Nat.le_trans hb.size h)
  have a : ∀ b, F' b ∨ FJ b → ¬ X b := fun b hb' hx => (hn b hb').elim (fun h => hX b h hx) (fun h => by have := hold b hx; omega)
  exact ⟨⟨F', FJ, h1, h2, H.lt h1, H.ltJ h2, fun b hb' => g b (.inl hb'), fun b hb' => g b (.inr hb'), fun b h3 h4 => hd b h4 h3, fun b hb' => a b (.inl hb'), fun b hb' => a b (.inr hb'), hbel, fun b hx => Nat.lt_of_lt_of_le (hold b hx) hl.size⟩,
    fun b hx => hl.block b (hold b hx) (fun hF => hX b hF hx)⟩
theorem held_after (H : JourHas w0 RS RJ D) {W' : World} {F F' FJ : Nat → Prop} {st' : St} (hb : Below w0.heap.size w0 W) (hge : ∀ b, F b → w0.heap.size ≤ b) (hX : ∀ b, F b → ¬ X b) (hold : ∀ b, X b → b < W.heap.size)
    (h1 : RS W' F' s m st') (hl : Cache.Leaves F W W') (hn : ∀ b, F' b ∨ FJ b → F b ∨ W.heap.size ≤ b) : Held RS w0 W' X s m st' ∧ Keep X W W' :=
  ⟨⟨F', h1, H.lt h1, fun b hb' => (hn b (.inl hb')).elim (hge b) (fun h => Nat.le_trans hb.size h), fun b hb' hx => (hn b (.inl hb')).elim (fun h => hX b h hx) (fun h => by have := hold b hx; omega), hb.trans (hl.below hb.size hge), fun b hx => Nat.lt_of_lt_of_le (hold b hx) hl.size⟩,
    fun b hx => hl.block b (hold b hx) (fun hF => hX b hF hx)⟩
theorem JourHas.openH (H : JourHas w0 RS RJ D) (h : Held RS w0 W K s m st) {R : List By} {t : By} (hs : scan D (bytesL st) = some (R, t)) (hu : st.burn = -1 ∧ st.down = false) (hn : st.n ≤ 100000) :
    Calls Tryd.prog 7 #[s] W fun x W' => ∃ p, x = .returned (.tuple #[.pointer (some p), .int .i64 0]) ∧ JT RS RJ w0 W' K s (.pointer (some p)) m (openS m st t) R ∧ Keep K W W' := by
  obtain ⟨F, h⟩ := h
  exact (H.open_up h.bel h.rep hs hu.1 hu.2 hn).mono (fun x W' ⟨p, F', FJ, h1, h2, h3, h4, h5, h6⟩ => ⟨p, h1, two_after H h.bel h.ge h.apart h.old h2 h3 h4 h5 h6⟩)
/-- Open once more: the first journal stays as it is. -/
theorem JourHas.openT (H : JourHas w0 RS RJ D) (h : JT RS RJ w0 W X s j m st L) {R : List By} {t : By} (hs : scan D (bytesL st) = some (R, t)) (hu : st.burn = -1 ∧ st.down = false) (hn : st.n ≤ 100000) :
    Calls Tryd.prog 7 #[s] W fun x W' => ∃ p FK, x = .returned (.tuple #[.pointer (some p), .int .i64 0]) ∧ JT RS RJ w0 W' (fun b => FK b ∨ X b) s (.pointer (some p)) m (openS m st t) R ∧ RJ W' FK j s L ∧ (∀ b, FK b → w0.heap.size ≤ b) ∧ Keep X W W' := by
  obtain ⟨FA, FB, h⟩ := h
  refine (H.open_up h.bel h.ra hs hu.1 hu.2 hn).mono ?_
  rintro x W' ⟨p, F', FJ, h1, h2, h3, h4, h5, h6⟩
  obtain ⟨t1, t2⟩ := two_after H (X := fun b => FB b ∨ X b) h.bel h.gea (fun b hA hx => hx.elim (h.ab b hA) (h.ax b hA)) (fun b hx => hx.elim (h.ltb b) (h.old b)) h2 h3 h4 h5 h6
  exact ⟨p, FB, h1, t1, H.keepJ h.rb (fun b hb => t2 b (.inl hb)), h.geb, fun b hb => t2 b (.inr hb)⟩
/-- Blocks that an argument may lie in. -/
theorem JT.apart {FA FB : Nat → Prop} (h : TwoIn RS (RJB RJ s) w0 W X FA FB s j m st L) : ∀ b, okB w0 X b → ¬ FA b ∧ ¬ FB b := fun b hb => by
  rcases hb with h1 | h1
  · exact ⟨fun h2 => by have := h.gea b h2; omega, fun h2 => by have := h.geb b h2; omega⟩
  · exact ⟨fun h2 => h.ax b h2 h1, fun h2 => h.bx b h2 h1⟩
theorem JourHas.addT (H : JourHas w0 RS RJ D) (h : JT RS RJ w0 W X s j m st L) (x : By) (bv : Value) (hb : BytesIn W (okB w0 X) x.length (fnL x) bv) (hx : x.length ≤ 2000) (hn : st.n ≤ 100000) (hL : L.length ≤ 10000) :
    Calls Tryd.prog 10 #[j, bv] W fun y W' => y = .returned (.int .i64 (addC D m st x)) ∧ (addC D m st x ≠ 8 → JT RS RJ w0 W' X s j m (addS D m st x) (addL D m st L x)) ∧ Held RS w0 W' X s m (addS D m st x) ∧ Keep X W W' := by
  obtain ⟨FA, FB, h⟩ := h
  refine (H.add x bv h.bel h.ra h.rb (fun b h1 h2 => h.ab b h2 h1) (hb.less (fun b _ hb' => JT.apart h b hb')) hx hn hL).mono ?_
  rintro y W' ⟨h1, F', FJ', h2, h3, h4, h5, h6⟩
  have hge : ∀ b, FA b ∨ FB b → w0.heap.size ≤ b := fun b hb => hb.elim (h.gea b) (h.geb b)
  have hX : ∀ b, FA b ∨ FB b → ¬ X b := fun b hb => hb.elim (h.ax b) (h.bx b)
  obtain ⟨t1, t2⟩ := held_after H (FJ := FJ') h.bel hge hX h.old h2 h5 h6
  exact ⟨h1, fun hne => (two_after H h.bel hge hX h.old h2 (h3 hne) h4 h5 h6).1, t1, t2⟩
theorem JourHas.onlyT (H : JourHas w0 RS RJ D) (h : JT RS RJ w0 W X s j m st L) (M : List By) (v : Value) (hb : PartsP W (okB w0 X) M v) (hM : M.length ≤ 10) (hx : ∀ x ∈ M, x.length ≤ 2000) (hn : st.n ≤ 100000) :
    Calls Tryd.prog 9 #[j, v] W fun y W' => y = .returned (.int .i64 (onlyC D m st M)) ∧ (onlyC D m st M ≠ 8 → JT RS RJ w0 W' X s j m (onlyS D m st M) (onlyL D m st L M)) ∧ Held RS w0 W' X s m (onlyS D m st M) ∧ Keep X W W' := by
  obtain ⟨FA, FB, h⟩ := h
  refine (H.only M v h.bel h.ra h.rb (fun b h1 h2 => h.ab b h2 h1) (hb.less (fun b _ hb' => JT.apart h b hb')) hM hx hn).mono ?_
  rintro y W' ⟨h1, F', FJ', h2, h3, h4, h5, h6⟩
  have hge : ∀ b, FA b ∨ FB b → w0.heap.size ≤ b := fun b hb => hb.elim (h.gea b) (h.geb b)
  have hX : ∀ b, FA b ∨ FB b → ¬ X b := fun b hb => hb.elim (h.ax b) (h.bx b)
  obtain ⟨t1, t2⟩ := held_after H (FJ := FJ') h.bel hge hX h.old h2 h5 h6
  exact ⟨h1, fun hne => (two_after H h.bel hge hX h.old h2 (h3 hne) h4 h5 h6).1, t1, t2⟩
/-- Records: in blocks r, new ones, which no later call touches. -/
theorem JourHas.recsT (H : JourHas w0 RS RJ D) (h : JT RS RJ w0 W X s j m st L) (hL : L.length ≤ 10000) (hs : ∀ x ∈ L, x.length ≤ 1000) :
    Calls Tryd.prog 13 #[j] W fun y W' => ∃ v r, y = .returned v ∧ JT RS RJ w0 W' (fun b => r b ∨ X b) s j m st L ∧ PartsP W' r L v ∧ (∀ b, r b → W.heap.size ≤ b) ∧ Keep X W W' := by
  obtain ⟨FA, FB, h⟩ := h
  refine (H.recs h.rb hL hs).mono ?_
  rintro y W' ⟨v, FJ', h1, h2, h3, h4, h5⟩
  have hbel : Below w0.heap.size w0 W' := h.bel.trans (h3.below h.bel.size h.geb)
  have hsz := h3.size
  refine ⟨v, fun b => W.heap.size ≤ b ∧ b < W'.heap.size ∧ ¬ FJ' b, h1, ⟨FA, FJ', H.keep _ _ _ _ _ _ h.ra (fun b hb => h3.block b (h.lta b hb) (fun hB => h.ab b hb hB)), h2, fun b hb => Nat.lt_of_lt_of_le (h.lta b hb) hsz, H.ltJ h2, h.gea, fun b hb => ?_, fun b hA hB => ?_, fun b hA hx => ?_, fun b hB hx => ?_, hbel, fun b hx => ?_⟩, h5.less (fun b hlt hb => ⟨hb.1, hlt, hb.2⟩), fun b hb => hb.1, fun b hx => h3.block b (h.old b hx) (fun hB => h.bx b hB hx)⟩
  · rcases h4 b hb with h6 | h6
    · exact h.geb b h6
    · exact Nat.le_trans h.bel.size h6
  · rcases h4 b hB with h6 | h6
    · exact h.ab b hA h6
    · have := h.lta b hA; omega
  · rcases hx with hx | hx
    · have := h.lta b hA; omega
    · exact h.ax b hA hx
  · rcases hx with hx | hx
    · exact hx.2.2 hB
    · rcases h4 b hB with h6 | h6
      · exact h.bx b h6 hx
      · have := h.old b hx; omega
  · rcases hx with hx | hx
    · exact hx.2.1
    · exact Nat.lt_of_lt_of_le (h.old b hx) hsz
/-- Records of the first journal, behind all else. -/
theorem JourHas.recsK (H : JourHas w0 RS RJ D) {FK : Nat → Prop} (h : RJ W FK j s L) (hge : ∀ b, FK b → w0.heap.size ≤ b) (hb : Below w0.heap.size w0 W) (hL : L.length ≤ 10000) (hs : ∀ x ∈ L, x.length ≤ 1000) :
    Calls Tryd.prog 13 #[j] W fun y W' => ∃ v, y = .returned v ∧ PartsP W' (fun b => W.heap.size ≤ b) L v ∧ Below w0.heap.size w0 W' ∧ ∀ b, b < W.heap.size → ¬ FK b → W'.heap[b]? = W.heap[b]? := by
  refine (H.recs h hL hs).mono ?_
  rintro y W' ⟨v, FJ', h1, h2, h3, h4, h5⟩
  exact ⟨v, h1, h5.less (fun b _ hb => hb.1), hb.trans (h3.below hb.size hge), h3.block⟩
/-- Read: how many bytes there are. -/
theorem JourHas.readH (H : JourHas w0 RS RJ D) (h : Held RS w0 W K s m st) : Calls Tryd.prog 14 #[s] W fun x W' => ∃ A c, x = .returned (.slice A st.n c) ∧ Held RS w0 W' K s m st ∧ Keep K W W' := by
  obtain ⟨F, h⟩ := h
  exact (H.read h.rep).mono (fun x W' ⟨A, c, F', h1, h2, h3, h4⟩ => ⟨A, c, h1, h.move H.lt ⟨F', h2, h3, h4⟩⟩)
end
end Go.Proofs.YtpnkcacmmjmehaaDoor.Jour
