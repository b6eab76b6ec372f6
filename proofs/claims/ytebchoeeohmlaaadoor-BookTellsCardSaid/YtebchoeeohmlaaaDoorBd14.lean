/-
  What a call leaves as it was: all but the blocks of a footprint. A slice of values of the call's own, its content as a list; append of values to it. A thing that lies in memory of its own (a table, a net), while a law goes on: newer than the law's beginning, and apart from the blocks K, which no call on it touches. Two of them side by side.
-/
import Derived.Test.YtebchoeeohmlaaaDoorBd01
import Derived.Maps.AppendAt
namespace Go.Proofs.YtebchoeeohmlaaaDoor.Cache
open Go Go.RowKit Go.Proofs.YtebchoeeohmlaaaDoor.Aid

structure Leaves (F : Nat → Prop) (w w' : World) : Prop where
  os : w'.os = w.os
  tape : w'.tape = w.tape
  output : w'.output = w.output
  size : w.heap.size ≤ w'.heap.size
  block : ∀ k, k < w.heap.size → ¬ F k → w'.heap[k]? = w.heap[k]?
theorem Leaves.of_below {F : Nat → Prop} {w w' : World} (h : Below w.heap.size w w') : Leaves F w w' := ⟨h.os, h.tape, h.output, h.size, fun k hk _ => h.block k hk⟩
theorem Leaves.refl (F : Nat → Prop) (w : World) : Leaves F w w := ⟨rfl, rfl, rfl, Nat.le_refl _, fun _ _ _ => rfl⟩
theorem Leaves.below {F : Nat → Prop} {B : Nat} {w w' : World} (h : Leaves F w w') (hB : B ≤ w.heap.size) (hF : ∀ k, F k → B ≤ k) : Below B w w' :=
  ⟨h.os, h.tape, h.output, h.size, fun k hk => h.block k (by omega) (fun hf => by have := hF k hf; omega)⟩
theorem Leaves.trans {F F' : Nat → Prop} {a b c : World} (h : Leaves F a b) (k : Leaves F' b c) (hF : ∀ x, F' x → x < a.heap.size → F x) : Leaves F a c :=
  ⟨k.os.trans h.os, k.tape.trans h.tape, k.output.trans h.output, Nat.le_trans h.size k.size, fun x hx hn => (k.block x (Nat.lt_of_lt_of_le hx h.size) (fun hf => hn (hF x hf hx))).trans (h.block x hx hn)⟩
theorem Leaves.mono {F F' : Nat → Prop} {a b : World} (h : Leaves F a b) (hF : ∀ x, x < a.heap.size → F x → F' x) : Leaves F' a b :=
  ⟨h.os, h.tape, h.output, h.size, fun k hk hn => h.block k hk (fun hf => hn (hF k hk hf))⟩
theorem Leaves.cell {F : Nat → Prop} {w w' : World} (h : Leaves F w w') {p : Addr} {v : Value} (hc : w.cell? p = some v) (hF : ¬ F p.block) : w'.cell? p = some v := by
  have hlt := block_lt_of_cell hc
  rw [← hc]
  unfold World.cell?
  rw [h.block p.block hlt hF]
theorem Leaves.drew {F : Nat → Prop} {w w' : World} (h : Leaves F w w') : Leaves F w w'.drew := ⟨h.os, h.tape, h.output, h.size, h.block⟩

/-- A slice of the call's own; what it holds. -/
def OwnV (w : World) (base : Nat) (e : TypeId) (v : Value) (xs : List Value) : Prop := w.ownsRow base e 1 v xs.length xs
section
variable {w w' : World} {base : Nat} {e : TypeId} {v : Value} {xs : List Value}
theorem OwnV.keep (h : OwnV w base e v xs) (hk : ∀ b, v.ownBlock = some b → w'.heap[b]? = w.heap[b]?) : OwnV w' base e v xs := by
  refine ⟨h.1, ?_⟩
  rcases h.2 with h0 | ⟨g, cap, cur, rfl, hb, hg, rest⟩
  · exact .inl h0
  · exact .inr ⟨g, cap, cur, rfl, hb, (hk g rfl).trans hg, rest⟩
theorem OwnV.lt (h : OwnV w base e v xs) : ∀ b, v.ownBlock = some b → base ≤ b ∧ b < w.heap.size := World.ownsRow.lt h
theorem OwnV.below (h : OwnV w base e v xs) (hb : Below w.heap.size w w') : OwnV w' base e v xs := h.keep (fun b hv => hb.block b (h.lt b hv).2)
theorem OwnV.leaves {F : Nat → Prop} (h : OwnV w base e v xs) (hl : Leaves F w w') (hF : ∀ b, v.ownBlock = some b → ¬ F b) : OwnV w' base e v xs := h.keep (fun b hv => hl.block b (h.lt b hv).2 (hF b hv))
theorem OwnV.nil (w : World) (base : Nat) (e : TypeId) : OwnV w base e (.slice none 0 0) [] := World.ownsRow_nil w base e 1
theorem OwnV.lower (h : OwnV w base e v xs) {B : Nat} (hB : B ≤ base) : OwnV w B e v xs := by
  refine ⟨h.1, ?_⟩
  rcases h.2 with h0 | ⟨g, cap, cur, rfl, hb, hg, rest⟩
  · exact .inl h0
  · exact .inr ⟨g, cap, cur, rfl, by omega, hg, rest⟩
/-- An empty slice that was made just now. -/
theorem OwnV.empty (w : World) (e : TypeId) : OwnV (w.alloc (.cells #[] e)) w.heap.size e (.slice (some ⟨w.heap.size, 0, none⟩) 0 0) [] :=
  World.ownsRow_made w #[] 0 (Nat.le_refl _) (by simp [maxLen]) (by simp)
/-- Its shape, and what lies where. -/
theorem OwnV.shape (h : OwnV w base e v xs) : ∃ A cap, v = .slice A xs.length cap ∧ xs.length ≤ cap ∧ (1 ≤ xs.length → ∃ g, A = some ⟨g, 0, none⟩ ∧ base ≤ g ∧ g < w.heap.size ∧ v.ownBlock = some g ∧ ∀ i u, xs[i]? = some u → w.cell? ⟨g, i, none⟩ = some u) := by
  rcases h.2 with ⟨hv, h0⟩ | ⟨g, cap, cur, rfl, hb, hg, hn, rest⟩
  · exact ⟨none, 0, by rw [hv, h0], by omega, fun h1 => by omega⟩
  · refine ⟨_, cap, rfl, hn, fun _ => ⟨g, rfl, hb, (Array.getElem?_eq_some_iff.1 hg).1, rfl, fun i u hi => ?_⟩⟩
    have := World.ownsRow.cells h (g := g) rfl i u hi
    have hadd : ∀ j, (⟨g, 0, none⟩ : Addr).add j = ⟨g, j, none⟩ := fun j => by unfold Addr.add; split <;> simp_all
    rwa [hadd] at this
end
section
variable {P : Program} {w : World} {ops : Array Oper} {rest : List Oper} {op : Oper} {a : Act} {Q : Exit → Act → World → Prop}
theorem append_vals (hgd : op.guard = none) (s x : Operand) (T : TypeId) (ho : op.op = .call { callee := .builtin .append, args := #[s, x], argTypes := #[T, T] })
    (base : Nat) (e : TypeId) (z : Value) (b : Nat) (hT : P.underlying T = some (.slice e)) (hinfo : (P.info? e).map (fun i => (i.zero, i.size, i.bytes)) = some (some z, 1, b)) (hz : z.cells.size = 1) (hb : b ≤ 100)
    (xs : List Value) (v : Value) (hs : a.eval s = v) (hown : OwnV w base e v xs) (sb so c m : Nat) (news : List Value) (hx : a.eval x = .slice (some ⟨sb, so, none⟩) m c) (hm : news.length = m)
    (hnews : ∀ j u, news[j]? = some u → w.cell? ⟨sb, so + j, none⟩ = some u) (h1 : ∀ u ∈ news, u.oneCell' = true) (hn : xs.length + m ≤ 1000000) (hbase : base ≤ w.heap.size)
    (hK : ∀ v' w', OwnV w' base e v' (xs ++ news) → w.grownBy w' v.ownBlock → (v'.ownBlock = v.ownBlock ∨ v'.ownBlock = some w.heap.size) → wpList P ops Q rest (a.put op.dst v') w') : wpList P ops Q (op :: rest) a w := by
  obtain ⟨i, hi, hzz⟩ := Option.map_eq_some_iff.1 hinfo
  simp only [Prod.mk.injEq] at hzz
  refine wpList_append_own_at w hgd s x T ho base e i z 1 b hT hi hzz.1 hzz.2.1 hzz.2.2 hz (by omega) v xs.length _ hs hown ⟨sb, so, none⟩ m c news hx (by omega) ?_ h1 (by simp only [maxLen]; omega) ?_ hbase ?_
  · intro j u hu
    have hadd : ∀ j, (⟨sb, so, none⟩ : Addr).add j = ⟨sb, so + j, none⟩ := fun j => by unfold Addr.add; split <;> simp_all
    rw [hadd]
    exact hnews j u hu
  · have : (xs.length + m) * b ≤ 1000000 * 100 := Nat.mul_le_mul hn hb
    omega
  · intro v' w' h2 h3 _ h4
    refine hK v' w' ?_ h3 h4
    unfold OwnV
    rw [List.length_append, hm]
    exact h2
end
end Go.Proofs.YtebchoeeohmlaaaDoor.Cache
namespace Go.Proofs.YtebchoeeohmlaaaDoor.Cache
open Go Go.RowKit Go.Proofs.YtebchoeeohmlaaaDoor.Aid

/-- What a call leaves: the table stands for l'; its memory was its own or is new; all else is as it was. -/
def Moved {γ : Type} (Rep : World → (Nat → Prop) → Value → Nat → γ → Prop) (F : Nat → Prop) (w w' : World) (v : Value) (m : Nat) (l' : γ) : Prop :=
  ∃ F' : Nat → Prop, Rep w' F' v m l' ∧ Leaves F w w' ∧ ∀ b, F' b → F b ∨ w.heap.size ≤ b
def Keep (K : Nat → Prop) (W W' : World) : Prop := ∀ b, K b → W'.heap[b]? = W.heap[b]?
theorem Keep.cell {K : Nat → Prop} {W W' : World} (h : Keep K W W') {p : Addr} {v : Value} (hc : W.cell? p = some v) (hK : K p.block) : W'.cell? p = some v := by
  rw [← hc]
  unfold World.cell?
  rw [h p.block hK]
theorem Keep.frozen {K : Nat → Prop} {W W' : World} (h : Keep K W W') {p : Addr} (hK : K p.block) : W'.frozen? p = W.frozen? p := World.frozen?_of_block (h p.block hK)
theorem Keep.trans {K : Nat → Prop} {a b c : World} (h : Keep K a b) (k : Keep K b c) : Keep K a c := fun x hx => (k x hx).trans (h x hx)
structure HeldIn {γ : Type} (Rep : World → (Nat → Prop) → Value → Nat → γ → Prop) (w0 W : World) (K F : Nat → Prop) (v : Value) (m : Nat) (l : γ) : Prop where
  rep : Rep W F v m l
  lt : ∀ b, F b → b < W.heap.size
  ge : ∀ b, F b → w0.heap.size ≤ b
  apart : ∀ b, F b → ¬ K b
  bel : Below w0.heap.size w0 W
  old : ∀ b, K b → b < W.heap.size
def Held {γ : Type} (Rep : World → (Nat → Prop) → Value → Nat → γ → Prop) (w0 W : World) (K : Nat → Prop) (v : Value) (m : Nat) (l : γ) : Prop := ∃ F, HeldIn Rep w0 W K F v m l
section
variable {γ : Type} {Rep : World → (Nat → Prop) → Value → Nat → γ → Prop} {w0 W W' : World} {K K' F : Nat → Prop} {v : Value} {m : Nat} {l l' : γ}
theorem Held.bel (h : Held Rep w0 W K v m l) : Below w0.heap.size w0 W := by obtain ⟨F, h⟩ := h; exact h.bel
theorem Held.old (h : Held Rep w0 W K v m l) : ∀ b, K b → b < W.heap.size := by obtain ⟨F, h⟩ := h; exact h.old
theorem HeldIn.move (h : HeldIn Rep w0 W K F v m l) (hlt : ∀ {W : World} {F : Nat → Prop} {l : γ}, Rep W F v m l → ∀ b, F b → b < W.heap.size) (hm : Moved Rep F W W' v m l') : Held Rep w0 W' K v m l' ∧ Keep K W W' := by
  obtain ⟨F', h1, h2, h3⟩ := hm
  have hsz := h2.size
  refine ⟨⟨F', h1, hlt h1, fun b hb => ?_, fun b hb hK => ?_, h.bel.trans (h2.below h.bel.size h.ge), fun b hb => Nat.lt_of_lt_of_le (h.old b hb) hsz⟩, fun b hb => h2.block b (h.old b hb) (fun hF => h.apart b hF hb)⟩
  · rcases h3 b hb with h4 | h4
    · exact h.ge b h4
    · exact Nat.le_trans h.bel.size h4
  · rcases h3 b hb with h4 | h4
    · exact h.apart b h4 hK
    · have := h.old b hK; omega
/-- One block more is kept: a new one. -/
theorem Held.more (h : Held Rep w0 W K v m l) (hk : ∀ {W' : World} {F : Nat → Prop}, Rep W F v m l → (∀ b, F b → W'.heap[b]? = W.heap[b]?) → Rep W' F v m l) (hb : Below W.heap.size W W') (hK : ∀ b, K' b → K b ∨ (W.heap.size ≤ b ∧ b < W'.heap.size)) : Held Rep w0 W' K' v m l := by
  obtain ⟨F, h⟩ := h
  refine ⟨F, hk h.rep (fun b hf => hb.block b (h.lt b hf)), fun b hf => Nat.lt_of_lt_of_le (h.lt b hf) hb.size, h.ge, fun b hf hk' => ?_, h.bel.trans (hb.mono h.bel.size), fun b hk' => ?_⟩
  · rcases hK b hk' with h4 | h4
    · exact h.apart b hf h4
    · have := h.lt b hf; omega
  · rcases hK b hk' with h4 | h4
    · exact Nat.lt_of_lt_of_le (h.old b h4) hb.size
    · exact h4.2
theorem Held.less (h : Held Rep w0 W K v m l) (hK : ∀ b, K' b → K b) : Held Rep w0 W K' v m l := by
  obtain ⟨F, h⟩ := h
  exact ⟨F, h.rep, h.lt, h.ge, fun b hf hk => h.apart b hf (hK b hk), h.bel, fun b hb => h.old b (hK b hb)⟩
end
/-- A table stays where its memory does. -/
def KeepR {δ : Type} (RB : World → (Nat → Prop) → Value → Nat → δ → Prop) : Prop := ∀ (W W' : World) (F : Nat → Prop) (v : Value) (m : Nat) (l : δ), RB W F v m l → (∀ x, F x → W'.heap[x]? = W.heap[x]?) → RB W' F v m l
structure TwoIn {γ δ : Type} (RA : World → (Nat → Prop) → Value → Nat → γ → Prop) (RB : World → (Nat → Prop) → Value → Nat → δ → Prop) (w0 W : World) (X FA FB : Nat → Prop) (a b : Value) (m : Nat) (la : γ) (lb : δ) : Prop where
  ra : RA W FA a m la
  rb : RB W FB b m lb
  lta : ∀ x, FA x → x < W.heap.size
  ltb : ∀ x, FB x → x < W.heap.size
  gea : ∀ x, FA x → w0.heap.size ≤ x
  geb : ∀ x, FB x → w0.heap.size ≤ x
  ab : ∀ x, FA x → ¬ FB x
  ax : ∀ x, FA x → ¬ X x
  bx : ∀ x, FB x → ¬ X x
  bel : Below w0.heap.size w0 W
  old : ∀ x, X x → x < W.heap.size
def Two {γ δ : Type} (RA : World → (Nat → Prop) → Value → Nat → γ → Prop) (RB : World → (Nat → Prop) → Value → Nat → δ → Prop) (w0 W : World) (X : Nat → Prop) (a b : Value) (m : Nat) (la : γ) (lb : δ) : Prop := ∃ FA FB, TwoIn RA RB w0 W X FA FB a b m la lb
section
variable {γ δ : Type} {RA : World → (Nat → Prop) → Value → Nat → γ → Prop} {RB : World → (Nat → Prop) → Value → Nat → δ → Prop} {w0 W W' : World} {X X' FA FB : Nat → Prop} {a b : Value} {m : Nat} {la la' : γ} {lb : δ}
theorem Two.bel (h : Two RA RB w0 W X a b m la lb) : Below w0.heap.size w0 W := by obtain ⟨_, _, h⟩ := h; exact h.bel
theorem TwoIn.swap (h : TwoIn RA RB w0 W X FA FB a b m la lb) : TwoIn RB RA w0 W X FB FA b a m lb la := ⟨h.rb, h.ra, h.ltb, h.lta, h.geb, h.gea, fun x hx hy => h.ab x hy hx, h.bx, h.ax, h.bel, h.old⟩
theorem Two.swap (h : Two RA RB w0 W X a b m la lb) : Two RB RA w0 W X b a m lb la := by obtain ⟨FA, FB, h⟩ := h; exact ⟨FB, FA, h.swap⟩
theorem TwoIn.move (h : TwoIn RA RB w0 W X FA FB a b m la lb) (hlt : ∀ {W : World} {F : Nat → Prop} {l : γ}, RA W F a m l → ∀ b, F b → b < W.heap.size) (hkb : ∀ {W' : World}, (∀ x, FB x → W'.heap[x]? = W.heap[x]?) → RB W' FB b m lb)
    (hm : Moved RA FA W W' a m la') : Two RA RB w0 W' X a b m la' lb ∧ Keep X W W' := by
  obtain ⟨F', h1, h2, h3⟩ := hm
  have hsz := h2.size
  refine ⟨⟨F', FB, h1, hkb (fun x hx => h2.block x (h.ltb x hx) (fun hA => h.ab x hA hx)), hlt h1, fun x hx => Nat.lt_of_lt_of_le (h.ltb x hx) hsz, fun x hx => ?_, h.geb, fun x hx hy => ?_, fun x hx hy => ?_, h.bx, h.bel.trans (h2.below h.bel.size h.gea), fun x hx => Nat.lt_of_lt_of_le (h.old x hx) hsz⟩, fun x hx => h2.block x (h.old x hx) (fun hA => h.ax x hA hx)⟩
  · rcases h3 x hx with h4 | h4
    · exact h.gea x h4
    · exact Nat.le_trans h.bel.size h4
  · rcases h3 x hx with h4 | h4
    · exact h.ab x h4 hy
    · have := h.ltb x hy; omega
  · rcases h3 x hx with h4 | h4
    · exact h.ax x h4 hy
    · have := h.old x hy; omega
theorem Two.more (h : Two RA RB w0 W X a b m la lb) (hka : KeepR RA) (hkb : KeepR RB)
    (hb : Below W.heap.size W W') (hX : ∀ x, X' x → X x ∨ (W.heap.size ≤ x ∧ x < W'.heap.size)) : Two RA RB w0 W' X' a b m la lb := by
  obtain ⟨FA, FB, h⟩ := h
  refine ⟨FA, FB, hka _ _ _ _ _ _ h.ra (fun x hx => hb.block x (h.lta x hx)), hkb _ _ _ _ _ _ h.rb (fun x hx => hb.block x (h.ltb x hx)), fun x hx => Nat.lt_of_lt_of_le (h.lta x hx) hb.size, fun x hx => Nat.lt_of_lt_of_le (h.ltb x hx) hb.size, h.gea, h.geb, h.ab, fun x hx hy => ?_, fun x hx hy => ?_, h.bel.trans (hb.mono h.bel.size), fun x hx => ?_⟩
  · rcases hX x hy with h4 | h4
    · exact h.ax x hx h4
    · have := h.lta x hx; omega
  · rcases hX x hy with h4 | h4
    · exact h.bx x hx h4
    · have := h.ltb x hx; omega
  · rcases hX x hx with h4 | h4
    · exact Nat.lt_of_lt_of_le (h.old x h4) hb.size
    · exact h4.2
theorem Two.less (h : Two RA RB w0 W X a b m la lb) (hX : ∀ x, X' x → X x) : Two RA RB w0 W X' a b m la lb := by
  obtain ⟨FA, FB, h⟩ := h
  exact ⟨FA, FB, h.ra, h.rb, h.lta, h.ltb, h.gea, h.geb, h.ab, fun x hx hy => h.ax x hx (hX x hy), fun x hx hy => h.bx x hx (hX x hy), h.bel, fun x hx => h.old x (hX x hx)⟩
end
section
variable {γ δ : Type} {Rep : World → (Nat → Prop) → Value → Nat → γ → Prop} {w0 W : World} {a b : Value} {m : Nat} {l : γ}
/-- A second table is made beside the first. -/
theorem Two.start {RA : World → (Nat → Prop) → Value → Nat → δ → Prop} {la : δ} {W' : World} (h : Held RA w0 W (fun _ => False) a m la) (hka : KeepR RA) {F : Nat → Prop}
    (hr : Rep W' F b m l) (hlt : ∀ x, F x → x < W'.heap.size) (hge : ∀ x, F x → W.heap.size ≤ x) (hb : Below W.heap.size W W') : Two RA Rep w0 W' (fun _ => False) a b m la l := by
  obtain ⟨FA, h⟩ := h
  exact ⟨FA, F, hka _ _ _ _ _ _ h.rep (fun x hx => hb.block x (h.lt x hx)), hr, fun x hx => Nat.lt_of_lt_of_le (h.lt x hx) hb.size, hlt, h.ge, fun x hx => Nat.le_trans h.bel.size (hge x hx), fun x hx hy => by have := h.lt x hx; have := hge x hy; omega, fun _ _ h => h, fun _ _ h => h, h.bel.trans (hb.mono h.bel.size), fun _ h => h.elim⟩
end
end Go.Proofs.YtebchoeeohmlaaaDoor.Cache
