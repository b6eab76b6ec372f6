/-
  What JournalSure holds while it goes on.
-/
import Derived.Test.YtpnkcacmmjmehaaDoorWayL
import Derived.Test.YtpnkcacmmjmehaaDoorRefSame14
import Derived.Test.YtpnkcacmmjmehaaDoorLaw14Awake
namespace Go.Proofs.YtpnkcacmmjmehaaDoor.Law14
open Go Go.RowKit Go.Proofs.YtpnkcacmmjmehaaDoor.Aid Go.Proofs.YtpnkcacmmjmehaaDoor.Cache Go.Proofs.YtpnkcacmmjmehaaDoor.Store Go.Proofs.YtpnkcacmmjmehaaDoor.Jour

structure SureAt (w wx : World) (X : Nat → Prop) (L Lw : List By) (Sv Wv : Value) : Prop where
  sv : PartsP wx (okB w X) L Sv
  wv : PartsP wx (okB w X) Lw Wv
  nil : L = [] → Sv = .slice none 0 0
theorem SureAt.keep {w wx wy : World} {X X' : Nat → Prop} {L Lw : List By} {Sv Wv : Value} (h : SureAt w wx X L Lw Sv Wv) (hb : Below w.heap.size w wx) (hb2 : Below w.heap.size w wy) (hk : Keep X wx wy) (hX : ∀ b, X b → X' b) : SureAt w wy X' L Lw Sv Wv := by
  have hkk : ∀ b, b < wx.heap.size → okB w X b → wy.heap[b]? = wx.heap[b]? := fun b _ hb' => by
    rcases hb' with h1 | h1
    · rw [hb2.block b h1, hb.block b h1]
    · exact hk b h1
  have hl : ∀ b, b < wy.heap.size → okB w X b → okB w X' b := fun b _ hb' => hb'.imp_right (hX b)
  exact ⟨(h.sv.keep hkk).less hl, (h.wv.keep hkk).less hl, h.nil⟩
theorem SureAt.below {w wx wy : World} {X X' : Nat → Prop} {L Lw : List By} {Sv Wv : Value} (h : SureAt w wx X L Lw Sv Wv) (hb : Below wx.heap.size wx wy) (hX : ∀ b, X b → X' b) : SureAt w wy X' L Lw Sv Wv := by
  have hl : ∀ b, b < wy.heap.size → okB w X b → okB w X' b := fun b _ hb' => hb'.imp_right (hX b)
  exact ⟨(h.sv.below hb).less hl, (h.wv.below hb).less hl, h.nil⟩
theorem SureAt.way {w wx : World} {X : Nat → Prop} {L Lw L2 : List By} {Sv Wv v2 : Value} (h : SureAt w wx X L Lw Sv Wv) (hp : PartsP wx (okB w X) L2 v2) : SureAt w wx X L L2 Sv v2 := ⟨h.sv, hp, h.nil⟩
theorem parts_snoc {W1 V : World} {P P' : Nat → Prop} {L : List By} {As : Option Addr} {rs : List Value} (hv : Vals W1 P L As rs) (hb : Below W1.heap.size W1 V) {x : By} {r : Value} (hx : BytesIn V P x.length (fnL x) r) {base : Nat} {v2 : Value} (ho : OwnV V base 35 v2 (rs ++ [r]))
    (hP : ∀ b, P b → P' b) (hv2 : ∀ b, v2.ownBlock = some b → P' b) : PartsP V P' (L ++ [x]) v2 := by
  refine parts_own ho (by simp [hv.len]) (P := P) (fun i y u hy hu => ?_) hP hv2
  by_cases hi : i < L.length
  · rw [List.getElem?_append_left hi] at hy
    rw [List.getElem?_append_left (by rw [hv.len]; exact hi)] at hu
    exact (hv.bytes i y u hy hu).below hb
  · rw [List.getElem?_append_right (by omega)] at hy
    rw [List.getElem?_append_right (by rw [hv.len]; omega), hv.len] at hu
    have h0 : i - L.length = 0 := by have := (List.getElem?_eq_some_iff.1 hy).1; simp at this; omega
    rw [h0] at hy hu
    simp only [List.getElem?_cons_zero, Option.some.injEq] at hy hu
    subst hy hu
    exact hx
section
variable {RS : RepSt} {RJ : RepJ} {D : By → By}
/-- Ahead of an operation. -/
def LoopI (RS : RepSt) (RJ : RepJ) (D : By → By) (w wx : World) (s j : Value) (L Lw : List By) (Sv Wv : Value) (down : Bool) : Prop :=
  ∃ X st, SureAt w wx X L Lw Sv Wv ∧ ((down = false ∧ JT RS RJ w wx X s j 1048576 st L ∧ JGood D 1048576 st L) ∨ (down = true ∧ Held RS w wx X s 1048576 st ∧ JGone D 1048576 st L Lw))
/-- Behind it. -/
def Aft (RS : RepSt) (RJ : RepJ) (D : By → By) (w wx : World) (s j : Value) (L Lw : List By) (Sv Wv : Value) (cd : Int) : Prop :=
  ∃ X st, SureAt w wx X L Lw Sv Wv ∧ ((cd = 0 ∧ JT RS RJ w wx X s j 1048576 st Lw ∧ JGood D 1048576 st Lw) ∨ (cd = 7 ∧ JT RS RJ w wx X s j 1048576 st L ∧ JGood D 1048576 st L) ∨ (cd = 8 ∧ Held RS w wx X s 1048576 st ∧ JGone D 1048576 st L Lw))
/-- Whatever the loop left. -/
def Left (RS : RepSt) (D : By → By) (w wx : World) (s : Value) (L Lw : List By) (Sv Wv : Value) : Prop :=
  ∃ X st, SureAt w wx X L Lw Sv Wv ∧ Held RS w wx X s 1048576 st ∧ JGone D 1048576 st L Lw
theorem LoopI.left {w wx : World} {s j : Value} {L Lw : List By} {Sv Wv : Value} {down : Bool} (h : LoopI RS RJ D w wx s j L Lw Sv Wv down) : Left RS D w wx s L Lw Sv Wv := by
  obtain ⟨X, st, h1, h2⟩ := h
  rcases h2 with ⟨_, h3, h4⟩ | ⟨_, h3, h4⟩
  · exact ⟨X, st, h1, JT.held h3, h4.gone Lw⟩
  · exact ⟨X, st, h1, h3, h4⟩
theorem LoopI.bel {w wx : World} {s j : Value} {L Lw : List By} {Sv Wv : Value} {down : Bool} (h : LoopI RS RJ D w wx s j L Lw Sv Wv down) : Below w.heap.size w wx := by
  obtain ⟨X, st, h1, h2⟩ := h
  rcases h2 with ⟨_, h3, h4⟩ | ⟨_, h3, h4⟩
  · exact h3.bel
  · exact h3.bel
theorem gone_n (hD : ∀ x, (D x).length = 8) {m : Nat} {st : St} {L Lw : List By} (h : JGone D m st L Lw) : st.n ≤ (encAll D L).length + 1010 := by
  obtain ⟨p, hb, hp⟩ := h.bytes
  rw [← bytes_len, hb, List.length_append]
  rcases hp with rfl | ⟨y, hy, hpre, _⟩
  · simp
  · have := hpre.length_le
    rw [enc_len hD] at this
    omega
theorem good_n {m : Nat} {st : St} {L : List By} (h : JGood D m st L) : st.n = (encAll D L).length := by rw [← bytes_len, h.bytes]
/-- bartizanref14.Same. -/
theorem refSame14 (M N : List By) (P Q : Nat → Prop) (a b : Value) (w : World) (ha : PartsP w P M a) (hb : PartsP w Q N b) (hl : M.length ≤ 1000000) (hM : ∀ x ∈ M, x.length ≤ 1000000) :
    Calls Tryd.prog 12 #[a, b] w fun x w' => (∃ t : Bool, x = .returned (.bool t) ∧ (M = N → t = true)) ∧ Below w.heap.size w w' := by
  have HS := Lib.hid (refSame_all M N P Q a b w ha hb hl hM)
  clear ha hb
  go_enter Tryd.func12, Tryd.ntmps12
  go_wp2_with fail
  refine HS.out.mono ?_
  rintro x w1 ⟨⟨t, rfl, ht⟩, hb⟩
  have HT := Lib.hid ht
  have HB := Lib.hid hb
  clear ht hb HS
  go_wp2
  go_ret
  exact ⟨⟨t, rfl, HT.out⟩, HB.out⟩
theorem info_recs : (Tryd.prog.info? 35).map (fun i => (i.zero, i.size, i.bytes)) = some (some (.slice none 0 0), 1, 24) := by kernel_rfl
end
end Go.Proofs.YtpnkcacmmjmehaaDoor.Law14
