/-
  The program's own store: where it lies; burn.
-/
import Derived.Test.YtpnkcacmmjmehaaDoorStorePlain
import Derived.Test.YtpnkcacmmjmehaaDoorApart
import Derived.Test.YtpnkcacmmjmehaaDoorProg
import Derived.WalkSmall
import Derived.WalkMore
import Derived.OwnWalk
namespace Go.Proofs.YtpnkcacmmjmehaaDoor.Store
open Go Go.RowKit Go.Proofs.YtpnkcacmmjmehaaDoor.Aid Go.Proofs.YtpnkcacmmjmehaaDoor.Cache

def stP (Bv : Value) (z : Int) (m : Nat) (s : St) (j : Nat) : Value := if j = 0 then .int .i64 (m : Int) else if j = 1 then Bv else if j = 2 then .int .i64 (s.sure : Int) else if j = 3 then .bool s.down else .int .i64 z
theorem stP0 (Bv : Value) (z : Int) (m : Nat) (s : St) : stP Bv z m s 0 = .int .i64 (m : Int) := rfl
theorem stP1 (Bv : Value) (z : Int) (m : Nat) (s : St) : stP Bv z m s 1 = Bv := rfl
theorem stP2 (Bv : Value) (z : Int) (m : Nat) (s : St) : stP Bv z m s 2 = .int .i64 (s.sure : Int) := rfl
theorem stP3 (Bv : Value) (z : Int) (m : Nat) (s : St) : stP Bv z m s 3 = .bool s.down := rfl
theorem stP4 (Bv : Value) (z : Int) (m : Nat) (s : St) : stP Bv z m s 4 = .int .i64 z := rfl
structure OwnStIn (W : World) (F : Nat → Prop) (g : Nat) (Bv : Value) (z : Int) (m : Nat) (s : St) : Prop where
  row : W.rowIs g 45 5 (stP Bv z m s)
  fg : F g
  lt : ∀ b, F b → b < W.heap.size
  own : Own W 0 s.n s.e Bv
  inF : ∀ b, Bv.ownBlock = some b → F b ∧ b ≠ g
  ok : s.ok m
  burn : s.burn = max z (-1)
  lo : -9223372036854775808 ≤ z
def RepOwn (W : World) (F : Nat → Prop) (v : Value) (m : Nat) (s : St) : Prop := ∃ g Bv z, v = .pointer (some ⟨g, 0, none⟩) ∧ OwnStIn W F g Bv z m s
section
variable {W W' : World} {F : Nat → Prop} {g m : Nat} {Bv : Value} {z : Int} {s s' : St}
theorem OwnStIn.kept (h : OwnStIn W F g Bv z m s) (hk : ∀ b, F b → W'.heap[b]? = W.heap[b]?) : OwnStIn W' F g Bv z m s :=
  ⟨h.row.of_block (hk g h.fg), h.fg, fun b hb => by
    have h1 := hk b hb
    rw [Array.getElem?_eq_getElem (h.lt b hb)] at h1
    exact (Array.getElem?_eq_some_iff.1 h1).1, h.own.keep (fun b hb => hk b (h.inF b hb).1), h.inF, h.ok, h.burn, h.lo⟩
theorem OwnStIn.below (h : OwnStIn W F g Bv z m s) (hb : Below W.heap.size W W') : OwnStIn W' F g Bv z m s := h.kept (fun b hf => hb.block b (h.lt b hf))
/-- A cell of it set. -/
theorem OwnStIn.put (h : OwnStIn W F g Bv z m s) {z' : Int} (j : Nat) (u : Value) (hu : ∀ i, i < 5 → (if i = j then u else stP Bv z m s i) = stP Bv z' m s' i) (hn : s'.n = s.n) (he : s'.e = s.e) (hok : s'.ok m) (hz : s'.burn = max z' (-1)) (hlo : -9223372036854775808 ≤ z') :
    OwnStIn (W.setCell ⟨g, j, none⟩ u) F g Bv z' m s' ∧ Cache.Leaves F W (W.setCell ⟨g, j, none⟩ u) := by
  have oth : ∀ b, b ≠ g → (W.setCell ⟨g, j, none⟩ u).heap[b]? = W.heap[b]? := fun b hb => heap_setCell_other _ _ _ _ (by simpa using hb)
  have hsz : (W.setCell ⟨g, j, none⟩ u).heap.size = W.heap.size := by simp [World.setCell]
  refine ⟨⟨(h.row.set j u).congr (fun i hi => hu i hi), h.fg, fun b hb => by rw [hsz]; exact h.lt b hb, ?_, h.inF, hok, hz, hlo⟩, ⟨rfl, rfl, rfl, by rw [hsz]; exact Nat.le_refl _, fun b _ hn => oth b (fun e => hn (e ▸ h.fg))⟩⟩
  rw [hn, he]
  exact h.own.keep (fun b hb => oth b (h.inF b hb).2)
theorem moved_own {w : World} (h : OwnStIn W F g Bv z m s) (hl : Cache.Leaves F w W) : Moved RepOwn F w W (.pointer (some ⟨g, 0, none⟩)) m s := ⟨F, ⟨g, Bv, z, rfl, h⟩, hl, fun _ hb => .inl hb⟩
end
theorem Own.behind {F : Nat → Prop} {w w1 W : World} {v : Value} {m : Nat} {s : St} (h : Moved RepOwn F w1 W v m s) (hl : Cache.Leaves F w w1) : Moved RepOwn F w W v m s := by
  obtain ⟨F', h1, h2, h3⟩ := h
  exact ⟨F', h1, hl.trans h2 (fun x hx _ => hx), fun b hb => (h3 b hb).imp_right (fun h => Nat.le_trans hl.size h)⟩
/-- What burning leaves, and what it answers. -/
theorem burn_any {w : World} {F : Nat → Prop} {g : Nat} {Bv : Value} {z : Int} {m : Nat} {s : St} (h : OwnStIn w F g Bv z m s) :
    Calls Tryd.prog 29 #[.pointer (some ⟨g, 0, none⟩)] w fun e w' => e = .returned (.int .i64 (if power s = true then 0 else 8)) ∧ (∃ z', OwnStIn w' F g Bv z' m (burnS s)) ∧ Cache.Leaves F w w' := by
  have c3 := h.row.cell (i := 3) (by omega)
  have c4 := h.row.cell (i := 4) (by omega)
  have f3 := h.row.frozen 3
  have f4 := h.row.frozen 4
  rw [stP3] at c3
  rw [stP4] at c4
  have hok := h.ok
  have hbu := h.burn
  have hlo := h.lo
  have H0 := Lib.hid h
  cases hd : s.down with
  | true =>
    rw [hd] at c3
    have hs : burnS s = { s with down := true } := by unfold burnS; rw [if_pos (.inl hd)]
    have hp : power s = false := by unfold power; rw [hd]; rfl
    have HP := Lib.hid (h.put 3 (.bool true) (s' := burnS s) (fun i hi => by rw [hs]; match i, hi with | 0, _ => rfl | 1, _ => rfl | 2, _ => rfl | 3, _ => rfl | 4, _ => rfl) (burn_n s).1 (burn_n s).2.1 (burn_ok h.ok) (by rw [hs]; exact hbu) hlo)
    rw [hp]
    clear h hok hs hp hbu hlo
    go_enter Tryd.func29, Tryd.ntmps29
    go_wp2
    go_ret
    exact ⟨rfl, ⟨_, HP.out.1⟩, HP.out.2⟩
  | false =>
    rw [hd] at c3
    by_cases hz0 : z = 0
    · have hb0 : s.burn = 0 := by rw [hbu, hz0]; rfl
      have hs : burnS s = { s with down := true } := by unfold burnS; rw [if_pos (.inr hb0)]
      have hp : power s = false := by unfold power; rw [hd, hb0]; rfl
      have HP := Lib.hid (h.put 3 (.bool true) (s' := burnS s) (fun i hi => by rw [hs]; match i, hi with | 0, _ => rfl | 1, _ => rfl | 2, _ => rfl | 3, _ => rfl | 4, _ => rfl) (burn_n s).1 (burn_n s).2.1 (burn_ok h.ok) (by rw [hs]; exact hbu) hlo)
      rw [hp]
      rw [hz0] at c4
      clear h hok hs hp hb0 hbu hlo
      go_enter Tryd.func29, Tryd.ntmps29
      go_wp2
      go_ret
      exact ⟨rfl, ⟨_, HP.out.1⟩, HP.out.2⟩
    · have hb0 : ¬ s.burn = 0 := by rw [hbu]; omega
      have hp : power s = true := by unfold power; rw [hd, decide_eq_false hb0]; rfl
      rw [hp]
      have q0 : (z == 0) = false := by simp [hz0]
      by_cases hz1 : 0 < z
      · have hs : burnS s = { s with burn := s.burn - 1 } := by unfold burnS; rw [if_neg (by rw [hd]; simp [hb0]), if_pos (by rw [hbu]; omega)]
        have HP := Lib.hid (h.put 4 (.int .i64 (z - 1)) (s' := burnS s) (z' := z - 1) (fun i hi => by rw [hs]; match i, hi with | 0, _ => rfl | 1, _ => rfl | 2, _ => rfl | 3, _ => rfl | 4, _ => rfl) (burn_n s).1 (burn_n s).2.1 (burn_ok h.ok) (by rw [hs]; show s.burn - 1 = _; omega) (by omega))
        have hw : wrap64 (z - 1) = z - 1 := by unfold wrap64; have := hok.hi; omega
        clear h hok hs hp hbu hlo hb0
        go_enter Tryd.func29, Tryd.ntmps29
        go_wp2
        try rw [hw]
        go_ret
        exact ⟨rfl, ⟨_, HP.out.1⟩, HP.out.2⟩
      · have hs : burnS s = s := by unfold burnS; rw [if_neg (by rw [hd]; simp [hb0]), if_neg (by rw [hbu]; omega)]
        rw [hs]
        clear h hok hs hp hbu hlo hb0
        go_enter Tryd.func29, Tryd.ntmps29
        go_wp2
        go_ret
        exact ⟨rfl, ⟨_, H0.out⟩, Cache.Leaves.refl _ _⟩
end Go.Proofs.YtpnkcacmmjmehaaDoor.Store
