/-
  What Add, Only and Open make of a store and of a journal's records; a crash in between.
-/
import Derived.Test.YtpnkcacmmjmehaaDoorJourPlain
namespace Go.Proofs.YtpnkcacmmjmehaaDoor.Jour
open Go Go.RowKit Go.Proofs.YtpnkcacmmjmehaaDoor.Aid Go.Proofs.YtpnkcacmmjmehaaDoor.Store

def bytesL (s : St) : By := (List.range s.n).map s.e
def fnL (b : By) (j : Nat) : BitVec 8 := b.getD j 0
theorem bytes_len (s : St) : (bytesL s).length = s.n := by simp [bytesL]
theorem range_fn (b : By) : (List.range b.length).map (fnL b) = b := by
  refine List.ext_getElem (by simp) fun j h1 h2 => ?_
  simp only [List.getElem_map, List.getElem_range]
  unfold fnL
  rw [List.getD_eq_getElem?_getD, List.getElem?_eq_getElem h2]
  rfl
theorem bytes_cat (s t : St) (b : By) (hn : t.n = s.n + b.length) (he : t.e = cat s.e s.n (fnL b)) : bytesL t = bytesL s ++ b := by
  unfold bytesL
  rw [hn, he, List.range_add, List.map_append]
  congr 1
  · refine List.map_congr_left fun j hj => ?_
    unfold cat
    rw [if_pos (List.mem_range.1 hj)]
  · rw [List.map_map]
    refine Eq.trans (List.map_congr_left fun j hj => ?_) (range_fn b)
    show cat s.e s.n (fnL b) (s.n + j) = fnL b j
    unfold cat
    rw [if_neg (by omega)]
    congr 1
    omega
theorem bytes_take (s t : St) (k : Nat) (hk : k ≤ s.n) (hn : t.n = k) (he : t.e = s.e) : bytesL t = (bytesL s).take k := by
  unfold bytesL
  rw [hn, he, ← List.map_take, List.take_range, Nat.min_eq_left hk]
theorem bytes_same (s t : St) (hn : t.n = s.n) (he : t.e = s.e) : bytesL t = bytesL s := by unfold bytesL; rw [hn, he]
theorem bytes_fn (t : St) (b : By) (hn : t.n = b.length) (he : t.e = fnL b) : bytesL t = b := by
  unfold bytesL
  rw [hn, he]
  exact range_fn b
section
variable (D : By → By) (m : Nat)
/-- Add. -/
def addC (st : St) (x : By) : Int :=
  if 1000 < x.length then 7 else if appC m st (enc D x).length = 0 then syncC (appS m st (enc D x).length (fnL (enc D x))) else appC m st (enc D x).length
def addS (st : St) (x : By) : St :=
  if 1000 < x.length then st else if appC m st (enc D x).length = 0 then syncS (appS m st (enc D x).length (fnL (enc D x))) else appS m st (enc D x).length (fnL (enc D x))
def addL (st : St) (L : List By) (x : By) : List By := if addC D m st x = 0 then L ++ [x] else L
/-- Only. -/
def onlyC (st : St) (M : List By) : Int := if ∃ x ∈ M, 1000 < x.length then 7 else repC m st (encAll D M).length
noncomputable def onlyS (st : St) (M : List By) : St := if ∃ x ∈ M, 1000 < x.length then st else repS m st (encAll D M).length (fnL (encAll D M))
noncomputable def onlyL (st : St) (L M : List By) : List By := if onlyC D m st M = 0 then M else L
/-- Open: what is torn is cut off. -/
def openS (st : St) (t : By) : St := if t = [] then st else repS m st (st.n - t.length) st.e
structure JGood (st : St) (L : List By) : Prop where
  bytes : bytesL st = encAll D L
  sure : st.sure = st.n
  small : ∀ x ∈ L, x.length ≤ 1000
  ok : st.ok m
/-- Power is gone: behind what was sure there may be a beginning of one record more. -/
structure JGone (st : St) (L way : List By) : Prop where
  bytes : ∃ p, bytesL st = encAll D L ++ p ∧ (p = [] ∨ ∃ y : By, y.length ≤ 1000 ∧ p <+: enc D y ∧ way = L ++ [y])
  sure : st.sure = (encAll D L).length ∨ st.sure = st.n
  small : ∀ x ∈ L, x.length ≤ 1000
  ok : st.ok m
end
section
variable {D : By → By} {m : Nat}
theorem burn_bytes (st : St) : bytesL (burnS st) = bytesL st := bytes_same _ _ (burn_n st).1 (burn_n st).2.1
theorem good_burn {st : St} {L : List By} (h : JGood D m st L) : JGood D m (burnS st) L :=
  ⟨(burn_bytes st).trans h.bytes, by rw [(burn_n st).2.2, (burn_n st).1]; exact h.sure, h.small, burn_ok h.ok⟩
theorem JGood.gone {st : St} {L : List By} (h : JGood D m st L) (way : List By) : JGone D m st L way := ⟨⟨[], by rw [h.bytes, List.append_nil], .inl rfl⟩, .inr h.sure, h.small, h.ok⟩
theorem small_snoc {L : List By} {x : By} (h : ∀ x ∈ L, x.length ≤ 1000) (hx : x.length ≤ 1000) : ∀ y ∈ L ++ [x], y.length ≤ 1000 := fun y hy => by
  rcases List.mem_append.1 hy with h1 | h1
  · exact h y h1
  · rw [List.mem_singleton.1 h1]; exact hx
theorem add_step {st : St} {L : List By} {x : By} (h : JGood D m st L) :
    (addC D m st x = 0 ∧ JGood D m (addS D m st x) (L ++ [x]) ∧ addL D m st L x = L ++ [x]) ∨ (addC D m st x = 7 ∧ JGood D m (addS D m st x) L ∧ addL D m st L x = L) ∨ (addC D m st x = 8 ∧ JGone D m (addS D m st x) L (L ++ [x])) := by
  by_cases hx : 1000 < x.length
  · have hc : addC D m st x = 7 := by unfold addC; rw [if_pos hx]
    exact .inr (.inl ⟨hc, by unfold addS; rw [if_pos hx]; exact h, by unfold addL; rw [hc, if_neg (by omega)]⟩)
  have hx' : x.length ≤ 1000 := by omega
  by_cases hp : power st = true
  · by_cases hf : st.n + (enc D x).length ≤ m
    · have ha : appC m st (enc D x).length = 0 := by unfold appC; rw [if_pos hp, if_pos hf]
      have hs : appS m st (enc D x).length (fnL (enc D x)) = { burnS st with n := st.n + (enc D x).length, e := cat st.e st.n (fnL (enc D x)) } := by unfold appS; rw [if_pos ⟨hp, hf⟩]
      have hb : bytesL (appS m st (enc D x).length (fnL (enc D x))) = encAll D L ++ enc D x := by
        rw [bytes_cat st _ (enc D x) (by rw [hs]) (by rw [hs]), h.bytes]
      have hok := app_ok h.ok (enc D x).length (fnL (enc D x))
      have hsu : (appS m st (enc D x).length (fnL (enc D x))).sure = (encAll D L).length := by
        rw [hs]
        show (burnS st).sure = _
        rw [(burn_n st).2.2, h.sure, ← bytes_len, h.bytes]
      have eC : addC D m st x = syncC (appS m st (enc D x).length (fnL (enc D x))) := by unfold addC; rw [if_neg hx, if_pos ha]
      have eS : addS D m st x = syncS (appS m st (enc D x).length (fnL (enc D x))) := by unfold addS; rw [if_neg hx, if_pos ha]
      generalize appS m st (enc D x).length (fnL (enc D x)) = t at *
      by_cases hp2 : power t = true
      · have c0 : addC D m st x = 0 := by rw [eC]; unfold syncC; rw [if_pos hp2]
        have s0 : syncS t = { burnS t with sure := t.n } := by unfold syncS; rw [if_pos hp2]
        refine .inl ⟨c0, ⟨?_, ?_, small_snoc h.small hx', by rw [eS]; exact sync_ok hok⟩, by unfold addL; rw [if_pos c0]⟩
        · rw [eS, bytes_same t (syncS t) (by rw [s0]; exact (burn_n t).1) (by rw [s0]; exact (burn_n t).2.1), hb, encAll_append, encAll_one]
        · rw [eS, s0]
          exact (burn_n t).1.symm
      · have c0 : addC D m st x = 8 := by rw [eC]; unfold syncC; rw [if_neg hp2]
        have s0 : syncS t = burnS t := by unfold syncS; rw [if_neg hp2]
        refine .inr (.inr ⟨c0, ⟨⟨enc D x, by rw [eS, s0, burn_bytes, hb], .inr ⟨x, hx', List.prefix_refl _, rfl⟩⟩, .inl (by rw [eS, s0, (burn_n t).2.2]; exact hsu), h.small, by rw [eS]; exact sync_ok hok⟩⟩)
    · have ha : appC m st (enc D x).length = 7 := by unfold appC; rw [if_pos hp, if_neg hf]
      have hs : appS m st (enc D x).length (fnL (enc D x)) = burnS st := by unfold appS; rw [if_neg (fun h => hf h.2)]
      have c0 : addC D m st x = 7 := by unfold addC; rw [if_neg hx, ha, if_neg (by omega)]
      refine .inr (.inl ⟨c0, ?_, by unfold addL; rw [c0, if_neg (by omega)]⟩)
      have : addS D m st x = burnS st := by unfold addS; rw [if_neg hx, ha, if_neg (by omega), hs]
      rw [this]
      exact good_burn h
  · have ha : appC m st (enc D x).length = 8 := by unfold appC; rw [if_neg hp]
    have hs : appS m st (enc D x).length (fnL (enc D x)) = burnS st := by unfold appS; rw [if_neg (fun h => hp h.1)]
    have c0 : addC D m st x = 8 := by unfold addC; rw [if_neg hx, ha, if_neg (by omega)]
    refine .inr (.inr ⟨c0, ?_⟩)
    have : addS D m st x = burnS st := by unfold addS; rw [if_neg hx, ha, if_neg (by omega), hs]
    rw [this]
    exact (good_burn h).gone _
theorem only_step {st : St} {L M : List By} (h : JGood D m st L) :
    (onlyC D m st M = 0 ∧ JGood D m (onlyS D m st M) M ∧ onlyL D m st L M = M) ∨ (onlyC D m st M = 7 ∧ JGood D m (onlyS D m st M) L ∧ onlyL D m st L M = L) ∨ (onlyC D m st M = 8 ∧ JGone D m (onlyS D m st M) L M) := by
  by_cases hx : ∃ x ∈ M, 1000 < x.length
  · have hc : onlyC D m st M = 7 := by unfold onlyC; rw [if_pos hx]
    exact .inr (.inl ⟨hc, by unfold onlyS; rw [if_pos hx]; exact h, by unfold onlyL; rw [hc, if_neg (by omega)]⟩)
  have hsm : ∀ x ∈ M, x.length ≤ 1000 := fun x hM => Nat.le_of_not_lt (fun h1 => hx ⟨x, hM, h1⟩)
  have eC : onlyC D m st M = repC m st (encAll D M).length := by unfold onlyC; rw [if_neg hx]
  have eS : onlyS D m st M = repS m st (encAll D M).length (fnL (encAll D M)) := by unfold onlyS; rw [if_neg hx]
  by_cases hp : power st = true
  · by_cases hf : (encAll D M).length ≤ m
    · have c0 : onlyC D m st M = 0 := by rw [eC]; unfold repC; rw [if_pos hp, if_pos hf]
      have s0 : onlyS D m st M = { burnS st with n := (encAll D M).length, e := fnL (encAll D M), sure := (encAll D M).length } := by rw [eS]; unfold repS; rw [if_pos ⟨hp, hf⟩]
      refine .inl ⟨c0, ⟨bytes_fn _ _ (by rw [s0]) (by rw [s0]), by rw [s0], hsm, by rw [eS]; exact rep_ok h.ok _ _⟩, by unfold onlyL; rw [if_pos c0]⟩
    · have c0 : onlyC D m st M = 7 := by rw [eC]; unfold repC; rw [if_pos hp, if_neg hf]
      have s0 : onlyS D m st M = burnS st := by rw [eS]; unfold repS; rw [if_neg (fun h => hf h.2)]
      exact .inr (.inl ⟨c0, by rw [s0]; exact good_burn h, by unfold onlyL; rw [c0, if_neg (by omega)]⟩)
  · have c0 : onlyC D m st M = 8 := by rw [eC]; unfold repC; rw [if_neg hp]
    have s0 : onlyS D m st M = burnS st := by rw [eS]; unfold repS; rw [if_neg (fun h => hp h.1)]
    exact .inr (.inr ⟨c0, by rw [s0]; exact (good_burn h).gone _⟩)
/-- Behind a crash: what was sure, or one more. -/
theorem crash_scan (hD : ∀ x, (D x).length = 8) {st : St} {L way : List By} (h : JGone D m st L way) (k : Int) :
    ∃ R t, (R = L ∨ R = way) ∧ scan D (bytesL (crashS st k)) = some (R, t) ∧ bytesL (crashS st k) = encAll D R ++ t ∧ (∀ x ∈ R, x.length ≤ 1000) := by
  obtain ⟨p, hb, hp⟩ := h.bytes
  have hle := crash_le h.ok k
  have hcr : bytesL (crashS st k) = (bytesL st).take (crashN st k) := bytes_take st _ _ hle.1 rfl rfl
  have hlen : st.n = (encAll D L).length + p.length := by rw [← bytes_len, hb, List.length_append]
  have hge : (encAll D L).length ≤ crashN st k := by
    rcases h.sure with h1 | h1
    · rw [← h1]; exact hle.2
    · have := hle.2; omega
  have e1 : bytesL (crashS st k) = encAll D L ++ p.take (crashN st k - (encAll D L).length) := by
    rw [hcr, hb, List.take_append, List.take_of_length_le hge]
  rcases hp with rfl | ⟨y, hy, hpre, hw⟩
  · rw [List.take_nil] at e1
    exact ⟨L, [], .inl rfl, by rw [e1]; exact scan_all hD h.small (.inl rfl), e1, h.small⟩
  · have hpre2 : p.take (crashN st k - (encAll D L).length) <+: enc D y := List.IsPrefix.trans (List.take_prefix _ _) hpre
    generalize p.take (crashN st k - (encAll D L).length) = q at *
    by_cases hq : q.length < (enc D y).length
    · exact ⟨L, q, .inl rfl, by rw [e1]; exact scan_all hD h.small (.inr ⟨y, hy, hpre2, hq⟩), e1, h.small⟩
    · have hqe : q = enc D y := hpre2.eq_of_length (Nat.le_antisymm hpre2.length_le (Nat.le_of_not_lt hq))
      have e2 : bytesL (crashS st k) = encAll D way ++ [] := by rw [e1, hqe, hw, encAll_append, encAll_one, List.append_nil]
      have hs : ∀ x ∈ way, x.length ≤ 1000 := by rw [hw]; exact small_snoc h.small hy
      exact ⟨way, [], .inr rfl, by rw [e2]; exact scan_all hD hs (.inl rfl), e2, hs⟩
/-- What Open leaves: whole records. -/
theorem open_bytes {st : St} {R : List By} {t : By} (hb : bytesL st = encAll D R ++ t) (hok : st.ok m) (hu : st.burn = -1 ∧ st.down = false) : bytesL (openS m st t) = encAll D R ∧ (openS m st t).burn = -1 ∧ (openS m st t).down = false := by
  unfold openS
  by_cases h0 : t = []
  · subst h0
    rw [if_pos rfl]
    exact ⟨by rw [hb, List.append_nil], hu⟩
  · rw [if_neg h0]
    have hp : power st = true := by unfold power; rw [hu.1, hu.2]; rfl
    have hn := hok.n
    have hlen : st.n = (encAll D R).length + t.length := by rw [← bytes_len, hb, List.length_append]
    have hs : repS m st (st.n - t.length) st.e = { burnS st with n := st.n - t.length, e := st.e, sure := st.n - t.length } := by unfold repS; rw [if_pos ⟨hp, by omega⟩]
    have hbn : burnS st = st := by unfold burnS; rw [hu.1, hu.2, if_neg (by simp), if_neg (by omega)]
    rw [hbn] at hs
    refine ⟨?_, by rw [hs]; exact hu.1, by rw [hs]; exact hu.2⟩
    rw [bytes_take st _ (st.n - t.length) (by omega) (by rw [hs]) (by rw [hs]), hb, show st.n - t.length = (encAll D R).length by omega]
    exact List.take_left
theorem open_ok {st : St} (t : By) (hok : st.ok m) : (openS m st t).ok m := by
  unfold openS
  split
  · exact hok
  · exact rep_ok hok _ _
end
end Go.Proofs.YtpnkcacmmjmehaaDoor.Jour
