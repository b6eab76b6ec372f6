/-
  Votes and fused spans as plain integers: what the document's chapter on sweep says, and P7.3. No program is named here.
-/
import Derived.Test.YtmkmmpmhbahmeaaSpanPlain
namespace Go.Proofs.Ytmkmmpmhbahmeaa.Sweep
open Go Go.Proofs.Ytmkmmpmhbahmeaa.Span

def hasE (e : Nat → Int × Int) (t : Int) (i : Nat) : Bool := hasB (e i).1 (e i).2 t
theorem hasE_iff {e : Nat → Int × Int} {t : Int} {i : Nat} : hasE e t i = true ↔ (e i).1 ≤ t ∧ t ≤ (e i).2 := by unfold hasE hasB; simp
/-- How many of the first n spans have a time. -/
def votes (e : Nat → Int × Int) (t : Int) : Nat → Nat
  | 0 => 0
  | n + 1 => votes e t n + (hasE e t n).toNat
theorem votes_le (e : Nat → Int × Int) (t : Int) : ∀ n, votes e t n ≤ n
  | 0 => Nat.le_refl _
  | n + 1 => by
    have h1 := votes_le e t n
    have h2 := (hasE e t n).toNat_le
    show votes e t n + (hasE e t n).toNat ≤ n + 1
    omega
theorem votes_yes (e : Nat → Int × Int) (t : Int) (n : Nat) (h1 : (e n).1 ≤ t) (h2 : t ≤ (e n).2) : (votes e t (n + 1) : Int) = votes e t n + 1 := by
  show ((votes e t n + (hasE e t n).toNat : Nat) : Int) = _
  rw [hasE_iff.2 ⟨h1, h2⟩]
  simp
theorem votes_no (e : Nat → Int × Int) (t : Int) (n : Nat) (h : ¬ ((e n).1 ≤ t ∧ t ≤ (e n).2)) : (votes e t (n + 1) : Int) = votes e t n := by
  show ((votes e t n + (hasE e t n).toNat : Nat) : Int) = _
  have : hasE e t n = false := by cases hh : hasE e t n; rfl; exact absurd (hasE_iff.1 hh) h
  rw [this]
  simp
theorem votes_mono (e : Nat → Int × Int) (t u : Int) : ∀ n, (∀ i, i < n → hasE e t i = true → hasE e u i = true) → votes e t n ≤ votes e u n
  | 0, _ => Nat.le_refl _
  | n + 1, h => by
    have h1 := votes_mono e t u n (fun i hi => h i (by omega))
    have h2 := h n (by omega)
    show votes e t n + (hasE e t n).toNat ≤ votes e u n + (hasE e u n).toNat
    cases h3 : hasE e t n
    · simp; omega
    · rw [h2 h3]; simp; omega
theorem votes_congr (e f : Nat → Int × Int) (t : Int) : ∀ n, (∀ i, i < n → e i = f i) → votes e t n = votes f t n
  | 0, _ => rfl
  | n + 1, h => by
    show votes e t n + (hasE e t n).toNat = votes f t n + (hasE f t n).toNat
    rw [votes_congr e f t n (fun i hi => h i (by omega)), show hasE e t n = hasE f t n by unfold hasE; rw [h n (by omega)]]
/-- The first span apart. -/
theorem votes_first (e : Nat → Int × Int) (t : Int) : ∀ n, votes e t (n + 1) = (hasE e t 0).toNat + votes (fun i => e (i + 1)) t n
  | 0 => by simp [votes]
  | n + 1 => by
    show votes e t (n + 1) + (hasE e t (n + 1)).toNat = (hasE e t 0).toNat + (votes (fun i => e (i + 1)) t n + (hasE (fun i => e (i + 1)) t n).toNat)
    rw [votes_first e t n, Nat.add_assoc]
    rfl
/-- Turned about they have the same votes. -/
theorem votes_turn (t : Int) : ∀ (n : Nat) (e : Nat → Int × Int), votes (fun i => e (n - 1 - i)) t n = votes e t n
  | 0, _ => rfl
  | n + 1, e => by
    rw [votes_first e t n, ← votes_turn t n (fun i => e (i + 1))]
    show votes (fun i => e (n + 1 - 1 - i)) t n + (hasE (fun i => e (n + 1 - 1 - i)) t n).toNat = _
    rw [votes_congr _ (fun i => e (n - 1 - i + 1)) t n (fun i hi => by show e (n + 1 - 1 - i) = e (n - 1 - i + 1); congr 1; omega)]
    have : hasE (fun i => e (n + 1 - 1 - i)) t n = hasE e t 0 := by unfold hasE; simp
    rw [this]
    omega
/-- Where two times have more votes than there are spans, some span has both. -/
theorem votes_both (e : Nat → Int × Int) (t u : Int) : ∀ n, n < votes e t n + votes e u n → ∃ i, i < n ∧ hasE e t i = true ∧ hasE e u i = true
  | 0, h => by simp [votes] at h
  | n + 1, h => by
    have h' : n + 1 < votes e t n + (hasE e t n).toNat + (votes e u n + (hasE e u n).toNat) := h
    by_cases hb : hasE e t n = true ∧ hasE e u n = true
    · exact ⟨n, by omega, hb.1, hb.2⟩
    · have hs : (hasE e t n).toNat + (hasE e u n).toNat ≤ 1 := by
        cases h1 : hasE e t n <;> cases h2 : hasE e u n <;> simp_all
      obtain ⟨i, hi, hx⟩ := votes_both e t u n (by omega)
      exact ⟨i, by omega, hx⟩
theorem votes_pos (e : Nat → Int × Int) (t : Int) : ∀ (n j : Nat), j < n → hasE e t j = true → 0 < votes e t n
  | 0, _, h, _ => by omega
  | n + 1, j, h, hh => by
    show 0 < votes e t n + (hasE e t n).toNat
    by_cases e1 : j = n
    · subst e1; rw [hh]; simp
    · have := votes_pos e t n j (by omega) hh; omega
/-- Of the spans that have a time, one begins last. -/
theorem last_lo (e : Nat → Int × Int) (t : Int) : ∀ n, 1 ≤ votes e t n → ∃ i, i < n ∧ hasE e t i = true ∧ ∀ j, j < n → hasE e t j = true → (e j).1 ≤ (e i).1
  | 0, h => by simp [votes] at h
  | n + 1, h => by
    have h' : 1 ≤ votes e t n + (hasE e t n).toNat := h
    by_cases h0 : 1 ≤ votes e t n
    · obtain ⟨i, hi, hx, hm⟩ := last_lo e t n h0
      by_cases hn : hasE e t n = true ∧ (e i).1 < (e n).1
      · refine ⟨n, by omega, hn.1, fun j hj hh => ?_⟩
        by_cases e1 : j = n
        · subst e1; omega
        · have := hm j (by omega) hh; omega
      · refine ⟨i, by omega, hx, fun j hj hh => ?_⟩
        by_cases e1 : j = n
        · subst e1
          by_cases h2 : (e i).1 < (e j).1
          · exact absurd ⟨hh, h2⟩ hn
          · omega
        · exact hm j (by omega) hh
    · have hn : hasE e t n = true := by cases h2 : hasE e t n <;> simp_all
      have h00 : votes e t n = 0 := by omega
      refine ⟨n, by omega, hn, fun j hj hh => ?_⟩
      by_cases e1 : j = n
      · subst e1; omega
      · exact absurd (votes_pos e t n j (by omega) hh) (by omega)
/-- Of the spans that have a time, one ends first. -/
theorem first_hi (e : Nat → Int × Int) (t : Int) : ∀ n, 1 ≤ votes e t n → ∃ i, i < n ∧ hasE e t i = true ∧ ∀ j, j < n → hasE e t j = true → (e i).2 ≤ (e j).2
  | 0, h => by simp [votes] at h
  | n + 1, h => by
    have h' : 1 ≤ votes e t n + (hasE e t n).toNat := h
    by_cases h0 : 1 ≤ votes e t n
    · obtain ⟨i, hi, hx, hm⟩ := first_hi e t n h0
      by_cases hn : hasE e t n = true ∧ (e n).2 < (e i).2
      · refine ⟨n, by omega, hn.1, fun j hj hh => ?_⟩
        by_cases e1 : j = n
        · subst e1; omega
        · have := hm j (by omega) hh; omega
      · refine ⟨i, by omega, hx, fun j hj hh => ?_⟩
        by_cases e1 : j = n
        · subst e1
          by_cases h2 : (e j).2 < (e i).2
          · exact absurd ⟨hh, h2⟩ hn
          · omega
        · exact hm j (by omega) hh
    · have hn : hasE e t n = true := by cases h2 : hasE e t n <;> simp_all
      have h00 : votes e t n = 0 := by omega
      refine ⟨n, by omega, hn, fun j hj hh => ?_⟩
      by_cases e1 : j = n
      · subst e1; omega
      · exact absurd (votes_pos e t n j (by omega) hh) (by omega)
/-- Where a time has votes enough, a beginning ahead of it has, and an end behind it. -/
theorem to_lo (e : Nat → Int × Int) (t : Int) (n : Nat) (h : 1 ≤ votes e t n) : ∃ i, i < n ∧ (e i).1 ≤ t ∧ votes e t n ≤ votes e (e i).1 n := by
  obtain ⟨i, hi, hx, hm⟩ := last_lo e t n h
  refine ⟨i, hi, (hasE_iff.1 hx).1, votes_mono e t _ n fun j hj hh => ?_⟩
  have h1 := hasE_iff.1 hh
  have h2 := hasE_iff.1 hx
  have h3 := hm j hj hh
  exact hasE_iff.2 ⟨by omega, by omega⟩
theorem to_hi (e : Nat → Int × Int) (t : Int) (n : Nat) (h : 1 ≤ votes e t n) : ∃ i, i < n ∧ t ≤ (e i).2 ∧ votes e t n ≤ votes e (e i).2 n := by
  obtain ⟨i, hi, hx, hm⟩ := first_hi e t n h
  refine ⟨i, hi, (hasE_iff.1 hx).2, votes_mono e t _ n fun j hj hh => ?_⟩
  have h1 := hasE_iff.1 hh
  have h2 := hasE_iff.1 hx
  have h3 := hm j hj hh
  exact hasE_iff.2 ⟨by omega, by omega⟩

/-- May these spans be swept? -/
def validB (e : Nat → Int × Int) (n : Nat) : Bool := decide (1 ≤ n ∧ n ≤ 64 ∧ ∀ i, i < n → rightB (e i).1 (e i).2 = true)
theorem valid_at {e : Nat → Int × Int} {n : Nat} (h : validB e n = true) : 1 ≤ n ∧ n ≤ 64 ∧ ∀ i, i < n → -1152921504606846976 ≤ (e i).1 ∧ (e i).2 ≤ 1152921504606846976 ∧ (e i).1 ≤ (e i).2 := by
  unfold validB at h
  rw [decide_eq_true_iff] at h
  exact ⟨h.1, h.2.1, fun i hi => right_range _ _ (h.2.2 i hi)⟩
def may (e : Nat → Int × Int) (n : Nat) (L : Int) : Prop := validB e n = true ∧ 0 ≤ L ∧ L < n
def enough (e : Nat → Int × Int) (n : Nat) (L t : Int) : Prop := (n : Int) - L ≤ (votes e t n : Int)
/-- What P7.2 says of what is fused: its ends, the error's number. -/
def FuseSpec (e : Nat → Int × Int) (n : Nat) (L lo hi c : Int) : Prop :=
  (¬ may e n L ∧ lo = 0 ∧ hi = 0 ∧ c = 1) ∨
  (may e n L ∧ (∀ t, ¬ enough e n L t) ∧ lo = 0 ∧ hi = 0 ∧ c = 11) ∨
  (may e n L ∧ enough e n L lo ∧ enough e n L hi ∧ (∀ t, enough e n L t → lo ≤ t ∧ t ≤ hi) ∧ c = 0)
theorem FuseSpec.unique {e : Nat → Int × Int} {n : Nat} {L lo hi c lo' hi' c' : Int} (h : FuseSpec e n L lo hi c) (h' : FuseSpec e n L lo' hi' c') : lo = lo' ∧ hi = hi' ∧ c = c' := by
  rcases h with ⟨a, b1, b2, b3⟩ | ⟨a, b, b1, b2, b3⟩ | ⟨a, b, b1, b2, b3⟩ <;> rcases h' with ⟨a', b1', b2', b3'⟩ | ⟨a', b', b1', b2', b3'⟩ | ⟨a', b', b1', b2', b3'⟩
  · exact ⟨by omega, by omega, by omega⟩
  · exact absurd a' a
  · exact absurd a' a
  · exact absurd a a'
  · exact ⟨by omega, by omega, by omega⟩
  · exact absurd b' (b _)
  · exact absurd a a'
  · exact absurd b (b' _)
  · have h1 := b2 _ b'
    have h2 := b2 _ b1'
    have h3 := b2' _ b
    have h4 := b2' _ b1
    exact ⟨by omega, by omega, by omega⟩
def MostSpec (e : Nat → Int × Int) (n : Nat) (t m c : Int) : Prop :=
  (validB e n = false ∧ t = 0 ∧ m = 0 ∧ c = 1) ∨
  (validB e n = true ∧ m = (votes e t n : Int) ∧ (∀ u, votes e u n ≤ votes e t n ∧ (votes e u n = votes e t n → t ≤ u)) ∧ c = 0)
theorem MostSpec.unique {e : Nat → Int × Int} {n : Nat} {t m c t' m' c' : Int} (h : MostSpec e n t m c) (h' : MostSpec e n t' m' c') : t = t' ∧ m = m' ∧ c = c' := by
  rcases h with ⟨a, b1, b2, b3⟩ | ⟨a, b, b1, b2⟩ <;> rcases h' with ⟨a', b1', b2', b3'⟩ | ⟨a', b', b1', b2'⟩
  · exact ⟨by omega, by omega, by omega⟩
  · rw [a] at a'; cases a'
  · rw [a] at a'; cases a'
  · have h1 := b1 t'
    have h2 := b1' t
    have h3 : votes e t' n = votes e t n := by omega
    have h4 := h1.2 h3
    have h5 := h2.2 h3.symm
    have h6 : t = t' := by omega
    exact ⟨h6, by rw [b, b', h6], by omega⟩
/-- As functions. -/
noncomputable def fuseR (e : Nat → Int × Int) (n : Nat) (L : Int) : Int × Int × Int := open Classical in if h : ∃ x : Int × Int × Int, FuseSpec e n L x.1 x.2.1 x.2.2 then Classical.choose h else (0, 0, 0)
noncomputable def mostR (e : Nat → Int × Int) (n : Nat) : Int × Int × Int := open Classical in if h : ∃ x : Int × Int × Int, MostSpec e n x.1 x.2.1 x.2.2 then Classical.choose h else (0, 0, 0)
theorem FuseSpec.eq {e : Nat → Int × Int} {n : Nat} {L lo hi c : Int} (h : FuseSpec e n L lo hi c) : lo = (fuseR e n L).1 ∧ hi = (fuseR e n L).2.1 ∧ c = (fuseR e n L).2.2 := by
  have hx : ∃ x : Int × Int × Int, FuseSpec e n L x.1 x.2.1 x.2.2 := ⟨(lo, hi, c), h⟩
  have := Classical.choose_spec hx
  unfold fuseR
  rw [dif_pos hx]
  exact h.unique this
theorem MostSpec.eq {e : Nat → Int × Int} {n : Nat} {t m c : Int} (h : MostSpec e n t m c) : t = (mostR e n).1 ∧ m = (mostR e n).2.1 ∧ c = (mostR e n).2.2 := by
  have hx : ∃ x : Int × Int × Int, MostSpec e n x.1 x.2.1 x.2.2 := ⟨(t, m, c), h⟩
  have := Classical.choose_spec hx
  unfold mostR
  rw [dif_pos hx]
  exact h.unique this

/-- P7.3: the time that all but liars have lies in what is fused. -/
theorem true_in {e : Nat → Int × Int} {n : Nat} {L lo hi c t : Int} (h : FuseSpec e n L lo hi c) (hm : may e n L) (ht : enough e n L t) : c = 0 ∧ lo ≤ t ∧ t ≤ hi := by
  rcases h with ⟨a, _⟩ | ⟨_, b, _⟩ | ⟨_, _, _, b, b3⟩
  · exact absurd hm a
  · exact absurd ht (b t)
  · exact ⟨b3, (b t ht).1, (b t ht).2⟩
/-- .. and each end lies in a span that has the time, where there are more than twice as many spans as liars. -/
theorem true_ends {e : Nat → Int × Int} {n : Nat} {L lo hi c t : Int} (h : FuseSpec e n L lo hi c) (hm : may e n L) (ht : enough e n L t) (h2 : 2 * L < n) :
    ∃ i j, i < n ∧ j < n ∧ hasE e t i = true ∧ hasE e t j = true ∧ (e i).1 ≤ lo ∧ hi ≤ (e j).2 := by
  rcases h with ⟨a, _⟩ | ⟨_, b, _⟩ | ⟨_, b1, b2, b, b3⟩
  · exact absurd hm a
  · exact absurd ht (b t)
  · unfold enough at ht b1 b2
    obtain ⟨i, ki, x1, x2⟩ := votes_both e t lo n (by omega)
    obtain ⟨j, kj, y1, y2⟩ := votes_both e t hi n (by omega)
    exact ⟨i, j, ki, kj, x1, y1, (hasE_iff.1 x2).1, (hasE_iff.1 y2).2⟩
/-- More liars let what is fused be no less. -/
theorem more_facts {e : Nat → Int × Int} {n : Nat} {L lo hi c lo' hi' c' : Int} (h : FuseSpec e n L lo hi c) (h' : FuseSpec e n (L + 1) lo' hi' c') (hc : c = 0) :
    may e n L ∧ enough e n L lo ∧ enough e n L hi ∧ ¬ enough e n L (lo - 1) ∧ ¬ enough e n L (hi + 1) ∧ lo ≤ hi ∧ ((n : Int) ≤ L + 1 → c' = 1) ∧ (L + 1 < n → c' = 0 ∧ lo' ≤ lo ∧ hi ≤ hi') := by
  rcases h with ⟨_, _, _, b⟩ | ⟨_, _, _, _, b⟩ | ⟨hm, b1, b2, b, b3⟩
  · omega
  · omega
  · refine ⟨hm, b1, b2, fun x => ?_, fun x => ?_, (b hi b2).1, fun hn => ?_, fun hn => ?_⟩
    · have := (b _ x).1; omega
    · have := (b _ x).2; omega
    · rcases h' with ⟨_, _, _, d⟩ | ⟨hm', _⟩ | ⟨hm', _⟩
      · exact d
      · have := hm'.2.2; omega
      · have := hm'.2.2; omega
    · have hm' : may e n (L + 1) := ⟨hm.1, by have := hm.2.1; omega, hn⟩
      have w1 : enough e n (L + 1) lo := by unfold enough at *; omega
      have w2 : enough e n (L + 1) hi := by unfold enough at *; omega
      rcases h' with ⟨d, _⟩ | ⟨_, d, _⟩ | ⟨_, d1, d2, d, d3⟩
      · exact absurd hm' d
      · exact absurd w1 (d _)
      · exact ⟨d3, (d _ w1).1, (d _ w2).2⟩
/-- What is fused lies in the range of times. -/
theorem fused_range {e : Nat → Int × Int} {n : Nat} {L lo hi c : Int} (h : FuseSpec e n L lo hi c) : -1152921504606846976 ≤ lo ∧ lo ≤ 1152921504606846976 ∧ -1152921504606846976 ≤ hi ∧ hi ≤ 1152921504606846976 := by
  rcases h with ⟨_, a, b, _⟩ | ⟨_, _, a, b, _⟩ | ⟨hm, b1, b2, b, _⟩
  · omega
  · omega
  · obtain ⟨_, _, hv⟩ := valid_at hm.1
    have hL := hm.2.2
    unfold enough at b1 b2
    obtain ⟨i, ki, x1, x2⟩ := to_hi e lo n (by omega)
    obtain ⟨i', ki', x1', x2'⟩ := to_lo e lo n (by omega)
    obtain ⟨j, kj, y1, y2⟩ := to_lo e hi n (by omega)
    obtain ⟨j', kj', y1', y2'⟩ := to_hi e hi n (by omega)
    have v1 := hv i ki
    have v2 := hv i' ki'
    have v3 := hv j kj
    have v4 := hv j' kj'
    omega
def turned (e : Nat → Int × Int) (n : Nat) : Nat → Int × Int := fun i => e (n - 1 - i)
theorem valid_turn (e : Nat → Int × Int) (n : Nat) : validB (turned e n) n = validB e n := by
  unfold validB
  rw [decide_eq_decide]
  constructor
  · intro ⟨a, b, h⟩
    refine ⟨a, b, fun i hi => ?_⟩
    have := h (n - 1 - i) (by omega)
    unfold turned at this
    rwa [show n - 1 - (n - 1 - i) = i by omega] at this
  · intro ⟨a, b, h⟩
    exact ⟨a, b, fun i hi => h _ (by omega)⟩
theorem fuse_turn {e : Nat → Int × Int} {n : Nat} {L lo hi c : Int} (h : FuseSpec e n L lo hi c) : FuseSpec (turned e n) n L lo hi c := by
  have hv := valid_turn e n
  have he : ∀ t, votes (turned e n) t n = votes e t n := fun t => votes_turn t n e
  unfold FuseSpec may enough at *
  simp only [hv, he]
  exact h
theorem most_turn {e : Nat → Int × Int} {n : Nat} {t m c : Int} (h : MostSpec e n t m c) : MostSpec (turned e n) n t m c := by
  have hv := valid_turn e n
  have he : ∀ t, votes (turned e n) t n = votes e t n := fun t => votes_turn t n e
  unfold MostSpec at *
  simp only [hv, he]
  exact h
/-- What the first loop knows behind k spans: has it a beginning, and which. -/
def Lows (e : Nat → Int × Int) (n : Nat) (L : Int) (k : Nat) (s : Bool) (lo : Int) : Prop :=
  (s = false → lo = 0 ∧ ∀ j, j < k → ¬ enough e n L (e j).1) ∧ (s = true → enough e n L lo ∧ ∀ j, j < k → enough e n L (e j).1 → lo ≤ (e j).1)
theorem Lows.no {e : Nat → Int × Int} {n : Nat} {L : Int} {k : Nat} {s : Bool} {lo : Int} (h : Lows e n L k s lo) (hn : ¬ enough e n L (e k).1) : Lows e n L (k + 1) s lo := by
  refine ⟨fun hs => ⟨(h.1 hs).1, fun j hj => ?_⟩, fun hs => ⟨(h.2 hs).1, fun j hj hh => ?_⟩⟩
  · by_cases e1 : j = k
    · subst e1; exact hn
    · exact (h.1 hs).2 j (by omega)
  · by_cases e1 : j = k
    · subst e1; exact absurd hh hn
    · exact (h.2 hs).2 j (by omega) hh
theorem Lows.keep {e : Nat → Int × Int} {n : Nat} {L : Int} {k : Nat} {lo : Int} (h : Lows e n L k true lo) (hn : ¬ (e k).1 < lo) : Lows e n L (k + 1) true lo := by
  refine ⟨fun hs => (by cases hs), fun hs => ⟨(h.2 hs).1, fun j hj hh => ?_⟩⟩
  by_cases e1 : j = k
  · subst e1; omega
  · exact (h.2 hs).2 j (by omega) hh
theorem Lows.take {e : Nat → Int × Int} {n : Nat} {L : Int} {k : Nat} {s : Bool} {lo : Int} (h : Lows e n L k s lo) (he : enough e n L (e k).1) (hn : s = true → (e k).1 < lo) : Lows e n L (k + 1) true (e k).1 := by
  refine ⟨fun hs => (by cases hs), fun _ => ⟨he, fun j hj hh => ?_⟩⟩
  by_cases e1 : j = k
  · subst e1; omega
  · cases s
    · exact absurd hh ((h.1 rfl).2 j (by omega))
    · have := (h.2 rfl).2 j (by omega) hh
      have := hn rfl
      omega
/-- What the second loop knows. -/
def Highs (e : Nat → Int × Int) (n : Nat) (L : Int) (k : Nat) (hi : Int) : Prop := enough e n L hi ∧ ∀ j, j < k → enough e n L (e j).2 → (e j).2 ≤ hi
theorem Highs.no {e : Nat → Int × Int} {n : Nat} {L : Int} {k : Nat} {hi : Int} (h : Highs e n L k hi) (hn : ¬ enough e n L (e k).2) : Highs e n L (k + 1) hi := by
  refine ⟨h.1, fun j hj hh => ?_⟩
  by_cases e1 : j = k
  · subst e1; exact absurd hh hn
  · exact h.2 j (by omega) hh
theorem Highs.take {e : Nat → Int × Int} {n : Nat} {L : Int} {k : Nat} {hi : Int} (h : Highs e n L k hi) (he : enough e n L (e k).2) : Highs e n L (k + 1) (max hi (e k).2) := by
  refine ⟨?_, fun j hj hh => ?_⟩
  · by_cases h1 : hi ≤ (e k).2
    · rw [Int.max_eq_right h1]; exact he
    · rw [Int.max_eq_left (by omega)]; exact h.1
  · by_cases e1 : j = k
    · subst e1; omega
    · have := h.2 j (by omega) hh; omega
theorem fuse_none {e : Nat → Int × Int} {n : Nat} {L lo : Int} (hm : may e n L) (h : Lows e n L n false lo) : FuseSpec e n L 0 0 11 := by
  refine .inr (.inl ⟨hm, fun t ht => ?_, rfl, rfl, rfl⟩)
  have hL := hm.2.2
  unfold enough at ht
  obtain ⟨i, ki, x1, x2⟩ := to_lo e t n (by omega)
  exact (h.1 rfl).2 i ki (by unfold enough; omega)
theorem fuse_some {e : Nat → Int × Int} {n : Nat} {L lo hi : Int} (hm : may e n L) (h : Lows e n L n true lo) (h' : Highs e n L n hi) : FuseSpec e n L lo hi 0 := by
  refine .inr (.inr ⟨hm, (h.2 rfl).1, h'.1, fun t ht => ?_, rfl⟩)
  have hL := hm.2.2
  have ht' := ht
  unfold enough at ht
  obtain ⟨i, ki, x1, x2⟩ := to_lo e t n (by omega)
  obtain ⟨j, kj, y1, y2⟩ := to_hi e t n (by omega)
  have z1 := (h.2 rfl).2 i ki (by unfold enough; omega)
  have z2 := h'.2 j kj (by unfold enough; omega)
  omega

/-- The best beginning of the first k spans (of the first, if k is 0). -/
def Best (e : Nat → Int × Int) (n k : Nat) (at_ : Int) : Prop := (∃ i, i < n ∧ at_ = (e i).1) ∧ ∀ j, j < k → votes e (e j).1 n ≤ votes e at_ n ∧ (votes e (e j).1 n = votes e at_ n → at_ ≤ (e j).1)
theorem Best.keep {e : Nat → Int × Int} {n k : Nat} {at_ : Int} (h : Best e n k at_) (hn : ¬ (votes e at_ n < votes e (e k).1 n ∨ votes e (e k).1 n = votes e at_ n ∧ (e k).1 < at_)) : Best e n (k + 1) at_ := by
  refine ⟨h.1, fun j hj => ?_⟩
  by_cases e1 : j = k
  · subst e1; omega
  · exact h.2 j (by omega)
theorem Best.take {e : Nat → Int × Int} {n k : Nat} {at_ : Int} (h : Best e n k at_) (hk : k < n) (hn : votes e at_ n < votes e (e k).1 n ∨ votes e (e k).1 n = votes e at_ n ∧ (e k).1 < at_) : Best e n (k + 1) (e k).1 := by
  refine ⟨⟨k, hk, rfl⟩, fun j hj => ?_⟩
  by_cases e1 : j = k
  · subst e1; omega
  · have := h.2 j (by omega); omega
theorem best_most {e : Nat → Int × Int} {n : Nat} {at_ : Int} (hv : validB e n = true) (h : Best e n n at_) : MostSpec e n at_ (votes e at_ n) 0 := by
  refine .inr ⟨hv, rfl, fun u => ?_, rfl⟩
  obtain ⟨h1, h2, h3⟩ := valid_at hv
  by_cases hu : 1 ≤ votes e u n
  · obtain ⟨i, ki, x1, x2⟩ := to_lo e u n hu
    have := h.2 i ki
    omega
  · have hp : 0 < votes e (e 0).1 n := votes_pos e _ n 0 (by omega) (hasE_iff.2 ⟨by omega, (h3 0 (by omega)).2.2⟩)
    have := h.2 0 (by omega)
    omega


/-- Of those that are good, one is least. -/
theorem least_of (P : Nat → Prop) (f : Nat → Int) : ∀ n, (∃ i, i < n ∧ P i) → ∃ i, i < n ∧ P i ∧ ∀ j, j < n → P j → f i ≤ f j
  | 0, h => by obtain ⟨i, hi, _⟩ := h; omega
  | n + 1, h => by
    by_cases h0 : ∃ i, i < n ∧ P i
    · obtain ⟨i, hi, hp, hm⟩ := least_of P f n h0
      by_cases hn : P n ∧ f n < f i
      · refine ⟨n, by omega, hn.1, fun j hj hh => ?_⟩
        by_cases e1 : j = n
        · subst e1; omega
        · have := hm j (by omega) hh; omega
      · refine ⟨i, by omega, hp, fun j hj hh => ?_⟩
        by_cases e1 : j = n
        · subst e1
          by_cases h2 : f j < f i
          · exact absurd ⟨hh, h2⟩ hn
          · omega
        · exact hm j (by omega) hh
    · obtain ⟨i, hi, hp⟩ := h
      have : i = n := by
        by_cases e1 : i = n
        · exact e1
        · exact absurd ⟨i, by omega, hp⟩ h0
      subst this
      refine ⟨i, by omega, hp, fun j hj hh => ?_⟩
      by_cases e1 : j = i
      · subst e1; omega
      · exact absurd ⟨j, by omega, hh⟩ h0
/-- There is always an answer. -/
theorem fuse_ex (e : Nat → Int × Int) (n : Nat) (L : Int) : ∃ lo hi c, FuseSpec e n L lo hi c := by
  by_cases hm : may e n L
  · by_cases h : ∃ t, enough e n L t
    · obtain ⟨t, ht⟩ := h
      have hL := hm.2.2
      have ht' := ht
      unfold enough at ht'
      obtain ⟨i, ki, x1, x2⟩ := to_lo e t n (by omega)
      obtain ⟨j, kj, y1, y2⟩ := to_hi e t n (by omega)
      obtain ⟨a, ka, pa, ma⟩ := least_of (fun i => enough e n L (e i).1) (fun i => (e i).1) n ⟨i, ki, by unfold enough; omega⟩
      obtain ⟨b, kb, pb, mb⟩ := least_of (fun i => enough e n L (e i).2) (fun i => -(e i).2) n ⟨j, kj, by unfold enough; omega⟩
      refine ⟨(e a).1, (e b).2, 0, .inr (.inr ⟨hm, pa, pb, fun u hu => ?_, rfl⟩)⟩
      unfold enough at hu
      obtain ⟨i', ki', x1', x2'⟩ := to_lo e u n (by omega)
      obtain ⟨j', kj', y1', y2'⟩ := to_hi e u n (by omega)
      have z1 := ma i' ki' (by unfold enough; omega)
      have z2 := mb j' kj' (by unfold enough; omega)
      omega
    · exact ⟨0, 0, 11, .inr (.inl ⟨hm, fun t ht => h ⟨t, ht⟩, rfl, rfl, rfl⟩)⟩
  · exact ⟨0, 0, 1, .inl ⟨hm, rfl, rfl, rfl⟩⟩
theorem fuseR_spec (e : Nat → Int × Int) (n : Nat) (L : Int) : FuseSpec e n L (fuseR e n L).1 (fuseR e n L).2.1 (fuseR e n L).2.2 := by
  obtain ⟨lo, hi, c, h⟩ := fuse_ex e n L
  obtain ⟨e1, e2, e3⟩ := h.eq
  rwa [← e1, ← e2, ← e3]
theorem most_ex (e : Nat → Int × Int) (n : Nat) : ∃ t m c, MostSpec e n t m c := by
  cases hv : validB e n
  · exact ⟨0, 0, 1, .inl ⟨hv, rfl, rfl, rfl⟩⟩
  · have h1 := (valid_at hv).1
    obtain ⟨a, ka, pa, ma⟩ := least_of (fun _ => True) (fun i => -(votes e (e i).1 n : Int)) n ⟨0, by omega, trivial⟩
    obtain ⟨b, kb, pb, mb⟩ := least_of (fun i => votes e (e i).1 n = votes e (e a).1 n) (fun i => (e i).1) n ⟨a, ka, rfl⟩
    refine ⟨(e b).1, (votes e (e b).1 n : Int), 0, best_most hv ⟨⟨b, kb, rfl⟩, fun j kj => ⟨?_, fun hh => mb j kj (by omega)⟩⟩⟩
    have := ma j kj trivial
    omega
theorem mostR_spec (e : Nat → Int × Int) (n : Nat) : MostSpec e n (mostR e n).1 (mostR e n).2.1 (mostR e n).2.2 := by
  obtain ⟨t, m, c, h⟩ := most_ex e n
  obtain ⟨e1, e2, e3⟩ := h.eq
  rwa [← e1, ← e2, ← e3]
instance (e : Nat → Int × Int) (n : Nat) (L t : Int) : Decidable (enough e n L t) := inferInstanceAs (Decidable (_ ≤ _))
instance (e : Nat → Int × Int) (n : Nat) (L : Int) : Decidable (may e n L) := inferInstanceAs (Decidable (_ ∧ _ ∧ _))
/-- The example. -/
def e3 (i : Nat) : Int × Int := if i = 0 then (4, 9) else if i = 1 then (1, 5) else (20, 30)
theorem e3_fuse1 : (fuseR e3 3 1).1 = 4 ∧ (fuseR e3 3 1).2.1 = 5 ∧ (fuseR e3 3 1).2.2 = 0 := by
  have h := (fuse_some (e := e3) (n := 3) (L := 1) (lo := 4) (hi := 5) (by decide) ⟨fun h => (by cases h), fun _ => ⟨by decide, by decide⟩⟩ ⟨by decide, by decide⟩).eq
  exact ⟨h.1.symm, h.2.1.symm, h.2.2.symm⟩
theorem e3_fuse0 : (fuseR e3 3 0).1 = 0 ∧ (fuseR e3 3 0).2.1 = 0 ∧ (fuseR e3 3 0).2.2 = 11 := by
  have h := (fuse_none (e := e3) (n := 3) (L := 0) (lo := 0) (by decide) ⟨fun _ => ⟨rfl, by decide⟩, fun h => by cases h⟩).eq
  exact ⟨h.1.symm, h.2.1.symm, h.2.2.symm⟩
theorem e3_fuse3 : (fuseR e3 3 3).1 = 0 ∧ (fuseR e3 3 3).2.1 = 0 ∧ (fuseR e3 3 3).2.2 = 1 := by
  have h := (show FuseSpec e3 3 3 0 0 1 from .inl ⟨by decide, rfl, rfl, rfl⟩).eq
  exact ⟨h.1.symm, h.2.1.symm, h.2.2.symm⟩
theorem e3_most : (mostR e3 3).1 = 4 ∧ (mostR e3 3).2.1 = 2 ∧ (mostR e3 3).2.2 = 0 := by
  have h := (best_most (e := e3) (n := 3) (at_ := 4) (by decide) ⟨⟨0, by decide, by decide⟩, by decide⟩).eq
  exact ⟨h.1.symm, h.2.1.symm, h.2.2.symm⟩
theorem e3_votes : (votes e3 25 3 : Int) = 1 := by decide
end Go.Proofs.Ytmkmmpmhbahmeaa.Sweep
