/-
  What the document's Read makes of bytes, by their parts.
-/
import Derived.Test.YtebchoeeohmlaaaDoorBd18
import Derived.Test.YtebchoeeohmlaaaDoorBd23
namespace Go.Proofs.YtebchoeeohmlaaaDoor.Book
open Go Go.RowKit Go.Proofs.YtebchoeeohmlaaaDoor.Field Go.Proofs.YtebchoeeohmlaaaDoor.Aid

def tailE (E : Nat → BitVec 8) (j : Nat) : BitVec 8 := E (j + 1)
def readX (E : Nat → BitVec 8) : OpB := ⟨((E 0).toNat : Int), strOf (fieldE (tailE E) 0) (fieldM (tailE E) 0), (List.range 16).map (wordE (fieldM (tailE E) 1) (fieldE (tailE E) 1)), takeV (fieldE (tailE E) 2) (fieldM (tailE E) 2)⟩
theorem readX_key (E : Nat → BitVec 8) : (readX E).key.length = 16 := by unfold readX; simp
theorem step_congr {E F : Nat → BitVec 8} {n p k : Nat} (h : ∀ j, j < n → E j = F j) : stepC E n p k = stepC F n p k := by
  unfold stepC
  by_cases h1 : n < p + 2
  · rw [if_pos h1, if_pos h1]
  · rw [if_neg h1, if_neg h1, len_congr h (by omega)]
theorem split_congr {E F : Nat → BitVec 8} {n k : Nat} {c : Int} (h : ∀ j, j < n → E j = F j) (hs : SplitSpec E n k c) : SplitSpec F n k c := by
  have hsp : ∀ i, i ≤ k → sp E i = sp F i := fun i hi => sp_congr h i (fun i' hi' => by have := (step_ok (hs.1 i' (by omega)).2).1; omega)
  refine ⟨fun i hi => ?_, ?_⟩
  · rw [← hsp i (by omega), ← step_congr h]
    exact hs.1 i hi
  · rw [← hsp k (Nat.le_refl _), ← step_congr h]
    exact hs.2
theorem num_take (E : Nat → BitVec 8) : ∀ j, j < 8 → numB (takeV E 8) j = E j := by
  have hu : numU (takeV E 8) = tU E 8 := by
    have hlt : tU E 8 < 18446744073709551616 := by
      have h0 := (E 0).isLt; have h1 := (E 1).isLt; have h2 := (E 2).isLt; have h3 := (E 3).isLt; have h4 := (E 4).isLt; have h5 := (E 5).isLt; have h6 := (E 6).isLt; have h7 := (E 7).isLt
      show 256 * (256 * (256 * (256 * (256 * (256 * (256 * (256 * 0 + _) + _) + _) + _) + _) + _) + _) + _ < _
      omega
    unfold takeV numU wrap64
    rw [if_pos rfl]
    omega
  intro j hj
  unfold numB
  rw [hu]
  have h0 := (E 0).isLt; have h1 := (E 1).isLt; have h2 := (E 2).isLt; have h3 := (E 3).isLt; have h4 := (E 4).isLt; have h5 := (E 5).isLt; have h6 := (E 6).isLt; have h7 := (E 7).isLt
  have he : tU E 8 = 256 * (256 * (256 * (256 * (256 * (256 * (256 * (256 * 0 + (E 0).toNat) + (E 1).toNat) + (E 2).toNat) + (E 3).toNat) + (E 4).toNat) + (E 5).toNat) + (E 6).toNat) + (E 7).toNat := rfl
  have key : tU E 8 / 256 ^ (7 - j) % 256 = (E j).toNat := by
    rw [he]
    match j, hj with
    | 0, _ => show _ / 72057594037927936 % 256 = _; omega
    | 1, _ => show _ / 281474976710656 % 256 = _; omega
    | 2, _ => show _ / 1099511627776 % 256 = _; omega
    | 3, _ => show _ / 4294967296 % 256 = _; omega
    | 4, _ => show _ / 16777216 % 256 = _; omega
    | 5, _ => show _ / 65536 % 256 = _; omega
    | 6, _ => show _ / 256 % 256 = _; omega
    | 7, _ => show _ / 1 % 256 = _; omega
  rw [key]
  unfold bt
  exact BitVec.eq_of_toNat_eq (by rw [BitVec.toNat_ofNat]; exact Nat.mod_eq_of_lt (E j).isLt)
theorem enc_congr {m m' : Nat → Nat} {e e' : Nat → Nat → BitVec 8} : ∀ k, (∀ i, i < k → m i = m' i ∧ ∀ j, j < m i → e i j = e' i j) → encN m k = encN m' k ∧ ∀ j, j < encN m k → encB m e k j = encB m' e' k j
  | 0, _ => ⟨rfl, fun _ _ => rfl⟩
  | k + 1, h => by
    obtain ⟨h1, h2⟩ := enc_congr k (fun i hi => h i (by omega))
    obtain ⟨h3, h4⟩ := h k (Nat.lt_succ_self k)
    have e1 : encN m (k + 1) = encN m k + (m k + 2) := rfl
    have e2 : encN m' (k + 1) = encN m' k + (m' k + 2) := rfl
    refine ⟨by omega, fun j hj => ?_⟩
    show cat (encB m e k) (encN m k) (fr m e k) j = cat (encB m' e' k) (encN m' k) (fr m' e' k) j
    unfold cat
    rw [← h1]
    by_cases hj1 : j < encN m k
    · rw [if_pos hj1, if_pos hj1]
      exact h2 j hj1
    · rw [if_neg hj1, if_neg hj1]
      unfold fr frame
      rw [← h3]
      split
      · rfl
      · split
        · rfl
        · exact h4 _ (by omega)
theorem read_ok {E : Nat → BitVec 8} {n : Nat} (hn : 0 < n) (hs : SplitSpec (tailE E) (n - 1) 3 0) (h1 : fieldM (tailE E) 1 = 16) (h2 : fieldM (tailE E) 2 = 8) (hr : rightB (readX E) = true) : ReadSpec E n (readX E) 0 := by
  obtain ⟨-, hN, hB⟩ := put_split hs
  have hk := right_kind hr
  have hp : ∀ i, i < 3 → mO (readX E) i = fieldM (tailE E) i ∧ ∀ j, j < mO (readX E) i → eO (readX E) i j = fieldE (tailE E) i j := fun i hi => by
    match i, hi with
    | 0, _ => exact ⟨size_strOf _ _, fun j hj => strB_strOf _ _ _ (by have h : mO (readX E) 0 = fieldM (tailE E) 0 := size_strOf _ _; omega)⟩
    | 1, _ =>
      refine ⟨h1.symm, fun j hj => ?_⟩
      have hj' : j < 16 := hj
      show ((List.range 16).map (wordE (fieldM (tailE E) 1) (fieldE (tailE E) 1))).getD j 0 = _
      rw [List.getD_eq_getElem?_getD, List.getElem?_map, List.getElem?_range hj', h1]
      rfl
    | 2, _ =>
      refine ⟨h2.symm, fun j hj => ?_⟩
      show numB (takeV (fieldE (tailE E) 2) (fieldM (tailE E) 2)) j = _
      rw [h2]
      exact num_take _ j hj
  obtain ⟨e1, e2⟩ := enc_congr 3 hp
  refine .inl ⟨rfl, hr, readX_key E, by unfold encNO; omega, fun j hj => ?_⟩
  unfold encEO
  by_cases h0 : j = 0
  · subst h0
    rw [if_pos rfl]
    show E 0 = bt ((E 0).toNat : Int).toNat
    rw [Int.toNat_natCast]
    unfold bt
    exact BitVec.eq_of_toNat_eq (by rw [BitVec.toNat_ofNat]; exact (Nat.mod_eq_of_lt (E 0).isLt).symm)
  · rw [if_neg h0, e2 (j - 1) (by omega), hB (j - 1) (by omega)]
    unfold tailE
    rw [show j - 1 + 1 = j by omega]
/-- An encoding's parts. -/
theorem read_parts {E : Nat → BitVec 8} {n : Nat} {y : OpB} (hy : rightB y = true) (ky : y.key.length = 16) (hn : n = encNO y) (he : ∀ j, j < n → E j = encEO y j) :
    0 < n ∧ SplitSpec (tailE E) (n - 1) 3 0 ∧ fieldM (tailE E) 1 = 16 ∧ fieldM (tailE E) 2 = 8 ∧ readX E = y := by
  have sy := right_size hy
  have hk := right_kind hy
  have hg := right_gen64 hy
  obtain ⟨s1, p1⟩ := split_op (x := y) (by omega)
  have hT : ∀ j, j < n - 1 → encB (mO y) (eO y) 3 j = tailE E j := fun j hj => by
    have := he (j + 1) (by omega)
    unfold tailE
    rw [this]
    unfold encEO
    rw [if_neg (by omega), Nat.add_sub_cancel]
  have hN : encN (mO y) 3 = n - 1 := by rw [hn]; unfold encNO; omega
  rw [hN] at s1
  have s2 := split_congr hT s1
  have hc := parts_congr hT s1
  have hm : ∀ i, i < 3 → fieldM (tailE E) i = mO y i ∧ ∀ j, j < mO y i → fieldE (tailE E) i j = eO y i j := fun i hi => by
    obtain ⟨a1, a2⟩ := p1 i hi
    obtain ⟨b1, b2⟩ := hc i hi
    refine ⟨by rw [← b1, a1], fun j hj => ?_⟩
    rw [← b2 j (by rw [a1]; exact hj), a2 j hj]
  have m0 := hm 0 (by omega)
  have m1 := hm 1 (by omega)
  have m2 := hm 2 (by omega)
  refine ⟨by rw [hn]; unfold encNO; omega, s2, m1.1, m2.1, ?_⟩
  obtain ⟨yk, yn, yw, yg⟩ := y
  have n1 : strOf (fieldE (tailE E) 0) (fieldM (tailE E) 0) = yn := str_ext (by rw [size_strOf]; exact m0.1) (fun j hj => by
    rw [size_strOf] at hj
    rw [strB_strOf _ _ _ hj]
    exact m0.2 j (by rw [← m0.1]; exact hj))
  have n2 : (List.range 16).map (wordE (fieldM (tailE E) 1) (fieldE (tailE E) 1)) = yw := key_ext (by simp) ky (fun j hj => by
    rw [List.getD_eq_getElem?_getD, List.getElem?_map, List.getElem?_range hj, m1.1]
    exact m1.2 j hj)
  have n3 : takeV (fieldE (tailE E) 2) (fieldM (tailE E) 2) = yg := by
    have ht := (take_num yg (by have : 0 ≤ yg := hg.1; omega) (by have : yg ≤ 2147483647 := hg.2; omega)).1
    rw [← ht, m2.1]
    show takeV _ 8 = takeV _ 8
    unfold takeV
    have : ∀ k, k ≤ 8 → tU (fieldE (tailE E) 2) k = tU (numB yg) k := by
      intro k
      induction k with
      | zero => intro _; rfl
      | succ k ih =>
        intro hk8
        show 256 * tU _ k + _ = 256 * tU _ k + _
        rw [ih (by omega), m2.2 k (show k < 8 by omega)]
        rfl
    rw [if_pos rfl, if_pos rfl, this 8 (Nat.le_refl _)]
  have n4 : ((E 0).toNat : Int) = yk := by
    have h0 := he 0 (by rw [hn]; unfold encNO; omega)
    rw [h0]
    show ((bt yk.toNat).toNat : Int) = yk
    rw [bt_toNat (by have : yk ≤ 5 := hk.2; omega)]
    have : 1 ≤ yk := hk.1
    omega
  unfold readX
  rw [n1, n2, n3, n4]
theorem read_no {E : Nat → BitVec 8} {n k : Nat} {c : Int} (hs : SplitSpec (tailE E) (n - 1) k c) (h : c ≠ 0 ∨ k ≠ 3 ∨ fieldM (tailE E) 1 ≠ 16 ∨ fieldM (tailE E) 2 ≠ 8 ∨ rightB (readX E) = false) : ReadSpec E n op0 3 := by
  refine .inr ⟨rfl, rfl, fun y hy ky ⟨hn, he⟩ => ?_⟩
  obtain ⟨h0, h1, h2, h3, h4⟩ := read_parts hy ky hn he
  obtain ⟨e1, e2⟩ := split_unique hs h1
  rcases h with h | h | h | h | h
  · exact h e2
  · exact h e1
  · exact h h2
  · exact h h3
  · rw [h4, hy] at h; cases h
theorem read_none (E : Nat → BitVec 8) : ReadSpec E 0 op0 3 := .inr ⟨rfl, rfl, fun y _ _ ⟨hn, _⟩ => by unfold encNO at hn; omega⟩
end Go.Proofs.YtebchoeeohmlaaaDoor.Book
