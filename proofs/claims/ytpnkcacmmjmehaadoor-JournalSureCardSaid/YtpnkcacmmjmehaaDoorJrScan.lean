/-
  The program's own journal: how bytes are read, record by record (pure); one record more in a list.
-/
import Derived.Test.YtpnkcacmmjmehaaDoorJrCopy
import Derived.Test.YtpnkcacmmjmehaaDoorEqBytes
namespace Go.Proofs.YtpnkcacmmjmehaaDoor.Jour
open Go Go.RowKit Go.Proofs.YtpnkcacmmjmehaaDoor.Aid Go.Proofs.YtpnkcacmmjmehaaDoor.Sha Go.Proofs.YtpnkcacmmjmehaaDoor.Cache Go.Proofs.YtpnkcacmmjmehaaDoor.Store

theorem scanF_more (D : By → By) : ∀ (n k : Nat) (b : By), b.length ≤ n → n ≤ k → scanF D k b = scanF D n b
  | 0, k, b, hb, _ => by
    obtain rfl : b = [] := List.eq_nil_of_length_eq_zero (by omega)
    rw [scan_nil, scan_nil]
  | n + 1, k, b, hb, hk => by
    obtain ⟨k', rfl⟩ : ∃ k', k = k' + 1 := ⟨k - 1, by omega⟩
    match b, hb with
    | [], _ => rw [scan_nil, scan_nil]
    | [h], _ => rfl
    | h :: l :: r, hb =>
      have ih := scanF_more D n k' (r.drop (8 + (256 * h.toNat + l.toNat))) (by simp at hb ⊢; omega) (by omega)
      rw [scanF, scanF, ih]
theorem scan_empty (D : By → By) : scan D [] = some ([], []) := rfl
theorem scan_big (D : By → By) {b : By} (h : 1010 < sizeN b) : scan D b = none := by
  match b, h with
  | [], h => exact absurd h (by unfold sizeN; rw [if_pos (by simp)]; omega)
  | [x], h => exact absurd h (by unfold sizeN; rw [if_pos (by simp)]; omega)
  | x :: l :: r, h =>
    have hs : sizeN (x :: l :: r) = 10 + (256 * x.toNat + l.toNat) := by unfold sizeN; rw [if_neg (by simp)]; rfl
    rw [hs] at h
    show scanF D (r.length + 1 + 1) (x :: l :: r) = none
    rw [scanF, if_pos (by omega)]
theorem scan_short (D : By → By) {b : By} (h0 : 0 < b.length) (h1 : ¬ 1010 < sizeN b) (h2 : b.length < sizeN b) : scan D b = some ([], b) := by
  match b, h0, h1, h2 with
  | [x], _, _, _ => rfl
  | x :: l :: r, _, h1, h2 =>
    have hs : sizeN (x :: l :: r) = 10 + (256 * x.toNat + l.toNat) := by unfold sizeN; rw [if_neg (by simp)]; rfl
    rw [hs] at h1 h2
    simp only [List.length_cons] at h2
    show scanF D (r.length + 1 + 1) (x :: l :: r) = _
    rw [scanF, if_neg (by omega), if_pos (by omega)]
/-- The first record of bytes. -/
def recN (b : By) : By := (b.drop 10).take (sizeN b - 10)
theorem fnL_take (b : By) (n j : Nat) (h : j < n) : fnL (b.take n) j = fnL b j := by
  show (b.take n).getD j 0 = b.getD j 0
  rw [List.getD_eq_getElem?_getD, List.getD_eq_getElem?_getD, List.getElem?_take_of_lt h]
theorem fnL_drop (b : By) (n j : Nat) : fnL (b.drop n) j = fnL b (n + j) := by
  show (b.drop n).getD j 0 = b.getD (n + j) 0
  rw [List.getD_eq_getElem?_getD, List.getD_eq_getElem?_getD, List.getElem?_drop]
theorem rec_len {b : By} (h2 : sizeN b ≤ b.length) : (recN b).length = sizeN b - 10 := by
  unfold recN
  rw [List.length_take, List.length_drop]
  omega
theorem size_ge (b : By) : 10 ≤ sizeN b := by unfold sizeN; split <;> omega
theorem scan_rec {b : By} (h1 : ¬ 1010 < sizeN b) (h2 : sizeN b ≤ b.length) : scan Dg b = if sameUpto (fnL (hdr (recN b))) (fnL b) 10 = true then (scan Dg (b.drop (sizeN b))).map (fun p => (recN b :: p.1, p.2)) else none := by
  have hrl := rec_len h2
  have hge := size_ge b
  match b, h1, h2, hrl, hge with
  | [], _, h2, _, hge => simp at h2; omega
  | [x], _, h2, _, hge => simp at h2; omega
  | x :: l :: r, h1, h2, hrl, _ =>
    have hs : sizeN (x :: l :: r) = 10 + (256 * x.toNat + l.toNat) := by unfold sizeN; rw [if_neg (by simp)]; rfl
    have hx := x.isLt
    have hl := l.isLt
    rw [hs] at hrl h1 h2
    have h2' := h2
    simp only [List.length_cons] at h2'
    have hr : recN (x :: l :: r) = (r.drop 8).take (256 * x.toNat + l.toNat) := by unfold recN; rw [hs, Nat.add_sub_cancel_left]; rfl
    have hd : (x :: l :: r).drop (sizeN (x :: l :: r)) = r.drop (8 + (256 * x.toNat + l.toNat)) := by
      rw [hs, show 10 + (256 * x.toNat + l.toNat) = (8 + (256 * x.toNat + l.toNat)) + 1 + 1 by omega, List.drop_succ_cons, List.drop_succ_cons]
    have hh : head (recN (x :: l :: r)) = [x, l] := by
      unfold head
      rw [hrl, show 10 + (256 * x.toNat + l.toNat) - 10 = 256 * x.toNat + l.toNat by omega]
      congr 1
      · apply BitVec.eq_of_toNat_eq; rw [BitVec.toNat_ofNat]; omega
      · congr 1; apply BitVec.eq_of_toNat_eq; rw [BitVec.toNat_ofNat]; omega
    have hk : sameUpto (fnL (hdr (recN (x :: l :: r)))) (fnL (x :: l :: r)) 10 = true ↔ r.take 8 = Dg (x :: l :: recN (x :: l :: r)) := by
      have e1 : hdr (recN (x :: l :: r)) = x :: l :: Dg (x :: l :: recN (x :: l :: r)) := by unfold hdr; rw [hh]; rfl
      have e2 : (x :: l :: r).take 10 = x :: l :: r.take 8 := rfl
      unfold sameUpto
      rw [decide_eq_true_iff]
      constructor
      · intro h
        have : hdr (recN (x :: l :: r)) = (x :: l :: r).take 10 := rec_eq (by rw [hdr_len, List.length_take, List.length_cons, List.length_cons]; omega) (fun j hj => by
          rw [hdr_len] at hj
          rw [fnL_take _ _ _ hj]
          exact h j hj)
        rw [e1, e2] at this
        simp only [List.cons.injEq, true_and] at this
        exact this.symm
      · intro h j hj
        rw [← fnL_take (x :: l :: r) 10 j hj, e1, e2, h]
    rw [hd]
    show scanF Dg (r.length + 1 + 1) (x :: l :: r) = _
    rw [scanF, if_neg (by omega), if_neg (by omega), ← hr]
    by_cases h : r.take 8 = Dg (x :: l :: recN (x :: l :: r))
    · rw [if_pos h, if_pos (hk.2 h), scanF_more Dg (r.drop (8 + (256 * x.toNat + l.toNat))).length (r.length + 1) _ (Nat.le_refl _) (by rw [List.length_drop]; omega)]
      rfl
    · rw [if_neg h, if_neg (fun h' => h (hk.1 h'))]
/-- A record more. -/
theorem recs_snoc {W1 W2 : World} {K : Nat → Prop} {L : List By} {V V' : Value} {rs : List Value} {x : By} {u : Value} (h2 : rs.length = L.length) (h3 : ∀ b, V.ownBlock = some b → K b)
    (h4 : ∀ (i : Nat) (y : By) (q : Value), L[i]? = some y → rs[i]? = some q → BytesIn W1 (fun b => K b ∧ V.ownBlock ≠ some b) y.length (fnL y) q) (hu : BytesIn W1 (fun b => K b ∧ V.ownBlock ≠ some b) x.length (fnL x) u)
    (ho : OwnV W2 0 35 V' (rs ++ [u])) (hg : W1.grownBy W2 V.ownBlock) (hv : V'.ownBlock = V.ownBlock ∨ V'.ownBlock = some W1.heap.size) (hK : K W1.heap.size) : RecsOwn W2 K (L ++ [x]) V' := by
  refine ⟨rs ++ [u], ho, by simp [h2], fun b hb => ?_, fun i y q hy hq => ?_⟩
  · rcases hv with hv | hv
    · exact h3 b (hv ▸ hb)
    · rw [hv] at hb; cases hb; exact hK
  · have key : BytesIn W1 (fun b => K b ∧ V.ownBlock ≠ some b) y.length (fnL y) q := by
      by_cases hi : i < L.length
      · rw [List.getElem?_append_left hi] at hy
        rw [List.getElem?_append_left (by omega)] at hq
        exact h4 i y q hy hq
      · rw [List.getElem?_append_right (by omega)] at hy
        rw [List.getElem?_append_right (by omega), h2] at hq
        have h0 : i - L.length = 0 := by
          have := (List.getElem?_eq_some_iff.1 hy).1
          simp at this; omega
        rw [h0] at hy hq
        simp at hy hq
        subst hy hq
        exact hu
    have key2 : BytesIn W1 (fun b => K b ∧ V'.ownBlock ≠ some b ∧ V.ownBlock ≠ some b) y.length (fnL y) q := key.less (fun b hlt hb => ⟨hb.1, fun e => by
      rcases hv with hv | hv
      · exact hb.2 (hv ▸ e)
      · rw [hv] at e; cases e; omega, hb.2⟩)
    exact (key2.keep (fun b hlt hb => hg.block b hlt (fun e => hb.2.2 e.symm))).less (fun b _ hb => ⟨hb.1, hb.2.1⟩)
end Go.Proofs.YtpnkcacmmjmehaaDoor.Jour
