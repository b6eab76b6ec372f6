/-
  Records as bytes; what is read of bytes, record by record: whole records are read as they were laid, what is left of one more is torn. D stands for the first eight bytes of the digest.
-/
import Derived.Test.YtpnkcacmmjmehaaDoorStorePlain
namespace Go.Proofs.YtpnkcacmmjmehaaDoor.Jour
open Go Go.RowKit Go.Proofs.YtpnkcacmmjmehaaDoor.Aid Go.Proofs.YtpnkcacmmjmehaaDoor.Store

abbrev By := List (BitVec 8)
def head (x : By) : By := [BitVec.ofNat 8 (x.length / 256), BitVec.ofNat 8 (x.length % 256)]
def enc (D : By → By) (x : By) : By := head x ++ (D (head x ++ x) ++ x)
def encAll (D : By → By) : List By → By
  | [] => []
  | x :: L => enc D x ++ encAll D L
def scanF (D : By → By) : Nat → By → Option (List By × By)
  | 0, b => some ([], b)
  | _ + 1, [] => some ([], [])
  | _ + 1, [h] => some ([], [h])
  | k + 1, h :: l :: r =>
    if 1000 < 256 * h.toNat + l.toNat then none
    else if r.length < 8 + (256 * h.toNat + l.toNat) then some ([], h :: l :: r)
    else if r.take 8 = D (h :: l :: (r.drop 8).take (256 * h.toNat + l.toNat)) then (scanF D k (r.drop (8 + (256 * h.toNat + l.toNat)))).map fun p => ((r.drop 8).take (256 * h.toNat + l.toNat) :: p.1, p.2)
    else none
def scan (D : By → By) (b : By) : Option (List By × By) := scanF D b.length b
section
variable {D : By → By}
theorem head_num {x : By} (hx : x.length ≤ 1000) : 256 * (BitVec.ofNat 8 (x.length / 256)).toNat + (BitVec.ofNat 8 (x.length % 256)).toNat = x.length := by
  rw [BitVec.toNat_ofNat, BitVec.toNat_ofNat]
  omega
theorem enc_len (hD : ∀ x, (D x).length = 8) (x : By) : (enc D x).length = 10 + x.length := by
  unfold enc head
  simp [hD]
  omega
theorem encAll_append (L M : List By) : encAll D (L ++ M) = encAll D L ++ encAll D M := by
  induction L with
  | nil => rfl
  | cons x L ih => rw [List.cons_append, encAll, encAll, ih, List.append_assoc]
theorem encAll_one (x : By) : encAll D [x] = enc D x := by rw [encAll, encAll, List.append_nil]
theorem encAll_len (hD : ∀ x, (D x).length = 8) (L : List By) : 10 * L.length ≤ (encAll D L).length := by
  induction L with
  | nil => exact Nat.le_refl _
  | cons x L ih => rw [encAll, List.length_append, enc_len hD, List.length_cons]; omega
theorem scan_step (hD : ∀ x, (D x).length = 8) {x : By} (hx : x.length ≤ 1000) (k : Nat) (r : By) : scanF D (k + 1) (enc D x ++ r) = (scanF D k r).map fun p => (x :: p.1, p.2) := by
  have hn := head_num hx
  unfold enc head
  simp only [List.cons_append, List.nil_append, List.append_assoc]
  rw [scanF, hn, if_neg (by omega), if_neg (by simp [hD])]
  have h8 : (D (BitVec.ofNat 8 (x.length / 256) :: BitVec.ofNat 8 (x.length % 256) :: x)).length = 8 := hD _
  generalize hd : D (BitVec.ofNat 8 (x.length / 256) :: BitVec.ofNat 8 (x.length % 256) :: x) = d at *
  have e1 : (d ++ (x ++ r)).drop 8 = x ++ r := List.drop_left' h8
  have e2 : (d ++ (x ++ r)).take 8 = d := List.take_left' h8
  have e3 : (x ++ r).take x.length = x := List.take_left
  have e4 : (d ++ (x ++ r)).drop (8 + x.length) = r := by rw [← List.drop_drop, e1]; exact List.drop_left
  rw [e1, e2, e3, e4, hd, if_pos rfl]
theorem scan_torn (hD : ∀ x, (D x).length = 8) {y p : By} (hy : y.length ≤ 1000) (hp : p <+: enc D y) (hlt : p.length < (enc D y).length) (k : Nat) : scanF D (k + 1) p = some ([], p) := by
  rw [enc_len hD] at hlt
  match p, hp with
  | [], _ => rfl
  | [h], _ => rfl
  | h :: l :: r, hp =>
    unfold enc head at hp
    obtain ⟨t, ht⟩ := hp
    simp only [List.cons_append, List.nil_append, List.cons.injEq] at ht
    obtain ⟨rfl, rfl, -⟩ := ht
    have hn := head_num hy
    rw [scanF, hn, if_neg (by omega), if_pos]
    simp at hlt
    omega
theorem scanF_all (hD : ∀ x, (D x).length = 8) {p : By} (hp : ∀ k, scanF D (k + 1) p = some ([], p)) : ∀ {L : List By}, (∀ x ∈ L, x.length ≤ 1000) → ∀ k, L.length ≤ k → scanF D (k + 1) (encAll D L ++ p) = some (L, p)
  | [], _, k, _ => hp k
  | x :: L, hL, k, hk => by
    obtain ⟨k', rfl⟩ : ∃ k', k = k' + 1 := ⟨k - 1, by simp at hk; omega⟩
    rw [encAll, List.append_assoc, scan_step hD (hL x (List.mem_cons_self ..)), scanF_all hD hp (fun y hy => hL y (List.mem_cons_of_mem _ hy)) k' (by simp at hk; omega)]
    rfl
theorem scan_nil (k : Nat) : scanF D k [] = some ([], []) := by cases k <;> rfl
/-- Whole records, and a beginning of one more. -/
theorem scan_all (hD : ∀ x, (D x).length = 8) {L : List By} (hL : ∀ x ∈ L, x.length ≤ 1000) {p : By} (hp : p = [] ∨ ∃ y : By, y.length ≤ 1000 ∧ p <+: enc D y ∧ p.length < (enc D y).length) : scan D (encAll D L ++ p) = some (L, p) := by
  unfold scan
  have hlen := encAll_len hD L
  have ht : ∀ k, scanF D (k + 1) p = some ([], p) := fun k => by
    rcases hp with rfl | ⟨y, hy, h1, h2⟩
    · exact scan_nil _
    · exact scan_torn hD hy h1 h2 k
  by_cases h0 : (encAll D L ++ p).length = 0
  · have h1 : encAll D L ++ p = [] := List.eq_nil_of_length_eq_zero h0
    rw [List.length_append] at h0
    obtain rfl : L = [] := List.eq_nil_of_length_eq_zero (by omega)
    obtain rfl : p = [] := List.eq_nil_of_length_eq_zero (by omega)
    rfl
  · obtain ⟨k, hk⟩ : ∃ k, (encAll D L ++ p).length = k + 1 := ⟨_, (Nat.succ_pred h0).symm⟩
    rw [hk]
    refine scanF_all hD ht hL k ?_
    rw [List.length_append] at hk
    omega
end
end Go.Proofs.YtpnkcacmmjmehaaDoor.Jour
