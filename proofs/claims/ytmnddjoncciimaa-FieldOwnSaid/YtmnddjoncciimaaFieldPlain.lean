/-
  Fields as plain bytes: what the document's chapter on fields says of any list of fields and of any bytes; that they come back.
-/
import Derived.Test.YtmnddjoncciimaaOwn
namespace Go.Proofs.Ytmnddjoncciimaa.Field
open Go Go.RowKit Go.Proofs.Ytmnddjoncciimaa.Aid Go.Proofs.Ytmnddjoncciimaa.Law01

def bt (n : Nat) : BitVec 8 := BitVec.ofNat 8 n
theorem bt_toNat {n : Nat} (h : n < 256) : (bt n).toNat = n := by unfold bt; rw [BitVec.toNat_ofNat]; exact Nat.mod_eq_of_lt h
/-- A field with its length ahead of it. -/
def frame (m : Nat) (e : Nat → BitVec 8) (j : Nat) : BitVec 8 := if j = 0 then bt (m / 256) else if j = 1 then bt (m % 256) else e (j - 2)
def m2 (m : Nat → Nat) (i : Nat) : Nat := m i + 2
def fr (m : Nat → Nat) (e : Nat → Nat → BitVec 8) (i : Nat) : Nat → BitVec 8 := frame (m i) (e i)
def encN (m : Nat → Nat) (len : Nat) : Nat := off (m2 m) len
def encB (m : Nat → Nat) (e : Nat → Nat → BitVec 8) (len : Nat) : Nat → BitVec 8 := catAll (m2 m) (fr m e) len
theorem off_m2 (m : Nat → Nat) : ∀ len, off (m2 m) len = off m len + 2 * len
  | 0 => rfl
  | k + 1 => by
    show off (m2 m) k + (m k + 2) = off m k + m k + 2 * (k + 1)
    rw [off_m2 m k]; omega
theorem off_ge (m : Nat → Nat) {i k : Nat} (h : i < k) : m i ≤ off m k := by
  have h1 := off_mono m (show i + 1 ≤ k from h)
  have : off m (i + 1) = off m i + m i := rfl
  omega
def putB (len : Nat) (m : Nat → Nat) : Bool := decide (len ≤ 20 ∧ ∀ i, i < len → m i ≤ 500)
def putC (len : Nat) (m : Nat → Nat) : Int := if putB len m then 0 else 7
def putN (len : Nat) (m : Nat → Nat) : Nat := if putB len m then encN m len else 0
theorem putB_at {len : Nat} {m : Nat → Nat} (h : putB len m = true) : len ≤ 20 ∧ ∀ i, i < len → m i ≤ 500 := of_decide_eq_true h
theorem putB_of {len : Nat} {m : Nat → Nat} (h1 : len ≤ 20) (h2 : ∀ i, i < len → m i ≤ 500) : putB len m = true := decide_eq_true ⟨h1, h2⟩
theorem putB_many {len : Nat} {m : Nat → Nat} (h1 : 20 < len) : putB len m = false := decide_eq_false (fun h => by omega)
theorem putB_long {len : Nat} {m : Nat → Nat} (i : Nat) (hi : i < len) (h1 : 500 < m i) : putB len m = false := decide_eq_false (fun h => by have := h.2 i hi; omega)

/-- The length that is written at a place. -/
def lenAt (E : Nat → BitVec 8) (p : Nat) : Nat := 256 * (E p).toNat + (E (p + 1)).toNat
/-- Where field k begins. -/
def sp (E : Nat → BitVec 8) : Nat → Nat
  | 0 => 0
  | k + 1 => sp E k + 2 + lenAt E (sp E k)
def stepC (E : Nat → BitVec 8) (n p k : Nat) : Int := if n < p + 2 then 2 else if 500 < lenAt E p ∨ k = 20 then 7 else if n < p + 2 + lenAt E p then 2 else 0
theorem step_ok {E : Nat → BitVec 8} {n p k : Nat} (h : stepC E n p k = 0) : p + 2 ≤ n ∧ lenAt E p ≤ 500 ∧ k ≠ 20 ∧ p + 2 + lenAt E p ≤ n := by
  unfold stepC at h
  split at h
  · cases h
  · split at h
    · cases h
    · split at h
      · cases h
      · omega
theorem step_of {E : Nat → BitVec 8} {n p k : Nat} (h1 : lenAt E p ≤ 500) (h2 : k ≠ 20) (h3 : p + 2 + lenAt E p ≤ n) : stepC E n p k = 0 := by
  unfold stepC
  rw [if_neg (by omega), if_neg (by omega), if_neg (by omega)]
/-- What Split does: k fields are taken; then there are no more bytes, or the error comes. -/
def SplitSpec (E : Nat → BitVec 8) (n k : Nat) (c : Int) : Prop :=
  (∀ i, i < k → sp E i < n ∧ stepC E n (sp E i) i = 0) ∧ ((c = 0 ∧ n ≤ sp E k) ∨ (c ≠ 0 ∧ sp E k < n ∧ stepC E n (sp E k) k = c))
theorem split_unique {E : Nat → BitVec 8} {n k k' : Nat} {c c' : Int} (h : SplitSpec E n k c) (h' : SplitSpec E n k' c') : k = k' ∧ c = c' := by
  have hk : ∀ {a b : Nat} {x y : Int}, SplitSpec E n a x → SplitSpec E n b y → ¬ a < b := fun {a b x y} h1 h2 hlt => by
    have ha := h2.1 a hlt
    rcases h1.2 with ⟨_, q⟩ | ⟨q0, _, q⟩
    · omega
    · rw [ha.2] at q; exact q0 q.symm
  have hkk : k = k' := Nat.le_antisymm (Nat.le_of_not_lt (hk h' h)) (Nat.le_of_not_lt (hk h h'))
  subst hkk
  refine ⟨rfl, ?_⟩
  rcases h.2 with ⟨q, p⟩ | ⟨q0, q1, q2⟩ <;> rcases h'.2 with ⟨r, s⟩ | ⟨r0, r1, r2⟩
  · rw [q, r]
  · omega
  · omega
  · rw [← q2, ← r2]
theorem split_le {E : Nat → BitVec 8} {n k : Nat} {c : Int} (h : SplitSpec E n k c) : ∀ i, i ≤ k → sp E i ≤ n
  | 0, _ => Nat.zero_le _
  | i + 1, hi => by
    have := step_ok (h.1 i (by omega)).2
    show sp E i + 2 + lenAt E (sp E i) ≤ n
    omega
theorem split_few {E : Nat → BitVec 8} {n k : Nat} {c : Int} (h : SplitSpec E n k c) : k ≤ 20 := by
  by_cases hk : 20 < k
  · exact absurd rfl (step_ok (h.1 20 hk).2).2.2.1
  · omega
def fieldM (E : Nat → BitVec 8) (i : Nat) : Nat := lenAt E (sp E i)
def fieldE (E : Nat → BitVec 8) (i j : Nat) : BitVec 8 := E (sp E i + 2 + j)
theorem sp_off (E : Nat → BitVec 8) : ∀ k, off (m2 (fieldM E)) k = sp E k
  | 0 => rfl
  | k + 1 => by
    show off (m2 (fieldM E)) k + (fieldM E k + 2) = sp E k + 2 + lenAt E (sp E k)
    rw [sp_off E k]
    unfold fieldM
    omega
theorem byte_lt (x : BitVec 8) : x.toNat < 256 := x.isLt
/-- What Split takes apart is put to the same bytes. -/
theorem put_split {E : Nat → BitVec 8} {n k : Nat} (h : SplitSpec E n k 0) : putB k (fieldM E) = true ∧ encN (fieldM E) k = n ∧ ∀ j, j < n → encB (fieldM E) (fieldE E) k j = E j := by
  have hn : sp E k = n := by
    rcases h.2 with ⟨_, q⟩ | ⟨q, _⟩
    · have := split_le h k (Nat.le_refl _); omega
    · exact absurd rfl q
  have hB : ∀ i, i ≤ k → ∀ j, j < sp E i → encB (fieldM E) (fieldE E) i j = E j := by
    intro i
    induction i with
    | zero => intro _ j hj; exact absurd hj (Nat.not_lt_zero _)
    | succ i ih =>
      intro hi j hj
      show cat (catAll (m2 (fieldM E)) (fr (fieldM E) (fieldE E)) i) (off (m2 (fieldM E)) i) (fr (fieldM E) (fieldE E) i) j = E j
      unfold cat
      rw [sp_off]
      by_cases hlt : j < sp E i
      · rw [if_pos hlt]; exact ih (by omega) j hlt
      · rw [if_neg hlt]
        have hj' : j < sp E i + 2 + lenAt E (sp E i) := hj
        unfold fr frame fieldM
        have b0 := byte_lt (E (sp E i))
        have b1 := byte_lt (E (sp E i + 1))
        by_cases h0 : j - sp E i = 0
        · rw [if_pos h0]
          have : lenAt E (sp E i) / 256 = (E (sp E i)).toNat := by unfold lenAt; omega
          rw [this, show j = sp E i by omega]
          unfold bt
          exact BitVec.eq_of_toNat_eq (by rw [BitVec.toNat_ofNat]; exact Nat.mod_eq_of_lt b0)
        · rw [if_neg h0]
          by_cases h1 : j - sp E i = 1
          · rw [if_pos h1]
            have : lenAt E (sp E i) % 256 = (E (sp E i + 1)).toNat := by unfold lenAt; omega
            rw [this, show j = sp E i + 1 by omega]
            unfold bt
            exact BitVec.eq_of_toNat_eq (by rw [BitVec.toNat_ofNat]; exact Nat.mod_eq_of_lt b1)
          · rw [if_neg h1]
            unfold fieldE
            congr 1
            omega
  refine ⟨putB_of (split_few h) (fun i hi => (step_ok (h.1 i hi).2).2.1), by unfold encN; rw [sp_off, hn], fun j hj => hB k (Nat.le_refl _) j (by omega)⟩
/-- What was put is split. -/
theorem split_put {len : Nat} {m : Nat → Nat} (e : Nat → Nat → BitVec 8) (h : putB len m = true) :
    SplitSpec (encB m e len) (encN m len) len 0 ∧ ∀ i, i < len → fieldM (encB m e len) i = m i ∧ ∀ j, j < m i → fieldE (encB m e len) i j = e i j := by
  obtain ⟨h1, h2⟩ := putB_at h
  have hpart : ∀ i, i < len → ∀ j, j < m i + 2 → encB m e len (off (m2 m) i + j) = frame (m i) (e i) j := fun i hi j hj => catAll_part (m2 m) (fr m e) hi j hj
  have hlen : ∀ i, i < len → lenAt (encB m e len) (off (m2 m) i) = m i := fun i hi => by
    have a := hpart i hi 0 (by omega)
    have b := hpart i hi 1 (by omega)
    have hm := h2 i hi
    unfold lenAt
    rw [Nat.add_zero] at a
    rw [a, b]
    unfold frame
    rw [if_pos rfl, if_neg (by omega), if_pos rfl, bt_toNat (by omega), bt_toNat (by omega)]
    omega
  have hsp : ∀ i, i ≤ len → sp (encB m e len) i = off (m2 m) i := by
    intro i
    induction i with
    | zero => intro _; rfl
    | succ i ih =>
      intro hi
      show sp (encB m e len) i + 2 + lenAt _ (sp (encB m e len) i) = off (m2 m) i + (m i + 2)
      rw [ih (by omega), hlen i (by omega)]
      omega
  refine ⟨⟨fun i hi => ?_, .inl ⟨rfl, by rw [hsp len (Nat.le_refl _)]; exact Nat.le_refl _⟩⟩, fun i hi => ⟨by unfold fieldM; rw [hsp i (by omega), hlen i hi], fun j hj => ?_⟩⟩
  · have hmo := off_mono (m2 m) (show i + 1 ≤ len from hi)
    have hst : off (m2 m) (i + 1) = off (m2 m) i + (m i + 2) := rfl
    rw [hsp i (by omega)]
    unfold encN
    refine ⟨by omega, step_of ?_ (by omega) ?_⟩
    · rw [hlen i hi]; exact h2 i hi
    · rw [hlen i hi]; omega
  · unfold fieldE
    rw [hsp i (by omega), show off (m2 m) i + 2 + j = off (m2 m) i + (2 + j) by omega, hpart i hi (2 + j) (by omega)]
    unfold frame
    rw [if_neg (by omega), if_neg (by omega)]
    congr 1
    omega

/-- A number's bytes, the first the most significant; and back. -/
def numU (n : Int) : Nat := (n % 18446744073709551616).toNat
def numB (n : Int) (j : Nat) : BitVec 8 := bt (numU n / 256 ^ (7 - j) % 256)
def tU (E : Nat → BitVec 8) : Nat → Nat
  | 0 => 0
  | k + 1 => 256 * tU E k + (E k).toNat
def takeV (E : Nat → BitVec 8) (n : Nat) : Int := if n = 8 then wrap64 (tU E 8 : Int) else 0
def takeC (n : Nat) : Int := if n = 8 then 0 else 3
theorem tU_num (n : Int) : ∀ k, k ≤ 8 → tU (numB n) k = numU n / 256 ^ (8 - k)
  | 0, _ => by
    have : numU n < 18446744073709551616 := by unfold numU; omega
    show 0 = numU n / 256 ^ 8
    rw [show (256 : Nat) ^ 8 = 18446744073709551616 by decide]
    omega
  | k + 1, hk => by
    show 256 * tU (numB n) k + (numB n k).toNat = _
    rw [tU_num n k (by omega)]
    unfold numB
    rw [bt_toNat (Nat.mod_lt _ (by omega)), show 8 - k = (7 - k) + 1 by omega, show 8 - (k + 1) = 7 - k by omega, Nat.pow_succ, ← Nat.div_div_eq_div_mul]
    generalize numU n / 256 ^ (7 - k) = x
    omega
theorem take_num (n : Int) (h1 : -9223372036854775808 ≤ n) (h2 : n ≤ 9223372036854775807) : takeV (numB n) 8 = n ∧ takeC 8 = 0 := by
  unfold takeV takeC
  rw [if_pos rfl, if_pos rfl, tU_num n 8 (Nat.le_refl _)]
  refine ⟨?_, rfl⟩
  unfold wrap64 numU
  simp only [Nat.sub_self, Nat.pow_zero, Nat.div_one]
  omega
def wordC (n : Nat) : Int := if n = 16 then 0 else 3
end Go.Proofs.Ytmnddjoncciimaa.Field
