/-
  Sealed forms as plain functions over bytes: what the document's chapter on seal says, and the laws of P5.3. No program is named here.
-/
import Derived.Test.YtfjoflpidmjkbaaDoorMacExpand
import Derived.Test.YtfjoflpidmjkbaaDoorCtrPlain
import Derived.Test.YtfjoflpidmjkbaaDoorSame
namespace Go.Proofs.YtfjoflpidmjkbaaDoor.Seal
open Go Go.Proofs.YtfjoflpidmjkbaaDoor.Aid Go.Proofs.YtfjoflpidmjkbaaDoor.Sha Go.Proofs.YtfjoflpidmjkbaaDoor.Mac Go.Proofs.YtfjoflpidmjkbaaDoor.Aes Go.Proofs.YtfjoflpidmjkbaaDoor.Ctr

def pre : ByteArray := { data := #[98, 97, 114, 116, 105, 122, 97, 110, 32] }
/-- The keys of a key and a label: 48 bytes. -/
def keysB (key : Nat → BitVec 8) (s : ByteArray) : Nat → BitVec 8 := output (padKey key 16) (strByte (pre ++ s)) (pre ++ s).size
def authB (ks : Nat → BitVec 8) (j : Nat) : BitVec 8 := ks (16 + j)
/-- The counter, and what was encrypted from it on. -/
def frontB (ks first e : Nat → BitVec 8) : Nat → BitVec 8 := cat first 16 (flipB ks first e)
def formB (ks first e : Nat → BitVec 8) (n : Nat) : Nat → BitVec 8 := cat (frontB ks first e) (16 + n) (code (authB ks) 32 (frontB ks first e) (16 + n))
/-- Whether the last 32 of m bytes are the code of those before. -/
def okB (ks b : Nat → BitVec 8) (m : Nat) : Bool := sameBytes 32 32 (code (authB ks) 32 b (m - 32)) (fun j => b (m - 32 + j))
def openB (ks b : Nat → BitVec 8) : Nat → BitVec 8 := flipB ks b (fun j => b (16 + j))

theorem sameTo_all (e f : Nat → BitVec 8) : ∀ n, sameTo e f n = true → ∀ j, j < n → e j = f j
  | 0, _, j, hj => absurd hj (by omega)
  | n + 1, h, j, hj => by
    have h' : (sameTo e f n && (e n == f n)) = true := h
    rw [Bool.and_eq_true] at h'
    by_cases e1 : j = n
    · subst e1; simpa using h'.2
    · exact sameTo_all e f n h'.1 j (by omega)
theorem same_all {e f : Nat → BitVec 8} {n : Nat} (h : sameBytes n n e f = true) : ∀ j, j < n → e j = f j := by
  unfold sameBytes at h
  rw [Bool.and_eq_true] at h
  exact sameTo_all e f n h.2
theorem sameTo_congr {e f e' f' : Nat → BitVec 8} : ∀ n, (∀ j, j < n → e j = e' j) → (∀ j, j < n → f j = f' j) → sameTo e f n = sameTo e' f' n
  | 0, _, _ => rfl
  | n + 1, he, hf => by
    show (sameTo e f n && (e n == f n)) = (sameTo e' f' n && (e' n == f' n))
    rw [sameTo_congr n (fun j hj => he j (by omega)) (fun j hj => hf j (by omega)), he n (by omega), hf n (by omega)]
theorem same_congr {e f e' f' : Nat → BitVec 8} {n : Nat} (he : ∀ j, j < n → e j = e' j) (hf : ∀ j, j < n → f j = f' j) : sameBytes n n e f = sameBytes n n e' f' := by
  unfold sameBytes
  rw [sameTo_congr n he hf]
theorem flip_congr {k k' a a' e e' : Nat → BitVec 8} (hk : Same16 k k') (ha : Same16 a a') {j : Nat} (he : e j = e' j) : flipB k a e j = flipB k' a' e' j := by
  have h := enc_congr (b := nextB a (j / 16)) (b' := nextB a' (j / 16)) hk (fun i _ => nextB_congr ha _ i) (j % 16) (Nat.mod_lt _ (by omega))
  show e j ^^^ enc k (nextB a (j / 16)) (j % 16) = e' j ^^^ enc k' (nextB a' (j / 16)) (j % 16)
  rw [he, h]
theorem form_front (ks first e : Nat → BitVec 8) (n j : Nat) (hj : j < 16 + n) : formB ks first e n j = frontB ks first e j := cat_lt _ _ _ _ hj
theorem form_first (ks first e : Nat → BitVec 8) (n j : Nat) (hj : j < 16) : formB ks first e n j = first j := by
  rw [form_front _ _ _ _ _ (by omega)]
  exact cat_lt _ _ _ _ hj
theorem form_mid (ks first e : Nat → BitVec 8) (n j : Nat) (hj : j < n) : formB ks first e n (16 + j) = flipB ks first e j := by
  rw [form_front _ _ _ _ _ (by omega)]
  unfold frontB
  rw [cat_ge _ _ _ _ (by omega), Nat.add_sub_cancel_left]
theorem form_code (ks first e : Nat → BitVec 8) (n j : Nat) : formB ks first e n (16 + n + j) = code (authB ks) 32 (frontB ks first e) (16 + n) j := by
  unfold formB
  rw [cat_ge _ _ _ _ (by omega), Nat.add_sub_cancel_left]
/-- The keys hold to the counter, the plaintext to its bytes alone. -/
theorem front_congr {ks ks' a a' e e' : Nat → BitVec 8} {n : Nat} (hk : Same16 ks ks') (ha : Same16 a a') (he : ∀ j, j < n → e j = e' j) (j : Nat) (hj : j < 16 + n) : frontB ks a e j = frontB ks' a' e' j := by
  unfold frontB
  by_cases h : j < 16
  · rw [cat_lt _ _ _ _ h, cat_lt _ _ _ _ h, ha j h]
  · rw [cat_ge _ _ _ _ (by omega), cat_ge _ _ _ _ (by omega)]
    exact flip_congr hk ha (he _ (by omega))
theorem form_congr {ks ks' a a' e e' : Nat → BitVec 8} {n : Nat} (hk : ∀ j, j < 48 → ks j = ks' j) (ha : Same16 a a') (he : ∀ j, j < n → e j = e' j) (j : Nat) (_ : j < 48 + n) : formB ks a e n j = formB ks' a' e' n j := by
  have hf := front_congr (n := n) (fun i hi => hk i (by omega)) ha he
  unfold formB
  by_cases h : j < 16 + n
  · rw [cat_lt _ _ _ _ h, cat_lt _ _ _ _ h, hf j h]
  · rw [cat_ge _ _ _ _ (by omega), cat_ge _ _ _ _ (by omega), code_congr (authB ks) (authB ks') _ _ 32 (16 + n) (fun i hi => hk _ (by omega)) hf]

/-- What was sealed opens .. -/
theorem ok_form (ks first e : Nat → BitVec 8) (n : Nat) : okB ks (formB ks first e n) (48 + n) = true := by
  unfold okB
  refine same_refl _ _ _ (fun j hj => ?_)
  rw [show 48 + n - 32 = 16 + n by omega, form_code]
  exact congrFun (code_congr _ _ _ _ _ _ (fun _ _ => rfl) (fun i hi => form_front ks first e n i hi)) j
/-- .. to what it was. -/
theorem open_form (ks first e : Nat → BitVec 8) (n j : Nat) (hj : j < n) : openB ks (formB ks first e n) j = e j := by
  unfold openB
  rw [flip_congr (k' := ks) (a' := first) (e' := flipB ks first e) (fun _ _ => rfl) (fun i hi => form_first ks first e n i hi) (form_mid ks first e n j hj)]
  exact Ctr.flip_flip ks first e j
/-- What opens is the sealed form of what it opens to. -/
theorem form_open (ks b : Nat → BitVec 8) (m : Nat) (hm : 48 ≤ m) (h : okB ks b m = true) (j : Nat) (hj : j < m) : formB ks b (openB ks b) (m - 48) j = b j := by
  have hf : ∀ i, i < m - 32 → frontB ks b (openB ks b) i = b i := fun i hi => by
    unfold frontB
    by_cases h16 : i < 16
    · rw [cat_lt _ _ _ _ h16]
    · rw [cat_ge _ _ _ _ (by omega)]
      unfold openB
      rw [Ctr.flip_flip, show 16 + (i - 16) = i by omega]
  have hs := same_all h
  rw [show m - 32 = 16 + (m - 48) by omega] at hs hf
  unfold formB
  by_cases h1 : j < 16 + (m - 48)
  · rw [cat_lt _ _ _ _ h1, hf j h1]
  · rw [cat_ge _ _ _ _ (by omega), code_congr (authB ks) (authB ks) _ b 32 _ (fun _ _ => rfl) hf, hs _ (by omega), show 16 + (m - 48) + (j - (16 + (m - 48))) = j by omega]
theorem ok_congr {ks ks' b b' : Nat → BitVec 8} {m : Nat} (hm : 48 ≤ m) (hk : ∀ j, j < 48 → ks j = ks' j) (hb : ∀ j, j < m → b j = b' j) : okB ks b m = okB ks' b' m := by
  unfold okB
  refine same_congr (fun j _ => ?_) (fun j hj => hb _ (by omega))
  exact congrFun (code_congr _ _ _ _ _ _ (fun i hi => hk _ (by omega)) (fun i hi => hb i (by omega))) j
end Go.Proofs.YtfjoflpidmjkbaaDoor.Seal
