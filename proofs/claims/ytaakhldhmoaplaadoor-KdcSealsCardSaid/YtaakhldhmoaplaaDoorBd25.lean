/-
  What the distributor answers, as plain functions: sealed fields, opened fields, and an answer.
-/
import Derived.Test.YtaakhldhmoaplaaDoorBd21
import Derived.Test.YtaakhldhmoaplaaDoorBd08
import Derived.Test.YtaakhldhmoaplaaDoorBd23
import Derived.Test.YtaakhldhmoaplaaDoorBd24
import Derived.Test.YtaakhldhmoaplaaDoorBd01
namespace Go.Proofs.YtaakhldhmoaplaaDoor.Kdc
open Go Go.RowKit Go.Proofs.YtaakhldhmoaplaaDoor.Aid Go.Proofs.YtaakhldhmoaplaaDoor.Law01 Go.Proofs.YtaakhldhmoaplaaDoor.Field Go.Proofs.YtaakhldhmoaplaaDoor.Law05
open Go.Proofs.YtaakhldhmoaplaaDoor.Seal (keysB formB openB okB)
open Go.Proofs.YtaakhldhmoaplaaDoor.Note (NoteP)
open Go.Proofs.YtaakhldhmoaplaaDoor.Book (Bk Wd keyB hasN)

/-- What Split makes of n bytes: how many fields, and the error. -/
def splitL (E : Nat → BitVec 8) (n : Nat) : Nat → Nat → Nat → Nat × Int
  | 0, _, k => (k, 0)
  | f + 1, p, k => if p < n then (if stepC E n p k = 0 then splitL E n f (p + 2 + lenAt E p) (k + 1) else (k, stepC E n p k)) else (k, 0)
def splitR (E : Nat → BitVec 8) (n : Nat) : Nat × Int := splitL E n 22 0 0
theorem splitL_spec {E : Nat → BitVec 8} {n : Nat} : ∀ f k, k + f = 22 → (∀ i, i < k → sp E i < n ∧ stepC E n (sp E i) i = 0) → SplitSpec E n (splitL E n f (sp E k) k).1 (splitL E n f (sp E k) k).2
  | 0, k, hk, h => by
    obtain rfl : k = 22 := by omega
    exact absurd rfl (step_ok (h 20 (by omega)).2).2.2.1
  | f + 1, k, hk, h => by
    unfold splitL
    by_cases h1 : sp E k < n
    · rw [if_pos h1]
      by_cases h2 : stepC E n (sp E k) k = 0
      · rw [if_pos h2]
        exact splitL_spec f (k + 1) (by omega) (fun i hi => by
          by_cases e : i = k
          · subst e; exact ⟨h1, h2⟩
          · exact h i (by omega))
      · rw [if_neg h2]; exact ⟨h, .inr ⟨h2, h1, rfl⟩⟩
    · rw [if_neg h1]; exact ⟨h, .inl ⟨rfl, by show n ≤ sp E k; omega⟩⟩
theorem splitR_spec (E : Nat → BitVec 8) (n : Nat) : SplitSpec E n (splitR E n).1 (splitR E n).2 := splitL_spec 22 0 rfl (fun i hi => by omega)
theorem splitR_eq {E : Nat → BitVec 8} {n k : Nat} {c : Int} (h : SplitSpec E n k c) : splitR E n = (k, c) := by
  obtain ⟨h1, h2⟩ := split_unique (splitR_spec E n) h
  exact Prod.ext h1 h2

/-- Split looks at the bytes that there are. -/
theorem lenAt_congr {E F : Nat → BitVec 8} {n p : Nat} (he : ∀ j, j < n → E j = F j) (hp : p + 2 ≤ n) : lenAt E p = lenAt F p := by
  unfold lenAt
  rw [he p (by omega), he (p + 1) (by omega)]
theorem step_congr {E F : Nat → BitVec 8} {n p k : Nat} (he : ∀ j, j < n → E j = F j) : stepC E n p k = stepC F n p k := by
  unfold stepC
  by_cases h : n < p + 2
  · rw [if_pos h, if_pos h]
  · rw [if_neg h, if_neg h, lenAt_congr he (by omega)]
theorem sp_congr {E F : Nat → BitVec 8} {n k : Nat} {c : Int} (h : SplitSpec E n k c) (he : ∀ j, j < n → E j = F j) : ∀ i, i ≤ k → sp E i = sp F i
  | 0, _ => rfl
  | i + 1, hi => by
    have h1 := step_ok (h.1 i (by omega)).2
    show sp E i + 2 + lenAt E (sp E i) = sp F i + 2 + lenAt F (sp F i)
    rw [← sp_congr h he i (by omega), lenAt_congr he h1.1]
theorem split_congr {E F : Nat → BitVec 8} {n k : Nat} {c : Int} (h : SplitSpec E n k c) (he : ∀ j, j < n → E j = F j) :
    SplitSpec F n k c ∧ ∀ i, i < k → fieldM F i = fieldM E i ∧ ∀ j, j < fieldM E i → fieldE F i j = fieldE E i j := by
  have hs := sp_congr h he
  refine ⟨⟨fun i hi => ?_, ?_⟩, fun i hi => ?_⟩
  · rw [← hs i (by omega), ← step_congr he]
    exact h.1 i hi
  · rw [← hs k (Nat.le_refl _), ← step_congr he]
    exact h.2
  · have h1 := step_ok (h.1 i hi).2
    refine ⟨by unfold fieldM; rw [← hs i (by omega), lenAt_congr he h1.1], fun j hj => ?_⟩
    unfold fieldM at hj
    unfold fieldE
    rw [← hs i (by omega), he _ (by omega)]

/-- What Parts tells: the error, and how many. -/
def partsC (ks E : Nat → BitVec 8) (s : ByteArray) (m : Nat) (many : Int) : Int :=
  if openCode ks E s m = 0 then (if (splitR (openB ks E) (m - 48)).2 = 0 ∧ ((splitR (openB ks E) (m - 48)).1 : Int) = many then 0 else 3) else (openCode ks E s m : Int)
def partsK (ks E : Nat → BitVec 8) (s : ByteArray) (m : Nat) (many : Int) : Nat := if partsC ks E s m many = 0 then (splitR (openB ks E) (m - 48)).1 else 0
/-- What Sealed tells. -/
def sealedN (s : ByteArray) (len : Nat) (m : Nat → Nat) : Nat := if putB len m = true then sealLen s (encN m len) else 0
def sealedB (key first : Nat → BitVec 8) (s : ByteArray) (len : Nat) (m : Nat → Nat) (e : Nat → Nat → BitVec 8) : Nat → BitVec 8 := formB (keysB key s) first (encB m e len) (encN m len)
theorem sealed_len {s : ByteArray} {len : Nat} {m : Nat → Nat} (hp : putB len m = true) (hs : 1 ≤ s.size ∧ s.size ≤ 40) (hn : encN m len ≤ 1000) : sealedN s len m = 48 + encN m len := by
  unfold sealedN sealLen sealCode
  rw [if_pos hp, if_pos hs, if_neg (by omega : ¬ 1000 < encN m len), if_pos rfl]
theorem parts_few {ks E : Nat → BitVec 8} {s : ByteArray} {m : Nat} {many : Int} (h : partsC ks E s m many = 0) : openCode ks E s m = 0 ∧ (splitR (openB ks E) (m - 48)).2 = 0 ∧ ((splitR (openB ks E) (m - 48)).1 : Int) = many := by
  unfold partsC at h
  by_cases h1 : openCode ks E s m = 0
  · rw [if_pos h1] at h
    by_cases h2 : (splitR (openB ks E) (m - 48)).2 = 0 ∧ ((splitR (openB ks E) (m - 48)).1 : Int) = many
    · exact ⟨h1, h2.1, h2.2⟩
    · rw [if_neg h2] at h; cases h
  · rw [if_neg h1] at h
    exact absurd (by exact_mod_cast h) h1
theorem partsK_eq {ks E : Nat → BitVec 8} {s : ByteArray} {m n : Nat} (h : partsC ks E s m (n : Int) = 0) : partsK ks E s m (n : Int) = n := by
  unfold partsK
  rw [if_pos h]
  have := (parts_few h).2.2
  exact_mod_cast this
/-- What was sealed opens to the same fields. -/
theorem parts_sealed (key first : Nat → BitVec 8) (s : ByteArray) (len : Nat) (m : Nat → Nat) (e : Nat → Nat → BitVec 8) (E : Nat → BitVec 8) (hp : putB len m = true) (hs : 1 ≤ s.size ∧ s.size ≤ 40) (hn : encN m len ≤ 1000)
    (hE : ∀ j, j < 48 + encN m len → E j = sealedB key first s len m e j) :
    partsC (keysB key s) E s (48 + encN m len) (len : Int) = 0 ∧ ∀ i, i < len → fieldM (openB (keysB key s) E) i = m i ∧ ∀ j, j < m i → fieldE (openB (keysB key s) E) i j = e i j := by
  have hE' : ∀ j, j < 48 + encN m len → E j = formB (keysB key s) first (encB m e len) (encN m len) j := hE
  clear hE
  generalize keysB key s = ks at *
  generalize hb : encB m e len = b at *
  generalize hn' : encN m len = n at *
  have hok : okB ks E (48 + n) = true :=
    (Seal.ok_congr (m := 48 + n) (ks := ks) (ks' := ks) (b := E) (b' := formB ks first b n) (by omega) (fun _ _ => rfl) hE').trans (Seal.ok_form ks first b n)
  have hc : openCode ks E s (48 + n) = 0 := by
    unfold openCode
    rw [if_pos hs, if_neg (by omega), if_neg (by omega), if_pos hok]
  have hB : ∀ j, j < n → b j = openB ks E j := fun j hj => by
    rw [← Seal.open_form ks first b n j hj]
    have hf := Seal.flip_congr (k := ks) (k' := ks) (a := E) (a' := formB ks first b n) (e := fun j => E (16 + j)) (e' := fun j => formB ks first b n (16 + j)) (j := j) (fun _ _ => rfl) (fun i hi => hE' i (by omega)) (hE' (16 + j) (by omega))
    exact hf.symm
  obtain ⟨h1, h2⟩ := split_put e hp
  rw [hb, hn'] at h1
  rw [hb] at h2
  obtain ⟨h3, h4⟩ := split_congr h1 hB
  have h5 := splitR_eq h3
  refine ⟨?_, fun i hi => ?_⟩
  · unfold partsC
    rw [if_pos hc, Nat.add_sub_cancel_left, h5, if_pos ⟨rfl, rfl⟩]
  · obtain ⟨a1, a2⟩ := h2 i hi
    obtain ⟨b1, b2⟩ := h4 i hi
    exact ⟨b1.trans a1, fun j hj => (b2 j (by rw [a1]; exact hj)).trans (a2 j hj)⟩

/-- Fields as a list. -/
def fldM (l : List (Nat × (Nat → BitVec 8))) (i : Nat) : Nat := (l.getD i (0, fun _ => 0)).1
def fldE (l : List (Nat × (Nat → BitVec 8))) (i : Nat) : Nat → BitVec 8 := (l.getD i (0, fun _ => 0)).2
def blobN (l : List (Nat × (Nat → BitVec 8))) : Nat := 48 + encN (fldM l) l.length
def blobB (key first : Nat → BitVec 8) (s : ByteArray) (l : List (Nat × (Nat → BitVec 8))) : Nat → BitVec 8 := sealedB key first s l.length (fldM l) (fldE l)
def lNs2 : ByteArray := ⟨#[110, 115, 50]⟩
def lNs3 : ByteArray := ⟨#[110, 115, 51]⟩
def lNst : ByteArray := ⟨#[110, 115, 116]⟩
def lK3a : ByteArray := ⟨#[107, 51, 97]⟩
def lK3b : ByteArray := ⟨#[107, 51, 98]⟩
def keyF (k : Wd) (j : Nat) : BitVec 8 := k.getD j 0
/-- NS: the keys that the request is opened by, its fields' bytes, its first field. -/
def nsKs (b : Bk) (N : NoteP) : Nat → BitVec 8 := keysB (keyF (keyB N.b b.L)) lNs2
def nsE (b : Bk) (N : NoteP) : Nat → BitVec 8 := openB (nsKs b N) N.p
def nsA (b : Bk) (N : NoteP) : ByteArray := strOf (fieldE (nsE b N) 0) (fieldM (nsE b N) 0)
/-- A request's fields: a name, a word and a number. -/
def reqF (E : Nat → BitVec 8) : Bool := nameB (strOf (fieldE E 0) (fieldM E 0)) && decide (fieldM E 1 = 16) && decide (fieldM E 2 = 8)
def reqC (ks e : Nat → BitVec 8) (m : Nat) : Int := if partsC ks e lNs2 m 3 = 0 then (if reqF (openB ks e) = true then 0 else 3) else partsC ks e lNs2 m 3
def nsC (b : Bk) (N : NoteP) : Int :=
  if hasN b.L N.b = false then 4
  else if reqC (nsKs b N) N.p N.pn ≠ 0 then reqC (nsKs b N) N.p N.pn
  else if nsA b N = N.b then 1
  else if hasN b.L (nsA b N) = false then 4 else 0
def nsP (b : Bk) (N : NoteP) (d : Nat → BitVec 8) : List (Nat × (Nat → BitVec 8)) := [(N.b.size, strB N.b), (16, fieldE (nsE b N) 1), (16, d), (8, fieldE (nsE b N) 2)]
def nsQ (b : Bk) (N : NoteP) (d : Nat → BitVec 8) : List (Nat × (Nat → BitVec 8)) := [((nsA b N).size, strB (nsA b N)), (16, d), (8, fieldE (nsE b N) 2)]
/-- KSL. -/
def kslC (b : Bk) (N : NoteP) : Int := if N.a = N.b then 1 else if hasN b.L N.a = false ∨ hasN b.L N.b = false then 4 else 0
def kslP (N : NoteP) (d : Nat → BitVec 8) : List (Nat × (Nat → BitVec 8)) := [(16, N.y), (N.a.size, strB N.a), (16, d)]
def kslQ (N : NoteP) (d : Nat → BitVec 8) : List (Nat × (Nat → BitVec 8)) := [(16, N.x), (N.b.size, strB N.b), (16, d)]
def zeroN : NoteP := ⟨0, ⟨#[]⟩, ⟨#[]⟩, fun _ => 0, fun _ => 0, 0, fun _ => 0, 0, fun _ => 0, 0, fun _ => 0⟩
/-- An answer: the error, to whom, and what. -/
def ansC (b : Bk) (N : NoteP) : Int := if N.kind = 2 then nsC b N else if N.kind = 7 then kslC b N else 13
def ansTo (b : Bk) (N : NoteP) : ByteArray := if ansC b N = 0 then (if N.kind = 2 then nsA b N else N.b) else ⟨#[]⟩
def nsN (b : Bk) (N : NoteP) (d0 d1 d2 : Nat → BitVec 8) : NoteP :=
  ⟨3, ⟨#[]⟩, ⟨#[]⟩, fun _ => 0, N.y, blobN (nsP b N d0), blobB (keyF (keyB (nsA b N) b.L)) d1 lNs3 (nsP b N d0), blobN (nsQ b N d0), blobB (keyF (keyB N.b b.L)) d2 lNst (nsQ b N d0), 0, fun _ => 0⟩
def kslN (b : Bk) (N : NoteP) (d0 d1 d2 : Nat → BitVec 8) : NoteP :=
  ⟨8, ⟨#[]⟩, ⟨#[]⟩, fun _ => 0, fun _ => 0, blobN (kslP N d0), blobB (keyF (keyB N.b b.L)) d1 lK3b (kslP N d0), blobN (kslQ N d0), blobB (keyF (keyB N.a b.L)) d2 lK3a (kslQ N d0), 0, fun _ => 0⟩
def ansN (b : Bk) (N : NoteP) (d0 d1 d2 : Nat → BitVec 8) : NoteP := if ansC b N = 0 then (if N.kind = 2 then nsN b N d0 d1 d2 else kslN b N d0 d1 d2) else zeroN
end Go.Proofs.YtaakhldhmoaplaaDoor.Kdc
