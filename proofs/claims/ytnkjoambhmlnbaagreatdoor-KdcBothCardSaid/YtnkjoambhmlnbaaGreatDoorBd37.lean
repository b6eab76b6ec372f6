/-
  What the distributor answers, as plain functions: sealed fields, opened fields, and an answer. What kdc.Sealed and kdc.Parts do. What the functions do that make what a principal is told; lists of fields in a new block. kdc.Parts of what kdc.Sealed returned: the same fields.
-/
import Derived.Test.YtnkjoambhmlnbaaGreatDoorBd35
import Derived.Test.YtnkjoambhmlnbaaGreatDoorBd07
import Derived.Test.YtnkjoambhmlnbaaGreatDoorBd09
import Derived.Test.YtnkjoambhmlnbaaGreatDoorBd01
import Derived.Test.YtnkjoambhmlnbaaGreatDoorBd15
import Derived.Test.YtnkjoambhmlnbaaGreatDoorBd18
import Derived.Test.YtnkjoambhmlnbaaGreatDoorBd08
import Derived.Test.YtnkjoambhmlnbaaGreatDoorBd31
import Derived.Deep.AppendLies
import Derived.Lib.SliceRun
namespace Go.Proofs.YtnkjoambhmlnbaaGreatDoor.Kdc
open Go Go.RowKit Go.Proofs.YtnkjoambhmlnbaaGreatDoor.Aid Go.Proofs.YtnkjoambhmlnbaaGreatDoor.Law01 Go.Proofs.YtnkjoambhmlnbaaGreatDoor.Field Go.Proofs.YtnkjoambhmlnbaaGreatDoor.Law05
open Go.Proofs.YtnkjoambhmlnbaaGreatDoor.Seal (keysB formB openB okB)
open Go.Proofs.YtnkjoambhmlnbaaGreatDoor.Note (NoteP)
open Go.Proofs.YtnkjoambhmlnbaaGreatDoor.Book (Bk Wd keyB hasN)

/-- What Split makes of n bytes: how many fields, and the error. -/
def splitL (E : Nat → BitVec 8) (n : Nat) : Nat → Nat → Nat → Nat × Int
  | 0, _, k => (k, 0)
  | f + 1, p, k => if p < n then (if stepC E n p k = 0 then splitL E n f (p + 2 + lenAt E p) (k + 1) else (k, stepC E n p k)) else (k, 0)
def splitR (E : Nat → BitVec 8) (n : Nat) : Nat × Int := splitL E n 22 0 0
theorem splitL_spec {E : Nat → BitVec 8} {n : Nat} : ∀ f k, k + f = 22 → (∀ i, i < k → sp E i < n ∧ stepC E n (sp E i) i = 0) → SplitSpec E n (splitL E n f (sp E k) k).1 (splitL E n f (sp E k) k).2
  | 0, k, hk, h => by
    obtain rfl : k = 22 := by omega
    exact absurd rfl (step_ok (h 20 (by omega)).2).2.2.1
  | f + 1, k, hk, h => by
    unfold splitL
    by_cases h1 : sp E k < n
    · rw [if_pos h1]
      by_cases h2 : stepC E n (sp E k) k = 0
      · rw [if_pos h2]
        exact splitL_spec f (k + 1) (by omega) (fun i hi => by
          by_cases e : i = k
          · subst e; exact ⟨h1, h2⟩
          · exact h i (by omega))
      · rw [if_neg h2]; exact ⟨h, .inr ⟨h2, h1, rfl⟩⟩
    · rw [if_neg h1]; exact ⟨h, .inl ⟨rfl, by show n ≤ sp E k; omega⟩⟩
theorem splitR_spec (E : Nat → BitVec 8) (n : Nat) : SplitSpec E n (splitR E n).1 (splitR E n).2 := splitL_spec 22 0 rfl (fun i hi => by omega)
theorem splitR_eq {E : Nat → BitVec 8} {n k : Nat} {c : Int} (h : SplitSpec E n k c) : splitR E n = (k, c) := by
  obtain ⟨h1, h2⟩ := split_unique (splitR_spec E n) h
  exact Prod.ext h1 h2

/-- Split looks at the bytes that there are. -/
theorem lenAt_congr {E F : Nat → BitVec 8} {n p : Nat} (he : ∀ j, j < n → E j = F j) (hp : p + 2 ≤ n) : lenAt E p = lenAt F p := by
  unfold lenAt
  rw [he p (by omega), he (p + 1) (by omega)]
theorem step_congr {E F : Nat → BitVec 8} {n p k : Nat} (he : ∀ j, j < n → E j = F j) : stepC E n p k = stepC F n p k := by
  unfold stepC
  by_cases h : n < p + 2
  · rw [if_pos h, if_pos h]
  · rw [if_neg h, if_neg h, lenAt_congr he (by omega)]
theorem sp_congr {E F : Nat → BitVec 8} {n k : Nat} {c : Int} (h : SplitSpec E n k c) (he : ∀ j, j < n → E j = F j) : ∀ i, i ≤ k → sp E i = sp F i
  | 0, _ => rfl
  | i + 1, hi => by
    have h1 := step_ok (h.1 i (by omega)).2
    show sp E i + 2 + lenAt E (sp E i) = sp F i + 2 + lenAt F (sp F i)
    rw [← sp_congr h he i (by omega), lenAt_congr he h1.1]
theorem split_congr {E F : Nat → BitVec 8} {n k : Nat} {c : Int} (h : SplitSpec E n k c) (he : ∀ j, j < n → E j = F j) :
    SplitSpec F n k c ∧ ∀ i, i < k → fieldM F i = fieldM E i ∧ ∀ j, j < fieldM E i → fieldE F i j = fieldE E i j := by
  have hs := sp_congr h he
  refine ⟨⟨fun i hi => ?_, ?_⟩, fun i hi => ?_⟩
  · rw [← hs i (by omega), ← step_congr he]
    exact h.1 i hi
  · rw [← hs k (Nat.le_refl _), ← step_congr he]
    exact h.2
  · have h1 := step_ok (h.1 i hi).2
    refine ⟨by unfold fieldM; rw [← hs i (by omega), lenAt_congr he h1.1], fun j hj => ?_⟩
    unfold fieldM at hj
    unfold fieldE
    rw [← hs i (by omega), he _ (by omega)]

/-- What Parts tells: the error, and how many. -/
def partsC (ks E : Nat → BitVec 8) (s : ByteArray) (m : Nat) (many : Int) : Int :=
  if openCode ks E s m = 0 then (if (splitR (openB ks E) (m - 48)).2 = 0 ∧ ((splitR (openB ks E) (m - 48)).1 : Int) = many then 0 else 3) else (openCode ks E s m : Int)
def partsK (ks E : Nat → BitVec 8) (s : ByteArray) (m : Nat) (many : Int) : Nat := if partsC ks E s m many = 0 then (splitR (openB ks E) (m - 48)).1 else 0
/-- What Sealed tells. -/
def sealedN (s : ByteArray) (len : Nat) (m : Nat → Nat) : Nat := if putB len m = true then sealLen s (encN m len) else 0
def sealedB (key first : Nat → BitVec 8) (s : ByteArray) (len : Nat) (m : Nat → Nat) (e : Nat → Nat → BitVec 8) : Nat → BitVec 8 := formB (keysB key s) first (encB m e len) (encN m len)
theorem sealed_len {s : ByteArray} {len : Nat} {m : Nat → Nat} (hp : putB len m = true) (hs : 1 ≤ s.size ∧ s.size ≤ 40) (hn : encN m len ≤ 1000) : sealedN s len m = 48 + encN m len := by
  unfold sealedN sealLen sealCode
  rw [if_pos hp, if_pos hs, if_neg (by omega : ¬ 1000 < encN m len), if_pos rfl]
theorem parts_few {ks E : Nat → BitVec 8} {s : ByteArray} {m : Nat} {many : Int} (h : partsC ks E s m many = 0) : openCode ks E s m = 0 ∧ (splitR (openB ks E) (m - 48)).2 = 0 ∧ ((splitR (openB ks E) (m - 48)).1 : Int) = many := by
  unfold partsC at h
  by_cases h1 : openCode ks E s m = 0
  · rw [if_pos h1] at h
    by_cases h2 : (splitR (openB ks E) (m - 48)).2 = 0 ∧ ((splitR (openB ks E) (m - 48)).1 : Int) = many
    · exact ⟨h1, h2.1, h2.2⟩
    · rw [if_neg h2] at h; cases h
  · rw [if_neg h1] at h
    exact absurd (by exact_mod_cast h) h1
theorem partsK_eq {ks E : Nat → BitVec 8} {s : ByteArray} {m n : Nat} (h : partsC ks E s m (n : Int) = 0) : partsK ks E s m (n : Int) = n := by
  unfold partsK
  rw [if_pos h]
  have := (parts_few h).2.2
  exact_mod_cast this
/-- What was sealed opens to the same fields. -/
theorem parts_sealed (key first : Nat → BitVec 8) (s : ByteArray) (len : Nat) (m : Nat → Nat) (e : Nat → Nat → BitVec 8) (E : Nat → BitVec 8) (hp : putB len m = true) (hs : 1 ≤ s.size ∧ s.size ≤ 40) (hn : encN m len ≤ 1000)
    (hE : ∀ j, j < 48 + encN m len → E j = sealedB key first s len m e j) :
    partsC (keysB key s) E s (48 + encN m len) (len : Int) = 0 ∧ ∀ i, i < len → fieldM (openB (keysB key s) E) i = m i ∧ ∀ j, j < m i → fieldE (openB (keysB key s) E) i j = e i j := by
  have hE' : ∀ j, j < 48 + encN m len → E j = formB (keysB key s) first (encB m e len) (encN m len) j := hE
  clear hE
  generalize keysB key s = ks at *
  generalize hb : encB m e len = b at *
  generalize hn' : encN m len = n at *
  have hok : okB ks E (48 + n) = true :=
    (Seal.ok_congr (m := 48 + n) (ks := ks) (ks' := ks) (b := E) (b' := formB ks first b n) (by omega) (fun _ _ => rfl) hE').trans (Seal.ok_form ks first b n)
  have hc : openCode ks E s (48 + n) = 0 := by
    unfold openCode
    rw [if_pos hs, if_neg (by omega), if_neg (by omega), if_pos hok]
  have hB : ∀ j, j < n → b j = openB ks E j := fun j hj => by
    rw [← Seal.open_form ks first b n j hj]
    have hf := Seal.flip_congr (k := ks) (k' := ks) (a := E) (a' := formB ks first b n) (e := fun j => E (16 + j)) (e' := fun j => formB ks first b n (16 + j)) (j := j) (fun _ _ => rfl) (fun i hi => hE' i (by omega)) (hE' (16 + j) (by omega))
    exact hf.symm
  obtain ⟨h1, h2⟩ := split_put e hp
  rw [hb, hn'] at h1
  rw [hb] at h2
  obtain ⟨h3, h4⟩ := split_congr h1 hB
  have h5 := splitR_eq h3
  refine ⟨?_, fun i hi => ?_⟩
  · unfold partsC
    rw [if_pos hc, Nat.add_sub_cancel_left, h5, if_pos ⟨rfl, rfl⟩]
  · obtain ⟨a1, a2⟩ := h2 i hi
    obtain ⟨b1, b2⟩ := h4 i hi
    exact ⟨b1.trans a1, fun j hj => (b2 j (by rw [a1]; exact hj)).trans (a2 j hj)⟩

/-- Fields as a list. -/
def fldM (l : List (Nat × (Nat → BitVec 8))) (i : Nat) : Nat := (l.getD i (0, fun _ => 0)).1
def fldE (l : List (Nat × (Nat → BitVec 8))) (i : Nat) : Nat → BitVec 8 := (l.getD i (0, fun _ => 0)).2
def blobN (l : List (Nat × (Nat → BitVec 8))) : Nat := 48 + encN (fldM l) l.length
def blobB (key first : Nat → BitVec 8) (s : ByteArray) (l : List (Nat × (Nat → BitVec 8))) : Nat → BitVec 8 := sealedB key first s l.length (fldM l) (fldE l)
def lNs2 : ByteArray := ⟨#[110, 115, 50]⟩
def lNs3 : ByteArray := ⟨#[110, 115, 51]⟩
def lNst : ByteArray := ⟨#[110, 115, 116]⟩
def lK3a : ByteArray := ⟨#[107, 51, 97]⟩
def lK3b : ByteArray := ⟨#[107, 51, 98]⟩
def keyF (k : Wd) (j : Nat) : BitVec 8 := k.getD j 0
/-- NS: the keys that the request is opened by, its fields' bytes, its first field. -/
def nsKs (b : Bk) (N : NoteP) : Nat → BitVec 8 := keysB (keyF (keyB N.b b.L)) lNs2
def nsE (b : Bk) (N : NoteP) : Nat → BitVec 8 := openB (nsKs b N) N.p
def nsA (b : Bk) (N : NoteP) : ByteArray := strOf (fieldE (nsE b N) 0) (fieldM (nsE b N) 0)
/-- A request's fields: a name, a word and a number. -/
def reqF (E : Nat → BitVec 8) : Bool := nameB (strOf (fieldE E 0) (fieldM E 0)) && decide (fieldM E 1 = 16) && decide (fieldM E 2 = 8)
def reqC (ks e : Nat → BitVec 8) (m : Nat) : Int := if partsC ks e lNs2 m 3 = 0 then (if reqF (openB ks e) = true then 0 else 3) else partsC ks e lNs2 m 3
def nsC (b : Bk) (N : NoteP) : Int :=
  if hasN b.L N.b = false then 4
  else if reqC (nsKs b N) N.p N.pn ≠ 0 then reqC (nsKs b N) N.p N.pn
  else if nsA b N = N.b then 1
  else if hasN b.L (nsA b N) = false then 4 else 0
def nsP (b : Bk) (N : NoteP) (d : Nat → BitVec 8) : List (Nat × (Nat → BitVec 8)) := [(N.b.size, strB N.b), (16, fieldE (nsE b N) 1), (16, d), (8, fieldE (nsE b N) 2)]
def nsQ (b : Bk) (N : NoteP) (d : Nat → BitVec 8) : List (Nat × (Nat → BitVec 8)) := [((nsA b N).size, strB (nsA b N)), (16, d), (8, fieldE (nsE b N) 2)]
/-- KSL. -/
def kslC (b : Bk) (N : NoteP) : Int := if N.a = N.b then 1 else if hasN b.L N.a = false ∨ hasN b.L N.b = false then 4 else 0
def kslP (N : NoteP) (d : Nat → BitVec 8) : List (Nat × (Nat → BitVec 8)) := [(16, N.y), (N.a.size, strB N.a), (16, d)]
def kslQ (N : NoteP) (d : Nat → BitVec 8) : List (Nat × (Nat → BitVec 8)) := [(16, N.x), (N.b.size, strB N.b), (16, d)]
def zeroN : NoteP := ⟨0, ⟨#[]⟩, ⟨#[]⟩, fun _ => 0, fun _ => 0, 0, fun _ => 0, 0, fun _ => 0, 0, fun _ => 0⟩
/-- An answer: the error, to whom, and what. -/
def ansC (b : Bk) (N : NoteP) : Int := if N.kind = 2 then nsC b N else if N.kind = 7 then kslC b N else 13
def ansTo (b : Bk) (N : NoteP) : ByteArray := if ansC b N = 0 then (if N.kind = 2 then nsA b N else N.b) else ⟨#[]⟩
def nsN (b : Bk) (N : NoteP) (d0 d1 d2 : Nat → BitVec 8) : NoteP :=
  ⟨3, ⟨#[]⟩, ⟨#[]⟩, fun _ => 0, N.y, blobN (nsP b N d0), blobB (keyF (keyB (nsA b N) b.L)) d1 lNs3 (nsP b N d0), blobN (nsQ b N d0), blobB (keyF (keyB N.b b.L)) d2 lNst (nsQ b N d0), 0, fun _ => 0⟩
def kslN (b : Bk) (N : NoteP) (d0 d1 d2 : Nat → BitVec 8) : NoteP :=
  ⟨8, ⟨#[]⟩, ⟨#[]⟩, fun _ => 0, fun _ => 0, blobN (kslP N d0), blobB (keyF (keyB N.b b.L)) d1 lK3b (kslP N d0), blobN (kslQ N d0), blobB (keyF (keyB N.a b.L)) d2 lK3a (kslQ N d0), 0, fun _ => 0⟩
def ansN (b : Bk) (N : NoteP) (d0 d1 d2 : Nat → BitVec 8) : NoteP := if ansC b N = 0 then (if N.kind = 2 then nsN b N d0 d1 d2 else kslN b N d0 d1 d2) else zeroN
end Go.Proofs.YtnkjoambhmlnbaaGreatDoor.Kdc
namespace Go.Proofs.YtnkjoambhmlnbaaGreatDoor.Kdc
open Go Go.RowKit Go.Proofs.YtnkjoambhmlnbaaGreatDoor.Aid Go.Proofs.YtnkjoambhmlnbaaGreatDoor.Sha Go.Proofs.YtnkjoambhmlnbaaGreatDoor.Law01 Go.Proofs.YtnkjoambhmlnbaaGreatDoor.Field Go.Proofs.YtnkjoambhmlnbaaGreatDoor.Law05
open Go.Proofs.YtnkjoambhmlnbaaGreatDoor.Seal (keysB formB openB okB)
open Go.Proofs.YtnkjoambhmlnbaaGreatDoor.Aes (RowB)

def SealedPost (key first : Nat → BitVec 8) (s : ByteArray) (len : Nat) (m : Nat → Nat) (e : Nat → Nat → BitVec 8) (w : World) (x : Ending) (w' : World) : Prop :=
  ∃ A c, x = .returned (.slice A (sealedN s len m) c) ∧ SliceOf w' w'.heap.size (sealedN s len m) (sealedB key first s len m e) (.slice A (sealedN s len m) c) ∧ Below w.heap.size w w'
def PartsPost (ks E : Nat → BitVec 8) (s : ByteArray) (m : Nat) (many : Int) (w : World) (x : Ending) (w' : World) : Prop :=
  ∃ v R, x = .returned (.tuple #[v, .int .i64 (partsC ks E s m many)]) ∧ OwnParts w' w.heap.size (partsK ks E s m many) (fieldM (openB ks E)) (fieldE (openB ks E)) R v ∧ Below w.heap.size w w'
set_option maxRecDepth 100000 in
set_option maxHeartbeats 1000000 in
theorem sealed_any (key first : Nat → BitVec 8) (s : ByteArray) (C F : Array Value) (hC : C.size = 16) (hCi : ∀ i, i < 16 → C[i]? = some (.int .u8 ((key i).toNat : Int))) (hF : F.size = 16) (hFi : ∀ i, i < 16 → F[i]? = some (.int .u8 ((first i).toNat : Int)))
    (len : Nat) (m : Nat → Nat) (e : Nat → Nat → BitVec 8) (v : Value) (w : World) (hk : Consts w) (hp : PartsOf w len m e v) (hm : off m len + len ≤ 100000) :
    Calls Tryz.prog 12 #[.agg C, .string s, .agg F, v] w (SealedPost key first s len m e w) := by
  have h1 : ∃ w1, w1 = (w.alloc (.cells C 25)).alloc (.cells F 25) ∧ RowB w1 w.heap.size 25 16 key ∧ RowB w1 (w.heap.size + 1) 25 16 first ∧ Below w.heap.size w w1 := by
    have r2 := row_new (w.alloc (.cells C 25)) F 25 16 (fun j => .int .u8 ((first j).toNat : Int)) hF hFi
    rw [World.size_alloc] at r2
    exact ⟨_, rfl, (row_new w C 25 16 (fun j => .int .u8 ((key j).toNat : Int)) hC hCi).alloc _, r2, ((Below.refl _ _).alloc (Nat.le_refl _) _).alloc (by simp) _⟩
  obtain ⟨w1, hw1, hr1, hr2, hb1⟩ := h1
  have HP := Lib.hid (put_own len m e v w1 (PartsOf.below hp hb1) hm)
  have hk1 := hk.below hb1 (Nat.le_refl _)
  clear hCi hFi hC hF hp hk
  go_enter Tryz.func12, Tryz.ntmps12
  go_wp2_with fail
  rw [← hw1]
  clear hw1
  refine HP.out.mono ?_
  rintro _ w2 ⟨r, rfl, hr, hb2⟩
  have hr21 := World.rowIs.of_block hr1 (hb2.block _ (World.rowIs.lt hr1))
  have hr22 := World.rowIs.of_block hr2 (hb2.block _ (World.rowIs.lt hr2))
  have hk2 := hk1.below hb2 (Nat.le_refl _)
  have hb2' := hb1.trans (hb2.mono hb1.size)
  clear hr1 hr2 hk1 hb1 hb2 HP
  by_cases hpb : putB len m = true
  · have e1 : putC len m = 0 := by unfold putC; rw [if_pos hpb]
    have e2 : putN len m = encN m len := by unfold putN; rw [if_pos hpb]
    rw [e1]
    rw [e2] at hr
    have hs2 := hr.slice (g' := w2.heap.size) (.inr (Nat.le_refl _))
    have E3 : Hid (sealedN s len m = sealLen s (encN m len)) := Lib.hid (by unfold sealedN; rw [if_pos hpb])
    obtain ⟨A, c, rfl, -, -⟩ := own_shape hr
    clear e1 e2 hpb hr
    go_wp2_with (first
      | (refine load_whole (by rfl) 25 (.tmp 4) (by rfl) _ _ _ _ hr21 (by rfl) _ Tryz.underlying25 rfl (by kernel_rfl) ?_)
      | (refine load_whole (by rfl) 25 (.tmp 6) (by rfl) _ _ _ _ hr22 (by rfl) _ Tryz.underlying25 rfl (by kernel_rfl) ?_))
    refine (seal_all key first (encB m e len) s _ _ (size_cellsOf _ _) (cellsOf_at _ _) (size_cellsOf _ _) (cellsOf_at _ _) A (encN m len) c w2 hk2 hs2).mono ?_
    rintro _ w3 ⟨A3, c3, rfl, hs3, hb3⟩
    go_wp2
    go_ret
    unfold SealedPost
    rw [E3.out]
    exact ⟨A3, c3, rfl, hs3, hb2'.trans (hb3.mono hb2'.size)⟩
  · have e1 : putC len m = 7 := by unfold putC; rw [if_neg hpb]
    rw [e1]
    have E3 : Hid (sealedN s len m = 0) := Lib.hid (by unfold sealedN; rw [if_neg hpb])
    clear e1 hpb hr
    go_wp2
    go_ret
    unfold SealedPost
    rw [E3.out]
    exact ⟨none, 0, rfl, SliceOf.nil _ _ _, hb2'⟩
theorem own_parts_base {W : World} {base base' k : Nat} {m : Nat → Nat} {E : Nat → Nat → BitVec 8} {R : Nat → Value} {v : Value} (h : OwnParts W base k m E R v) (hb : base' ≤ base) : OwnParts W base' k m E R v := by
  refine ⟨⟨h.row.1, ?_⟩, fun i hi => own_base (h.part i hi) hb, h.ne, h.apart⟩
  rcases h.row.2 with h0 | ⟨g, cap, cur, rfl, hg, hh, rest⟩
  · exact .inl h0
  · exact .inr ⟨g, cap, cur, rfl, Nat.le_trans hb hg, hh, rest⟩
set_option maxRecDepth 100000 in
set_option maxHeartbeats 1000000 in
theorem parts_any (key e : Nat → BitVec 8) (s : ByteArray) (C : Array Value) (hC : C.size = 16) (hCi : ∀ i, i < 16 → C[i]? = some (.int .u8 ((key i).toNat : Int))) (B : Option Addr) (m d : Nat) (many : Int) (w : World) (hk : Consts w) (hp : SliceOf w w.heap.size m e (.slice B m d)) :
    Calls Tryz.prog 10 #[.agg C, .string s, .slice B m d, .int .i64 many] w (PartsPost (keysB key s) e s m many w) := by
  have h1 : ∃ w1, w1 = w.alloc (.cells C 25) ∧ RowB w1 w.heap.size 25 16 key ∧ Below w.heap.size w w1 :=
    ⟨_, rfl, row_new w C 25 16 (fun j => .int .u8 ((key j).toNat : Int)) hC hCi, (Below.refl _ _).alloc (Nat.le_refl _) _⟩
  obtain ⟨w1, hw1, hr1, hb1⟩ := h1
  have hk1 := hk.below hb1 (Nat.le_refl _)
  have hp1 := slice_any (slice_below hp hb1) (Nat.le_refl _)
  clear hCi hC hp hk
  go_enter Tryz.func10, Tryz.ntmps10
  go_upto_region 1 with fail
  rw [← hw1]
  clear hw1
  go_wp2_with (refine load_whole (by rfl) 25 (.tmp 4) (by rfl) _ _ _ _ hr1 (by rfl) _ Tryz.underlying25 rfl (by kernel_rfl) ?_)
  refine (open_all key e s _ (size_cellsOf _ _) (cellsOf_at _ _) B m d w1 hk1 hp1).mono ?_
  rintro _ w2 ⟨A2, c2, rfl, hs2, hb2⟩
  have hb2' := hb1.trans (hb2.mono hb1.size)
  clear hr1 hk1 hp1 hb1 hb2
  obtain ⟨k0, hk0⟩ : ∃ k, k = openCode (keysB key s) e s m := ⟨_, rfl⟩
  rw [← hk0]
  by_cases h0 : k0 = 0
  · have hl : openLen (keysB key s) e s m = m - 48 := by unfold openLen; rw [← hk0, if_pos h0]
    rw [hl] at hs2 ⊢
    have HC : Hid (openCode (keysB key s) e s m = 0 ∧ m ≤ 1048) := Lib.hid ⟨by rw [← hk0, h0], by
      rw [h0] at hk0
      unfold openCode at hk0
      by_cases q : 1048 < m
      · exfalso
        rw [if_pos q] at hk0
        split at hk0
        · split at hk0 <;> omega
        · omega
      · omega⟩
    subst h0
    clear hk0 hl
    have HS := Lib.hid (split_own A2 c2 (m - 48) (openB (keysB key s) e) w2 (by have := HC.out.2; omega) hs2)
    clear hs2
    obtain ⟨N, hN⟩ : ∃ N, N = m - 48 := ⟨_, rfl⟩
    have HM := Lib.hid hN
    rw [← hN] at HS ⊢
    clear hN
    go_wp2_with fail
    refine HS.out.mono ?_
    rintro _ w3 ⟨k, c, v3, R3, hspec, rfl, hown, hb3⟩
    have HR := Lib.hid (splitR_eq hspec)
    have HN := Lib.hid (split_few hspec)
    have HB3 := Lib.hid (hb2'.trans (hb3.mono hb2'.size))
    have hks : partsC (keysB key s) e s m many = (if c = 0 ∧ (k : Int) = many then 0 else 3) ∧ (c = 0 ∧ (k : Int) = many → partsK (keysB key s) e s m many = k) ∧ (¬ (c = 0 ∧ (k : Int) = many) → partsK (keysB key s) e s m many = 0) := by
      have h1 : partsC (keysB key s) e s m many = (if c = 0 ∧ (k : Int) = many then 0 else 3) := by
        unfold partsC
        rw [if_pos HC.out.1, ← HM.out, HR.out]
      refine ⟨h1, fun h => ?_, fun h => ?_⟩
      · unfold partsK
        rw [h1, if_pos h, if_pos rfl, ← HM.out, HR.out]
      · unfold partsK
        rw [h1, if_neg h, if_neg (by decide)]
    have HK := Lib.hid hks
    clear hspec HS HC HM HR hks hb3
    by_cases hc0 : c = 0
    · subst hc0
      rw [if_pos rfl] at hown
      obtain ⟨A3, c3, rfl⟩ := hown.shape
      by_cases hm : (k : Int) = many
      · subst hm
        have e1 := HK.out.1
        have e2 := HK.out.2.1 ⟨rfl, rfl⟩
        rw [if_pos ⟨rfl, rfl⟩] at e1
        have E1 := Lib.hid e1
        have E2 := Lib.hid e2
        have HO := Lib.hid hown
        clear HK e1 e2 hown
        go_wp2
        go_ret2
        unfold PartsPost
        rw [E1.out, E2.out]
        exact ⟨_, R3, rfl, own_parts_base HO.out hb2'.size, HB3.out⟩
      · have e1 := HK.out.1
        have e2 := HK.out.2.2 (fun h => hm h.2)
        rw [if_neg (fun h => hm h.2)] at e1
        have E1 := Lib.hid e1
        have E2 := Lib.hid e2
        clear HK e1 e2 hown
        have q : ((k : Int) == many) = false := by simpa using hm
        go_wp2
        go_ret2
        unfold PartsPost
        rw [E1.out, E2.out]
        exact ⟨_, fun _ => undef, rfl, OwnParts.nil _ _ _ _ _, HB3.out⟩
    · have e1 := HK.out.1
      have e2 := HK.out.2.2 (fun h => hc0 h.1)
      rw [if_neg (fun h => hc0 h.1)] at e1
      have E1 := Lib.hid e1
      have E2 := Lib.hid e2
      clear HK e1 e2
      have q : (c == 0) = false := by simpa using hc0
      rw [if_neg hc0] at hown
      obtain ⟨A3, c3, rfl⟩ := hown.shape
      clear hown
      go_wp2
      go_ret2
      unfold PartsPost
      rw [E1.out, E2.out]
      exact ⟨_, fun _ => undef, rfl, OwnParts.nil _ _ _ _ _, HB3.out⟩
  · have e1 : partsC (keysB key s) e s m many = (k0 : Int) ∧ partsK (keysB key s) e s m many = 0 := by
      have h1 : partsC (keysB key s) e s m many = (k0 : Int) := by unfold partsC; rw [← hk0, if_neg h0]
      refine ⟨h1, ?_⟩
      unfold partsK
      rw [h1, if_neg (by omega)]
    have E1 := Lib.hid e1.1
    have E2 := Lib.hid e1.2
    have q : ((k0 : Int) == 0) = false := by simp; omega
    obtain ⟨L, hL⟩ : ∃ L, L = openLen (keysB key s) e s m := ⟨_, rfl⟩
    rw [← hL]
    clear hs2 e1 hk0 hL
    go_wp2
    go_ret2
    unfold PartsPost
    rw [E1.out, E2.out]
    exact ⟨_, fun _ => undef, rfl, OwnParts.nil _ _ _ _ _, hb2'⟩
end Go.Proofs.YtnkjoambhmlnbaaGreatDoor.Kdc
namespace Go.Proofs.YtnkjoambhmlnbaaGreatDoor.Kdc
open Go Go.RowKit Go.Proofs.YtnkjoambhmlnbaaGreatDoor.Aid Go.Proofs.YtnkjoambhmlnbaaGreatDoor.Sha Go.Proofs.YtnkjoambhmlnbaaGreatDoor.Law01 Go.Proofs.YtnkjoambhmlnbaaGreatDoor.Field Go.Proofs.YtnkjoambhmlnbaaGreatDoor.Law05
open Go.Proofs.YtnkjoambhmlnbaaGreatDoor.Seal (keysB formB openB okB)
open Go.Proofs.YtnkjoambhmlnbaaGreatDoor.Aes (RowB)

def byteF (d : Nat → BitVec 8) (j : Nat) : Value := .int .u8 ((d j).toNat : Int)
abbrev Fld := Nat × (Nat → BitVec 8)
theorem slice_next {w w' : World} {m : Nat} {e : Nat → BitVec 8} {v : Value} (h : SliceOf w w.heap.size m e v) (hb : Below w.heap.size w w') : SliceOf w' w'.heap.size m e v := slice_any (slice_below h hb) (Nat.le_refl _)
theorem cells_named (m : Nat) (f : Nat → Value) (e : Nat → BitVec 8) (h : ∀ i, i < m → f i = .int .u8 ((e i).toNat : Int)) : ∃ C, cellsOf m f = C ∧ C.size = m ∧ ∀ i, i < m → C[i]? = some (.int .u8 ((e i).toNat : Int)) :=
  ⟨_, rfl, size_cellsOf _ _, fun i hi => by rw [cellsOf_at m f i hi, h i hi]⟩
theorem own_parts_at {W : World} {base k : Nat} {m : Nat → Nat} {E : Nat → Nat → BitVec 8} {R : Nat → Value} {A : Option Addr} {cap : Nat} (h : OwnParts W base k m E R (.slice A k cap)) (i : Nat) (hi : i < k) :
    ∃ sb so A' c', A = some ⟨sb, so, none⟩ ∧ W.cell? ⟨sb, so + i, none⟩ = some (.slice A' (m i) c') ∧ Aid.Own W base (m i) (E i) (.slice A' (m i) c') := by
  obtain ⟨g, cap', he, hb, hg⟩ := World.ownsRow.form h.row (by omega)
  simp only [Value.slice.injEq, true_and] at he
  obtain ⟨rfl, rfl⟩ := he
  obtain ⟨A', c', e', -, -⟩ := own_shape (h.part i hi)
  refine ⟨g, 0, A', c', rfl, ?_, e' ▸ h.part i hi⟩
  rw [Nat.zero_add, World.ownsRow.cellAt h.row i (by omega), ← e']
  simp [hi]
theorem row_cells (W : World) (b o n : Nat) (e : Nat → BitVec 8) (hb : b < W.heap.size) (h : ∀ j, j < n → W.cell? ⟨b, o + j, none⟩ = some (.int .u8 ((e j).toNat : Int))) : SliceOf W W.heap.size n e (.slice (some ⟨b, o, none⟩) n n) :=
  ⟨_, n, rfl, Nat.le_refl _, fun _ => ⟨b, o, rfl, Nat.ne_of_lt hb, h⟩⟩
theorem parts_list (W : World) (l : List Fld) (C : Array Value) (n : Nat) (hn : l.length = n) (hC : C.size = n) (h : ∀ i, (hi : i < n) → SliceOf W W.heap.size (fldM l i) (fldE l i) (C.getD i undef)) :
    PartsOf (W.alloc (.cells C 28)) l.length (fldM l) (fldE l) (.slice (some ⟨W.heap.size, 0, none⟩) n n) := by
  have hb : Below W.heap.size W (W.alloc (.cells C 28)) := (Below.refl _ _).alloc (Nat.le_refl _) _
  subst hn
  refine ⟨_, l.length, rfl, fun _ => ⟨W.heap.size, 0, rfl, fun i hi => ⟨C.getD i undef, ?_, slice_next (h i hi) hb⟩⟩⟩
  rw [Nat.zero_add, World.cell?_alloc_new]
  simp [Array.getD, hC, hi]
/-- Function g, with the captured values caps, makes the fields l of a peer's name and a shared key; in whatever world where what lay in w is as it was. -/
structure Told (w : World) (g : Nat) (caps : Array Value) (l : Fld → (Nat → BitVec 8) → List Fld) : Prop where
  enter : ∀ args W, (callFunc g args).run Tryz.prog W = .ok (.enter g args) W
  run : ∀ (W : World) (u v : Value) (p : Fld) (s : Nat → BitVec 8), Below w.heap.size w W → SliceOf W W.heap.size p.1 p.2 u → SliceOf W W.heap.size 16 s v → Calls Tryz.prog g (#[u, v] ++ caps) W fun x W' => ∃ z, x = .returned z ∧ PartsOf W' (l p s).length (fldM (l p s)) (fldE (l p s)) z ∧ Below W.heap.size W W'
theorem Told.below {w w' : World} {g : Nat} {caps : Array Value} {l : Fld → (Nat → BitVec 8) → List Fld} (h : Told w g caps l) (hb : Below w.heap.size w w') : Told w' g caps l :=
  ⟨h.enter, fun W u v p s hW => h.run W u v p s (hb.trans (hW.mono hb.size))⟩
def nsPL (a e : Nat → BitVec 8) (p : Fld) (s : Nat → BitVec 8) : List Fld := [p, (16, a), (16, s), (8, e)]
def nsQL (e : Nat → BitVec 8) (p : Fld) (s : Nat → BitVec 8) : List Fld := [p, (16, s), (8, e)]
def kslL (a : Nat → BitVec 8) (p : Fld) (s : Nat → BitVec 8) : List Fld := [(16, a), p, (16, s)]
set_option maxRecDepth 100000 in
theorem told_p (gr : Nat) (a e : Nat → BitVec 8) (va ve : Value) (w : World) (ha : w.cell? ⟨gr, 1, none⟩ = some va) (he : w.cell? ⟨gr, 2, none⟩ = some ve) (sa : SliceOf w w.heap.size 16 a va) (se : SliceOf w w.heap.size 8 e ve) :
    Told w 30 #[.pointer (some ⟨gr, 0, none⟩)] (nsPL a e) := ⟨fun args W => by go_simp, fun W u v p s hW hu hv => by
  have c1 := (hW.cell (p := ⟨gr, 1, none⟩) (block_lt_of_cell ha)).trans ha
  have c2 := (hW.cell (p := ⟨gr, 2, none⟩) (block_lt_of_cell he)).trans he
  have h1 := slice_next sa hW
  have h2 := slice_next se hW
  have HL := Lib.hid (parts_list W (nsPL a e p s) #[u, va, v, ve] 4 rfl rfl (fun i hi => by
    match i, hi with
    | 0, _ => exact hu
    | 1, _ => exact h1
    | 2, _ => exact hv
    | 3, _ => exact h2))
  have hb : Below W.heap.size W (W.alloc (.cells #[u, va, v, ve] 28)) := (Below.refl _ _).alloc (Nat.le_refl _) _
  have HB := Lib.hid hb
  obtain ⟨Au, cu, rfl⟩ := slice_shape hu
  obtain ⟨Av, cv, rfl⟩ := slice_shape hv
  obtain ⟨Aa, ca, rfl⟩ := slice_shape h1
  obtain ⟨Ae, ce, rfl⟩ := slice_shape h2
  clear ha he sa se hW hu hv h1 h2 hb
  go_enter Tryz.func30, Tryz.ntmps30
  go_wp2
  go_ret
  exact ⟨_, rfl, HL.out, HB.out⟩⟩
set_option maxRecDepth 100000 in
theorem told_q (gr : Nat) (e : Nat → BitVec 8) (ve : Value) (w : World) (he : w.cell? ⟨gr, 2, none⟩ = some ve) (se : SliceOf w w.heap.size 8 e ve) :
    Told w 31 #[.pointer (some ⟨gr, 0, none⟩)] (nsQL e) := ⟨fun args W => by go_simp, fun W u v p s hW hu hv => by
  have c2 := (hW.cell (p := ⟨gr, 2, none⟩) (block_lt_of_cell he)).trans he
  have h2 := slice_next se hW
  have HL := Lib.hid (parts_list W (nsQL e p s) #[u, v, ve] 3 rfl rfl (fun i hi => by
    match i, hi with
    | 0, _ => exact hu
    | 1, _ => exact hv
    | 2, _ => exact h2))
  have hb : Below W.heap.size W (W.alloc (.cells #[u, v, ve] 28)) := (Below.refl _ _).alloc (Nat.le_refl _) _
  have HB := Lib.hid hb
  obtain ⟨Au, cu, rfl⟩ := slice_shape hu
  obtain ⟨Av, cv, rfl⟩ := slice_shape hv
  obtain ⟨Ae, ce, rfl⟩ := slice_shape h2
  clear he se hW hu hv h2 hb
  go_enter Tryz.func31, Tryz.ntmps31
  go_wp2
  go_ret
  exact ⟨_, rfl, HL.out, HB.out⟩⟩
set_option maxRecDepth 100000 in
theorem told_k (gw : Nat) (a : Nat → BitVec 8) (w : World) (hr : RowB w gw 25 16 a) :
    Told w 55 #[.pointer (some ⟨gw, 0, none⟩)] (kslL a) := ⟨fun args W => by go_simp, fun W u v p s hW hu hv => by
  have hr' := World.rowIs.of_block hr (hW.block _ (World.rowIs.lt hr))
  have h1 := row_cells W gw 0 16 a (World.rowIs.lt hr') (fun j hj => by rw [Nat.zero_add]; exact World.rowIs.cell hr' hj)
  have ka := fun W => Seal.all_run (P := Tryz.prog) 25 5 16 Tryz.underlying25 (by kernel_rfl) gw 0 W
  have HL := Lib.hid (parts_list W (kslL a p s) #[.slice (some ⟨gw, 0, none⟩) 16 16, u, v] 3 rfl rfl (fun i hi => by
    match i, hi with
    | 0, _ => exact h1
    | 1, _ => exact hu
    | 2, _ => exact hv))
  have hb : Below W.heap.size W (W.alloc (.cells #[.slice (some ⟨gw, 0, none⟩) 16 16, u, v] 28)) := (Below.refl _ _).alloc (Nat.le_refl _) _
  have HB := Lib.hid hb
  obtain ⟨Au, cu, rfl⟩ := slice_shape hu
  obtain ⟨Av, cv, rfl⟩ := slice_shape hv
  clear hr hr' hW hu hv h1 hb
  go_enter Tryz.func55, Tryz.ntmps55
  go_wp2
  go_ret
  exact ⟨_, rfl, HL.out, HB.out⟩⟩
set_option maxRecDepth 100000 in
theorem behind_any (a : Nat → BitVec 8) (C : Array Value) (hC : C.size = 16) (hCi : ∀ i, i < 16 → C[i]? = some (.int .u8 ((a i).toNat : Int))) (w : World) :
    Calls Tryz.prog 33 #[.agg C] w fun x w' => ∃ gw, x = .returned (.func (.func 55) #[] #[.pointer (some ⟨gw, 0, none⟩)]) ∧ RowB w' gw 25 16 a ∧ Below w.heap.size w w' := by
  have hr := row_new w C 25 16 (fun j => .int .u8 ((a j).toNat : Int)) hC hCi
  have hb : Below w.heap.size w (w.alloc (.cells C 25)) := (Below.refl _ _).alloc (Nat.le_refl _) _
  have HR := Lib.hid hr
  have HB := Lib.hid hb
  clear hC hCi hr hb
  go_enter Tryz.func33, Tryz.ntmps33
  go_wp2
  go_ret
  exact ⟨_, rfl, HR.out, HB.out⟩
end Go.Proofs.YtnkjoambhmlnbaaGreatDoor.Kdc
namespace Go.Proofs.YtnkjoambhmlnbaaGreatDoor.Kdc
open Go Go.RowKit Go.Proofs.YtnkjoambhmlnbaaGreatDoor.Aid Go.Proofs.YtnkjoambhmlnbaaGreatDoor.Sha Go.Proofs.YtnkjoambhmlnbaaGreatDoor.Law01 Go.Proofs.YtnkjoambhmlnbaaGreatDoor.Field Go.Proofs.YtnkjoambhmlnbaaGreatDoor.Law05
open Go.Proofs.YtnkjoambhmlnbaaGreatDoor.Seal (keysB formB openB okB)

theorem own_parts_congr {W : World} {base k : Nat} {m m' : Nat → Nat} {E E' : Nat → Nat → BitVec 8} {R : Nat → Value} {v : Value} (h : OwnParts W base k m E R v) (he : ∀ i, i < k → m i = m' i ∧ ∀ j, j < m i → E i j = E' i j) : OwnParts W base k m' E' R v :=
  ⟨h.row, fun i hi => by
    rw [← (he i hi).1]
    exact (h.part i hi).congr' (he i hi).2, h.ne, h.apart⟩
theorem parts_back (key first : Nat → BitVec 8) (s : ByteArray) (l : List Fld) (e : Nat → BitVec 8) (C : Array Value) (hC : C.size = 16) (hCi : ∀ i, i < 16 → C[i]? = some (.int .u8 ((key i).toNat : Int))) (B : Option Addr) (n d : Nat) (many : Int) (w : World) (hk : Consts w)
    (hp : SliceOf w w.heap.size n e (.slice B n d)) (hn : n = blobN l) (he : ∀ j, j < n → e j = blobB key first s l j) (hmany : many = (l.length : Int)) (hs : 1 ≤ s.size ∧ s.size ≤ 40) (h1 : putB l.length (fldM l) = true) (h2 : encN (fldM l) l.length ≤ 1000) :
    Calls Tryz.prog 10 #[.agg C, .string s, .slice B n d, .int .i64 many] w fun x w' => ∃ v R, x = .returned (.tuple #[v, .int .i64 0]) ∧ OwnParts w' w.heap.size l.length (fldM l) (fldE l) R v ∧ Below w.heap.size w w' := by
  subst hn hmany
  obtain ⟨e1, e2⟩ := parts_sealed key first s l.length (fldM l) (fldE l) e h1 hs h2 he
  refine (parts_any key e s C hC hCi B (blobN l) d _ w hk hp).mono ?_
  rintro x w' ⟨v, R, rfl, ho, hb⟩
  have e3 : partsC (keysB key s) e s (blobN l) (l.length : Int) = 0 := e1
  rw [partsK_eq e3] at ho
  rw [e3]
  exact ⟨v, R, rfl, own_parts_congr ho (fun i hi => ⟨(e2 i hi).1, fun j hj => (e2 i hi).2 j (by rw [← (e2 i hi).1]; exact hj)⟩), hb⟩
end Go.Proofs.YtnkjoambhmlnbaaGreatDoor.Kdc
