/-
  'string(b)' of any slice of bytes. '[]byte(s)' of any text: its bytes in a new block; the text that the bytes of a text are. An operation as bytes; what Read of any bytes is; no bytes are those of two operations.
-/
import Derived.Test.YtnkjoambhmlnbaaGreatDoorBd07
import Derived.Test.YtnkjoambhmlnbaaGreatDoorBd01
import Derived.Laws.IdiomStrings
import Derived.Lib.SlBytesConst
import Derived.Lib.ConvBytes
import Derived.OwnWalk
namespace Go.Proofs.YtnkjoambhmlnbaaGreatDoor.Aid
open Go Go.RowKit

/-- The text that these bytes are. -/
def strOf (E : Nat → BitVec 8) (n : Nat) : ByteArray := ⟨((List.range n).map fun j => UInt8.ofBitVec (E j)).toArray⟩
theorem size_strOf (E : Nat → BitVec 8) (n : Nat) : (strOf E n).size = n := by simp [strOf, ByteArray.size]
theorem str_run (A : Option Addr) (c n : Nat) (E : Nat → BitVec 8) (g : Nat) (w : World) (h : SliceOf w g n E (.slice A n c)) : (convert 28 9 (.slice A n c)).run Tryz.prog w = .ok (.string (strOf E n)) w := by
  obtain ⟨A', c', he, _, hr⟩ := h
  simp only [Value.slice.injEq, true_and] at he
  obtain ⟨rfl, rfl⟩ := he
  by_cases h0 : 0 < n
  · obtain ⟨sb, so, rfl, _, hc⟩ := hr h0
    have := run_convert_bytes_back (P := Tryz.prog) w 28 9 5 ⟨sb, so, none⟩ c ((List.range n).map fun j => UInt8.ofBitVec (E j)) Tryz.underlying28 Tryz.underlying5 Tryz.underlying9 (fun j hj => by
      have hj' : j < n := by simpa using hj
      rw [Addr.add_mid, hc j hj']
      simp)
    simpa [strOf] using this
  · obtain rfl : n = 0 := by omega
    cases A with
    | none =>
      rw [run_convert_bytes_string w 28 9 5 none 0 c Tryz.underlying28 Tryz.underlying5 Tryz.underlying9]
      simp [Conv.bytesToString, strOf]
      rfl
    | some x =>
      have := run_convert_bytes_back (P := Tryz.prog) w 28 9 5 x c [] Tryz.underlying28 Tryz.underlying5 Tryz.underlying9 (fun j hj => by simp at hj)
      simpa [strOf] using this
end Go.Proofs.YtnkjoambhmlnbaaGreatDoor.Aid
namespace Go.Proofs.YtnkjoambhmlnbaaGreatDoor.Aid
open Go Go.RowKit

def strB (s : ByteArray) (j : Nat) : BitVec 8 := BitVec.ofNat 8 (s.data.toList.getD j 0).toNat
theorem strB_cell (s : ByteArray) (j : Nat) : Value.int .u8 ((s.data.toList.getD j 0).toNat : Int) = Value.int .u8 ((strB s j).toNat : Int) := by
  unfold strB
  rw [BitVec.toNat_ofNat, Nat.mod_eq_of_lt (UInt8.toNat_lt _)]
theorem strB_below (w : World) (s : ByteArray) : Below w.heap.size w (Lib.bytesWorld w 5 s) :=
  ⟨rfl, rfl, rfl, by rw [Lib.bytesWorld_size]; omega, fun k hk => Lib.bytesWorld_at_old w _ s k hk⟩
theorem grownCap_str (w : World) (s : ByteArray) (n : Nat) (hn : n = grownCap w s.size 0 5) : s.size ≤ n := by
  subst hn
  exact grownCap_ge w s.size 0 5
theorem strB_slice (w : World) (s : ByteArray) (g : Nat) (hg : g ≠ w.heap.size) : SliceOf (Lib.bytesWorld w 5 s) g s.size (strB s) (.slice (some ⟨w.heap.size, 0, none⟩) s.size (grownCap w s.size 0 5)) :=
  ⟨_, _, rfl, grownCap_str w s _ rfl, fun _ => ⟨w.heap.size, 0, rfl, fun e => hg e.symm, fun j hj => by rw [Nat.zero_add, Lib.bytesWorld_cell w _ s j hj, strB_cell]⟩⟩
theorem strB_strOf (E : Nat → BitVec 8) (n j : Nat) (h : j < n) : strB (strOf E n) j = E j := by
  unfold strB strOf
  simp [List.getD_eq_getElem?_getD, h]
theorem str_ext {s t : ByteArray} (h1 : s.size = t.size) (h2 : ∀ j, j < s.size → strB s j = strB t j) : s = t := by
  obtain ⟨a⟩ := s
  obtain ⟨b⟩ := t
  have hl : a.size = b.size := h1
  congr 1
  refine Array.ext hl (fun i hi hj => ?_)
  have h := h2 i hi
  unfold strB at h
  rw [List.getD_eq_getElem?_getD, List.getD_eq_getElem?_getD, List.getElem?_eq_getElem (by simpa using hi), List.getElem?_eq_getElem (by simpa using hj)] at h
  simp only [Option.getD_some, Array.getElem_toList] at h
  have h' := congrArg BitVec.toNat h
  rw [BitVec.toNat_ofNat, BitVec.toNat_ofNat, Nat.mod_eq_of_lt (UInt8.toNat_lt _), Nat.mod_eq_of_lt (UInt8.toNat_lt _)] at h'
  exact UInt8.toNat_inj.1 h'
end Go.Proofs.YtnkjoambhmlnbaaGreatDoor.Aid
namespace Go.Proofs.YtnkjoambhmlnbaaGreatDoor.Book
open Go Go.RowKit Go.Proofs.YtnkjoambhmlnbaaGreatDoor.Field Go.Proofs.YtnkjoambhmlnbaaGreatDoor.Aid

def mO (x : OpB) (i : Nat) : Nat := if i = 0 then x.name.size else if i = 1 then 16 else 8
def eO (x : OpB) (i : Nat) : Nat → BitVec 8 := if i = 0 then strB x.name else if i = 1 then (fun j => x.key.getD j 0) else numB x.gen
def encNO (x : OpB) : Nat := encN (mO x) 3 + 1
def encEO (x : OpB) (j : Nat) : BitVec 8 := if j = 0 then bt x.kind.toNat else encB (mO x) (eO x) 3 (j - 1)
def op0 : OpB := ⟨0, nos, zw, 0⟩
/-- What Read of n bytes is, and its error. -/
def ReadSpec (E : Nat → BitVec 8) (n : Nat) (x : OpB) (c : Int) : Prop :=
  (c = 0 ∧ rightB x = true ∧ x.key.length = 16 ∧ n = encNO x ∧ ∀ j, j < n → E j = encEO x j) ∨
  (c = 3 ∧ x = op0 ∧ ∀ y, rightB y = true → y.key.length = 16 → ¬ (n = encNO y ∧ ∀ j, j < n → E j = encEO y j))
theorem encN3 (m : Nat → Nat) : encN m 3 = m 0 + m 1 + m 2 + 6 := by unfold encN; rw [off_m2]; show 0 + m 0 + m 1 + m 2 + 2 * 3 = _; omega
theorem encNO_eq (x : OpB) : encNO x = x.name.size + 31 := by
  unfold encNO
  rw [encN3]
  show x.name.size + 16 + 8 + 6 + 1 = _
  omega
theorem right_size {x : OpB} (h : rightB x = true) : x.name.size ≤ 20 := by
  by_cases hk : x.kind ≤ 3
  · have := right_name h hk
    exact (of_decide_eq_true this).2.1
  · unfold rightB at h
    rw [if_neg hk] at h
    simp only [Bool.and_eq_true, decide_eq_true_eq] at h
    rw [h.2.1]
    show 0 ≤ 20
    omega
theorem right_gen64 {x : OpB} (h : rightB x = true) : 0 ≤ x.gen ∧ x.gen ≤ 2147483647 := by
  unfold rightB at h
  by_cases hk : x.kind = 5
  · simp only [Bool.and_eq_true, decide_eq_true_eq, hk, if_true] at h
    omega
  · simp only [Bool.and_eq_true, decide_eq_true_eq, hk, if_false] at h
    omega
theorem putB_op {x : OpB} (h : x.name.size ≤ 500) : putB 3 (mO x) = true := putB_of (by omega) (fun i hi => by
  unfold mO
  split
  · exact h
  · split <;> omega)
theorem split_op {x : OpB} (h : x.name.size ≤ 500) : SplitSpec (encB (mO x) (eO x) 3) (encN (mO x) 3) 3 0 ∧ ∀ i, i < 3 → fieldM (encB (mO x) (eO x) 3) i = mO x i ∧ ∀ j, j < mO x i → fieldE (encB (mO x) (eO x) 3) i j = eO x i j := split_put (eO x) (putB_op h)
theorem sp_congr {E F : Nat → BitVec 8} {n : Nat} (h : ∀ j, j < n → E j = F j) : ∀ k, (∀ i, i < k → sp E i + 2 ≤ n) → sp E k = sp F k
  | 0, _ => rfl
  | k + 1, hk => by
    have h1 := sp_congr h k (fun i hi => hk i (by omega))
    have h2 := hk k (by omega)
    show sp E k + 2 + lenAt E (sp E k) = sp F k + 2 + lenAt F (sp F k)
    rw [← h1]
    unfold lenAt
    rw [h (sp E k) (by omega), h (sp E k + 1) (by omega)]
theorem len_congr {E F : Nat → BitVec 8} {n p : Nat} (h : ∀ j, j < n → E j = F j) (hp : p + 2 ≤ n) : lenAt E p = lenAt F p := by
  unfold lenAt
  rw [h p (by omega), h (p + 1) (by omega)]
/-- The parts of equal bytes. -/
theorem parts_congr {E F : Nat → BitVec 8} {n k : Nat} (h : ∀ j, j < n → E j = F j) (hs : SplitSpec E n k 0) : ∀ i, i < k → fieldM E i = fieldM F i ∧ ∀ j, j < fieldM E i → fieldE E i j = fieldE F i j := fun i hi => by
  have hst : ∀ i, i < k → sp E i + 2 ≤ n ∧ sp E i + 2 + lenAt E (sp E i) ≤ n := fun i hi => by
    have := step_ok (hs.1 i hi).2
    exact ⟨by omega, this.2.2.2⟩
  have h1 := sp_congr h i (fun i' hi' => (hst i' (by omega)).1)
  obtain ⟨h2, h3⟩ := hst i hi
  refine ⟨?_, fun j hj => ?_⟩
  · unfold fieldM
    rw [← h1]
    exact len_congr h h2
  · unfold fieldE
    unfold fieldM at hj
    rw [← h1]
    exact h _ (by omega)
theorem gen_back {a b : Int} (ha : 0 ≤ a ∧ a ≤ 2147483647) (hb : 0 ≤ b ∧ b ≤ 2147483647) (h : ∀ j, j < 8 → numB a j = numB b j) : a = b := by
  have h1 := (take_num a (by omega) (by omega)).1
  have h2 := (take_num b (by omega) (by omega)).1
  rw [← h1, ← h2]
  unfold takeV
  have : ∀ k, k ≤ 8 → tU (numB a) k = tU (numB b) k := by
    intro k
    induction k with
    | zero => intro _; rfl
    | succ k ih => intro hk; show 256 * tU (numB a) k + _ = 256 * tU (numB b) k + _; rw [ih (by omega), h k (by omega)]
  rw [if_pos rfl, if_pos rfl, this 8 (Nat.le_refl _)]
theorem key_ext {a b : Wd} (ha : a.length = 16) (hb : b.length = 16) (h : ∀ j, j < 16 → a.getD j 0 = b.getD j 0) : a = b := by
  apply List.ext_getElem (by omega)
  intro i h1 h2
  have := h i (by omega)
  rw [List.getD_eq_getElem?_getD, List.getD_eq_getElem?_getD, List.getElem?_eq_getElem h1, List.getElem?_eq_getElem h2] at this
  exact this
/-- An operation is known by its bytes. -/
theorem enc_inj {x y : OpB} (hx : rightB x = true) (hy : rightB y = true) (kx : x.key.length = 16) (ky : y.key.length = 16) (hn : encNO x = encNO y) (he : ∀ j, j < encNO x → encEO x j = encEO y j) : x = y := by
  have sx := right_size hx
  have sy := right_size hy
  have h0 := he 0 (by unfold encNO; omega)
  have hk : x.kind = y.kind := by
    have h1 := right_kind hx
    have h2 := right_kind hy
    unfold encEO at h0
    rw [if_pos rfl, if_pos rfl] at h0
    have := congrArg BitVec.toNat h0
    rw [bt_toNat (by omega), bt_toNat (by omega)] at this
    omega
  have hE : ∀ j, j < encN (mO x) 3 → encB (mO x) (eO x) 3 j = encB (mO y) (eO y) 3 j := fun j hj => by
    have := he (j + 1) (by unfold encNO; omega)
    unfold encEO at this
    rw [if_neg (by omega), if_neg (by omega)] at this
    exact this
  obtain ⟨s1, p1⟩ := split_op (x := x) (by omega)
  obtain ⟨s2, p2⟩ := split_op (x := y) (by omega)
  have hc := parts_congr hE s1
  have hp : ∀ i, i < 3 → mO x i = mO y i ∧ ∀ j, j < mO x i → eO x i j = eO y i j := fun i hi => by
    obtain ⟨a1, a2⟩ := p1 i hi
    obtain ⟨b1, b2⟩ := p2 i hi
    obtain ⟨c1, c2⟩ := hc i hi
    rw [a1, b1] at c1
    refine ⟨c1, fun j hj => ?_⟩
    rw [← a2 j hj, ← b2 j (by omega)]
    exact c2 j (by rw [a1]; exact hj)
  obtain ⟨xk, xn, xw, xg⟩ := x
  obtain ⟨yk, yn, yw, yg⟩ := y
  have n1 : xn = yn := str_ext (hp 0 (by omega)).1 (hp 0 (by omega)).2
  have n2 : xw = yw := key_ext kx ky (hp 1 (by omega)).2
  have n3 : xg = yg := gen_back (right_gen64 hx) (right_gen64 hy) (hp 2 (by omega)).2
  have n4 : xk = yk := hk
  rw [n1, n2, n3, n4]
theorem read_unique {E : Nat → BitVec 8} {n : Nat} {x y : OpB} {c d : Int} (h : ReadSpec E n x c) (k : ReadSpec E n y d) : x = y ∧ c = d := by
  rcases h with ⟨h1, h2, h3, h4, h5⟩ | ⟨h1, h2, h3⟩ <;> rcases k with ⟨k1, k2, k3, k4, k5⟩ | ⟨k1, k2, k3⟩
  · refine ⟨enc_inj h2 k2 h3 k3 (by omega) (fun j hj => ?_), by rw [h1, k1]⟩
    rw [← h5 j (by omega), ← k5 j (by omega)]
  · exact absurd ⟨h4, h5⟩ (k3 x h2 h3)
  · exact absurd ⟨k4, k5⟩ (h3 y k2 k3)
  · exact ⟨by rw [h2, k2], by rw [h1, k1]⟩
theorem read_key {E : Nat → BitVec 8} {n : Nat} {x : OpB} {c : Int} (h : ReadSpec E n x c) : x.key.length = 16 := by
  rcases h with ⟨h1, h2, h3, h4, h5⟩ | ⟨h1, h2, h3⟩
  · exact h3
  · rw [h2]; rfl
end Go.Proofs.YtnkjoambhmlnbaaGreatDoor.Book
