/-
  Sealed forms as plain functions over bytes: what the document's chapter on seal says, and the laws of P5.3. No program is named here. What seal.keyed does: it gives two functions, which carry the two keys of a key and a label with them. The code that the laws of layer 2 ask first: RFC 4231's second. Bytes of a literal, and two parts, in new blocks.
-/
import Derived.Test.YtnkjoambhmlnbaaGreatDoorBd30
import Derived.Test.YtnkjoambhmlnbaaGreatDoorBd01
import Derived.Test.YtnkjoambhmlnbaaGreatDoorBd10
import Derived.Test.YtnkjoambhmlnbaaGreatDoorBd07
import Derived.Test.YtnkjoambhmlnbaaGreatDoorBd28
import Derived.Test.YtnkjoambhmlnbaaGreatDoorBd36
namespace Go.Proofs.YtnkjoambhmlnbaaGreatDoor.Seal
open Go Go.Proofs.YtnkjoambhmlnbaaGreatDoor.Aid Go.Proofs.YtnkjoambhmlnbaaGreatDoor.Sha Go.Proofs.YtnkjoambhmlnbaaGreatDoor.Mac Go.Proofs.YtnkjoambhmlnbaaGreatDoor.Aes Go.Proofs.YtnkjoambhmlnbaaGreatDoor.Ctr

def pre : ByteArray := { data := #[98, 97, 114, 116, 105, 122, 97, 110, 32] }
/-- The keys of a key and a label: 48 bytes. -/
def keysB (key : Nat → BitVec 8) (s : ByteArray) : Nat → BitVec 8 := output (padKey key 16) (strByte (pre ++ s)) (pre ++ s).size
def authB (ks : Nat → BitVec 8) (j : Nat) : BitVec 8 := ks (16 + j)
/-- The counter, and what was encrypted from it on. -/
def frontB (ks first e : Nat → BitVec 8) : Nat → BitVec 8 := cat first 16 (flipB ks first e)
def formB (ks first e : Nat → BitVec 8) (n : Nat) : Nat → BitVec 8 := cat (frontB ks first e) (16 + n) (code (authB ks) 32 (frontB ks first e) (16 + n))
/-- Whether the last 32 of m bytes are the code of those before. -/
def okB (ks b : Nat → BitVec 8) (m : Nat) : Bool := sameBytes 32 32 (code (authB ks) 32 b (m - 32)) (fun j => b (m - 32 + j))
def openB (ks b : Nat → BitVec 8) : Nat → BitVec 8 := flipB ks b (fun j => b (16 + j))

theorem sameTo_all (e f : Nat → BitVec 8) : ∀ n, sameTo e f n = true → ∀ j, j < n → e j = f j
  | 0, _, j, hj => absurd hj (by omega)
  | n + 1, h, j, hj => by
    have h' : (sameTo e f n && (e n == f n)) = true := h
    rw [Bool.and_eq_true] at h'
    by_cases e1 : j = n
    · subst e1; simpa using h'.2
    · exact sameTo_all e f n h'.1 j (by omega)
theorem same_all {e f : Nat → BitVec 8} {n : Nat} (h : sameBytes n n e f = true) : ∀ j, j < n → e j = f j := by
  unfold sameBytes at h
  rw [Bool.and_eq_true] at h
  exact sameTo_all e f n h.2
theorem sameTo_congr {e f e' f' : Nat → BitVec 8} : ∀ n, (∀ j, j < n → e j = e' j) → (∀ j, j < n → f j = f' j) → sameTo e f n = sameTo e' f' n
  | 0, _, _ => rfl
  | n + 1, he, hf => by
    show (sameTo e f n && (e n == f n)) = (sameTo e' f' n && (e' n == f' n))
    rw [sameTo_congr n (fun j hj => he j (by omega)) (fun j hj => hf j (by omega)), he n (by omega), hf n (by omega)]
theorem same_congr {e f e' f' : Nat → BitVec 8} {n : Nat} (he : ∀ j, j < n → e j = e' j) (hf : ∀ j, j < n → f j = f' j) : sameBytes n n e f = sameBytes n n e' f' := by
  unfold sameBytes
  rw [sameTo_congr n he hf]
theorem flip_congr {k k' a a' e e' : Nat → BitVec 8} (hk : Same16 k k') (ha : Same16 a a') {j : Nat} (he : e j = e' j) : flipB k a e j = flipB k' a' e' j := by
  have h := enc_congr (b := nextB a (j / 16)) (b' := nextB a' (j / 16)) hk (fun i _ => nextB_congr ha _ i) (j % 16) (Nat.mod_lt _ (by omega))
  show e j ^^^ enc k (nextB a (j / 16)) (j % 16) = e' j ^^^ enc k' (nextB a' (j / 16)) (j % 16)
  rw [he, h]
theorem form_front (ks first e : Nat → BitVec 8) (n j : Nat) (hj : j < 16 + n) : formB ks first e n j = frontB ks first e j := cat_lt _ _ _ _ hj
theorem form_first (ks first e : Nat → BitVec 8) (n j : Nat) (hj : j < 16) : formB ks first e n j = first j := by
  rw [form_front _ _ _ _ _ (by omega)]
  exact cat_lt _ _ _ _ hj
theorem form_mid (ks first e : Nat → BitVec 8) (n j : Nat) (hj : j < n) : formB ks first e n (16 + j) = flipB ks first e j := by
  rw [form_front _ _ _ _ _ (by omega)]
  unfold frontB
  rw [cat_ge _ _ _ _ (by omega), Nat.add_sub_cancel_left]
theorem form_code (ks first e : Nat → BitVec 8) (n j : Nat) : formB ks first e n (16 + n + j) = code (authB ks) 32 (frontB ks first e) (16 + n) j := by
  unfold formB
  rw [cat_ge _ _ _ _ (by omega), Nat.add_sub_cancel_left]
/-- The keys hold to the counter, the plaintext to its bytes alone. -/
theorem front_congr {ks ks' a a' e e' : Nat → BitVec 8} {n : Nat} (hk : Same16 ks ks') (ha : Same16 a a') (he : ∀ j, j < n → e j = e' j) (j : Nat) (hj : j < 16 + n) : frontB ks a e j = frontB ks' a' e' j := by
  unfold frontB
  by_cases h : j < 16
  · rw [cat_lt _ _ _ _ h, cat_lt _ _ _ _ h, ha j h]
  · rw [cat_ge _ _ _ _ (by omega), cat_ge _ _ _ _ (by omega)]
    exact flip_congr hk ha (he _ (by omega))
theorem form_congr {ks ks' a a' e e' : Nat → BitVec 8} {n : Nat} (hk : ∀ j, j < 48 → ks j = ks' j) (ha : Same16 a a') (he : ∀ j, j < n → e j = e' j) (j : Nat) (_ : j < 48 + n) : formB ks a e n j = formB ks' a' e' n j := by
  have hf := front_congr (n := n) (fun i hi => hk i (by omega)) ha he
  unfold formB
  by_cases h : j < 16 + n
  · rw [cat_lt _ _ _ _ h, cat_lt _ _ _ _ h, hf j h]
  · rw [cat_ge _ _ _ _ (by omega), cat_ge _ _ _ _ (by omega), code_congr (authB ks) (authB ks') _ _ 32 (16 + n) (fun i hi => hk _ (by omega)) hf]

/-- What was sealed opens .. -/
theorem ok_form (ks first e : Nat → BitVec 8) (n : Nat) : okB ks (formB ks first e n) (48 + n) = true := by
  unfold okB
  refine same_refl _ _ _ (fun j hj => ?_)
  rw [show 48 + n - 32 = 16 + n by omega, form_code]
  exact congrFun (code_congr _ _ _ _ _ _ (fun _ _ => rfl) (fun i hi => form_front ks first e n i hi)) j
/-- .. to what it was. -/
theorem open_form (ks first e : Nat → BitVec 8) (n j : Nat) (hj : j < n) : openB ks (formB ks first e n) j = e j := by
  unfold openB
  rw [flip_congr (k' := ks) (a' := first) (e' := flipB ks first e) (fun _ _ => rfl) (fun i hi => form_first ks first e n i hi) (form_mid ks first e n j hj)]
  exact Ctr.flip_flip ks first e j
/-- What opens is the sealed form of what it opens to. -/
theorem form_open (ks b : Nat → BitVec 8) (m : Nat) (hm : 48 ≤ m) (h : okB ks b m = true) (j : Nat) (hj : j < m) : formB ks b (openB ks b) (m - 48) j = b j := by
  have hf : ∀ i, i < m - 32 → frontB ks b (openB ks b) i = b i := fun i hi => by
    unfold frontB
    by_cases h16 : i < 16
    · rw [cat_lt _ _ _ _ h16]
    · rw [cat_ge _ _ _ _ (by omega)]
      unfold openB
      rw [Ctr.flip_flip, show 16 + (i - 16) = i by omega]
  have hs := same_all h
  rw [show m - 32 = 16 + (m - 48) by omega] at hs hf
  unfold formB
  by_cases h1 : j < 16 + (m - 48)
  · rw [cat_lt _ _ _ _ h1, hf j h1]
  · rw [cat_ge _ _ _ _ (by omega), code_congr (authB ks) (authB ks) _ b 32 _ (fun _ _ => rfl) hf, hs _ (by omega), show 16 + (m - 48) + (j - (16 + (m - 48))) = j by omega]
theorem ok_congr {ks ks' b b' : Nat → BitVec 8} {m : Nat} (hm : 48 ≤ m) (hk : ∀ j, j < 48 → ks j = ks' j) (hb : ∀ j, j < m → b j = b' j) : okB ks b m = okB ks' b' m := by
  unfold okB
  refine same_congr (fun j _ => ?_) (fun j hj => hb _ (by omega))
  exact congrFun (code_congr _ _ _ _ _ _ (fun i hi => hk _ (by omega)) (fun i hi => hb i (by omega))) j
end Go.Proofs.YtnkjoambhmlnbaaGreatDoor.Seal
namespace Go.Proofs.YtnkjoambhmlnbaaGreatDoor.Seal
open Go Go.RowKit Go.Proofs.YtnkjoambhmlnbaaGreatDoor.Aid Go.Proofs.YtnkjoambhmlnbaaGreatDoor.Sha Go.Proofs.YtnkjoambhmlnbaaGreatDoor.Mac Go.Proofs.YtnkjoambhmlnbaaGreatDoor.Aes Go.Proofs.YtnkjoambhmlnbaaGreatDoor.Ctr

section
variable {P : Program} {w : World} {ops : Array Oper} {rest : List Oper} {op : Oper} {a : Act}
theorem range_bytes {sb so m : Nat} {e : Nat → BitVec 8} (h : ∀ j, j < m → w.cell? ⟨sb, so + j, none⟩ = some (.int .u8 ((e j).toNat : Int))) : w.rangeAt sb so ((List.range m).map fun j => Value.int .u8 ((e j).toNat : Int)) := by
  intro j v hv
  have hj : j < m := by have := (List.getElem?_eq_some_iff.1 hv).1; simpa using this
  rw [h j hj]
  simpa [hj] using hv
/-- A load of as many bytes as an array has, wherever they lie. -/
theorem load_bytes {Q : Exit → Act → World → Prop} (hgd : op.guard = none) (ty : TypeId) (x : Operand) (ho : op.op = .load ty x) (sb so m : Nat) (e : Nat → BitVec 8) (hc : ∀ j, j < m → w.cell? ⟨sb, so + j, none⟩ = some (.int .u8 ((e j).toNat : Int)))
    (hx : a.eval x = .pointer (some ⟨sb, so, none⟩)) (d : TypeDesc) (hu : P.underlying ty = some d) (hd : d.isRow = true) (hi : (P.info? ty).map (·.size) = some m)
    (hK : wpList P ops Q rest (a.put op.dst (.agg (byteRow m e))) w) : wpList P ops Q (op :: rest) a w :=
  wpList_load_mid hgd ty x ho sb so hx _ d (range_bytes hc) hu hd (by simpa using hi) hK
theorem still_bytes {Q : Act → Prop} (hgd : op.guard = none) (ty : TypeId) (x : Operand) (ho : op.op = .load ty x) (sb so m : Nat) (e : Nat → BitVec 8) (hc : ∀ j, j < m → w.cell? ⟨sb, so + j, none⟩ = some (.int .u8 ((e j).toNat : Int)))
    (hx : a.eval x = .pointer (some ⟨sb, so, none⟩)) (d : TypeDesc) (hu : P.underlying ty = some d) (hd : d.isRow = true) (hi : (P.info? ty).map (·.size) = some m)
    (h : wpStill P ops w Q rest (a.put op.dst (.agg (byteRow m e)))) : wpStill P ops w Q (op :: rest) a :=
  still_load hgd ty x ho sb so hx _ d (range_bytes hc) hu hd (by simpa using hi) h
end

theorem run_arrayAt' {P : Program} (arr e : TypeId) (n : Nat) (a : Option Addr) (len cap : Nat) (W : World) (h : P.underlying arr = some (.array n e)) (hn : n ≤ len) : (Instr.arrayAt arr (.slice a len cap)).run P W = .ok (.pointer a) W := by
  simp [Instr.arrayAt, run_underlying h, Nat.not_lt.2 hn]
/-- The two keys, where the two functions hold them. -/
structure Keyed (ks : Nat → BitVec 8) (be ba : Nat) (w : World) : Prop where
  enc : RowB w be 24 16 ks
  auth : ∃ g, w.cell? ⟨ba, 0, none⟩ = some (.slice (some ⟨g, 16, none⟩) 32 32) ∧ SliceOf w w.heap.size 32 (authB ks) (.slice (some ⟨g, 16, none⟩) 32 32)
theorem Keyed.below {ks : Nat → BitVec 8} {be ba : Nat} {w w' : World} (h : Keyed ks be ba w) (hb : Below w.heap.size w w') : Keyed ks be ba w' := by
  obtain ⟨g, h1, h2⟩ := h.auth
  exact ⟨World.rowIs.of_block h.enc (hb.block _ (World.rowIs.lt h.enc)), g, (hb.cell (p := ⟨ba, 0, none⟩) (block_lt_of_cell h1)).trans h1, slice_any (slice_below h2 hb) (Nat.le_refl _)⟩
def flipF (be : Nat) : Value := .func (.func 74) #[] #[.pointer (some ⟨be, 0, none⟩)]
def codeF (ba : Nat) : Value := .func (.func 76) #[] #[.pointer (some ⟨ba, 0, none⟩)]

set_option maxRecDepth 100000 in
set_option maxHeartbeats 1000000 in
theorem keyed_any (key : Nat → BitVec 8) (s : ByteArray) (hs : s.size ≤ 1000) (C : Array Value) (hC : C.size = 16) (hc : ∀ i, i < 16 → C[i]? = some (.int .u8 ((key i).toNat : Int))) (w : World) (hk : Consts w) :
    Calls Tryz.prog 48 #[.agg C, .string s] w fun x w' => ∃ be ba, x = .returned (.tuple #[flipF be, codeF ba]) ∧ Keyed (keysB key s) be ba w' ∧ Below w.heap.size w w' := by
  have h1 : ∃ w1, w1 = w.alloc (.cells C 25) ∧ SliceOf w1 w1.heap.size 16 key (.slice (some ⟨w.heap.size, 0, none⟩) 16 16) ∧ Below w.heap.size w w1 := by
    have hr := row_new w C 25 16 (fun j => .int .u8 ((key j).toNat : Int)) hC hc
    exact ⟨_, rfl, ⟨_, 16, rfl, by omega, fun _ => ⟨w.heap.size, 0, rfl, by simp, fun j hj => by rw [Nat.zero_add]; exact hr.cell hj⟩⟩, (Below.refl _ _).alloc (Nat.le_refl _) _⟩
  obtain ⟨w1, hw1, hs1, hb1⟩ := h1
  have k1 := fun b W => all_run (P := Tryz.prog) 25 5 16 Tryz.underlying25 (by kernel_rfl) b 0 W
  have hps : (pre ++ s).size ≤ 100000 := by rw [ByteArray.size_append]; show 9 + s.size ≤ _; omega
  clear hc hC
  go_enter Tryz.func48, Tryz.ntmps48
  go_wp2_with fail
  rw [← hw1]
  refine (expand_any key (some ⟨w.heap.size, 0, none⟩) 16 16 (pre ++ s) 48 w1 (hk.below hb1 (Nat.le_refl _)) hs1 (by omega) hps (by omega)).mono ?_
  rintro x w2 ⟨v2, rfl, hown2, hb2⟩
  obtain ⟨ks, hks⟩ : ∃ ks, ks = keysB key s := ⟨_, rfl⟩
  rw [show output (padKey key 16) (strByte (pre ++ s)) (pre ++ s).size = ks from hks.symm] at hown2
  have Hks := Lib.hid hks
  rcases hown2.form with ⟨_, h0⟩ | ⟨g, cap, cur, rfl, hg1, hg2, hcap, hh, hcur, hce⟩
  · omega
  have ce : ∀ j, j < 48 → w2.cell? ⟨g, 0 + j, none⟩ = some (.int .u8 ((ks j).toNat : Int)) := fun j hj => by rw [Nat.zero_add, cell_of_row w2 g j cur _ _ hh]; exact hce j hj
  have hb2' := hb1.trans (hb2.mono hb1.size)
  have k2 := fun W => head3_run (P := Tryz.prog) 28 5 Tryz.underlying28 (by kernel_rfl) g 0 48 cap 16 16 (by omega) (by omega) 16 16 .i64 .i64 W rfl rfl
  obtain ⟨o3, _, hA3, k3⟩ := cut3_run (P := Tryz.prog) 28 5 Tryz.underlying28 (by kernel_rfl) g 0 48 cap 16 48 48 (by omega) (by omega) (by omega)
  obtain rfl := hA3 (by omega)
  have k3' := fun W => k3 16 48 48 .i64 .i64 .i64 W rfl rfl rfl
  have k4 := fun W => run_arrayAt' (P := Tryz.prog) 24 5 16 (some ⟨g, 0, none⟩) 16 16 W Tryz.underlying24 (by omega)
  have Hce := Lib.hid ce
  clear hs1 hb1 hw1 hown2 hb2 hh hcur hce hA3 k3 k1 ce hks hg1 hcap hps
  go_wp2_with (first
    | (refine load_bytes (by rfl) 24 (.tmp 19) (by rfl) g 0 16 ks (fun j hj => Hce.out j (by omega)) (by rfl) _ Tryz.underlying24 rfl (by kernel_rfl) ?_)
    | (refine store_whole (by rfl) 24 (.tmp 8) (.tmp 20) (by rfl) w2.heap.size _ 16 (fun _ => .int .u8 0) (fun j => .int .u8 ((ks j).toNat : Int)) (by exact row_new w2 _ _ 16 _ (by rfl) (zeros16 _ (by rfl))) (by rfl) _ (by rfl) (by kernel_rfl) (size_cellsOf _ _) (cellsOf_at _ _) (fun _ _ => rfl) ?_
       intro w3 hr3 ho3))
  have hb3 : Below w.heap.size w w3 := ho3.below (hb2'.alloc hb2'.size _) hb2'.size
  have b23 : Below w2.heap.size w2 w3 := ho3.below ((Below.refl _ _).alloc (Nat.le_refl _) _) (Nat.le_refl _)
  have b24 := b23.alloc b23.size (.cells #[.slice (some ⟨g, 16, none⟩) 32 32] 28)
  go_ret2
  refine ⟨w2.heap.size, w3.heap.size, rfl, ⟨?_, g, ?_, ⟨_, 32, rfl, Nat.le_refl _, fun _ => ⟨g, 16, rfl, ?_, fun j hj => ?_⟩⟩⟩, hb3.alloc hb3.size _⟩
  · rw [← Hks.out]
    exact World.rowIs.alloc hr3 _
  · rw [World.cell?_alloc_new]; rfl
  · have := b24.size; omega
  · have h1 := Hce.out (16 + j) (by omega)
    rw [Nat.zero_add] at h1
    rw [b24.cell (p := ⟨g, 16 + j, none⟩) hg2, h1, Hks.out]
    rfl
end Go.Proofs.YtnkjoambhmlnbaaGreatDoor.Seal
namespace Go.Proofs.YtnkjoambhmlnbaaGreatDoor.Mac
open Go Go.Proofs.YtnkjoambhmlnbaaGreatDoor.Aid Go.Proofs.YtnkjoambhmlnbaaGreatDoor.Sha Go.Proofs.YtnkjoambhmlnbaaGreatDoor.Law01

def bytesL (l : List (BitVec 8)) (i : Nat) : BitVec 8 := l.getD i 0
def jefe : List (BitVec 8) := [74, 101, 102, 101]
def want : List (BitVec 8) := [119, 104, 97, 116, 32, 100, 111, 32, 121, 97, 32, 119, 97, 110, 116, 32]
def nothing : List (BitVec 8) := [102, 111, 114, 32, 110, 111, 116, 104, 105, 110, 103, 63]
def innerL : List (BitVec 8) := [162, 228, 133, 134, 61, 39, 249, 216, 100, 172, 141, 128, 36, 50, 161, 237, 71, 125, 140, 76, 111, 52, 157, 22, 212, 231, 233, 23, 198, 41, 202, 215]
theorem inner_at : ∀ j, j < 32 → inner (padKey (bytesL jefe) 4) (bytesL (want ++ nothing)) 28 j = bytesL innerL j := by decide +kernel
theorem known_code : code (bytesL jefe) 4 (bytesL (want ++ nothing)) 28 = digest (bytesL ((List.range 64).map (fun j => padKey (bytesL jefe) 4 j ^^^ 92) ++ innerL)) 96 := by
  unfold code codeP
  refine digest_congr _ _ _ (fun j hj => ?_)
  by_cases h : j < 64
  · rw [cat_lt _ _ _ _ h]
    unfold bytesL xorBy
    rw [List.getD_eq_getElem?_getD, List.getElem?_append_left (by simpa using h)]
    simp [h]
  · rw [cat_ge _ _ _ _ (by omega), inner_at (j - 64) (by omega)]
    unfold bytesL
    rw [List.getD_eq_getElem?_getD, List.getD_eq_getElem?_getD, List.getElem?_append_right (by simp; omega)]
    simp
theorem known_0 : code (bytesL jefe) 4 (bytesL (want ++ nothing)) 28 0 = 0x5b := by rw [known_code]; decide +kernel
theorem known_1 : code (bytesL jefe) 4 (bytesL (want ++ nothing)) 28 1 = 0xdc := by rw [known_code]; decide +kernel
theorem known_31 : code (bytesL jefe) 4 (bytesL (want ++ nothing)) 28 31 = 0x43 := by rw [known_code]; decide +kernel
end Go.Proofs.YtnkjoambhmlnbaaGreatDoor.Mac

namespace Go.Proofs.YtnkjoambhmlnbaaGreatDoor.Law02
open Go Go.RowKit Go.Proofs.YtnkjoambhmlnbaaGreatDoor.Aid Go.Proofs.YtnkjoambhmlnbaaGreatDoor.Sha Go.Proofs.YtnkjoambhmlnbaaGreatDoor.Law01 Go.Proofs.YtnkjoambhmlnbaaGreatDoor.Mac

/-- A literal's bytes in a new block. -/
theorem slice_lit (w : World) (C : Array Value) (fr : Nat × Nat) (l : List (BitVec 8)) (n g : Nat) (hg : g ≠ w.heap.size) (hC : C = (l.map fun x => Value.int .u8 (x.toNat : Int)).toArray) (hn : l.length = n) :
    SliceOf (w.alloc (.cells C 5 fr)) g n (bytesL l) (.slice (some ⟨w.heap.size, 0, none⟩) n n) := by
  have hc : ∀ j, (w.alloc (.cells C 5 fr)).cell? ⟨w.heap.size, j, none⟩ = C[j]? := fun j => cell_of_row _ _ j _ _ _ (heap_alloc_new w _)
  refine ⟨_, _, rfl, Nat.le_refl _, fun _ => ⟨w.heap.size, 0, rfl, fun e => hg e.symm, fun j hj => ?_⟩⟩
  rw [Nat.zero_add, hc, hC]
  unfold bytesL
  have : j < l.length := by omega
  simp [this]
theorem parts_two (w : World) (m : Nat → Nat) (e : Nat → Nat → BitVec 8) (v0 v1 : Value) (h0 : SliceOf w w.heap.size (m 0) (e 0) v0) (h1 : SliceOf w w.heap.size (m 1) (e 1) v1) :
    PartsOf (w.alloc (.cells #[v0, v1] 28)) 2 m e (.slice (some ⟨w.heap.size, 0, none⟩) 2 2) := by
  have hb : Below w.heap.size w (w.alloc (.cells #[v0, v1] 28)) := (Below.refl _ _).alloc (by simp) _
  have hc : ∀ j, (w.alloc (.cells #[v0, v1] 28)).cell? ⟨w.heap.size, j, none⟩ = (#[v0, v1] : Array Value)[j]? := fun j => cell_of_row _ _ j _ _ _ (heap_alloc_new w _)
  refine ⟨_, 2, rfl, fun _ => ⟨w.heap.size, 0, rfl, fun i hi => ?_⟩⟩
  rw [Nat.zero_add]
  match i, hi with
  | 0, _ => exact ⟨v0, by rw [hc]; rfl, slice_any (slice_below h0 hb) (Nat.le_refl _)⟩
  | 1, _ => exact ⟨v1, by rw [hc]; rfl, slice_any (slice_below h1 hb) (Nat.le_refl _)⟩
theorem alloc_below (w : World) (o : Obj) : Below w.heap.size w (w.alloc o) := (Below.refl _ _).alloc (by simp) _
end Go.Proofs.YtnkjoambhmlnbaaGreatDoor.Law02
