/-
  The form that the laws of layer 5 ask first: three bytes for one label, and that it does not open for another.
-/
import Derived.Test.YtfjoflpidmjkbaaDoorSealPlain
import Derived.Test.YtfjoflpidmjkbaaDoorLit
namespace Go.Proofs.YtfjoflpidmjkbaaDoor.Seal
open Go Go.Proofs.YtfjoflpidmjkbaaDoor.Aid Go.Proofs.YtfjoflpidmjkbaaDoor.Sha Go.Proofs.YtfjoflpidmjkbaaDoor.Mac Go.Proofs.YtfjoflpidmjkbaaDoor.Aes Go.Proofs.YtfjoflpidmjkbaaDoor.Ctr

def k1 : List (BitVec 8) := [1, 0, 0, 0, 0, 0, 0, 0, 0, 0, 0, 0, 0, 0, 0, 0]
def sA : List (BitVec 8) := [98, 97, 114, 116, 105, 122, 97, 110, 32, 97]
def sB : List (BitVec 8) := [98, 97, 114, 116, 105, 122, 97, 110, 32, 98]
def i1A : List (BitVec 8) := [144, 254, 17, 231, 253, 213, 205, 250, 229, 171, 105, 133, 5, 198, 117, 141, 248, 28, 135, 145, 143, 33, 94, 6, 36, 202, 246, 12, 138, 125, 171, 70]
def t1A : List (BitVec 8) := [181, 6, 102, 57, 15, 53, 19, 88, 91, 43, 81, 177, 139, 204, 162, 185, 149, 173, 183, 35, 25, 71, 186, 6, 120, 32, 213, 17, 96, 39, 137, 44]
def i2A : List (BitVec 8) := [138, 36, 0, 40, 74, 168, 103, 227, 251, 89, 78, 56, 162, 246, 235, 232, 32, 13, 142, 153, 82, 19, 172, 197, 95, 98, 83, 196, 250, 9, 220, 52]
def t2A : List (BitVec 8) := [198, 201, 33, 191, 89, 144, 187, 90, 130, 158, 78, 111, 115, 182, 14, 40, 109, 177, 52, 145, 129, 64, 2, 86, 186, 5, 143, 58, 224, 45, 113, 142]
def i1B : List (BitVec 8) := [54, 141, 56, 30, 138, 129, 146, 167, 142, 68, 39, 188, 247, 103, 84, 179, 176, 48, 125, 79, 49, 163, 172, 202, 168, 197, 26, 109, 92, 76, 28, 21]
def t1B : List (BitVec 8) := [209, 49, 122, 25, 29, 6, 149, 94, 233, 98, 107, 202, 93, 220, 54, 230, 182, 119, 100, 86, 36, 176, 183, 56, 232, 209, 123, 47, 200, 52, 152, 25]
def i2B : List (BitVec 8) := [109, 48, 22, 162, 41, 69, 189, 128, 222, 205, 98, 136, 118, 209, 109, 106, 67, 33, 208, 58, 36, 176, 244, 59, 34, 28, 44, 227, 96, 99, 209, 222]
def t2B : List (BitVec 8) := [25, 210, 105, 214, 169, 117, 24, 120, 84, 34, 208, 249, 28, 161, 10, 249, 181, 2, 207, 59, 133, 247, 143, 63, 153, 104, 153, 88, 41, 17, 128, 177]
def ctr2 : List (BitVec 8) := [2, 0, 0, 0, 0, 0, 0, 0, 0, 0, 0, 0, 0, 0, 0, 0]
def xyzL : List (BitVec 8) := [120, 121, 122]
def frontL : List (BitVec 8) := [2, 0, 0, 0, 0, 0, 0, 0, 0, 0, 0, 0, 0, 0, 0, 0, 238, 110, 11]
def iCA : List (BitVec 8) := [239, 102, 37, 191, 37, 147, 78, 13, 45, 109, 225, 5, 234, 103, 96, 59, 117, 255, 220, 82, 54, 236, 199, 118, 189, 72, 47, 91, 229, 174, 221, 129]
def oCA : List (BitVec 8) := [102, 29, 96, 174, 100, 191, 90, 175, 83, 234, 247, 227, 149, 134, 170, 44, 171, 107, 239, 135, 80, 123, 161, 159, 204, 196, 103, 206, 78, 98, 205, 145]
def iCB : List (BitVec 8) := [219, 154, 75, 228, 179, 25, 232, 207, 118, 133, 32, 150, 86, 119, 98, 106, 215, 52, 181, 165, 180, 140, 122, 136, 190, 27, 170, 91, 177, 185, 174, 47]
def oCB : List (BitVec 8) := [29, 60, 171, 96, 167, 13, 129, 33, 170, 111, 8, 117, 231, 224, 196, 12, 56, 25, 195, 111, 170, 183, 65, 213, 179, 14, 254, 104, 149, 213, 64, 7]
def srL : List (List (BitVec 8)) := [[181, 6, 102, 57, 15, 53, 19, 88, 91, 43, 81, 177, 139, 204, 162, 185],
  [255, 60, 48, 4, 240, 9, 35, 92, 171, 34, 114, 237, 32, 238, 208, 84],
  [213, 76, 16, 179, 37, 69, 51, 239, 142, 103, 65, 2, 174, 137, 145, 86],
  [118, 205, 161, 87, 83, 136, 146, 184, 221, 239, 211, 186, 115, 102, 66, 236],
  [77, 225, 111, 216, 30, 105, 253, 96, 195, 134, 46, 218, 176, 224, 108, 54],
  [188, 177, 106, 63, 162, 216, 151, 95, 97, 94, 185, 133, 209, 190, 213, 179],
  [50, 178, 7, 1, 144, 106, 144, 94, 241, 52, 41, 219, 32, 138, 252, 104],
  [12, 2, 66, 182, 156, 104, 210, 232, 109, 92, 251, 51, 77, 214, 7, 91],
  [122, 199, 123, 85, 230, 175, 169, 189, 139, 243, 82, 142, 198, 37, 85, 213],
  [94, 59, 120, 225, 184, 148, 209, 92, 51, 103, 131, 210, 245, 66, 214, 7],
  [68, 205, 189, 7, 252, 89, 108, 91, 207, 62, 239, 137, 58, 124, 57, 142]]
def seL : List (List (BitVec 8)) := [[183, 6, 102, 57, 15, 53, 19, 88, 91, 43, 81, 177, 139, 204, 162, 185],
  [144, 156, 76, 15, 60, 218, 230, 41, 93, 178, 216, 10, 94, 66, 59, 138],
  [243, 95, 103, 217, 37, 139, 170, 240, 238, 173, 135, 130, 142, 152, 185, 32],
  [139, 52, 125, 31, 234, 73, 203, 80, 78, 83, 35, 2, 180, 6, 226, 130],
  [79, 211, 16, 164, 127, 92, 231, 28, 128, 62, 126, 157, 241, 11, 94, 83],
  [111, 66, 117, 208, 193, 212, 156, 74, 203, 28, 111, 11, 232, 42, 195, 5],
  [98, 2, 17, 212, 129, 51, 184, 132, 176, 144, 147, 53, 140, 27, 145, 122],
  [27, 144, 253, 227, 237, 116, 127, 141, 143, 60, 77, 146, 230, 126, 109, 219],
  [200, 208, 75, 167, 71, 98, 92, 183, 106, 220, 157, 6, 252, 73, 213, 112],
  [127, 47, 117, 148, 45, 122, 21, 154, 96, 116, 39, 21, 59, 163, 51, 40],
  [150, 23, 113, 51, 36, 203, 175, 121, 31, 52, 114, 49, 216, 105, 96, 215]]

theorem code_list (kL dL iL oL : List (BitVec 8)) (m n : Nat) (h1 : ∀ j, j < 32 → inner (padKey (bytesL kL) m) (bytesL dL) n j = bytesL iL j)
    (h2 : ∀ j, j < 32 → digest (bytesL ((List.range 64).map (fun j => padKey (bytesL kL) m j ^^^ 92) ++ iL)) 96 j = bytesL oL j) (j : Nat) (hj : j < 32) : code (bytesL kL) m (bytesL dL) n j = bytesL oL j := by
  rw [← h2 j hj]
  unfold code codeP
  refine congrFun (digest_congr _ _ _ (fun j hj => ?_)) j
  by_cases h : j < 64
  · rw [cat_lt _ _ _ _ h]
    unfold bytesL xorBy
    rw [List.getD_eq_getElem?_getD, List.getElem?_append_left (by simpa using h)]
    simp [h]
  · rw [cat_ge _ _ _ _ (by omega), h1 (j - 64) (by omega)]
    unfold bytesL
    rw [List.getD_eq_getElem?_getD, List.getD_eq_getElem?_getD, List.getElem?_append_right (by simp; omega)]
    simp
/-- The bytes of a text that is written out. -/
theorem str_list (s : ByteArray) (l : List (BitVec 8)) (h : s.data.toList.map (fun b => BitVec.ofNat 8 b.toNat) = l) : strByte s = bytesL l := by
  subst h
  funext j
  unfold strByte bytesL
  rw [List.getD_eq_getElem?_getD, List.getD_eq_getElem?_getD, List.getElem?_map]
  cases s.data.toList[j]? <;> rfl

theorem in1A : ∀ j, j < 32 → inner (padKey (bytesL k1) 16) (bytesL (sA ++ [1])) 11 j = bytesL i1A j := by decide +kernel
theorem out1A : ∀ j, j < 32 → digest (bytesL ((List.range 64).map (fun j => padKey (bytesL k1) 16 j ^^^ 92) ++ i1A)) 96 j = bytesL t1A j := by decide +kernel
theorem in2A : ∀ j, j < 32 → inner (padKey (bytesL k1) 16) (bytesL (t1A ++ sA ++ [2])) 43 j = bytesL i2A j := by decide +kernel
theorem out2A : ∀ j, j < 32 → digest (bytesL ((List.range 64).map (fun j => padKey (bytesL k1) 16 j ^^^ 92) ++ i2A)) 96 j = bytesL t2A j := by decide +kernel
theorem blockA1 (j : Nat) (hj : j < 32) : outBlock (padKey (bytesL k1) 16) (bytesL sA) 10 1 j = bytesL t1A j := by
  rw [← code_list k1 (sA ++ [1]) i1A t1A 16 11 in1A out1A j hj]
  refine congrFun (codeP_congr _ _ _ _ 11 (fun _ _ => rfl) ?_) j
  decide +kernel
theorem blockA2 (j : Nat) (hj : j < 32) : outBlock (padKey (bytesL k1) 16) (bytesL sA) 10 2 j = bytesL t2A j := by
  rw [← code_list k1 (t1A ++ sA ++ [2]) i2A t2A 16 43 in2A out2A j hj]
  refine congrFun (codeP_congr _ _ _ _ 43 (fun _ _ => rfl) (fun i hi => ?_)) j
  show cat (outBlock (padKey (bytesL k1) 16) (bytesL sA) 10 1) 32 (cat (bytesL sA) 10 (fun _ => BitVec.ofNat 8 2)) i = _
  by_cases h : i < 32
  · rw [cat_lt _ _ _ _ h, blockA1 i h]
    unfold bytesL
    rw [List.getD_eq_getElem?_getD, List.getD_eq_getElem?_getD, List.append_assoc, List.getElem?_append_left (by exact h)]
  · rw [cat_ge _ _ _ _ (by omega)]
    obtain ⟨d, rfl⟩ : ∃ d, i = 32 + d := ⟨i - 32, by omega⟩
    rw [Nat.add_sub_cancel_left]
    have : ∀ d, d < 11 → cat (bytesL sA) 10 (fun _ => BitVec.ofNat 8 2) d = bytesL (t1A ++ sA ++ [2]) (32 + d) := by decide +kernel
    exact this d (by omega)
theorem keysOfA (s : ByteArray) (hs : (pre ++ s).data.toList.map (fun b => BitVec.ofNat 8 b.toNat) = sA) (key : Nat → BitVec 8) (hk : ∀ j, j < 16 → key j = bytesL k1 j) (j : Nat) (hj : j < 48) : keysB key s j = bytesL (t1A ++ t2A) j := by
  have hsz : (pre ++ s).size = 10 := by
    have := congrArg List.length hs
    simpa [sA] using this
  have hp : padKey key 16 = padKey (bytesL k1) 16 := by
    funext i
    unfold padKey
    rw [if_neg (show ¬ 64 < 16 by omega), if_neg (show ¬ 64 < 16 by omega)]
    by_cases h : i < 16
    · rw [if_pos h, if_pos h, hk i h]
    · rw [if_neg h, if_neg h]
  unfold keysB
  rw [hsz, str_list _ _ hs, hp]
  by_cases h : j < 32
  · rw [show j = 32 * 0 + j by omega, output_block _ _ _ _ _ h, blockA1 j h]
    unfold bytesL
    rw [List.getD_eq_getElem?_getD, List.getD_eq_getElem?_getD, List.getElem?_append_left (by simpa [t1A] using h)]
    simp
  · obtain ⟨d, rfl⟩ : ∃ d, j = 32 + d := ⟨j - 32, by omega⟩
    rw [show 32 + d = 32 * 1 + d by omega, output_block _ _ _ _ _ (by omega), blockA2 d (by omega)]
    unfold bytesL
    rw [List.getD_eq_getElem?_getD, List.getD_eq_getElem?_getD, List.getElem?_append_right (by simp [t1A])]
    simp [t1A]

theorem in1B : ∀ j, j < 32 → inner (padKey (bytesL k1) 16) (bytesL (sB ++ [1])) 11 j = bytesL i1B j := by decide +kernel
theorem out1B : ∀ j, j < 32 → digest (bytesL ((List.range 64).map (fun j => padKey (bytesL k1) 16 j ^^^ 92) ++ i1B)) 96 j = bytesL t1B j := by decide +kernel
theorem in2B : ∀ j, j < 32 → inner (padKey (bytesL k1) 16) (bytesL (t1B ++ sB ++ [2])) 43 j = bytesL i2B j := by decide +kernel
theorem out2B : ∀ j, j < 32 → digest (bytesL ((List.range 64).map (fun j => padKey (bytesL k1) 16 j ^^^ 92) ++ i2B)) 96 j = bytesL t2B j := by decide +kernel
theorem blockB1 (j : Nat) (hj : j < 32) : outBlock (padKey (bytesL k1) 16) (bytesL sB) 10 1 j = bytesL t1B j := by
  rw [← code_list k1 (sB ++ [1]) i1B t1B 16 11 in1B out1B j hj]
  refine congrFun (codeP_congr _ _ _ _ 11 (fun _ _ => rfl) ?_) j
  decide +kernel
theorem blockB2 (j : Nat) (hj : j < 32) : outBlock (padKey (bytesL k1) 16) (bytesL sB) 10 2 j = bytesL t2B j := by
  rw [← code_list k1 (t1B ++ sB ++ [2]) i2B t2B 16 43 in2B out2B j hj]
  refine congrFun (codeP_congr _ _ _ _ 43 (fun _ _ => rfl) (fun i hi => ?_)) j
  show cat (outBlock (padKey (bytesL k1) 16) (bytesL sB) 10 1) 32 (cat (bytesL sB) 10 (fun _ => BitVec.ofNat 8 2)) i = _
  by_cases h : i < 32
  · rw [cat_lt _ _ _ _ h, blockB1 i h]
    unfold bytesL
    rw [List.getD_eq_getElem?_getD, List.getD_eq_getElem?_getD, List.append_assoc, List.getElem?_append_left (by exact h)]
  · rw [cat_ge _ _ _ _ (by omega)]
    obtain ⟨d, rfl⟩ : ∃ d, i = 32 + d := ⟨i - 32, by omega⟩
    rw [Nat.add_sub_cancel_left]
    have : ∀ d, d < 11 → cat (bytesL sB) 10 (fun _ => BitVec.ofNat 8 2) d = bytesL (t1B ++ sB ++ [2]) (32 + d) := by decide +kernel
    exact this d (by omega)
theorem keysOfB (s : ByteArray) (hs : (pre ++ s).data.toList.map (fun b => BitVec.ofNat 8 b.toNat) = sB) (key : Nat → BitVec 8) (hk : ∀ j, j < 16 → key j = bytesL k1 j) (j : Nat) (hj : j < 48) : keysB key s j = bytesL (t1B ++ t2B) j := by
  have hsz : (pre ++ s).size = 10 := by
    have := congrArg List.length hs
    simpa [sB] using this
  have hp : padKey key 16 = padKey (bytesL k1) 16 := by
    funext i
    unfold padKey
    rw [if_neg (show ¬ 64 < 16 by omega), if_neg (show ¬ 64 < 16 by omega)]
    by_cases h : i < 16
    · rw [if_pos h, if_pos h, hk i h]
    · rw [if_neg h, if_neg h]
  unfold keysB
  rw [hsz, str_list _ _ hs, hp]
  by_cases h : j < 32
  · rw [show j = 32 * 0 + j by omega, output_block _ _ _ _ _ h, blockB1 j h]
    unfold bytesL
    rw [List.getD_eq_getElem?_getD, List.getD_eq_getElem?_getD, List.getElem?_append_left (by simpa [t1B] using h)]
    simp
  · obtain ⟨d, rfl⟩ : ∃ d, j = 32 + d := ⟨j - 32, by omega⟩
    rw [show 32 + d = 32 * 1 + d by omega, output_block _ _ _ _ _ (by omega), blockB2 d (by omega)]
    unfold bytesL
    rw [List.getD_eq_getElem?_getD, List.getD_eq_getElem?_getD, List.getElem?_append_right (by simp [t1B])]
    simp [t1B]

def srAt (n : Nat) : Blk := listB (srL.getD n [])
def seAt (n : Nat) : Blk := listB (seL.getD n [])
theorem sr_ok : ∀ n, n < 10 → ∀ i, i < 16 → nextKey (srAt n) (xpow 1 n) i = srAt (n + 1) i := by decide +kernel
theorem se_ok : ∀ n, n < 10 → ∀ i, i < 16 → addKey (if n + 1 < 10 then mixCols (subShift (seAt n)) else subShift (seAt n)) (srAt (n + 1)) i = seAt (n + 1) i := by decide +kernel
theorem sr_zero : ∀ i, i < 16 → bytesL (t1A ++ t2A) i = srAt 0 i := by decide +kernel
theorem sr_known : ∀ n, n ≤ 10 → Same16 (roundKey (bytesL (t1A ++ t2A)) n) (srAt n)
  | 0, _ => sr_zero
  | n + 1, h => fun i hi => by
    rw [← sr_ok n (by omega) i hi]
    exact nextKey_congr (sr_known n (by omega)) _ i hi
theorem se0_ok : ∀ i, i < 16 → addKey (bytesL ctr2) (srAt 0) i = seAt 0 i := by decide +kernel
theorem se_known : ∀ n, n ≤ 10 → Same16 (encTo (bytesL (t1A ++ t2A)) (bytesL ctr2) n) (seAt n)
  | 0, _ => fun i hi => by
    rw [← se0_ok i hi]
    exact addKey_congr (fun _ _ => rfl) sr_zero i hi
  | n + 1, h => fun i hi => by
    rw [← se_ok n (by omega) i hi]
    refine addKey_congr ?_ (sr_known (n + 1) h) i hi
    by_cases h10 : n + 1 < 10
    · rw [if_pos h10, if_pos h10]; exact mixCols_congr (subShift_congr (se_known n (by omega)))
    · rw [if_neg h10, if_neg h10]; exact subShift_congr (se_known n (by omega))
theorem next_two : ∀ i, i < 16 → nextB (bytesL ctr2) 0 i = bytesL ctr2 i := by decide +kernel
theorem flip_three (j : Nat) (hj : j < 3) : flipB (bytesL (t1A ++ t2A)) (bytesL ctr2) (bytesL xyzL) j = bytesL frontL (16 + j) := by
  unfold flipB stream
  rw [show j / 16 = 0 by omega, enc_congr (k' := bytesL (t1A ++ t2A)) (b' := bytesL ctr2) (fun _ _ => rfl) next_two (j % 16) (by omega), show j % 16 = j by omega]
  show _ ^^^ encTo _ _ 10 j = _
  rw [se_known 10 (Nat.le_refl _) j (by omega)]
  have : ∀ j, j < 3 → bytesL xyzL j ^^^ seAt 10 j = bytesL frontL (16 + j) := by decide +kernel
  exact this j hj
theorem front_three (j : Nat) (hj : j < 19) : frontB (bytesL (t1A ++ t2A)) (bytesL ctr2) (bytesL xyzL) j = bytesL frontL j := by
  unfold frontB
  by_cases h : j < 16
  · rw [cat_lt _ _ _ _ h]
    have : ∀ j, j < 16 → bytesL ctr2 j = bytesL frontL j := by decide +kernel
    exact this j h
  · rw [cat_ge _ _ _ _ (by omega), flip_three _ (by omega), show 16 + (j - 16) = j by omega]

theorem inCA : ∀ j, j < 32 → inner (padKey (bytesL ((t1A ++ t2A).drop 16)) 32) (bytesL frontL) 19 j = bytesL iCA j := by decide +kernel
theorem outCA : ∀ j, j < 32 → digest (bytesL ((List.range 64).map (fun j => padKey (bytesL ((t1A ++ t2A).drop 16)) 32 j ^^^ 92) ++ iCA)) 96 j = bytesL oCA j := by decide +kernel
theorem codeA (j : Nat) (hj : j < 32) : code (authB (bytesL (t1A ++ t2A))) 32 (bytesL frontL) 19 j = bytesL oCA j := by
  rw [← code_list _ _ _ _ 32 19 inCA outCA j hj]
  refine congrFun (code_congr _ _ _ _ 32 19 ?_ (fun _ _ => rfl)) j
  decide +kernel

theorem inCB : ∀ j, j < 32 → inner (padKey (bytesL ((t1B ++ t2B).drop 16)) 32) (bytesL frontL) 19 j = bytesL iCB j := by decide +kernel
theorem outCB : ∀ j, j < 32 → digest (bytesL ((List.range 64).map (fun j => padKey (bytesL ((t1B ++ t2B).drop 16)) 32 j ^^^ 92) ++ iCB)) 96 j = bytesL oCB j := by decide +kernel
theorem codeB (j : Nat) (hj : j < 32) : code (authB (bytesL (t1B ++ t2B))) 32 (bytesL frontL) 19 j = bytesL oCB j := by
  rw [← code_list _ _ _ _ 32 19 inCB outCB j hj]
  refine congrFun (code_congr _ _ _ _ 32 19 ?_ (fun _ _ => rfl)) j
  decide +kernel

/-- Sealed for a, it does not open for b. -/
theorem known_b (keyA keyB first e : Nat → BitVec 8) (a b : ByteArray) (ha : (pre ++ a).data.toList.map (fun b => BitVec.ofNat 8 b.toNat) = sA) (hb : (pre ++ b).data.toList.map (fun b => BitVec.ofNat 8 b.toNat) = sB)
    (hkA : ∀ j, j < 16 → keyA j = bytesL k1 j) (hkB : ∀ j, j < 16 → keyB j = bytesL k1 j) (hf : ∀ j, j < 16 → first j = bytesL ctr2 j) (he : ∀ j, j < 3 → e j = bytesL xyzL j) :
    okB (keysB keyB b) (formB (keysB keyA a) first e 3) 51 = false := by
  rw [ok_congr (by omega) (keysOfB b hb keyB hkB) (form_congr (keysOfA a ha keyA hkA) hf he)]
  unfold okB sameBytes
  rw [decide_eq_true rfl, Bool.true_and]
  refine sameTo_stop _ _ 0 ?_ 32 (by omega)
  rw [show 51 - 32 = 16 + 3 from rfl, form_code,
    congrFun (code_congr _ (authB (bytesL (t1B ++ t2B))) _ (bytesL frontL) 32 19 (fun _ _ => rfl) (fun j hj => (form_front _ _ _ 3 j hj).trans (front_three j hj))) 0, codeB 0 (by omega),
    congrFun (code_congr _ (authB (bytesL (t1A ++ t2A))) _ (bytesL frontL) 32 19 (fun _ _ => rfl) (fun j hj => front_three j hj)) 0, codeA 0 (by omega)]
  decide
end Go.Proofs.YtfjoflpidmjkbaaDoor.Seal
