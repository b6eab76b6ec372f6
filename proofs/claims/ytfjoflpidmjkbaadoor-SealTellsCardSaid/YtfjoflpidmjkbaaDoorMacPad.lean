/-
  HMAC and HKDF by SHA-256 as plain functions over bytes: what the document's chapter on mac says, and small facts. No program is named here.
  What mac.pad and mac.begin do: a key filled up; a Hash to which that was written, byte by byte xored.
  What mac.begin does: a Hash to which a filled key was written, byte by byte xored.
-/
import Derived.Test.YtfjoflpidmjkbaaDoorShaSum
import Derived.Test.YtfjoflpidmjkbaaDoorOwn
namespace Go.Proofs.YtfjoflpidmjkbaaDoor.Mac
open Go Go.Proofs.YtfjoflpidmjkbaaDoor.Aid Go.Proofs.YtfjoflpidmjkbaaDoor.Sha

/-- A key of m bytes, filled up to 64; of a longer one its digest. -/
def padKey (K : Nat → BitVec 8) (m : Nat) (j : Nat) : BitVec 8 := if 64 < m then (if j < 32 then digest K m j else 0) else if j < m then K j else 0
def xorBy (P : Nat → BitVec 8) (x : BitVec 8) (j : Nat) : BitVec 8 := P j ^^^ x
def inner (P D : Nat → BitVec 8) (n : Nat) : Nat → BitVec 8 := digest (cat (xorBy P 54) 64 D) (64 + n)
/-- The code, by a key that is filled up. -/
def codeP (P D : Nat → BitVec 8) (n : Nat) : Nat → BitVec 8 := digest (cat (xorBy P 92) 64 (inner P D n)) 96
/-- The code of the first n bytes of D, by a key of m bytes. -/
def code (K : Nat → BitVec 8) (m : Nat) (D : Nat → BitVec 8) (n : Nat) : Nat → BitVec 8 := codeP (padKey K m) D n
theorem cat_lt (e f : Nat → BitVec 8) (n j : Nat) (h : j < n) : cat e n f j = e j := by unfold cat; rw [if_pos h]
theorem cat_ge (e f : Nat → BitVec 8) (n j : Nat) (h : n ≤ j) : cat e n f j = f (j - n) := by unfold cat; rw [if_neg (by omega)]
theorem inner_congr (P P' D D' : Nat → BitVec 8) (n : Nat) (hP : ∀ j, j < 64 → P j = P' j) (hD : ∀ j, j < n → D j = D' j) : inner P D n = inner P' D' n := by
  unfold inner
  refine digest_congr _ _ _ (fun j hj => ?_)
  by_cases h : j < 64
  · rw [cat_lt _ _ _ _ h, cat_lt _ _ _ _ h]; unfold xorBy; rw [hP j h]
  · rw [cat_ge _ _ _ _ (by omega), cat_ge _ _ _ _ (by omega), hD _ (by omega)]
theorem codeP_congr (P P' D D' : Nat → BitVec 8) (n : Nat) (hP : ∀ j, j < 64 → P j = P' j) (hD : ∀ j, j < n → D j = D' j) : codeP P D n = codeP P' D' n := by
  unfold codeP
  rw [inner_congr P P' D D' n hP hD]
  refine digest_congr _ _ _ (fun j hj => ?_)
  by_cases h : j < 64
  · rw [cat_lt _ _ _ _ h, cat_lt _ _ _ _ h]; unfold xorBy; rw [hP j h]
  · rw [cat_ge _ _ _ _ (by omega), cat_ge _ _ _ _ (by omega)]
theorem padKey_padded (P : Nat → BitVec 8) (j : Nat) (h : j < 64) : padKey P 64 j = P j := by
  unfold padKey
  rw [if_neg (by omega), if_pos h]
theorem code_padded (P D : Nat → BitVec 8) (n : Nat) : code P 64 D n = codeP P D n := codeP_congr _ _ _ _ _ (padKey_padded P) (fun _ _ => rfl)
theorem code_congr (K K' D D' : Nat → BitVec 8) (m n : Nat) (hK : ∀ j, j < m → K j = K' j) (hD : ∀ j, j < n → D j = D' j) : code K m D n = code K' m D' n := by
  refine codeP_congr _ _ _ _ _ (fun j _ => ?_) hD
  unfold padKey
  rw [digest_congr K K' m hK]
  by_cases h : 64 < m
  · rw [if_pos h, if_pos h]
  · rw [if_neg h, if_neg h]
    by_cases hj : j < m
    · rw [if_pos hj, if_pos hj, hK j hj]
    · rw [if_neg hj, if_neg hj]
/-- A key with bytes 0 behind it, up to 64, is the same key. -/
theorem code_longer (K K' D : Nat → BitVec 8) (m m' n : Nat) (hm : m' = m ∨ (m ≤ m' ∧ m' ≤ 64)) (hK : ∀ j, j < m → K' j = K j) (h0 : ∀ j, m ≤ j → j < m' → K' j = 0) : code K' m' D n = code K m D n := by
  rcases hm with rfl | ⟨h1, h2⟩
  · exact code_congr _ _ _ _ _ _ hK (fun _ _ => rfl)
  · refine codeP_congr _ _ _ _ _ (fun j _ => ?_) (fun _ _ => rfl)
    unfold padKey
    rw [if_neg (show ¬ 64 < m' by omega), if_neg (show ¬ 64 < m by omega)]
    by_cases hj : j < m
    · rw [if_pos hj, if_pos (show j < m' by omega), hK j hj]
    · rw [if_neg hj]
      by_cases hj' : j < m'
      · rw [if_pos hj', h0 j (by omega) hj']
      · rw [if_neg hj']

/-- How long the block before block n is. -/
def prevLen (n : Nat) : Nat := if n = 0 then 0 else 32
/-- Block n (from 1 on) of the output for a filled key and a purpose of s bytes. -/
def outBlock (P S : Nat → BitVec 8) (s : Nat) : Nat → Nat → BitVec 8
  | 0 => fun _ => 0
  | n + 1 => codeP P (cat (outBlock P S s n) (prevLen n) (cat S s (fun _ => BitVec.ofNat 8 (n + 1)))) (prevLen n + (s + 1))
def output (P S : Nat → BitVec 8) (s : Nat) (j : Nat) : BitVec 8 := outBlock P S s (j / 32 + 1) (j % 32)
theorem output_block (P S : Nat → BitVec 8) (s k j : Nat) (h : j < 32) : output P S s (32 * k + j) = outBlock P S s (k + 1) j := by
  unfold output
  rw [show (32 * k + j) / 32 = k by omega, show (32 * k + j) % 32 = j by omega]
theorem xor8 (x y : BitVec 8) : bits .xor .u8 (x.toNat : Int) (y.toNat : Int) = ((x ^^^ y).toNat : Int) := by
  have h8 : ∀ z : BitVec 8, BitVec.ofInt 8 (z.toNat : Int) = z := fun z => by
    apply BitVec.eq_of_toNat_eq
    rw [BitVec.toNat_ofInt]
    have := z.isLt
    omega
  show IntKind.u8.wrap ((BitVec.ofInt 8 (x.toNat : Int) ^^^ BitVec.ofInt 8 (y.toNat : Int)).toNat : Int) = _
  rw [h8, h8, IntKind.wrap_u8']
  have := (x ^^^ y).isLt
  omega
theorem or8 (x y : BitVec 8) : bits .or .u8 (x.toNat : Int) (y.toNat : Int) = ((x ||| y).toNat : Int) := by
  have h8 : ∀ z : BitVec 8, BitVec.ofInt 8 (z.toNat : Int) = z := fun z => by
    apply BitVec.eq_of_toNat_eq
    rw [BitVec.toNat_ofInt]
    have := z.isLt
    omega
  show IntKind.u8.wrap ((BitVec.ofInt 8 (x.toNat : Int) ||| BitVec.ofInt 8 (y.toNat : Int)).toNat : Int) = _
  rw [h8, h8, IntKind.wrap_u8']
  have := (x ||| y).isLt
  omega
end Go.Proofs.YtfjoflpidmjkbaaDoor.Mac

namespace Go.Proofs.YtfjoflpidmjkbaaDoor.Mac
open Go Go.RowKit Go.Proofs.YtfjoflpidmjkbaaDoor.Aid Go.Proofs.YtfjoflpidmjkbaaDoor.Sha

theorem zeros64 (Z : Array Value) (hZ : Z = Array.replicate 64 (.int .u8 0)) (i : Nat) (hi : i < 64) : Z[i]? = some (Value.int .u8 0) := by
  subst hZ; simp [hi]
section
variable {w : World} {ops : Array Oper} {rest : List Oper} {op : Oper} {a : Act} {Q : Exit → Act → World → Prop}
/-- 'copy(x[:], src)': x an array of zeros, src any bytes that fit. -/
theorem copy_zeros (hgd : op.guard = none) (d s : Operand) (ho : op.op = .call { callee := .builtin .copy, args := #[d, s], argTypes := #[25, 25] })
    (g : Nat) (h : w.rowIs g 56 64 (fun _ => .int .u8 0)) (hd : a.eval d = .slice (some ⟨g, 0, none⟩) 64 64) (g' m : Nat) (e : Nat → BitVec 8) (v : Value) (hv : SliceOf w g' m e v) (hs : a.eval s = v) (hm : m ≤ 64)
    (hK : ∀ w', w'.rowIs g 56 64 (fun j => .int .u8 ((if j < m then e j else 0).toNat : Int)) → Only g w w' → wpList Tryd.prog ops Q rest (a.put op.dst (.int .i64 (m : Int))) w') : wpList Tryd.prog ops Q (op :: rest) a w := by
  obtain ⟨A, c, rfl, hc, hr⟩ := hv
  by_cases h0 : 0 < m
  · obtain ⟨sb, so, rfl, _, hcell⟩ := hr h0
    refine copy_row hgd d s _ _ ho 5 Tryd.underlying25 (by kernel_rfl) g 0 _ 64 _ h 64 64 hd (by omega) sb so m c hs (fun j => .int .u8 ((e j).toNat : Int)) hcell (fun _ _ => rfl) m (Nat.min_eq_left hm).symm ?_
    intro w' hr' ho'
    refine hK w' (hr'.congr (fun i hi => ?_)) ho'
    by_cases hi' : i < m
    · rw [if_pos (by omega), if_pos hi', Nat.sub_zero]
    · rw [if_neg (by omega), if_neg hi']; rfl
  · obtain rfl : m = 0 := by omega
    refine wpList_copy_nothing hgd d s _ _ ho 5 Tryd.underlying25 (by kernel_rfl) _ A 64 64 0 c hd hs (by rfl) ?_
    exact hK w (h.congr (fun i _ => by rw [if_neg (by omega)]; rfl)) ⟨rfl, rfl, rfl, rfl, fun _ _ => rfl⟩
end

set_option maxRecDepth 100000 in
set_option maxHeartbeats 1000000 in
theorem pad_any (K : Nat → BitVec 8) (m c g : Nat) (A : Option Addr) (w : World) (hk : Consts w) (hv : SliceOf w g m K (.slice A m c)) (hl : m ≤ 1000000) :
    Calls Tryd.prog 29 #[.slice A m c] w fun e w' => e = .returned (.agg (byteCells 64 (padKey K m))) ∧ Below w.heap.size w w' := by
  have hr2 : ∀ (Z : Array Value) o2, Z = Array.replicate 64 (.int .u8 0) → ((w.alloc (.cells Z 56)).alloc o2).rowIs w.heap.size 56 64 (fun _ => .int .u8 0) :=
    fun Z o2 hZ => (row_new w Z _ 64 _ (by rw [hZ]; simp) (zeros64 Z hZ)).alloc _
  have hr3 : ∀ (Z : Array Value) o2, Z = Array.replicate 64 (.int .u8 0) → ((w.alloc o2).alloc (.cells Z 56)).rowIs (w.heap.size + 1) 56 64 (fun _ => .int .u8 0) :=
    fun Z o2 hZ => by
      have := row_new (w.alloc o2) Z 56 64 _ (by rw [hZ]; simp) (zeros64 Z hZ)
      rw [show (w.alloc o2).heap.size = w.heap.size + 1 by simp] at this
      exact this
  have hb0 : ∀ o1 o2, Below w.heap.size w ((w.alloc o1).alloc o2) := fun o1 o2 => ((Below.refl _ _).alloc (by simp) _).alloc (by simp) _
  have hs0 : ∀ o1 o2, SliceOf ((w.alloc o1).alloc o2) (w.heap.size + 2) m K (.slice A m c) := fun o1 o2 => slice_any (g := g) (slice_below hv (hb0 o1 o2)) (by simp)
  by_cases h64 : 64 < m
  · have q0 : (64 : Int) < (m : Int) := by omega
    go_enter Tryd.func29, Tryd.ntmps29
    go_wp2_with fail
    have hp2 := hr2 _ (.cells (Array.replicate 64 (.int .u8 0)) 56) rfl
    have hp3 := hr3 _ (.cells (Array.replicate 64 (.int .u8 0)) 56) rfl
    have hb2 := hb0 (.cells (Array.replicate 64 (.int .u8 0)) 56) (.cells (Array.replicate 64 (.int .u8 0)) 56)
    have hs2 := hs0 (.cells (Array.replicate 64 (.int .u8 0)) 56) (.cells (Array.replicate 64 (.int .u8 0)) 56)
    change Calls Tryd.prog 41 _ ((w.alloc (.cells (Array.replicate 64 (.int .u8 0)) 56)).alloc (.cells (Array.replicate 64 (.int .u8 0)) 56)) _
    clear hb0 hs0 hr2 hr3
    generalize (w.alloc (.cells (Array.replicate 64 (.int .u8 0)) 56)).alloc (.cells (Array.replicate 64 (.int .u8 0)) 56) = w1 at *
    have hk1 := hk.below hb2 (Nat.le_refl _)
    refine (sum_any K m _ _ w1 hk1 hs2 (by omega)).mono ?_
    rintro e w2 ⟨rfl, hb3⟩
    have hq2 := hp2.of_block (hb3.block _ hp2.lt)
    have hq3 := hp3.of_block (hb3.block _ hp3.lt)
    have hb3' := hb2.trans (hb3.mono hb2.size)
    have hB2 := hb3'.size
    have hB3 : w.heap.size + 1 < w2.heap.size := hq3.lt
    clear hb3 hb2 hp2 hp3 hs2 hk1 hv
    go_wp2_with (first
      | (refine store_whole (by rfl) 43 (.tmp 4) (.tmp 9) (by rfl) w2.heap.size _ 32 (fun _ => .int .u8 0) (fun j => .int .u8 ((digest K m j).toNat : Int)) (by exact row_new w2 _ _ 32 _ (by rfl) (zeros32 _ (by rfl))) (by rfl) _ (by rfl) (by kernel_rfl) (size_cellsOf _ _) (cellsOf_at _ _) (fun _ _ => rfl) ?_
         intro w4 hr4 ho4
         have hq4 := ho4.row (hq3.alloc _) (Nat.ne_of_lt hB3)
         have hq4' := ho4.row (hq2.alloc _) (by omega)
         have hb4 := ho4.below (hb3'.alloc hB2 _) hB2
         have hsl4 : SliceOf w4 w4.heap.size 32 (digest K m) (.slice (some ⟨w2.heap.size, 0, none⟩) 32 32) := ⟨_, _, rfl, by omega, fun _ => ⟨w2.heap.size, 0, rfl, by have := hr4.lt; omega, fun j hj => by rw [Nat.zero_add, hr4.cell hj]⟩⟩
         clear ho4 hr4 hq3 hq2 hb3')
      | (refine copy_zeros (by rfl) (.tmp 11) (.tmp 12) (by rfl) (w.heap.size + 1) hq4 (by rfl) w4.heap.size 32 (digest K m) _ hsl4 (by rfl) (by omega) ?_
         intro w5 hr5 ho5
         have hq5 := ho5.row hq4' (by omega)
         have hb5 := ho5.below hb4 (by omega)
         clear ho5 hq4 hq4' hb4 hsl4)
      | (refine load_whole (by rfl) 56 (.tmp 3) (by rfl) _ _ _ _ hr5 (by rfl) _ Tryd.underlying56 rfl (by kernel_rfl) ?_)
      | (refine store_whole (by rfl) 56 (.tmp 2) (.tmp 14) (by rfl) w.heap.size _ 64 _ _ hq5 (by rfl) _ (by rfl) (by kernel_rfl) (size_cellsOf _ _) (cellsOf_at _ _) (fun _ _ => rfl) ?_
         intro w6 hr6 ho6))
    refine bodyPost_ret (results_row rfl _ w.heap.size _ _ _ _ (by rfl) hr6 Tryd.underlying56 rfl (by kernel_rfl)) rfl ⟨?_, ho6.below hb5 (Nat.le_refl _)⟩
    refine congrArg (fun x => Ending.returned (.agg x)) (cellsOf_congr (fun i hi => ?_))
    unfold padKey
    rw [if_pos h64]
  · have q0 : ¬ (64 : Int) < (m : Int) := by omega
    have hc0 : ∀ (Z Z' : Array Value), Z = Array.replicate 64 (.int .u8 0) → Z' = Array.replicate 64 (.int .u8 0) → ∃ w1, w1 = (w.alloc (.cells Z 56)).alloc (.cells Z' 56) ∧ w1.rowIs w.heap.size 56 64 (fun _ => .int .u8 0) ∧ w1.rowIs (w.heap.size + 1) 56 64 (fun _ => .int .u8 0) ∧ Below w.heap.size w w1 ∧ SliceOf w1 (w.heap.size + 2) m K (.slice A m c) :=
      fun Z Z' h1 h2 => ⟨_, rfl, hr2 Z _ h1, hr3 Z' _ h2, hb0 _ _, hs0 _ _⟩
    have hm64 : m ≤ 64 := by omega
    clear hb0 hs0 hr2 hr3
    go_enter Tryd.func29, Tryd.ntmps29
    go_wp2_with (first
      | (refine copy_zeros (by rfl) (.tmp 11) (.tmp 12) (by rfl) (w.heap.size + 1) (by obtain ⟨w1, rfl, _, h, _⟩ := hc0 _ _ rfl rfl; exact h) (by rfl) (w.heap.size + 2) m K _ (by obtain ⟨w1, rfl, _, _, _, h⟩ := hc0 _ _ rfl rfl; exact h) (by rfl) hm64 ?_
         intro w5 hr5 ho5
         have hq5 := ho5.row (by obtain ⟨w1, rfl, h, _⟩ := hc0 _ _ rfl rfl; exact h) (show w.heap.size ≠ w.heap.size + 1 by omega)
         have hb5 := ho5.below (by obtain ⟨w1, rfl, _, _, h, _⟩ := hc0 _ _ rfl rfl; exact h) (show w.heap.size ≤ w.heap.size + 1 by omega)
         clear ho5 hc0)
      | (refine load_whole (by rfl) 56 (.tmp 3) (by rfl) _ _ _ _ hr5 (by rfl) _ Tryd.underlying56 rfl (by kernel_rfl) ?_)
      | (refine store_whole (by rfl) 56 (.tmp 2) (.tmp 14) (by rfl) w.heap.size _ 64 _ _ hq5 (by rfl) _ (by rfl) (by kernel_rfl) (size_cellsOf _ _) (cellsOf_at _ _) (fun _ _ => rfl) ?_
         intro w6 hr6 ho6))
    refine bodyPost_ret (results_row rfl _ w.heap.size _ _ _ _ (by rfl) hr6 Tryd.underlying56 rfl (by kernel_rfl)) rfl ⟨?_, ho6.below hb5 (Nat.le_refl _)⟩
    refine congrArg (fun x => Ending.returned (.agg x)) (cellsOf_congr (fun i hi => ?_))
    unfold padKey
    rw [if_neg h64]
end Go.Proofs.YtfjoflpidmjkbaaDoor.Mac

namespace Go.Proofs.YtfjoflpidmjkbaaDoor.Mac
open Go Go.RowKit Go.Proofs.YtfjoflpidmjkbaaDoor.Aid Go.Proofs.YtfjoflpidmjkbaaDoor.Sha

def xorTo (P : Nat → BitVec 8) (x : BitVec 8) (k j : Nat) : BitVec 8 := if j < k then P j ^^^ x else P j
theorem xorTo_next (P : Nat → BitVec 8) (x : BitVec 8) (k : Nat) {w : World} {g : Nat} (h : w.rowIs g 56 64 (fun j => .int .u8 ((xorTo P x k j).toNat : Int))) (v : Int) (hv : v = ((P k ^^^ x).toNat : Int)) :
    (w.setCell ⟨g, k, none⟩ (.int .u8 v)).rowIs g 56 64 (fun j => .int .u8 ((xorTo P x (k + 1) j).toNat : Int)) := by
  refine (h.set k (.int .u8 v)).congr (fun i hi => ?_)
  unfold xorTo
  by_cases h1 : i = k
  · subst h1
    rw [if_pos rfl, hv, if_pos (by omega)]
  · rw [if_neg h1]
    by_cases h2 : i < k
    · rw [if_pos h2, if_pos (by omega)]
    · rw [if_neg h2, if_neg (by omega)]

set_option maxRecDepth 100000 in
set_option maxHeartbeats 1000000 in
theorem begin_any (P : Nat → BitVec 8) (x : BitVec 8) (C : Array Value) (hC : C.size = 64) (hCi : ∀ i, i < 64 → C[i]? = some (.int .u8 ((P i).toNat : Int))) (D : Nat → BitVec 8) (hD : ∀ j, j < 64 → D j = P j ^^^ x) (w : World) (hk : Consts w) :
    Calls Tryd.prog 32 #[.agg C, .int .u8 (x.toNat : Int)] w fun e w' => ∃ b, e = .returned (.pointer (some ⟨b, 0, none⟩)) ∧ w.heap.size ≤ b ∧ b < w'.heap.size ∧ HashIs w' b D 64 ∧ Below w.heap.size w w' := by
  have hr0 : (w.alloc (.cells C 56)).rowIs w.heap.size 56 64 (fun j => .int .u8 ((xorTo P x 0 j).toNat : Int)) := row_new w C _ 64 _ hC (fun i hi => by rw [hCi i hi]; rfl)
  have hb0 : Below w.heap.size w (w.alloc (.cells C 56)) := (Below.refl _ _).alloc (by simp) _
  have HD := Lib.hid hD
  clear hD hCi
  go_enter Tryd.func32, Tryd.ntmps32
  go_wp2
  go_loopw [5, 7] (fun _ i wr => ∃ k : Nat, k ≤ 64 ∧ i = .int .i64 k ∧ Hid (wr.rowIs w.heap.size 56 64 (fun j => .int .u8 ((xorTo P x k j).toNat : Int))) ∧ Below w.heap.size w wr) (fun _ i _ => 64 - (intOf i).toNat)
  case atStart => exact ⟨0, by omega, rfl, hr0, hb0⟩
  case round =>
    clear hr0 hb0
    obtain ⟨k, hk', rfl, hr, hb⟩ := hrel
    by_cases hlt : k < 64
    · have c0 : wr.cell? ⟨w.heap.size, k, none⟩ = some (.int .u8 ((P k).toNat : Int)) := by
        rw [hr.out.cell hlt]
        unfold xorTo
        rw [if_neg (by omega)]
      have f0 := hr.out.frozen k
      have q0 : (0 : Int) ≤ (k : Int) := by omega
      have q1 : (k : Int) < 64 := by omega
      go_wp2
      go_roundw
      case rel => exact ⟨k + 1, by omega, by go_num, xorTo_next P x k hr.out _ (xor8 _ _), hb.setCell (by simp) _⟩
      case measure => simp [intOf]; omega
    · obtain rfl : k = 64 := by omega
      have hk1 := hk.below hb (Nat.le_refl _)
      go_wp2_with fail
      refine (new_any wr).mono ?_
      rintro e w2 ⟨rfl, rfl⟩
      have hh2 := hash_born wr D
      have hb2 : Below wr.heap.size wr (wr.alloc (.cells zeroHash 81)) := (Below.refl _ _).alloc (by simp) _
      have hs2 : SliceOf wr wr.heap.size 64 (fun i => D (0 + i)) (.slice (some ⟨w.heap.size, 0, none⟩) 64 64) := ⟨_, _, rfl, by omega, fun _ => ⟨w.heap.size, 0, rfl, by have := hr.out.lt; omega, fun j hj => by
        show _ = some (Value.int .u8 ((D (0 + j)).toNat : Int))
        rw [Nat.zero_add, hr.out.cell hj, HD.out j hj]
        unfold xorTo
        rw [if_pos hj]⟩⟩
      have hs3 := slice_below hs2 hb2
      clear hs2
      generalize hw6 : wr.alloc (.cells zeroHash 81) = w2 at *
      clear hw6
      have hk2 := hk1.below hb2 (Nat.le_refl _)
      go_wp2_with fail
      refine (write_any D wr.heap.size 0 64 _ w2 hk2 hh2 hs3 (by omega) (by have := hk1.lt; omega)).mono ?_
      rintro e w3 ⟨rfl, hh3, hg3⟩
      rw [Nat.zero_add] at hh3
      have hb3 : Below w.heap.size w w3 := hb.trans (hb2.mono hb.size) |>.trans ⟨hg3.os, hg3.tape, hg3.output, hg3.size, fun b hbb => hg3.block b (by have := hb.size; have := hb2.size; omega) (by have := hb.size; have := hr.out.lt; simp; omega)⟩
      have hsz := hb.size
      have hlt3 := hh3.lt
      clear hs3 hk2 hh2 hg3 hb2 hk1 hb hr
      go_wp2
      go_ret
      exact ⟨_, rfl, hsz, hlt3, hh3, hb3⟩
end Go.Proofs.YtfjoflpidmjkbaaDoor.Mac
