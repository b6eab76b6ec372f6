/-
  What bartizanref03.Times does: the document's own product.
  What bartizanref03.Boxes does: the published S-box.
  What bartizanref03.xored does: two blocks, byte by byte.
  A piece of a row behind a guard; a block and itself compared.
-/
import Derived.Test.YtfjoflpidmjkbaaDoorAesPlain
import Derived.Test.YtfjoflpidmjkbaaDoorProg
import Derived.Test.YtfjoflpidmjkbaaDoorFirst
import Derived.Deep.WholeRow
import Derived.Laws.Tables
namespace Go.Proofs.YtfjoflpidmjkbaaDoor.Aes
open Go Go.RowKit Go.Proofs.YtfjoflpidmjkbaaDoor.Aid

theorem ival {k : IntKind} {x y : Int} (h : x = y) : Value.int k x = Value.int k y := by rw [h]
theorem xor64 (a b : Nat) (ha : a < 65536) (hb : b < 65536) : bits .xor .i64 (a : Int) (b : Int) = ((a ^^^ b : Nat) : Int) := by
  have h1 : BitVec.ofInt 64 (a : Int) = BitVec.ofNat 64 a := by simp
  have h2 : BitVec.ofInt 64 (b : Int) = BitVec.ofNat 64 b := by simp
  show IntKind.i64.wrap ((BitVec.ofInt 64 (a : Int) ^^^ BitVec.ofInt 64 (b : Int)).toNat : Int) = _
  rw [h1, h2, BitVec.toNat_xor, BitVec.toNat_ofNat, BitVec.toNat_ofNat, Nat.mod_eq_of_lt (by omega), Nat.mod_eq_of_lt (by omega)]
  have hx : a ^^^ b < 65536 := Nat.xor_lt_two_pow (n := 16) ha hb
  exact IntWalk.i64_in _ (by omega)
theorem xtime_nat : ∀ x : BitVec 8, (if 255 < 2 * x.toNat then 2 * x.toNat ^^^ 283 else 2 * x.toNat) = (xtime x).toNat := by decide +kernel
theorem bit_nat (b : BitVec 8) (k : Nat) : b.getLsbD k = decide (b.toNat / 2 ^ k % 2 = 1) := by
  rw [BitVec.getLsbD, Nat.testBit_eq_decide_div_mod_eq]
theorem timesTo_end (a b : BitVec 8) (k : Nat) (hk : k ≤ 8) (h : b.toNat / 2 ^ k = 0) : timesTo a b k = times a b := by
  have hz : ∀ j, k ≤ j → b.getLsbD j = false := fun j hj => by
    rw [bit_nat]
    have : b.toNat / 2 ^ j = 0 := by
      rw [Nat.div_eq_zero_iff] at h ⊢
      rcases h with h | h
      · exact absurd h (by have := Nat.pow_pos (n := k) (show 0 < 2 by omega); omega)
      · exact .inr (Nat.lt_of_lt_of_le h (Nat.pow_le_pow_right (by omega) hj))
    rw [this]
    rfl
  have hs : ∀ d, timesTo a b (k + d) = timesTo a b k := by
    intro d
    induction d with
    | zero => rfl
    | succ d ih =>
      show timesTo a b (k + d) ^^^ (if b.getLsbD (k + d) then _ else 0) = _
      rw [ih, hz (k + d) (by omega)]
      simp
  have := hs (8 - k)
  rw [show k + (8 - k) = 8 by omega] at this
  exact this.symm

/-- One bit more. -/
theorem times_next {a b : BitVec 8} {k N X Y : Nat} (H : N = (timesTo a b k).toNat ∧ X = (xpow a k).toNat ∧ Y = b.toNat / 2 ^ k) :
    (if Y % 2 = 1 then N ^^^ X else N) = (timesTo a b (k + 1)).toNat ∧ (if 255 < 2 * X then 2 * X ^^^ 283 else 2 * X) = (xpow a (k + 1)).toNat ∧ Y / 2 = b.toNat / 2 ^ (k + 1) := by
  obtain ⟨rfl, rfl, rfl⟩ := H
  refine ⟨?_, xtime_nat _, by rw [Nat.pow_succ, Nat.div_div_eq_div_mul]⟩
  show _ = (timesTo a b k ^^^ (if b.getLsbD k then xpow a k else 0)).toNat
  rw [bit_nat b k]
  by_cases h : b.toNat / 2 ^ k % 2 = 1
  · rw [if_pos h]; simp [h]
  · rw [if_neg h]; simp [h]
theorem times_left {b : BitVec 8} {k Y : Nat} (hY : Y = b.toNat / 2 ^ k) (h : 0 < Y) : k < 8 := by
  rcases Nat.lt_or_ge k 8 with h8 | h8
  · exact h8
  · have h1 : (2 : Nat) ^ 8 ≤ 2 ^ k := Nat.pow_le_pow_right (by omega) h8
    have h2 := b.isLt
    rw [hY, Nat.div_eq_of_lt (by omega)] at h
    omega

set_option maxRecDepth 100000 in
set_option maxHeartbeats 1000000 in
theorem refTimes_any (a b : BitVec 8) (w : World) :
    Calls Tryd.prog 38 #[.int .u8 (a.toNat : Int), .int .u8 (b.toNat : Int)] w fun x w' => x = .returned (.int .u8 ((times a b).toNat : Int)) ∧ w' = w := by
  go_enter Tryd.func38, Tryd.ntmps38
  go_wp2
  go_loopw [5, 6, 7] (fun n x y wr => ∃ N X Y k : Nat, k ≤ 8 ∧ n = .int .i64 (N : Int) ∧ x = .int .i64 (X : Int) ∧ y = .int .i64 (Y : Int) ∧ Hid (N = (timesTo a b k).toNat ∧ X = (xpow a k).toNat ∧ Y = b.toNat / 2 ^ k) ∧ wr = w) (fun _ _ y _ => (intOf y).toNat)
  case atStart => exact ⟨0, a.toNat, b.toNat, 0, by omega, rfl, rfl, rfl, ⟨rfl, rfl, by simp⟩, rfl⟩
  case round =>
    obtain ⟨N, X, Y, k, hk, rfl, rfl, rfl, H, rfl⟩ := hrel
    have hN : N < 256 := by rw [H.out.1]; exact (timesTo a b k).isLt
    have hX : X < 256 := by rw [H.out.2.1]; exact (xpow a k).isLt
    have hY : Y < 256 := by rw [H.out.2.2]; exact Nat.lt_of_le_of_lt (Nat.div_le_self _ _) b.isLt
    by_cases hpos : 0 < Y
    · have hk8 := times_left H.out.2.2 hpos
      have HN := times_next H.out
      have q0 : (0 : Int) < (Y : Int) := by omega
      by_cases hbit : Y % 2 = 1
      · have e1 : ((Y : Int) % 2 == 1) = true := by simp; omega
        rw [if_pos hbit] at HN
        by_cases hbig : 255 < 2 * X
        · have e2 : (255 : Int) < 2 * (X : Int) := by omega
          rw [if_pos hbig] at HN
          have hx1 := xor64 N X (by omega) (by omega)
          have hl1 : N ^^^ X < 65536 := Nat.xor_lt_two_pow (n := 16) (by omega) (by omega)
          obtain ⟨N', hN'⟩ : ∃ N', N' = N ^^^ X := ⟨_, rfl⟩
          rw [← hN'] at hx1 hl1 HN
          have hx2 : bits .xor .i64 (2 * (X : Int)) 283 = ((2 * X ^^^ 283 : Nat) : Int) := xor64 (2 * X) 283 (by omega) (by omega)
          have hl2 : 2 * X ^^^ 283 < 65536 := Nat.xor_lt_two_pow (n := 16) (by omega) (by omega)
          obtain ⟨X', hX'⟩ : ∃ X', X' = 2 * X ^^^ 283 := ⟨_, rfl⟩
          rw [← hX'] at hx2 hl2 HN
          have HN' := Lib.hid HN
          clear HN hN' hX'
          go_wp2
          exact ⟨⟨N', X', Y / 2, k + 1, by omega, rfl, rfl, ival (by omega), HN'.out, trivial⟩, by simp [intOf]; omega⟩
        · have e2 : ¬ (255 : Int) < 2 * (X : Int) := by omega
          rw [if_neg hbig] at HN
          have hx1 := xor64 N X (by omega) (by omega)
          have hl1 : N ^^^ X < 65536 := Nat.xor_lt_two_pow (n := 16) (by omega) (by omega)
          obtain ⟨N', hN'⟩ : ∃ N', N' = N ^^^ X := ⟨_, rfl⟩
          rw [← hN'] at hx1 hl1 HN
          have HN' := Lib.hid HN
          clear HN hN'
          go_wp2
          exact ⟨⟨N', 2 * X, Y / 2, k + 1, by omega, rfl, ival (by omega), ival (by omega), HN'.out, trivial⟩, by simp [intOf]; omega⟩
      · have e1 : ((Y : Int) % 2 == 1) = false := by simp; omega
        rw [if_neg hbit] at HN
        by_cases hbig : 255 < 2 * X
        · have e2 : (255 : Int) < 2 * (X : Int) := by omega
          rw [if_pos hbig] at HN
          have hx2 : bits .xor .i64 (2 * (X : Int)) 283 = ((2 * X ^^^ 283 : Nat) : Int) := xor64 (2 * X) 283 (by omega) (by omega)
          have hl2 : 2 * X ^^^ 283 < 65536 := Nat.xor_lt_two_pow (n := 16) (by omega) (by omega)
          obtain ⟨X', hX'⟩ : ∃ X', X' = 2 * X ^^^ 283 := ⟨_, rfl⟩
          rw [← hX'] at hx2 hl2 HN
          have HN' := Lib.hid HN
          clear HN hX'
          go_wp2
          exact ⟨⟨N, X', Y / 2, k + 1, by omega, rfl, rfl, ival (by omega), HN'.out, trivial⟩, by simp [intOf]; omega⟩
        · have e2 : ¬ (255 : Int) < 2 * (X : Int) := by omega
          rw [if_neg hbig] at HN
          have HN' := Lib.hid HN
          clear HN
          go_wp2
          exact ⟨⟨N, 2 * X, Y / 2, k + 1, by omega, rfl, ival (by omega), ival (by omega), HN'.out, trivial⟩, by simp [intOf]; omega⟩
    · have hY0 : Y = 0 := by omega
      have q0 : ¬ (0 : Int) < (Y : Int) := by omega
      have he := timesTo_end a b k hk (by rw [← H.out.2.2]; exact hY0)
      have HN : Hid (N = (times a b).toNat) := by rw [← he]; exact H.out.1
      clear he
      go_wp2
      go_ret
      exact ⟨by rw [← HN.out]; rfl, rfl⟩

end Go.Proofs.YtfjoflpidmjkbaaDoor.Aes

namespace Go.Proofs.YtfjoflpidmjkbaaDoor.Aes
open Go Go.RowKit Go.Proofs.YtfjoflpidmjkbaaDoor.Aid

def byteRow (n : Nat) (f : Nat → BitVec 8) : Array Value := cellsOf n fun i => .int .u8 ((f i).toNat : Int)
def boxAt (i : Nat) : BitVec 8 := boxL.getD i 0
theorem boxes_zero (t : TypeId) (ht : t = 64) : (Tryd.prog.info? t).map (fun i => (i.zero, i.size)) = some (some (.agg (cellsOf 256 fun _ => .int .u8 0)), 256) := by subst ht; kernel_rfl

section
variable {P : Program} {w : World} {ops : Array Oper} {rest : List Oper} {op : Oper} {a : Act} {Q : Exit → Act → World → Prop}
/-- A literal array, by the cells that it has. -/
theorem build_named (hg : op.guard = none) (t : TypeId) (parts : Array (Nat × Operand)) (ho : op.op = .build t parts) (cells : Array Value)
    (hc : P.built t (parts.map fun (i, x) => (i, a.eval x)).toList = some cells) (h : wpList P ops Q rest (a.put op.dst (.agg cells)) w) : wpList P ops Q (op :: rest) a w :=
  wpList_build hg t parts ho (by rw [hc]; rfl) (by rw [hc]; exact h)
end

set_option maxRecDepth 100000 in
set_option maxHeartbeats 4000000 in
theorem refBoxes_any (w : World) :
    Calls Tryd.prog 35 #[] w fun x w' => x = .returned (.agg (byteRow 256 boxAt)) ∧ Below w.heap.size w w' := by
  obtain ⟨hz1, _⟩ := zero_of_info (boxes_zero _ rfl)
  go_enter Tryd.func35, Tryd.ntmps35
  go_wp2_with (first
    | (refine build_named (by rfl) 64 _ (by rfl) (byteRow 256 boxAt) (by kernel_rfl) ?_)
    | (refine store_whole (by rfl) 64 (.tmp 0) (.tmp 1) (by rfl) w.heap.size _ 256 (fun _ => .int .u8 0) (fun j => .int .u8 ((boxAt j).toNat : Int)) (by exact row_new w _ _ 256 _ (size_cellsOf _ _) (cellsOf_at _ _)) (by rfl) _ (by rfl) (by kernel_rfl) (size_cellsOf _ _) (cellsOf_at _ _) (fun _ _ => rfl) ?_
       intro w2 hr2 ho2))
  exact bodyPost_ret (results_row rfl _ w.heap.size _ _ _ _ (by rfl) hr2 Tryd.underlying64 rfl (by kernel_rfl)) rfl ⟨rfl, ho2.below ((Below.refl _ _).alloc (Nat.le_refl _) _) (Nat.le_refl _)⟩
end Go.Proofs.YtfjoflpidmjkbaaDoor.Aes

namespace Go.Proofs.YtfjoflpidmjkbaaDoor.Aes
open Go Go.RowKit Go.Proofs.YtfjoflpidmjkbaaDoor.Aid

/-- Block b holds these n bytes, as an array of type t. -/
def RowB (w : World) (b t n : Nat) (f : Nat → BitVec 8) : Prop := w.rowIs b t n (fun j => .int .u8 ((f j).toNat : Int))
theorem zeros16 (Z : Array Value) (hZ : Z = Array.replicate 16 (.int .u8 0)) (i : Nat) (hi : i < 16) : Z[i]? = some (Value.int .u8 0) := by
  subst hZ; simp [hi]
theorem xor8 (x y : BitVec 8) : bits .xor .u8 (x.toNat : Int) (y.toNat : Int) = ((x ^^^ y).toNat : Int) := by
  have h8 : ∀ z : BitVec 8, BitVec.ofInt 8 (z.toNat : Int) = z := fun z => by
    apply BitVec.eq_of_toNat_eq
    rw [BitVec.toNat_ofInt]
    have := z.isLt
    omega
  show IntKind.u8.wrap ((BitVec.ofInt 8 (x.toNat : Int) ^^^ BitVec.ofInt 8 (y.toNat : Int)).toNat : Int) = _
  rw [h8, h8, IntKind.wrap_u8']
  have := (x ^^^ y).isLt
  omega
def setTo (f g : Nat → BitVec 8) (k j : Nat) : BitVec 8 := if j < k then g j else f j
/-- One byte of a row is set. -/
theorem setTo_next {w : World} {b t n : Nat} {f g : Nat → BitVec 8} {k : Nat} (h : RowB w b t n (setTo f g k)) (v : Int) (hv : v = ((g k).toNat : Int)) : RowB (w.setCell ⟨b, k, none⟩ (.int .u8 v)) b t n (setTo f g (k + 1)) := by
  refine World.rowIs.congr (World.rowIs.set h k (.int .u8 v)) (fun i hi => ?_)
  unfold setTo
  by_cases h1 : i = k
  · subst h1
    rw [if_pos rfl, hv, if_pos (by omega)]
  · rw [if_neg h1]
    by_cases h2 : i < k
    · rw [if_pos h2, if_pos (by omega)]
    · rw [if_neg h2, if_neg (by omega)]

set_option maxRecDepth 100000 in
set_option maxHeartbeats 1000000 in
theorem refXored_any (x y : Nat → BitVec 8) (X Y : Array Value) (hX : X.size = 16) (hXi : ∀ i, i < 16 → X[i]? = some (.int .u8 ((x i).toNat : Int))) (hY : Y.size = 16) (hYi : ∀ i, i < 16 → Y[i]? = some (.int .u8 ((y i).toNat : Int))) (w : World) :
    Calls Tryd.prog 37 #[.agg X, .agg Y] w fun r w' => r = .returned (.agg (byteRow 16 (addKey x y))) ∧ Below w.heap.size w w' := by
  have hr : ∀ (Z : Array Value), Z = Array.replicate 16 (.int .u8 0) → ∃ W, W = ((w.alloc (.cells X 22)).alloc (.cells Y 22)).alloc (.cells Z 22) ∧ RowB W w.heap.size 22 16 (setTo x (addKey x y) 0) ∧ RowB W (w.heap.size + 1) 22 16 y ∧ W.rowIs (w.heap.size + 2) 22 16 (fun _ => .int .u8 0) ∧ Below w.heap.size w W := fun Z hZ => by
    have s1 : (w.alloc (.cells X 22)).heap.size = w.heap.size + 1 := by simp
    have s2 : ((w.alloc (.cells X 22)).alloc (.cells Y 22)).heap.size = w.heap.size + 2 := by simp
    have r1 := ((row_new w X 22 16 (fun j => .int .u8 ((setTo x (addKey x y) 0 j).toNat : Int)) hX (fun i hi => by rw [hXi i hi]; rfl)).alloc (.cells Y 22)).alloc (.cells Z 22)
    have r2 := (row_new (w.alloc (.cells X 22)) Y 22 16 (fun j => .int .u8 ((y j).toNat : Int)) hY hYi).alloc (.cells Z 22)
    have r3 := row_new ((w.alloc (.cells X 22)).alloc (.cells Y 22)) Z 22 16 _ (by rw [hZ]; simp) (zeros16 Z hZ)
    rw [s1] at r2
    rw [s2] at r3
    exact ⟨_, rfl, r1, r2, r3, (((Below.refl _ _).alloc (Nat.le_refl _) _).alloc (by simp) _).alloc (by rw [s2]; omega) _⟩
  clear hXi hYi
  go_enter Tryd.func37, Tryd.ntmps37
  go_wp2
  obtain ⟨W, hW, h0, h1, h2, hb⟩ := hr _ rfl
  change Code.wp _ _ _ _ (((w.alloc (.cells X 22)).alloc (.cells Y 22)).alloc (.cells (Array.replicate 16 (.int .u8 0)) 22))
  rw [← hW]
  clear hW hr
  go_loopw [5] (fun i wr => ∃ k : Nat, k ≤ 16 ∧ i = .int .i64 (k : Int) ∧ Hid (RowB wr w.heap.size 22 16 (setTo x (addKey x y) k)) ∧ Hid (RowB wr (w.heap.size + 1) 22 16 y) ∧ Hid (wr.rowIs (w.heap.size + 2) 22 16 (fun _ => .int .u8 0)) ∧ Below w.heap.size w wr) (fun i _ => 16 - (intOf i).toNat)
  case atStart => exact ⟨0, by omega, rfl, h0, h1, h2, hb⟩
  case round =>
    clear h0 h1 h2 hb
    obtain ⟨k, hk, rfl, h0, h1, h2, hb⟩ := hrel
    by_cases hlt : k < 16
    · have c0 : wr.cell? ⟨w.heap.size, k, none⟩ = some (.int .u8 ((x k).toNat : Int)) := by
        rw [World.rowIs.cell h0.out hlt]
        unfold setTo
        rw [if_neg (by omega)]
      have c1 : wr.cell? ⟨w.heap.size + 1, k, none⟩ = some (.int .u8 ((y k).toNat : Int)) := World.rowIs.cell h1.out hlt
      have f0 : wr.frozen? ⟨w.heap.size, k, none⟩ = false := World.rowIs.frozen h0.out k
      have q0 : (0 : Int) ≤ (k : Int) := by omega
      have q1 : (k : Int) < 16 := by omega
      go_wp2
      refine region_tail 9 (by kernel_rfl) (by kernel_rfl) ?_
      simp only [List.take_succ_cons, List.take_zero, List.drop_succ_cons, List.drop_zero]
      repeat still_step
      refine wpStill_nil ?_
      go_wp2
      exact ⟨⟨k + 1, by omega, ival (by omega), setTo_next h0.out _ (xor8 _ _), World.rowIs.setOther (a := ⟨w.heap.size, k, none⟩) h1.out (by simp) _, World.rowIs.setOther (a := ⟨w.heap.size, k, none⟩) h2.out (by simp) _, (hb.setCell (p := ⟨w.heap.size, k, none⟩) (by simp) _).drew⟩, by simp [intOf]; omega⟩
    · have q1 : ¬ (k : Int) < 16 := by omega
      have hr : wr.rowIs w.heap.size 22 16 (fun j => .int .u8 ((addKey x y j).toNat : Int)) := World.rowIs.congr h0.out (fun j hj => by unfold setTo; rw [if_pos (by omega)])
      have hz := h2.out
      go_wp2_with (first
        | (refine load_whole (by rfl) 22 (.tmp 2) (by rfl) _ _ _ _ hr (by rfl) _ Tryd.underlying22 rfl (by kernel_rfl) ?_)
        | (refine store_whole (by rfl) 22 (.tmp 4) (.tmp 19) (by rfl) (w.heap.size + 2) _ 16 _ _ hz (by rfl) _ (by rfl) (by kernel_rfl) (size_cellsOf _ _) (cellsOf_at _ _) (fun _ _ => rfl) ?_
           intro w6 hr6 ho6))
      exact bodyPost_ret (results_row rfl _ (w.heap.size + 2) _ _ _ _ (by rfl) hr6 Tryd.underlying22 rfl (by kernel_rfl)) rfl ⟨rfl, ho6.below hb (by omega)⟩
end Go.Proofs.YtfjoflpidmjkbaaDoor.Aes

namespace Go.Proofs.YtfjoflpidmjkbaaDoor.Aes
open Go Go.RowKit Go.Proofs.YtfjoflpidmjkbaaDoor.Aid

section
variable {P : Program} {w : World} {ops : Array Oper} {rest : List Oper} {op : Oper} {a : Act} {Q : Exit → Act → World → Prop}
/-- A piece of a row, read behind a guard that lets it. -/
theorem load_row_if (hw : Region.wanted op (yielded ops a.tmps) = true) (ty : TypeId) (x : Operand) (ho : op.op = .load ty x) (g o t n m : Nat) (f : Nat → Value) (h : w.rowIs g t n f)
    (hx : a.eval x = .pointer (some ⟨g, o, none⟩)) (d : TypeDesc) (hu : P.underlying ty = some d) (hd : d.isRow = true) (hi : (P.info? ty).map (·.size) = some m) (hm : o + m ≤ n)
    (hK : wpList P ops Q rest (a.put op.dst (.agg (cellsOf m fun j => f (o + j)))) w) : wpList P ops Q (op :: rest) a w := by
  unfold wpList
  rw [if_pos hw]
  exact .inl (wp_load_mid ty x ho g o hx _ d (row_range h o m hm) hu hd (by simpa using hi) hK)
end

theorem eq16 (f : Blk) (W : World) : (binOp .eql 22 (.agg (byteRow 16 f)) (.agg (byteRow 16 f))).run Tryd.prog W = .ok (.bool true) W :=
  run_eql_same Tryd.underlying22 Tryd.underlying5 (by kernel_rfl) _ (fun i hi => ⟨_, cellsOf_at 16 _ i hi⟩) W
end Go.Proofs.YtfjoflpidmjkbaaDoor.Aes
