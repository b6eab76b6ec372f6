/-
  What ctr.Flip does: counter mode, as the program has it.
-/
import Derived.Test.YtcdgdoeegehjhaaCtrIter
import Derived.Test.YtcdgdoeegehjhaaOwnEncrypt
import Derived.Test.YtcdgdoeegehjhaaSl
import Derived.LoopNIn
import Derived.Shelf.Abstract
namespace Go.Proofs.Ytcdgdoeegehjhaa.Ctr
open Go Go.RowKit Go.Proofs.Ytcdgdoeegehjhaa.Aid Go.Proofs.Ytcdgdoeegehjhaa.Aes
attribute [local go_sem] Oper.semAt_some

/-- What ctr.counters does: it lays its arguments down, and gives the iterator over them. -/
theorem counters_of (X : Array Value) (n : Nat) (w : World) (g : Nat) (hg : w.heap.size = g) :
    Calls Try.prog 12 #[.agg X, .int .i64 (n : Int)] w fun x w' => x = .returned (.func (.func 15) #[] #[.pointer (some ⟨g, 0, none⟩), .pointer (some ⟨g + 1, 0, none⟩)]) ∧
      w' = (w.alloc (.cells X 22)).alloc (.cells #[.int .i64 (n : Int)] 3) := by
  subst hg
  go_enter Try.func12, Try.ntmps12
  go_wp2
  go_ret
  exact ⟨rfl, rfl⟩

/-- What lies in memory when so many bytes are flipped. -/
structure FlipSt (key at_ e : Nat → BitVec 8) (A : Option Addr) (n c K : Nat) (w wr : World) : Prop where
  r0 : RowB wr w.heap.size 22 16 key
  c2 : wr.cell? ⟨w.heap.size + 2, 0, none⟩ = some (.slice A n c)
  row : RowB wr (w.heap.size + 3) 5 n (fun j => if j < K then flipB key at_ e j else 0)
  c4 : wr.cell? ⟨w.heap.size + 4, 0, none⟩ = some (.slice (some ⟨w.heap.size + 3, 0, none⟩) n n)
  r5 : RowB wr (w.heap.size + 5) 22 16 at_
  c6 : wr.cell? ⟨w.heap.size + 6, 0, none⟩ = some (.int .i64 (n : Int))
  hb : Below w.heap.size w wr
theorem FlipSt.lt {key at_ e : Nat → BitVec 8} {A : Option Addr} {n c K : Nat} {w wr : World} (h : FlipSt key at_ e A n c K w wr) : w.heap.size + 7 ≤ wr.heap.size := by
  have := block_lt_of_cell h.c6
  simp only at this
  omega
theorem FlipSt.below {key at_ e : Nat → BitVec 8} {A : Option Addr} {n c K : Nat} {w wr wr' : World} (h : FlipSt key at_ e A n c K w wr) (hb : Below (w.heap.size + 7) wr wr') : FlipSt key at_ e A n c K w wr' :=
  ⟨World.rowIs.of_block h.r0 (hb.block _ (by omega)), (hb.cell (p := ⟨w.heap.size + 2, 0, none⟩) (by simp)).trans h.c2, World.rowIs.of_block h.row (hb.block _ (by omega)),
   (hb.cell (p := ⟨w.heap.size + 4, 0, none⟩) (by simp)).trans h.c4, World.rowIs.of_block h.r5 (hb.block _ (by omega)), (hb.cell (p := ⟨w.heap.size + 6, 0, none⟩) (by simp)).trans h.c6, h.hb.trans (hb.mono (by omega))⟩
theorem FlipSt.step {key at_ e : Nat → BitVec 8} {A : Option Addr} {n c K B : Nat} {w wr wr' : World} (h : FlipSt key at_ e A n c K w wr) (hs : ItStep B wr wr') (hB : w.heap.size + 7 ≤ B) : FlipSt key at_ e A n c K w wr' :=
  h.below ⟨hs.os, hs.tape, hs.output, hs.size, fun k hk => hs.block k (by have := h.lt; omega) (by omega)⟩
theorem FlipSt.set {key at_ e : Nat → BitVec 8} {A : Option Addr} {n c K : Nat} {w wr : World} (h : FlipSt key at_ e A n c K w wr) (v : Int) (hv : v = ((flipB key at_ e K).toNat : Int)) :
    FlipSt key at_ e A n c (K + 1) w (wr.setCell ⟨w.heap.size + 3, K, none⟩ (.int .u8 v)) := by
  have hb : ∀ b, b ≠ w.heap.size + 3 → (wr.setCell ⟨w.heap.size + 3, K, none⟩ (.int .u8 v)).heap[b]? = wr.heap[b]? := fun b hb => Below.heap_setCell _ _ _ _ hb
  have hc : ∀ b, b ≠ w.heap.size + 3 → (wr.setCell ⟨w.heap.size + 3, K, none⟩ (.int .u8 v)).cell? ⟨b, 0, none⟩ = wr.cell? ⟨b, 0, none⟩ := fun b hb => World.cell?_setCell_other (h := fun h => hb (congrArg Addr.block h).symm) ..
  refine ⟨World.rowIs.of_block h.r0 (hb _ (by omega)), (hc _ (by omega)).trans h.c2, World.rowIs.congr (World.rowIs.set h.row K (.int .u8 v)) (fun j _ => ?_), (hc _ (by omega)).trans h.c4, World.rowIs.of_block h.r5 (hb _ (by omega)), (hc _ (by omega)).trans h.c6, h.hb.setCell (by simp) _⟩
  show (if j = K then Value.int .u8 v else .int .u8 (((if j < K then flipB key at_ e j else 0 : BitVec 8)).toNat : Int)) = .int .u8 (((if j < K + 1 then flipB key at_ e j else 0 : BitVec 8)).toNat : Int)
  by_cases h1 : j = K
  · subst h1
    rw [if_pos rfl, hv, if_pos (by omega)]
  · rw [if_neg h1]
    by_cases h2 : j < K
    · rw [if_pos h2, if_pos (by omega)]
    · rw [if_neg h2, if_neg (by omega)]
theorem FlipSt.drew {key at_ e : Nat → BitVec 8} {A : Option Addr} {n c K : Nat} {w wr : World} (h : FlipSt key at_ e A n c K w wr) : FlipSt key at_ e A n c K w wr.drew := ⟨h.r0, h.c2, h.row, h.c4, h.r5, h.c6, h.hb.drew⟩
theorem below_putObj {b B : Nat} (W : World) (o : Obj) (hb : B ≤ b) : Below B W (W.putObj b o) :=
  ⟨rfl, rfl, rfl, by simp [World.putObj], fun k hk => World.putObj_heap_other (by omega)⟩

/-- What the frame holds behind the round's head. -/
def headFrame (at_ : Blk) (X Y : Array Value) (A : Option Addr) (n c s k c9 : Nat) : Array Value :=
  #[.agg X, .agg Y, .slice A n c, .pointer (some ⟨s, 0, none⟩), .pointer (some ⟨s + 1, 0, none⟩), .pointer (some ⟨s + 2, 0, none⟩), .slice none 0 0, .pointer (some ⟨s + 4, 0, none⟩), .int .i64 (16 * (k : Int)), .pointer (some ⟨c9, 0, none⟩), undef, undef, undef,
    .slice A n c, .int .i64 (n : Int), .slice (some ⟨s + 3, 0, none⟩) n n, .agg (byteRow 16 at_), .slice A n c, .int .i64 (n : Int), .func (.func 15) #[] #[.pointer (some ⟨s + 5, 0, none⟩), .pointer (some ⟨s + 5 + 1, 0, none⟩)],
    .int .i64 (16 * (k : Int)), .agg (byteRow 16 (nextB at_ k)), undef, undef, undef, undef, undef, undef, undef, undef, undef, undef, undef, undef, undef, undef, undef, undef, undef, undef, undef, undef, undef, undef, undef, undef, undef, undef, undef, undef, undef]
def HeadAx (at_ : Blk) (X Y : Array Value) (A : Option Addr) (n c s : Nat) (k : Nat) (a : Act) (W : World) : Prop :=
  ∃ c9, s + 10 ≤ c9 ∧ RowB W c9 22 16 (nextB at_ k) ∧ a = { tmps := headFrame at_ X Y A n c s k c9, defers := [] }

theorem zip_two (t : Array Value) (u v : Value) : (#[20, 21].zip #[u, v]).foldl (fun t (x : Nat × Value) => match x with | (p, v) => t.setIfInBounds p v) t = (t.setIfInBounds 20 u).setIfInBounds 21 v := by simp

set_option maxRecDepth 100000 in
set_option maxHeartbeats 4000000 in
theorem ctrFlip_any (key at_ e : Nat → BitVec 8) (X Y : Array Value) (hX : X.size = 16) (hXi : ∀ i, i < 16 → X[i]? = some (.int .u8 ((key i).toNat : Int))) (hY : Y.size = 16) (hYi : ∀ i, i < 16 → Y[i]? = some (.int .u8 ((at_ i).toNat : Int)))
    (A : Option Addr) (n c : Nat) (w : World) (hs : SliceOf w w.heap.size n e (.slice A n c)) (hn : n ≤ 1000) :
    Calls Try.prog 8 #[.agg X, .agg Y, .slice A n c] w fun x w' => ∃ A' c', x = .returned (.slice A' n c') ∧ SliceOf w' w'.heap.size n (flipB key at_ e) (.slice A' n c') ∧ Below w.heap.size w w' := by
  have h0 : ∃ W, W = ((w.alloc (.cells X 22)).alloc (.cells Y 22)).alloc (.cells #[.slice A n c] 23) ∧ W.heap.size = w.heap.size + 3 ∧ RowB W w.heap.size 22 16 key ∧ RowB W (w.heap.size + 1) 22 16 at_ ∧
      W.cell? ⟨w.heap.size + 2, 0, none⟩ = some (.slice A n c) ∧ Below w.heap.size w W := by
    have s1 : (w.alloc (.cells X 22)).heap.size = w.heap.size + 1 := by simp
    have r1 := ((row_new w X 22 16 (fun j => .int .u8 ((key j).toNat : Int)) hX hXi).alloc (.cells Y 22)).alloc (.cells #[.slice A n c] 23)
    have r2 := (row_new (w.alloc (.cells X 22)) Y 22 16 (fun j => .int .u8 ((at_ j).toNat : Int)) hY hYi).alloc (.cells #[.slice A n c] 23)
    rw [s1] at r2
    have c2 := World.cell?_alloc_new ((w.alloc (.cells X 22)).alloc (.cells Y 22)) #[.slice A n c] 23 0
    simp only [World.size_alloc] at c2
    exact ⟨_, rfl, by simp, r1, r2, c2, (((Below.refl _ _).alloc (Nat.le_refl _) _).alloc (by simp) _).alloc (by simp; omega) _⟩
  obtain ⟨i5, hi5, hz5⟩ := Option.map_eq_some_iff.1 info_u8
  simp only [Prod.mk.injEq] at hz5
  obtain ⟨W, hW, hsz, hk0, ha0, hc0, hb0⟩ := h0
  have HS := Lib.hid hs
  clear hXi hYi hs hX hY
  refine (callsIn_wide (n := 5)).1 (callsIn_of_wp_marks Try.func8 rfl trivial ?_ rfl)
  simp only [Try.ntmps8, List.size_toArray, List.length_cons, List.length_nil, Nat.reduceAdd, Nat.reduceSub, Array.replicate_succ, Array.replicate_zero, List.push_toArray, List.append_toArray, List.nil_append, List.cons_append]
  gi_wp2_with (first
    | (gi_at_make
       change wpListIn _ _ _ _ _ _ _ (((w.alloc (.cells X 22)).alloc (.cells Y 22)).alloc (.cells #[.slice A n c] 23))
       rw [← hW]
       clear hW
       refine make_bytesIn wideF (by rfl) 23 5 _ _ (by rfl) i5 Try.underlying23 hi5 hz5.1 hz5.2.1 hz5.2.2 _ _ n (by rfl) (by rfl) (by omega) ?_
       intro Z hZ hZi)
    | (refine loadIn_whole wideF (by rfl) 22 (.tmp 4) (by rfl) _ _ _ _ ((ha0.alloc _).alloc _) (by rfl) _ Try.underlying22 rfl (by kernel_rfl) ?_)
    | (refine ⟨trivial, ?_⟩
       gi_at_call 12
       refine (callsIn_wide.2 (counters_of _ n _ (w.heap.size + 5) (by simp [hsz]))).mono ?_
       rintro x w7 ⟨rfl, hw7⟩
       have h7 : FlipSt key at_ e A n c 0 w w7 := by
         have e4 : ((W.alloc (.cells Z 5)).alloc (.cells #[.slice (some ⟨w.heap.size + 3, 0, none⟩) n n] 23)).heap.size = w.heap.size + 5 := by simp [hsz]
         have e3 : (W.alloc (.cells Z 5)).heap.size = w.heap.size + 4 := by simp [hsz]
         have r3 := row_new W Z 5 n (fun j => .int .u8 (((if j < 0 then flipB key at_ e j else 0 : BitVec 8)).toNat : Int)) hZ (fun j hj => by rw [hZi j hj, if_neg (by omega)]; rfl)
         rw [hsz] at r3
         have c4 := World.cell?_alloc_new (W.alloc (.cells Z 5)) #[.slice (some ⟨w.heap.size + 3, 0, none⟩) n n] 23 0
         rw [e3] at c4
         have r5 := row_new ((W.alloc (.cells Z 5)).alloc (.cells #[.slice (some ⟨w.heap.size + 3, 0, none⟩) n n] 23)) (byteRow 16 at_) 22 16 (fun j => .int .u8 ((at_ j).toNat : Int)) (size_cellsOf _ _) (cellsOf_at _ _)
         rw [e4] at r5
         have c6 := World.cell?_alloc_new (((W.alloc (.cells Z 5)).alloc (.cells #[.slice (some ⟨w.heap.size + 3, 0, none⟩) n n] 23)).alloc (.cells (byteRow 16 at_) 22)) #[.int .i64 (n : Int)] 3 0
         rw [World.size_alloc, e4] at c6
         have b3 : Below (w.heap.size + 3) W w7 := by
           rw [hw7]
           exact ((((Below.refl _ _).alloc (by omega) _).alloc (by simp [hsz]) _).alloc (by rw [e4]; omega) _).alloc (by rw [World.size_alloc, e4]; omega) _
         refine ⟨World.rowIs.of_block hk0 (b3.block _ (by omega)), (b3.cell (p := ⟨w.heap.size + 2, 0, none⟩) (by simp)).trans hc0, ?_, ?_, ?_, ?_, hb0.trans (b3.mono (by omega))⟩
         · rw [hw7]; exact ((r3.alloc _).alloc _).alloc _
         · rw [hw7]
           exact (((Below.refl (w.heap.size + 5) _).alloc (by rw [e4]; omega) _).alloc (by rw [World.size_alloc, e4]; omega) _).cell (p := ⟨w.heap.size + 4, 0, none⟩) (by simp) |>.trans c4
         · rw [hw7]; exact r5.alloc _
         · rw [hw7]; exact c6
       have hs7 : w7.heap.size = w.heap.size + 7 := by rw [hw7]; simp [hsz]
       clear hw7 hZ hZi hk0 ha0 hc0 hb0 hsz hz5 hi5))
  refine range_count 5 (gf := 15) (lb := #[.pointer (some ⟨w.heap.size + 5, 0, none⟩), .pointer (some ⟨w.heap.size + 5 + 1, 0, none⟩)]) (by rfl) (Go.Proofs.enters_of Try.func15 (by kernel_rfl) rfl) (pairAt at_) (fun k => by rfl)
    (w.heap.size + 9) (by omega) (fun k W => FlipSt key at_ e A n c (min (16 * k) n) w W) (fun _ _ _ => False) (HeadAx at_ X Y A n c w.heap.size) (fun k => n ≤ 16 * k) (fun k => 16 * k < n) (fun _ W => W.cell? ⟨w.heap.size + 6, 0, none⟩ = some (.int .i64 (n : Int)))
    (fun k W h => h.c6) (fun k W r h => h.below (below_putObj _ _ (by omega))) (fun _ _ _ _ h => h.elim) ?hAl (fun k W W' h hs => h.step hs (by omega)) (fun _ _ _ _ h => h.elim) ?h0 ?hseq ?hassign ?hbody ?hdone (fun _ _ _ h => h.elim)
  case hAl =>
    rintro k a' W' r ⟨c9, h9, hr9, rfl⟩
    exact ⟨c9, h9, World.rowIs.of_block hr9 (World.putObj_heap_other (by omega)), rfl⟩
  case h0 =>
    intro r
    simp only [Nat.mul_zero, Nat.zero_min]
    exact h7.below (((Below.refl _ _).alloc (by omega) _).alloc (by simp; omega) _)
  case hseq =>
    intro J Jx hV hJ hX hY W1 hb1 hs1 hj0
    have := counters_any 4 at_ n hn (w7.heap.size + 1) (w.heap.size + 5) (w.heap.size + 6) W1 J Jx hV (by rw [hs1, hs7]; exact hJ) (by rw [hs1, hs7]; exact hX) (fun k W hk hlt hj => by rw [hs1, hs7] at *; exact hY k W hk (by omega) hj) (World.rowIs.of_block h7.r5 (hb1.block _ (by omega))) hj0
    exact this
  case hassign =>
    intro k W K hk hBW hI hK
    have hF : WideF (Fence.wide.inRound (w7.heap.size + 1)) := .inr ⟨_, rfl⟩
    have hlt := hI.lt
    simp only [pairAt, zip_two, List.setIfInBounds_toArray, List.set_cons_zero, List.set_cons_succ]
    gi_wp2_with (refine storeIn_whole hF (by rfl) 22 (.tmp 9) (.tmp 21) (by rfl) W.heap.size _ 16 (fun _ => .int .u8 0) (fun j => .int .u8 ((nextB at_ k j).toNat : Int)) (by exact row_new W _ _ 16 _ (by rfl) (zeros16 _ (by rfl))) (by rfl) _ (by rfl) (by kernel_rfl) (size_cellsOf _ _) (cellsOf_at _ _) (fun _ _ => rfl) ?_
                 intro W1 hr1 ho1)
    have hb1 : Below W.heap.size W W1 := ho1.below (((Below.refl _ _).alloc (Nat.le_refl _) _)) (Nat.le_refl _)
    exact hK _ _ (hI.below (hb1.mono (by omega))) ⟨W.heap.size, by omega, hr1, rfl⟩ (hb1.block _ (by omega)) (hb1.block _ (by omega)) (hb1.block _ (by omega))
  case hbody =>
    rintro k a' W hk hI ⟨c9, h9, hr9, rfl⟩ hsz
    unfold headFrame
    rw [hs7] at hsz ⊢
    have hF : WideF (Fence.wide.inRound (w.heap.size + 7 + 1)) := .inr ⟨_, rfl⟩
    have hlt := hI.lt
    have hltB : w.heap.size + 9 < W.heap.size := by have := World.rowIs.lt hr9; omega
    have hk0 := hI.r0
    obtain ⟨A', c', ea, hcn, hA⟩ := HS.out
    simp only [Value.slice.injEq, true_and] at ea
    obtain ⟨rfl, rfl⟩ := ea
    obtain ⟨sb, so, rfl, hsb, hcell⟩ := hA (by omega)
    have hsbl : sb < w.heap.size := block_lt_of_cell (hcell 0 (by omega))
    obtain ⟨m, hm⟩ : ∃ m, m = min (16 * k + 16) n - 16 * k := ⟨_, rfl⟩
    obtain ⟨hi, hhi⟩ : ∃ hi : Int, (if (n : Int) < 16 * (k : Int) + 16 then (n : Int) else 16 * (k : Int) + 16) = hi := ⟨_, rfl⟩
    have hhi' : hi = ((16 * k + m : Nat) : Int) := by rw [← hhi]; split <;> omega
    have hcut := fun W => mid_at (P := Try.prog) 23 5 Try.underlying23 (by kernel_rfl) sb so n c (16 * k) m (by omega) (by omega) hcn hi hhi' .i64 .i64 W
    simp only [show ((16 * k : Nat) : Int) = 16 * (k : Int) by omega] at hcut
    have e1 : IntKind.i64.wrap (16 * (k : Int) + 16) = 16 * (k : Int) + 16 := IntWalk.i64_in _ (by omega)
    have HI := Lib.hid hI
    have Hm := Lib.hid hm
    have Hhi := Lib.hid hhi'
    have Hcell := Lib.hid hcell
    have Hcn := Lib.hid hcn
    clear hI hm hhi' hcell hA hcn HS h7
    gi_wp2_with (first
      | (refine loadIn_whole hF (by rfl) 22 (.tmp 3) (by rfl) _ _ _ _ hk0 (by rfl) _ Try.underlying22 rfl (by kernel_rfl) ?_)
      | (refine loadIn_whole hF (by rfl) 22 (.tmp 9) (by rfl) _ _ _ _ hr9 (by rfl) _ Try.underlying22 rfl (by kernel_rfl) ?_)
      | (refine ⟨trivial, ?_⟩
         gi_at_call 13
         refine (CallsIn.inRound _ (callsIn_wide.2 (ownEncrypt_any key (nextB at_ k) _ _ (size_cellsOf _ _) (cellsOf_at _ _) (size_cellsOf _ _) (cellsOf_at _ _) W))).mono ?_
         rintro x W1 ⟨rfl, hb1⟩)
      | (refine storeIn_whole hF (by rfl) 22 (.tmp 10) (.tmp 24) (by rfl) W1.heap.size _ 16 (fun _ => .int .u8 0) (fun j => .int .u8 ((enc key (nextB at_ k) j).toNat : Int)) (by exact row_new W1 _ _ 16 _ (by rfl) (zeros16 _ (by rfl))) (by rfl) _ (by rfl) (by kernel_rfl) (size_cellsOf _ _) (cellsOf_at _ _) (fun _ _ => rfl) ?_
         intro W2 hr2 ho2
         have hb2 : Below W.heap.size W W2 := hb1.trans (ho2.below ((Below.refl _ _).alloc hb1.size _) hb1.size)
         have h2 := Lib.hid (HI.out.below (hb2.mono (by omega)))
         have hs2 := hb1.size
         have c2 := h2.out.c2
         clear hb1 ho2))
    obtain ⟨M, hM⟩ : ∃ M, M = enc key (nextB at_ k) := ⟨_, rfl⟩
    rw [← hM] at hr2 ⊢
    have HM := Lib.hid hM
    clear hM hk0 hr9 h9 c2
    gi_loopw [34] (fun p wr => ∃ i : Nat, p = .int .i64 (i : Int) ∧ i ≤ m ∧ Hid (FlipSt key at_ e (some ⟨sb, so, none⟩) n c (16 * k + i) w wr) ∧ Hid (∀ b, b ≠ w.heap.size + 3 → wr.heap[b]? = W2.heap[b]?)) (fun p _ => n - (intOf p).toNat)
    case atStart =>
      refine ⟨0, rfl, by omega, ?_, fun _ _ => rfl⟩
      have := h2.out
      rw [show min (16 * k) n = 16 * k + 0 by omega] at this
      exact this
    case round =>
      clear h2
      obtain ⟨i, rfl, him, h, hsame⟩ := hrel
      have hm16 : m ≤ 16 ∧ 16 * k + m ≤ n := by have := Hm.out; omega
      by_cases hlt2 : i < m
      · have q0 : (0 : Int) ≤ (i : Int) := by omega
        have q1 : (i : Int) < (m : Int) := by omega
        have q2 : (i : Int) < 16 := by omega
        have q3 : (0 : Int) ≤ 16 * (k : Int) + (i : Int) := by omega
        have q4 : 16 * (k : Int) + (i : Int) < (n : Int) := by omega
        have e2 : IntKind.i64.wrap (16 * (k : Int) + (i : Int)) = 16 * (k : Int) + (i : Int) := IntWalk.i64_in _ (by omega)
        have e3 : IntKind.i64.wrap ((i : Int) + 1) = (i : Int) + 1 := IntWalk.i64_in _ (by omega)
        have e4 : (16 * (k : Int) + (i : Int)).toNat = 16 * k + i := by omega
        have ce : wr.cell? ⟨sb, so + 16 * k + i, none⟩ = some (.int .u8 ((e (16 * k + i)).toNat : Int)) := by
          rw [Nat.add_assoc]; exact (h.out.hb.cell (p := ⟨sb, so + (16 * k + i), none⟩) hsbl).trans (Hcell.out _ (by omega))
        have cm : wr.cell? ⟨W1.heap.size, i, none⟩ = some (.int .u8 ((M i).toNat : Int)) := World.rowIs.cell (World.rowIs.of_block hr2 (hsame.out _ (by omega))) (by omega)
        have c4 := h.out.c4
        have Hm16 := Lib.hid hm16
        have q5 : 16 * k + i < n := by omega
        clear hm16
        have hx : Hid (bits .xor .u8 ((e (16 * k + i)).toNat : Int) ((M i).toNat : Int) = ((flipB key at_ e (16 * k + i)).toNat : Int)) := by
          show bits .xor .u8 ((e (16 * k + i)).toNat : Int) ((M i).toNat : Int) = ((e (16 * k + i) ^^^ stream key at_ (16 * k + i)).toNat : Int)
          rw [xor8]
          unfold stream
          rw [show (16 * k + i) / 16 = k by omega, show (16 * k + i) % 16 = i by omega, HM.out]
        have f3 : wr.frozen? ⟨w.heap.size + 3, 16 * k + i, none⟩ = false := World.rowIs.frozen h.out.row _
        have c3 : ∃ u, wr.cell? ⟨w.heap.size + 3, 16 * k + i, none⟩ = some (.int .u8 u) := ⟨_, World.rowIs.cell h.out.row q5⟩
        obtain ⟨u3, c3⟩ := c3
        obtain ⟨E, hE⟩ : ∃ E : Nat, E = (e (16 * k + i)).toNat := ⟨_, rfl⟩
        obtain ⟨D, hD⟩ : ∃ D : Nat, D = (M i).toNat := ⟨_, rfl⟩
        rw [← hE, ← hD] at hx
        rw [← hE] at ce
        rw [← hD] at cm
        have HE := Lib.hid hE
        have HD := Lib.hid hD
        clear hE hD
        gi_wp2
        refine round_mix hF (fun W => W.cell? ⟨w.heap.size + 4, 0, none⟩ = some (.slice (some ⟨w.heap.size + 3, 0, none⟩) n n) ∧ W.cell? ⟨W1.heap.size, i, none⟩ = some (.int .u8 (D : Int))) [(0, true), (1, true), (2, true), (3, true), (4, true), (5, true), (6, true), (7, true), (8, true), (9, true), (10, false)]
          (by kernel_rfl) (by kernel_rfl) (by kernel_rfl) ⟨c4, cm⟩ ?_
        refine m_val rfl (by rfl) (.slice (some ⟨w.heap.size + 3, 0, none⟩) n n) (fun W hW => by have cW := hW.1; go_simp) ?_
        simp only [Act.put, List.setIfInBounds_toArray, List.set_cons_zero, List.set_cons_succ]
        refine m_val rfl (by rfl) (.int .i64 (16 * (k : Int))) (fun W _ => by go_simp) ?_
        simp only [Act.put, List.setIfInBounds_toArray, List.set_cons_zero, List.set_cons_succ]
        refine m_val rfl (by rfl) (.int .i64 (i : Int)) (fun W _ => by go_simp) ?_
        simp only [Act.put, List.setIfInBounds_toArray, List.set_cons_zero, List.set_cons_succ]
        refine m_val rfl (by rfl) (.int .i64 (16 * (k : Int) + (i : Int))) (fun W _ => by go_simp) ?_
        simp only [Act.put, List.setIfInBounds_toArray, List.set_cons_zero, List.set_cons_succ]
        refine m_val rfl (by rfl) (.int .u8 (E : Int)) (fun W _ => by go_simp) ?_
        simp only [Act.put, List.setIfInBounds_toArray, List.set_cons_zero, List.set_cons_succ]
        refine m_val rfl (by rfl) (.int .i64 (i : Int)) (fun W _ => by go_simp) ?_
        simp only [Act.put, List.setIfInBounds_toArray, List.set_cons_zero, List.set_cons_succ]
        refine m_val rfl (by rfl) (.pointer (some ⟨W1.heap.size, i, none⟩)) (fun W _ => by go_simp) ?_
        simp only [Act.put, List.setIfInBounds_toArray, List.set_cons_zero, List.set_cons_succ]
        refine m_val rfl (by rfl) (.int .u8 (D : Int)) (fun W hW => by have cW := hW.2; go_simp) ?_
        simp only [Act.put, List.setIfInBounds_toArray, List.set_cons_zero, List.set_cons_succ]
        refine m_val rfl (by rfl) (.int .u8 (bits .xor .u8 (E : Int) (D : Int))) (fun W _ => by go_simp) ?_
        simp only [Act.put, List.setIfInBounds_toArray, List.set_cons_zero, List.set_cons_succ]
        refine m_val rfl (by rfl) (.pointer (some ⟨w.heap.size + 3, 16 * k + i, none⟩)) (fun W _ => by go_simp) ?_
        simp only [Act.put, List.setIfInBounds_toArray, List.set_cons_zero, List.set_cons_succ]
        refine m_go rfl ?_
        go_wp2_with fail
        have h3 := (h.out.set _ hx.out).drew
        have hsame3 : ∀ b, b ≠ w.heap.size + 3 → (wr.setCell ⟨w.heap.size + 3, 16 * k + i, none⟩ (.int .u8 (bits .xor .u8 (E : Int) (D : Int)))).drew.heap[b]? = W2.heap[b]? := fun b hb => (Below.heap_setCell _ _ _ _ hb).trans (hsame.out b hb)
        have cm3 : (wr.setCell ⟨w.heap.size + 3, 16 * k + i, none⟩ (.int .u8 (bits .xor .u8 (E : Int) (D : Int)))).drew.cell? ⟨W1.heap.size, i, none⟩ = some (.int .u8 (D : Int)) :=
          (World.cell?_setCell_other (h := fun h => by have := congrArg Addr.block h; simp only at this; omega) ..).trans cm
        refine m_on ⟨h3.c4, cm3⟩ ?_
        refine m_out ?_
        have h3' := Lib.hid h3
        have hsame3' := Lib.hid hsame3
        clear h3 hsame3 cm3
        gi_wp2
        exact ⟨⟨i + 1, ival (by omega), by omega, h3'.out, hsame3'.out⟩, by simp [intOf]; omega⟩
      · have q1 : ¬ (i : Int) < (m : Int) := by omega
        have hfin : Hid (countPost (w.heap.size + 9) (w.heap.size + 7) (fun k W => FlipSt key at_ e (some ⟨sb, so, none⟩) n c (min (16 * k) n) w W) (fun _ _ _ => False) (k + 1) W .normal { tmps := #[], defers := [] } wr) := by
          have h1 := h.out
          rw [show 16 * k + i = min (16 * (k + 1)) n by have := Hm.out; omega] at h1
          exact ⟨h1, (hsame.out _ (by omega)).trans (hb2.block _ (by omega)), (hsame.out _ (by omega)).trans (hb2.block _ (by omega)), (hsame.out _ (by omega)).trans (hb2.block _ (by omega))⟩
        gi_wp2
        exact hfin.out
  case hdone =>
    intro k W hS hI hd
    have c4 := hI.c4
    gi_wp2
    refine ⟨by simp, .inl ⟨_, _, rfl, run_takeDeferred hd, ?_⟩⟩
    refine ⟨_, results_tmp rfl _ _ _, _, _, rfl, ?_, hI.hb.trans (below_putObj _ _ (by omega))⟩
    refine ⟨_, n, rfl, Nat.le_refl _, fun _ => ⟨w.heap.size + 3, 0, rfl, by have := hI.lt; simp; omega, fun j hj => ?_⟩⟩
    rw [(below_putObj (B := w.heap.size + 7) W (.deferred none) (by omega)).cell (by simp), Nat.zero_add, World.rowIs.cell hI.row hj]
    simp only [show j < min (16 * k) n by omega, if_true]
end Go.Proofs.Ytcdgdoeegehjhaa.Ctr
