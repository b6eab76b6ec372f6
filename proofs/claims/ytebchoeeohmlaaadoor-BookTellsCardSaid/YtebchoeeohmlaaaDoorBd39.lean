/-
  What (*sha.Hash).Sum, sha.New and sha.Sum do: the digest of what has been written; a Hash of nothing; the digest of bytes.
-/
import Derived.Test.YtebchoeeohmlaaaDoorBd09
import Derived.Test.YtebchoeeohmlaaaDoorBd37
import Derived.Test.YtebchoeeohmlaaaDoorBd38
namespace Go.Proofs.YtebchoeeohmlaaaDoor.Sha
open Go Go.RowKit Go.Proofs.YtebchoeeohmlaaaDoor.Aid

/-- The first n bytes of D, and their padding. -/
def padded (D : Nat → BitVec 8) (n j : Nat) : BitVec 8 := if j < n then D j else padByte n (j - n)
/-- The digest of the first n bytes of D. -/
def digest (D : Nat → BitVec 8) (n : Nat) (i : Nat) : BitVec 8 := byteOf (after (padded D n) ((n + (padAt n + 8)) / 64)) i
theorem padded_full (n : Nat) : (n + (padAt n + 8)) % 64 = 0 := by unfold padAt; omega
theorem digest_congr (D D' : Nat → BitVec 8) (n : Nat) (h : ∀ j, j < n → D j = D' j) : digest D n = digest D' n := by
  have : padded D n = padded D' n := by
    funext j
    unfold padded
    by_cases hj : j < n
    · rw [if_pos hj, if_pos hj, h j hj]
    · rw [if_neg hj, if_neg hj]
  funext i
  unfold digest
  rw [this]
theorem hash_one (s : St) (bl : Nat → BitVec 8) (n i : Nat) : (hashCell s bl n i).oneCell' = true := by
  unfold hashCell
  by_cases h8 : i < 8
  · rw [if_pos h8]; rfl
  · rw [if_neg h8]
    by_cases h72 : i < 72
    · rw [if_pos h72]; rfl
    · rw [if_neg h72]; rfl
def zeroSt : St := ⟨0, 0, 0, 0, 0, 0, 0, 0⟩
def zeroHash : Array Value := cellsOf 73 (hashCell zeroSt (fun _ => 0) 0)
theorem hash_zero (t : TypeId) (ht : t = 144) : (Tryd.prog.info? t).map (fun i => (i.zero, i.size)) = some (some (.agg zeroHash), 73) := by subst ht; kernel_rfl
theorem pad_zero (t : TypeId) (ht : t = 148) : (Tryd.prog.info? t).map (fun i => (i.zero, i.size)) = some (some (.agg (cellsOf 72 fun _ => .int .u8 0)), 72) := by subst ht; kernel_rfl
theorem hash_born (w : World) (D : Nat → BitVec 8) : HashIs (w.alloc (.cells zeroHash 144)) w.heap.size D 0 :=
  ⟨zeroSt, fun _ => 0, row_new w zeroHash _ 73 _ (size_cellsOf _ _) (cellsOf_at _ _), fun h => absurd h (by omega), fun j hj => absurd hj (by omega)⟩

theorem zeros32 (Z : Array Value) (hZ : Z = Array.replicate 32 (.int .u8 0)) (i : Nat) (hi : i < 32) : Z[i]? = some (Value.int .u8 0) := by
  subst hZ; simp [hi]

set_option maxRecDepth 100000 in
set_option maxHeartbeats 1000000 in
theorem hashSum_any (D : Nat → BitVec 8) (g n : Nat) (w : World) (hk : Consts w) (hg : HashIs w g D n) (hl : n < 999999000) :
    Calls Tryd.prog 89 #[.pointer (some ⟨g, 0, none⟩)] w fun e w' => e = .returned (.agg (byteCells 32 (digest D n))) ∧ Below w.heap.size w w' := by
  have hgl := hg.lt
  obtain ⟨s, bl, hrow, hst, hbl⟩ := hg
  have Hst := Lib.hid hst
  have Hbl := Lib.hid hbl
  clear hst hbl
  obtain ⟨hz1, _⟩ := zero_of_info (hash_zero _ rfl)
  obtain ⟨hz2, _⟩ := zero_of_info (pad_zero _ rfl)
  have hrow' : ∀ o1 o2, ((w.alloc o1).alloc o2).rowIs g _ 73 _ := fun o1 o2 => World.rowIs.alloc (World.rowIs.alloc hrow o1) o2
  have hnew : ∀ o1, (((w.alloc o1).alloc (.cells zeroHash 144))).rowIs (w.heap.size + 1) _ 73 _ := fun o1 => by
    have := row_new (w.alloc o1) zeroHash 144 73 _ (size_cellsOf _ _) (cellsOf_at _ _)
    rw [show (w.alloc o1).heap.size = w.heap.size + 1 by simp] at this
    exact this
  have hcut := fun b W => arr_run (P := Tryd.prog) 148 5 72 Tryd.underlying148 (by kernel_rfl) ((padAt n : Int) + 8) (padAt n + 8) (by omega) (by have := padAt_le n; omega) b 0 .i64 W
  go_enter Tryd.func89, Tryd.ntmps89
  go_wp2_with (first
    | (refine load_whole (by rfl) 144 (.tmp 9) (by rfl) g _ 73 _ (hrow' _ _) (by rfl) _ Tryd.underlying144 rfl (by kernel_rfl) ?_)
    | (refine store_whole (by rfl) 144 (.tmp 3) (.tmp 10) (by rfl) (w.heap.size + 1) _ 73 _ _ (hnew _) (by rfl) _ (by rfl) (by kernel_rfl) (size_cellsOf _ _) (cellsOf_at _ _) (fun i hi => hash_one _ _ _ i) ?_
       intro w3 hr3 ho3
       have c72 : w3.cell? ⟨w.heap.size + 1, 72, none⟩ = some (.int .u64 (n : Int)) := cell_len hr3))
  have hrow3 : HashRow w3 (w.heap.size + 1) s bl n := hr3
  have hres3 : w3.rowIs w.heap.size 137 32 (fun _ => .int .u8 0) := ho3.row ((row_new w _ _ 32 _ (by rfl) (zeros32 _ (by rfl))).alloc _) (by omega)
  have hbl3 : Below w.heap.size w w3 := ho3.below (((Below.refl _ _).alloc (by simp) _).alloc (by simp) _) (by omega)
  have hsz3 : w3.heap.size = w.heap.size + 2 := by rw [ho3.size]; simp
  have Hsz3 := Lib.hid hsz3
  have hk3 : Consts w3 := hk.below hbl3 (Nat.le_refl _)
  clear hr3 ho3 hrow' hnew c72 hsz3
  refine (padding_any n (by omega) w3).mono ?_
  rintro e w4 ⟨rfl, hb4⟩
  go_wp2_with (refine store_whole (by rfl) 148 (.tmp 4) (.tmp 15) (by rfl) w4.heap.size _ 72 (fun _ => .int .u8 0) (fun j => .int .u8 ((padByte n j).toNat : Int)) (by exact row_new _ _ _ 72 _ (size_cellsOf _ _) (cellsOf_at _ _)) (by rfl) _ (by rfl) (by kernel_rfl) (size_cellsOf _ _) (cellsOf_at _ _) (fun _ _ => rfl) ?_
               intro w5 hr5 ho5)
  have hB : w.heap.size + 2 ≤ w4.heap.size := by have := hb4.size; have := Hsz3.out; omega
  have hb5 : Below w3.heap.size w3 w5 := ho5.below (hb4.alloc (by have := hb4.size; omega) _) hb4.size
  have hk5 : Consts w5 := hk3.below hb5 (Nat.le_refl _)
  have hbl5 : Below w.heap.size w w5 := hbl3.trans (hb5.mono (by have := Hsz3.out; omega))
  have hres5 := hres3.of_block (hb5.block _ hres3.lt)
  have hrow5 : HashRow w5 (w.heap.size + 1) s bl n := World.rowIs.of_block hrow3 (hb5.block _ (World.rowIs.lt hrow3))
  have hpad := padAt_le n
  have his5 : HashIs w5 (w.heap.size + 1) (padded D n) n := HashIs.congr ⟨s, bl, hrow5, Hst.out, Hbl.out⟩ (fun j hj => by unfold padded; rw [if_pos hj])
  have hsl5 : SliceOf w5 (w.heap.size + 1) (padAt n + 8) (fun i => padded D n (n + i)) (.slice (some ⟨w4.heap.size, 0, none⟩) (padAt n + 8) 72) :=
    ⟨_, _, rfl, by omega, fun _ => ⟨w4.heap.size, 0, rfl, by omega, fun j hj => by
      rw [Nat.zero_add, hr5.cell (by omega)]
      show _ = some (Value.int .u8 ((padded D n (n + j)).toNat : Int))
      unfold padded
      rw [if_neg (by omega), Nat.add_sub_cancel_left]⟩⟩
  have hlt5 : w5.heap.size = w4.heap.size + 1 := by rw [ho5.size]; simp
  have Hlt5 := Lib.hid hlt5
  clear hr5 ho5 hb4 hb5 hrow5 hrow3 hres3 hbl3 hk3 hlt5
  go_wp2_with fail
  refine (write_any (padded D n) (w.heap.size + 1) n (padAt n + 8) _ w5 hk5 his5 hsl5 (by omega) (by have := hk.lt; omega)).mono ?_
  rintro e w6 ⟨rfl, hs6, hg6⟩
  obtain ⟨s6, bl6, hrow6, hst6, _⟩ := hs6
  have hres6 := hres5.of_block (hg6.block _ hres5.lt (by simp))
  have hbl6 : Below w.heap.size w w6 := hbl5.trans ⟨hg6.os, hg6.tape, hg6.output, hg6.size, fun k hk => hg6.block k (by have := hbl5.size; omega) (by simp; omega)⟩
  have Hst6 := Lib.hid (hst6 (by omega))
  clear hst6 hg6 hres5 hsl5 his5 hk5
  go_wp2_with (refine load_row (by rfl) 141 (.tmp 20) (by rfl) (w.heap.size + 1) 0 _ 73 8 _ hrow6 (by rfl) _ Tryd.underlying141 rfl (by kernel_rfl) (by omega) ?_)
  refine (bytes_any s6 _ (size_cellsOf _ _) (fun i hi => by rw [cellsOf_at _ _ _ hi, ← hash_st_at s6 bl6 (n + (padAt n + 8)) i hi, Nat.zero_add]) w6).mono ?_
  rintro e w7 ⟨rfl, hb7⟩
  have hres7 := hres6.of_block (hb7.block _ hres6.lt)
  have hbl7 := hbl6.trans (hb7.mono hbl6.size)
  go_wp2_with (refine store_whole (by rfl) 137 (.tmp 2) (.tmp 22) (by rfl) w.heap.size _ 32 _ (fun j => .int .u8 ((byteOf s6 j).toNat : Int)) hres7 (by rfl) _ (by rfl) (by kernel_rfl) (size_cellsOf _ _) (cellsOf_at _ _) (fun _ _ => rfl) ?_
               intro w8 hr8 ho8)
  refine bodyPost_ret (results_row rfl _ w.heap.size _ _ _ _ (by rfl) hr8 Tryd.underlying137 rfl (by kernel_rfl)) rfl ⟨?_, ho8.below hbl7 (Nat.le_refl _)⟩
  rw [Hst6.out]
  rfl

set_option maxRecDepth 100000 in
set_option maxHeartbeats 1000000 in
/-- 'sha.Sum(b)'. -/
theorem sum_any (D : Nat → BitVec 8) (m g : Nat) (v : Value) (w : World) (hk : Consts w) (hv : SliceOf w g m D v) (hl : m < 999999000) :
    Calls Tryd.prog 87 #[v] w fun e w' => e = .returned (.agg (byteCells 32 (digest D m))) ∧ Below w.heap.size w w' := by
  obtain ⟨hz1, _⟩ := zero_of_info (hash_zero _ rfl)
  have hb1 : ∀ o1 o2, Below w.heap.size w ((w.alloc o1).alloc o2) := fun o1 o2 => ((Below.refl _ _).alloc (by simp) _).alloc (by simp) _
  have hs1 : ∀ o1, HashIs ((w.alloc o1).alloc (.cells zeroHash 144)) (w.heap.size + 1) D 0 := fun o1 => by
    have := hash_born (w.alloc o1) D
    rw [show (w.alloc o1).heap.size = w.heap.size + 1 by simp] at this
    exact this
  have hsl : SliceOf w (w.heap.size + 1) m (fun i => D (0 + i)) v := by
    simp only [Nat.zero_add]
    exact slice_any hv (by omega)
  clear hv
  have hr1 : ∀ (Z : Array Value) o2, Z = Array.replicate 32 (.int .u8 0) → ((w.alloc (.cells Z 137)).alloc o2).rowIs w.heap.size 137 32 (fun _ => .int .u8 0) :=
    fun Z o2 hZ => (row_new w Z _ 32 _ (by rw [hZ]; simp) (zeros32 Z hZ)).alloc _
  go_enter Tryd.func87, Tryd.ntmps87
  go_wp2_with fail
  have hw1 := hb1 (.cells (Array.replicate 32 (.int .u8 0)) 137) (.cells zeroHash 144)
  have hh1 := hs1 (.cells (Array.replicate 32 (.int .u8 0)) 137)
  have hx1 := hr1 _ (.cells zeroHash 144) rfl
  change Calls Tryd.prog 88 _ ((w.alloc (.cells (Array.replicate 32 (.int .u8 0)) 137)).alloc (.cells zeroHash 144)) _
  clear hb1 hs1 hr1
  generalize (w.alloc (.cells (Array.replicate 32 (.int .u8 0)) 137)).alloc (.cells zeroHash 144) = w1 at *
  refine (write_any D (w.heap.size + 1) 0 m v w1 (hk.below hw1 (Nat.le_refl _)) hh1 (slice_below hsl hw1) (by omega) (by have := hk.lt; omega)).mono ?_
  rintro e w2 ⟨rfl, hs2, hg2⟩
  rw [Nat.zero_add] at hs2
  have hw2 : Below w.heap.size w w2 := hw1.trans ⟨hg2.os, hg2.tape, hg2.output, hg2.size, fun k hk => hg2.block k (by have := hw1.size; omega) (by simp; omega)⟩
  have hx2 := hx1.of_block (hg2.block _ hx1.lt (by simp))
  clear hg2 hh1 hx1 hw1
  go_wp2_with fail
  refine (hashSum_any D (w.heap.size + 1) m w2 (hk.below hw2 (Nat.le_refl _)) hs2 hl).mono ?_
  rintro e w3 ⟨rfl, hb3⟩
  have hx3 := hx2.of_block (hb3.block _ hx2.lt)
  have hw3 := hw2.trans (hb3.mono hw2.size)
  go_wp2_with (refine store_whole (by rfl) 137 (.tmp 2) (.tmp 6) (by rfl) w.heap.size _ 32 _ (fun j => .int .u8 ((digest D m j).toNat : Int)) hx3 (by rfl) _ (by rfl) (by kernel_rfl) (size_cellsOf _ _) (cellsOf_at _ _) (fun _ _ => rfl) ?_
               intro w4 hr4 ho4)
  exact bodyPost_ret (results_row rfl _ w.heap.size _ _ _ _ (by rfl) hr4 Tryd.underlying137 rfl (by kernel_rfl)) rfl ⟨rfl, ho4.below hw3 (Nat.le_refl _)⟩
end Go.Proofs.YtebchoeeohmlaaaDoor.Sha
