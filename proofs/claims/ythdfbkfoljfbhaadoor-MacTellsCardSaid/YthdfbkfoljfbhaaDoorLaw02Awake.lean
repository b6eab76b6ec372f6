/-
  What the laws of layer 2 ask first: a code that is known, and bytes of a key.
-/
import Derived.Test.YthdfbkfoljfbhaaDoorMacKnown
import Derived.Test.YthdfbkfoljfbhaaDoorMacEqual
import Derived.Lib.SlBytesConst
import Derived.Lib.SmallJoins
import Derived.Deep.QuietTactic
import Derived.BigQuiet
namespace Go.Proofs.YthdfbkfoljfbhaaDoor.Law02
open Go Go.RowKit Go.Proofs.YthdfbkfoljfbhaaDoor.Aid Go.Proofs.YthdfbkfoljfbhaaDoor.Sha Go.Proofs.YthdfbkfoljfbhaaDoor.Law01 Go.Proofs.YthdfbkfoljfbhaaDoor.Mac

/-- A literal's bytes in a new block. -/
theorem slice_lit (w : World) (C : Array Value) (fr : Nat × Nat) (l : List (BitVec 8)) (n g : Nat) (hg : g ≠ w.heap.size) (hC : C = (l.map fun x => Value.int .u8 (x.toNat : Int)).toArray) (hn : l.length = n) :
    SliceOf (w.alloc (.cells C 5 fr)) g n (bytesL l) (.slice (some ⟨w.heap.size, 0, none⟩) n n) := by
  have hc : ∀ j, (w.alloc (.cells C 5 fr)).cell? ⟨w.heap.size, j, none⟩ = C[j]? := fun j => cell_of_row _ _ j _ _ _ (heap_alloc_new w _)
  refine ⟨_, _, rfl, Nat.le_refl _, fun _ => ⟨w.heap.size, 0, rfl, fun e => hg e.symm, fun j hj => ?_⟩⟩
  rw [Nat.zero_add, hc, hC]
  unfold bytesL
  have : j < l.length := by omega
  simp [this]
theorem parts_two (w : World) (m : Nat → Nat) (e : Nat → Nat → BitVec 8) (v0 v1 : Value) (h0 : SliceOf w w.heap.size (m 0) (e 0) v0) (h1 : SliceOf w w.heap.size (m 1) (e 1) v1) :
    PartsOf (w.alloc (.cells #[v0, v1] 22)) 2 m e (.slice (some ⟨w.heap.size, 0, none⟩) 2 2) := by
  have hb : Below w.heap.size w (w.alloc (.cells #[v0, v1] 22)) := (Below.refl _ _).alloc (by simp) _
  have hc : ∀ j, (w.alloc (.cells #[v0, v1] 22)).cell? ⟨w.heap.size, j, none⟩ = (#[v0, v1] : Array Value)[j]? := fun j => cell_of_row _ _ j _ _ _ (heap_alloc_new w _)
  refine ⟨_, 2, rfl, fun _ => ⟨w.heap.size, 0, rfl, fun i hi => ?_⟩⟩
  rw [Nat.zero_add]
  match i, hi with
  | 0, _ => exact ⟨v0, by rw [hc]; rfl, slice_any (slice_below h0 hb) (Nat.le_refl _)⟩
  | 1, _ => exact ⟨v1, by rw [hc]; rfl, slice_any (slice_below h1 hb) (Nat.le_refl _)⟩
theorem alloc_below (w : World) (o : Obj) : Below w.heap.size w (w.alloc o) := (Below.refl _ _).alloc (by simp) _
def knownE : Nat → Nat → BitVec 8 := three (bytesL want) (bytesL nothing) (fun _ => 0)
theorem known_all : code (bytesL jefe) 4 (catAll (three 16 12 0) knownE 2) (off (three 16 12 0) 2) = code (bytesL jefe) 4 (bytesL (want ++ nothing)) 28 := by
  refine code_congr _ _ _ _ _ _ (fun _ _ => rfl) ?_
  show ∀ j, j < 28 → _
  decide +kernel
theorem awake_parts (w : World) (C0 C1 C2 : Array Value) (h0 : C0 = (jefe.map fun x => Value.int .u8 (x.toNat : Int)).toArray) (h1 : C1 = (want.map fun x => Value.int .u8 (x.toNat : Int)).toArray) (h2 : C2 = (nothing.map fun x => Value.int .u8 (x.toNat : Int)).toArray) (W : World)
    (hW : W = (((w.alloc (.cells C0 5 (4, 5))).alloc (.cells C1 5 (16, 17))).alloc (.cells C2 5 (12, 13))).alloc (.cells #[.slice (some ⟨w.heap.size + 1, 0, none⟩) 16 16, .slice (some ⟨w.heap.size + 2, 0, none⟩) 12 12] 22)) :
    SliceOf W W.heap.size 4 (bytesL jefe) (.slice (some ⟨w.heap.size, 0, none⟩) 4 4) ∧ PartsOf W 2 (three 16 12 0) knownE (.slice (some ⟨w.heap.size + 1 + 1 + 1, 0, none⟩) 2 2) ∧ Below w.heap.size w W := by
  have a0 := slice_lit w C0 (4, 5) jefe 4 (w.heap.size + 1) (by omega) h0 rfl
  have b0 := alloc_below w (.cells C0 5 (4, 5))
  have s0 : (w.alloc (.cells C0 5 (4, 5))).heap.size = w.heap.size + 1 := by simp
  generalize w.alloc (.cells C0 5 (4, 5)) = w0 at *
  have a1 := slice_lit w0 C1 (16, 17) want 16 (w0.heap.size + 1) (by omega) h1 rfl
  have b1 := alloc_below w0 (.cells C1 5 (16, 17))
  have s1 : (w0.alloc (.cells C1 5 (16, 17))).heap.size = w0.heap.size + 1 := by simp
  have a0' := slice_below a0 b1
  generalize w0.alloc (.cells C1 5 (16, 17)) = w1 at *
  have a2 := slice_lit w1 C2 (12, 13) nothing 12 (w1.heap.size + 1) (by omega) h2 rfl
  have b2 := alloc_below w1 (.cells C2 5 (12, 13))
  have s2 : (w1.alloc (.cells C2 5 (12, 13))).heap.size = w1.heap.size + 1 := by simp
  have a0'' := slice_below a0' b2
  have a1' := slice_below a1 b2
  generalize w1.alloc (.cells C2 5 (12, 13)) = w2 at *
  subst hW
  rw [s0] at a1'
  rw [s1, s0, Nat.add_assoc] at a2
  have hp := parts_two w2 (three 16 12 0) knownE (.slice (some ⟨w.heap.size + 1, 0, none⟩) 16 16) (.slice (some ⟨w.heap.size + 2, 0, none⟩) 12 12) (slice_any a1' (Nat.le_refl _)) (slice_any a2 (by omega))
  rw [s2, s1, s0] at hp
  have b3 := alloc_below w2 (.cells #[.slice (some ⟨w.heap.size + 1, 0, none⟩) 16 16, .slice (some ⟨w.heap.size + 2, 0, none⟩) 12 12] 22)
  exact ⟨slice_any (slice_below a0'' b3) (Nat.le_refl _), hp, b0.trans ((b1.trans ((b2.trans (b3.mono b2.size)).mono b1.size)).mono b0.size)⟩

set_option maxRecDepth 100000 in
set_option maxHeartbeats 1000000 in
theorem awake_any (w : World) (hk : Consts w) :
    Calls Tryd.prog 17 #[] w fun e w' => e = .returned (.bool true) ∧ Below w.heap.size w w' := by
  have kc := fun (w : World) (C : Array Value) (n c : Nat) => Lib.run_convert_bytes_const (P := Tryd.prog) w 22 5 C n c Tryd.underlying22 Tryd.underlying5
  have kc1 := fun (w : World) (o1 : Obj) (C : Array Value) (n c : Nat) => _root_.Go.Joins.run_convert_bytes_const_at (P := Tryd.prog) (w.alloc o1) 22 5 C n c (w.heap.size + 1) (by simp) Tryd.underlying22 Tryd.underlying5
  have kc2 := fun (w : World) (o1 o2 : Obj) (C : Array Value) (n c : Nat) => _root_.Go.Joins.run_convert_bytes_const_at (P := Tryd.prog) ((w.alloc o1).alloc o2) 22 5 C n c (w.heap.size + 2) (by simp) Tryd.underlying22 Tryd.underlying5
  go_enter Tryd.func17, Tryd.ntmps17
  go_wp2_with fail
  obtain ⟨W, hW⟩ : ∃ W, W = (((w.alloc (.cells (jefe.map fun x => Value.int .u8 (x.toNat : Int)).toArray 5 (4, 5))).alloc (.cells (want.map fun x => Value.int .u8 (x.toNat : Int)).toArray 5 (16, 17))).alloc (.cells (nothing.map fun x => Value.int .u8 (x.toNat : Int)).toArray 5 (12, 13))).alloc (.cells #[.slice (some ⟨w.heap.size + 1, 0, none⟩) 16 16, .slice (some ⟨w.heap.size + 2, 0, none⟩) 12 12] 22) := ⟨_, rfl⟩
  obtain ⟨hkey, hparts, hb1⟩ := awake_parts w _ _ _ rfl rfl rfl W hW
  change Calls Tryd.prog 20 _ ((((w.alloc (.cells (jefe.map fun x => Value.int .u8 (x.toNat : Int)).toArray 5 (4, 5))).alloc (.cells (want.map fun x => Value.int .u8 (x.toNat : Int)).toArray 5 (16, 17))).alloc (.cells (nothing.map fun x => Value.int .u8 (x.toNat : Int)).toArray 5 (12, 13))).alloc (.cells #[.slice (some ⟨w.heap.size + 1, 0, none⟩) 16 16, .slice (some ⟨w.heap.size + 2, 0, none⟩) 12 12] 22)) _
  rw [← hW]
  clear hW
  refine (mac_any _ _ 4 4 W.heap.size 2 _ _ _ W (hk.below hb1 (Nat.le_refl _)) hkey (by omega) hparts (by decide) (by omega)).mono ?_
  rw [known_all]
  obtain ⟨E, hE⟩ : ∃ E, E = code (bytesL jefe) 4 (bytesL (want ++ nothing)) 28 := ⟨_, rfl⟩
  have k0 : Hid (E 0 = 91) := by rw [hE]; exact known_0
  have k1 : Hid (E 1 = 220) := by rw [hE]; exact known_1
  have k31 : Hid (E 31 = 67) := by rw [hE]; exact known_31
  rw [← hE]
  clear hE hkey hparts
  rintro x w2 ⟨rfl, hb2⟩
  have hb2' := hb1.trans (hb2.mono hb1.size)
  clear hb1 hb2
  go_wp2_with (refine store_whole (by rfl) 24 (.tmp 1) (.tmp 11) (by rfl) w2.heap.size _ 32 (fun _ => .int .u8 0) (fun j => .int .u8 ((E j).toNat : Int)) (by exact row_new w2 _ _ 32 _ (by rfl) (zeros32 _ (by rfl))) (by rfl) _ (by rfl) (by kernel_rfl) (size_cellsOf _ _) (cellsOf_at _ _) (fun _ _ => rfl) ?_
               intro w3 hr3 ho3
               have hb3 := ho3.below (hb2'.alloc hb2'.size _) hb2'.size
               have hB3 : w2.heap.size < w3.heap.size := hr3.lt
               clear ho3 hb2')
  have hsk := slice_lit w3 #[Value.int .u8 107] (1, 2) [107] 1 (w3.heap.size + 1) (by omega) rfl rfl
  have hbk := alloc_below w3 (.cells #[Value.int .u8 107] 5 (1, 2))
  have hb4 := hb3.trans (hbk.mono hb3.size)
  have hr4 := hr3.of_block (hbk.block _ hr3.lt)
  have hsk' := slice_any hsk (show (w3.alloc (.cells #[Value.int .u8 107] 5 (1, 2))).heap.size ≤ w3.heap.size + 1 by simp)
  have hsz4 : (w3.alloc (.cells #[Value.int .u8 107] 5 (1, 2))).heap.size = w3.heap.size + 1 := by simp
  generalize w3.alloc (.cells #[Value.int .u8 107] 5 (1, 2)) = w4 at *
  rw [← hsz4] at hsk'
  refine (expand_any (bytesL [107]) _ 1 1 ⟨#[112]⟩ 40 w4 (hk.below hb4 (Nat.le_refl _)) hsk' (by omega) (by decide) (by omega)).mono ?_
  rintro x w5 ⟨v5, rfl, hown5, hb5⟩
  obtain ⟨hv, h0⟩ | ⟨g5, cap5, cur5, rfl, _⟩ := hown5.form
  · omega
  have hb5' := hb4.trans (hb5.mono hb4.size)
  have hr5 := hr4.of_block (hb5.block _ hr4.lt)
  have c0 := hr5.cell (i := 0) (by omega)
  have c1 := hr5.cell (i := 1) (by omega)
  have c2 := hr5.cell (i := 31) (by omega)
  rw [k0.out] at c0
  rw [k1.out] at c1
  rw [k31.out] at c2
  have hlt5 := hr5.lt
  have hsl : ∀ n, SliceOf (w5.drewN n) w5.heap.size 32 E (.slice (some ⟨w2.heap.size, 0, none⟩) 32 32) := fun n => ⟨_, _, rfl, by omega, fun _ => ⟨w2.heap.size, 0, rfl, by omega, fun j hj => by rw [Nat.zero_add]; exact hr5.cell hj⟩⟩
  have hsl1 : ∀ n, SliceOf (w5.drewN n) w5.heap.size 31 (fun i => E (1 + i)) (.slice (some ⟨w2.heap.size, 1, none⟩) 31 31) := fun n => ⟨_, _, rfl, by omega, fun _ => ⟨w2.heap.size, 1, rfl, by omega, fun j hj => hr5.cell (by omega)⟩⟩
  have hq1 : ∀ n, Calls Tryd.prog 23 #[.slice (some ⟨w2.heap.size, 0, none⟩) 32 32, .slice (some ⟨w2.heap.size, 0, none⟩) 32 32] (w5.drewN n) fun x w' => x = .returned (.bool true) ∧ ∃ q, w' = (w5.drewN n).drewN q := fun n => by
    have := equal_any _ _ 32 32 32 32 E E _ _ _ (hsl n) (hsl n) (by omega) (by omega)
    rw [same_refl E E 32 (fun _ _ => rfl)] at this
    exact this
  have hq2 : ∀ n, Calls Tryd.prog 23 #[.slice (some ⟨w2.heap.size, 0, none⟩) 32 32, .slice (some ⟨w2.heap.size, 1, none⟩) 31 31] (w5.drewN n) fun x w' => x = .returned (.bool false) ∧ ∃ q, w' = (w5.drewN n).drewN q := fun n => by
    have := equal_any _ _ 32 31 32 31 E (fun i => E (1 + i)) _ _ _ (hsl n) (hsl1 n) (by omega) (by omega)
    rw [same_short E _ 32 31 (by omega)] at this
    exact this
  have Hq1 := Lib.hid hq1
  have Hq2 := Lib.hid hq2
  clear hq1 hq2 hsl hsl1 hr5 hr4 hr3 hown5 hb5 hb4 hb3 hsk hsk' hbk k0 k1 k31 kc kc1 kc2
  go_wp2
  refine wp_region_quiet_lit (by kernel_rfl) (by kernel_rfl) ?_
  iterate 25 (go_big_quiet_step (fail))
  go_big_quiet_step ((go_at_call 23; exact Calls.quiet_of (Hq1.out _)))
  iterate 4 (go_big_quiet_step (fail))
  go_big_quiet_step ((go_at_call 23; exact Calls.quiet_of (Hq2.out _)))
  repeat (go_big_quiet_step (fail))
  refine wpQuiet_nil ?_
  intro _ hw'
  obtain ⟨nq, hw''⟩ := hw'
  subst hw''
  clear Hq1 Hq2
  go_wp2
  go_ret
  exact ⟨rfl, below_drewN hb5' _⟩
end Go.Proofs.YthdfbkfoljfbhaaDoor.Law02
