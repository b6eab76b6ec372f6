/-
  What seal.Open does: the plaintext of a sealed form, or why not.
-/
import Derived.Test.YtfjoflpidmjkbaaDoorSealSeal
import Derived.Test.YtfjoflpidmjkbaaDoorMacEqual
namespace Go.Proofs.YtfjoflpidmjkbaaDoor.Seal
open Go Go.RowKit Go.Proofs.YtfjoflpidmjkbaaDoor.Aid Go.Proofs.YtfjoflpidmjkbaaDoor.Sha Go.Proofs.YtfjoflpidmjkbaaDoor.Mac Go.Proofs.YtfjoflpidmjkbaaDoor.Aes Go.Proofs.YtfjoflpidmjkbaaDoor.Ctr Go.Proofs.YtfjoflpidmjkbaaDoor.Law01

set_option maxRecDepth 100000 in
theorem open_arg (s : ByteArray) (h : ¬ (1 ≤ s.size ∧ s.size ≤ 40)) (C : Array Value) (B : Option Addr) (m d : Nat) (w : World) :
    Calls Tryd.prog 9 #[.agg C, .string s, .slice B m d] w fun x w' => x = .returned (.tuple #[.slice none 0 0, .int .i64 1]) ∧ Below w.heap.size w w' := by
  have e0 : decide (1 ≤ s.size ∧ s.size ≤ 40) = false := decide_eq_false h
  have hb : Below w.heap.size w (w.alloc (.cells C 23)) := (Below.refl _ _).alloc (Nat.le_refl _) _
  go_enter Tryd.func9, Tryd.ntmps9
  go_wp2_with (go_at_call 12
               refine (valid_any s _).mono ?_
               rintro x w1 ⟨rfl, rfl⟩
               rw [e0])
  go_ret2
  exact ⟨rfl, hb⟩
set_option maxRecDepth 100000 in
theorem open_short (s : ByteArray) (h : 1 ≤ s.size ∧ s.size ≤ 40) (C : Array Value) (B : Option Addr) (m d : Nat) (hm : m < 48) (w : World) :
    Calls Tryd.prog 9 #[.agg C, .string s, .slice B m d] w fun x w' => x = .returned (.tuple #[.slice none 0 0, .int .i64 2]) ∧ Below w.heap.size w w' := by
  have e0 : decide (1 ≤ s.size ∧ s.size ≤ 40) = true := decide_eq_true h
  have hb : Below w.heap.size w (w.alloc (.cells C 23)) := (Below.refl _ _).alloc (Nat.le_refl _) _
  have q0 : (m : Int) < 48 := by omega
  go_enter Tryd.func9, Tryd.ntmps9
  go_wp2_with (go_at_call 12
               refine (valid_any s _).mono ?_
               rintro x w1 ⟨rfl, rfl⟩
               rw [e0])
  go_ret2
  exact ⟨rfl, hb⟩
set_option maxRecDepth 100000 in
theorem open_full (s : ByteArray) (h : 1 ≤ s.size ∧ s.size ≤ 40) (C : Array Value) (B : Option Addr) (m d : Nat) (hm : 1048 < m) (w : World) :
    Calls Tryd.prog 9 #[.agg C, .string s, .slice B m d] w fun x w' => x = .returned (.tuple #[.slice none 0 0, .int .i64 7]) ∧ Below w.heap.size w w' := by
  have e0 : decide (1 ≤ s.size ∧ s.size ≤ 40) = true := decide_eq_true h
  have hb : Below w.heap.size w (w.alloc (.cells C 23)) := (Below.refl _ _).alloc (Nat.le_refl _) _
  have q0 : ¬ (m : Int) < 48 := by omega
  have q1 : (1048 : Int) < (m : Int) := by omega
  go_enter Tryd.func9, Tryd.ntmps9
  go_wp2_with (go_at_call 12
               refine (valid_any s _).mono ?_
               rintro x w1 ⟨rfl, rfl⟩
               rw [e0])
  go_ret2
  exact ⟨rfl, hb⟩

/-- A part of bytes that were there, as a slice, in any later world. -/
theorem part_slice {w W : World} {sb so m : Nat} {e : Nat → BitVec 8} (hc : ∀ j, j < m → w.cell? ⟨sb, so + j, none⟩ = some (.int .u8 ((e j).toNat : Int))) (hb : Below w.heap.size w W) (a k c o : Nat) (ho : 0 < k → o = so + a) (hk : a + k ≤ m) (hkc : k ≤ c) :
    SliceOf W W.heap.size k (fun j => e (a + j)) (.slice (some ⟨sb, o, none⟩) k c) := by
  refine ⟨_, _, rfl, hkc, fun h0 => ⟨sb, o, rfl, ?_, fun j hj => ?_⟩⟩
  · have h1 : sb < w.heap.size := block_lt_of_cell (hc 0 (by omega))
    have := hb.size
    omega
  · have h1 := hc (a + j) (by omega)
    rw [ho h0, Nat.add_assoc]
    exact (hb.cell (p := ⟨sb, so + (a + j), none⟩) (block_lt_of_cell h1)).trans h1

/-- What Open answers of bytes that may be a sealed form. -/
def OpenPost (ks e : Nat → BitVec 8) (m : Nat) (w : World) (x : Ending) (w' : World) : Prop :=
  (okB ks e m = true ∧ ∃ A c, x = .returned (.tuple #[.slice A (m - 48) c, .int .i64 0]) ∧ SliceOf w' w'.heap.size (m - 48) (openB ks e) (.slice A (m - 48) c) ∧ Below w.heap.size w w') ∨
  (okB ks e m = false ∧ x = .returned (.tuple #[.slice none 0 0, .int .i64 6]) ∧ Below w.heap.size w w')

set_option maxRecDepth 100000 in
set_option maxHeartbeats 2000000 in
theorem open_ok (key e : Nat → BitVec 8) (s : ByteArray) (h : 1 ≤ s.size ∧ s.size ≤ 40) (C : Array Value) (hC : C.size = 16) (hCi : ∀ i, i < 16 → C[i]? = some (.int .u8 ((key i).toNat : Int)))
    (B : Option Addr) (m d : Nat) (w : World) (hk : Consts w) (hp : SliceOf w w.heap.size m e (.slice B m d)) (hm : 48 ≤ m) (hm2 : m ≤ 1048) :
    Calls Tryd.prog 9 #[.agg C, .string s, .slice B m d] w (OpenPost (keysB key s) e m w) := by
  have e0 : decide (1 ≤ s.size ∧ s.size ≤ 40) = true := decide_eq_true h
  have q0 : ¬ (m : Int) < 48 := by omega
  have q1 : ¬ (1048 : Int) < (m : Int) := by omega
  have h1 : ∃ w1, w1 = w.alloc (.cells C 23) ∧ RowB w1 w.heap.size 23 16 key ∧ Below w.heap.size w w1 :=
    ⟨_, rfl, row_new w C 23 16 (fun j => .int .u8 ((key j).toNat : Int)) hC hCi, (Below.refl _ _).alloc (Nat.le_refl _) _⟩
  obtain ⟨w1, hw1, hr1, hb1⟩ := h1
  have hk1 := hk.below hb1 (Nat.le_refl _)
  obtain ⟨B', d', eB, hmd, hB⟩ := hp
  simp only [Value.slice.injEq, true_and] at eB
  obtain ⟨rfl, rfl⟩ := eB
  obtain ⟨sb, so, rfl, _, hcell⟩ := hB (by omega)
  have hsb : sb < w.heap.size := block_lt_of_cell (hcell 0 (by omega))
  have Hcell := Lib.hid hcell
  clear hCi hC hk hcell hB
  go_enter Tryd.func9, Tryd.ntmps9
  go_wp2_with (first
    | (go_at_call 12
       rw [← hw1]
       clear hw1
       refine (valid_any s w1).mono ?_
       rintro x w2 ⟨rfl, rfl⟩
       rw [e0])
    | (refine load_whole (by rfl) 23 (.tmp 3) (by rfl) _ _ _ _ hr1 (by rfl) _ Tryd.underlying23 rfl (by kernel_rfl) ?_))
  rename_i w1
  refine (keyed_any key s (by omega) _ (size_cellsOf _ _) (cellsOf_at _ _) _ hk1).mono ?_
  rintro x w5 ⟨be, ba, rfl, hkd, hb5⟩
  unfold flipF codeF
  have hk5 := hk1.below hb5 (Nat.le_refl _)
  have hb5' := hb1.trans (hb5.mono hb1.size)
  have hgl := hb5'.size
  clear hr1 hk1 hb1 hb5
  go_wp2_with fail
  refine (parts_any sb so m d (by omega) (by omega) hmd w5).mono ?_
  rintro x w6 ⟨o, _, ho, rfl, rfl⟩
  have hk6 : Consts w5.drew := hk5.drew
  have hkd6 : Keyed (keysB key s) be ba w5.drew := hkd.below (Below.refl _ _).drew
  have hb6 : Below w.heap.size w w5.drew := hb5'.drew
  generalize w5.drew = w6 at *
  clear hk5 hkd hb5' hgl
  go_wp2_with fail
  have hv0 := SliceOf.congr (e' := e) (part_slice Hcell.out hb6 0 16 16 so (fun _ => rfl) (by omega) (Nat.le_refl _)) (fun j hj => by rw [Nat.zero_add])
  have hv1 := part_slice Hcell.out hb6 16 (m - 48) (m - 48) o (fun h => ho (by omega)) (by omega) (Nat.le_refl _)
  have hpt := Law02.parts_two w6 (three 16 (m - 48) 0) (three e (fun j => e (16 + j)) (fun _ => 0)) _ _ hv0 hv1
  have h67 := (Below.refl w6.heap.size w6).alloc (Nat.le_refl _) (.cells #[.slice (some ⟨sb, so, none⟩) 16 16, .slice (some ⟨sb, o, none⟩) (m - 48) (m - 48)] 25)
  generalize w6.alloc (.cells #[.slice (some ⟨sb, so, none⟩) 16 16, .slice (some ⟨sb, o, none⟩) (m - 48) (m - 48)] 25) = w7 at *
  have hb7 := hb6.trans (h67.mono hb6.size)
  have hkd7 := hkd6.below h67
  refine (codeOf_any (keysB key s) be ba 2 _ _ _ w7 (hk6.below h67 (Nat.le_refl _)) hkd7 hpt (show 0 + 16 + (m - 48) ≤ _ by omega) (by omega)).mono ?_
  rw [code_two]
  obtain ⟨D, hD⟩ : ∃ D, D = code (authB (keysB key s)) 32 (cat e 16 (fun j => e (16 + j))) (16 + (m - 48)) := ⟨_, rfl⟩
  rw [← hD]
  have hok : okB (keysB key s) e m = sameBytes 32 32 D (fun j => e (m - 32 + j)) := by
    unfold okB
    refine same_congr (fun j _ => ?_) (fun _ _ => rfl)
    rw [hD, show 16 + (m - 48) = m - 32 by omega]
    refine congrFun (code_congr _ _ _ _ _ _ (fun _ _ => rfl) (fun i hi => ?_)) j
    by_cases h16 : i < 16
    · rw [cat_lt _ _ _ _ h16]
    · rw [cat_ge _ _ _ _ (by omega), show 16 + (i - 16) = i by omega]
  clear hD
  rintro x w8 ⟨rfl, hb8⟩
  have hkd8 := hkd7.below hb8
  have hb8' := hb7.trans (hb8.mono hb7.size)
  have k2 := fun b W => all_run (P := Tryd.prog) 43 5 32 Tryd.underlying43 (by kernel_rfl) b 0 W
  clear hv0 hv1 hpt h67 hb6 hkd6 hk6 hkd7 hb7 hb8
  go_wp2_with (refine store_whole (by rfl) 43 (.tmp 13) (.tmp 39) (by rfl) w8.heap.size _ 32 (fun _ => .int .u8 0) (fun j => .int .u8 ((D j).toNat : Int)) (by exact row_new w8 _ _ 32 _ (by rfl) (zeros32 _ (by rfl))) (by rfl) _ (by rfl) (by kernel_rfl) (size_cellsOf _ _) (cellsOf_at _ _) (fun _ _ => rfl) ?_
               intro w9 hr9 ho9)
  have hb9 := ho9.below (hb8'.alloc hb8'.size _) hb8'.size
  have h89 : Below w8.heap.size w8 w9 := ho9.below ((Below.refl _ _).alloc (Nat.le_refl _) _) (Nat.le_refl _)
  have hkd9 := hkd8.below h89
  have hs9 : SliceOf w9 w9.heap.size 32 D (.slice (some ⟨w8.heap.size, 0, none⟩) 32 32) := ⟨_, _, rfl, by omega, fun _ => ⟨_, 0, rfl, by have := World.rowIs.lt hr9; omega, fun j hj => by rw [Nat.zero_add]; exact World.rowIs.cell hr9 hj⟩⟩
  have hv9 := part_slice Hcell.out hb9 (m - 32) 32 32 (so + (m - 32)) (fun _ => rfl) (by omega) (Nat.le_refl _)
  refine (equal_any _ _ 32 32 32 32 D (fun j => e (m - 32 + j)) _ _ w9 hs9 hv9 (by omega) (by omega)).mono ?_
  rw [← hok]
  rintro x w10 ⟨rfl, q, rfl⟩
  have hkd10 := hkd9.below (below_drewN (Below.refl _ _) q)
  have hb10 := below_drewN hb9 q
  generalize w9.drewN q = w10 at *
  clear hkd8 hb8' k2 hr9 ho9 hb9 h89 hkd9 hs9 hv9 hok
  by_cases hy : okB (keysB key s) e m = true
  · rw [hy]
    go_wp2_with fail
    refine (flipOf_any (keysB key s) e (fun j => e (16 + j)) be sb so 16 (m - 48) (m - 48) _ w10 hkd10.enc (fun j hj => (hb10.cell (p := ⟨sb, so + j, none⟩) hsb).trans (Hcell.out j (by omega))) (part_slice Hcell.out hb10 16 (m - 48) (m - 48) o (fun h => ho (by omega)) (by omega) (Nat.le_refl _)) (by omega)).mono ?_
    rintro x w11 ⟨A11, c11, rfl, hs11, hb11⟩
    go_wp2
    go_ret2
    exact .inl ⟨hy, A11, c11, rfl, hs11, hb10.trans (hb11.mono hb10.size)⟩
  · have hn : okB (keysB key s) e m = false := by simpa using hy
    rw [hn]
    go_wp2
    go_ret2
    exact .inr ⟨hn, rfl, hb10⟩
end Go.Proofs.YtfjoflpidmjkbaaDoor.Seal
