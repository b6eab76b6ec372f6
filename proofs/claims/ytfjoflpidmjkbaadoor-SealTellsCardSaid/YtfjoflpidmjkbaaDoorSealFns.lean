/-
  What the two functions of seal.keyed do: they flip, and tell the code, each by its own key.
-/
import Derived.Test.YtfjoflpidmjkbaaDoorSealKeyed
import Derived.Test.YtfjoflpidmjkbaaDoorCtrFlip
namespace Go.Proofs.YtfjoflpidmjkbaaDoor.Seal
open Go Go.RowKit Go.Proofs.YtfjoflpidmjkbaaDoor.Aid Go.Proofs.YtfjoflpidmjkbaaDoor.Sha Go.Proofs.YtfjoflpidmjkbaaDoor.Mac Go.Proofs.YtfjoflpidmjkbaaDoor.Aes Go.Proofs.YtfjoflpidmjkbaaDoor.Ctr Go.Proofs.YtfjoflpidmjkbaaDoor.Law01

set_option maxRecDepth 100000 in
set_option maxHeartbeats 1000000 in
theorem flipOf_any (ks first e : Nat → BitVec 8) (be sb so c1 n d : Nat) (B : Option Addr) (w : World) (hk : RowB w be 22 16 ks) (hf : ∀ j, j < 16 → w.cell? ⟨sb, so + j, none⟩ = some (.int .u8 ((first j).toNat : Int)))
    (hs : SliceOf w w.heap.size n e (.slice B n d)) (hn : n ≤ 1000) :
    Calls Tryd.prog 20 #[.slice (some ⟨sb, so, none⟩) 16 c1, .slice B n d, .pointer (some ⟨be, 0, none⟩)] w fun x w' => ∃ A' c', x = .returned (.slice A' n c') ∧ SliceOf w' w'.heap.size n (flipB ks first e) (.slice A' n c') ∧ Below w.heap.size w w' := by
  have k4 := fun W => run_arrayAt' (P := Tryd.prog) 22 5 16 (some ⟨sb, so, none⟩) 16 c1 W Tryd.underlying22 (by omega)
  have hk1 : RowB w.drew be 22 16 ks := hk
  have hf1 : ∀ j, j < 16 → w.drew.cell? ⟨sb, so + j, none⟩ = some (.int .u8 ((first j).toNat : Int)) := hf
  have hs1 : SliceOf w.drew w.drew.heap.size n e (.slice B n d) := hs
  have hb1 : Below w.heap.size w w.drew := (Below.refl _ _).drew
  have HF := Lib.hid hf1
  clear hk hf hs hf1
  go_enter Tryd.func20, Tryd.ntmps20
  go_wp2
  refine region_tail 5 (by kernel_rfl) (by kernel_rfl) ?_
  generalize w.drew = w1 at *
  refine still_bytes (by rfl) 22 (.tmp 2) (by rfl) be 0 16 ks (fun j hj => by rw [Nat.zero_add]; exact World.rowIs.cell hk1 hj) (by rfl) _ Tryd.underlying22 rfl (by kernel_rfl) ?_
  repeat still_step
  refine still_bytes (by rfl) 22 (.tmp 8) (by rfl) sb so 16 first HF.out (by rfl) _ Tryd.underlying22 rfl (by kernel_rfl) ?_
  repeat still_step
  refine wpStill_nil ?_
  go_wp2_with fail
  refine (ctrFlip_any ks first e _ _ (size_cellsOf _ _) (cellsOf_at _ _) (size_cellsOf _ _) (cellsOf_at _ _) B n d w1 hs1 hn).mono ?_
  rintro x w2 ⟨A', c', rfl, hsl, hb2⟩
  go_wp2
  go_ret
  exact ⟨A', c', rfl, hsl, hb1.trans (hb2.mono hb1.size)⟩

set_option maxRecDepth 100000 in
set_option maxHeartbeats 1000000 in
theorem codeOf_any (ks : Nat → BitVec 8) (be ba k : Nat) (m : Nat → Nat) (e : Nat → Nat → BitVec 8) (v : Value) (w : World) (hc : Consts w) (hk : Keyed ks be ba w) (hp : PartsOf w k m e v) (hoff : off m k ≤ 1000000) (hkk : k ≤ 1000000) :
    Calls Tryd.prog 22 #[v, .pointer (some ⟨ba, 0, none⟩)] w fun x w' => x = .returned (.agg (byteCells 32 (code (authB ks) 32 (catAll m e k) (off m k)))) ∧ Below w.heap.size w w' := by
  have h1 : ∃ w1, w1 = w.alloc (.cells (Array.replicate 32 (.int .u8 0)) 43) ∧ w1.rowIs w.heap.size 43 32 (fun _ => .int .u8 0) ∧ Below w.heap.size w w1 :=
    ⟨_, rfl, row_new w _ _ 32 _ (by simp) (zeros32 _ rfl), (Below.refl _ _).alloc (Nat.le_refl _) _⟩
  obtain ⟨w1, hw1, hr1, hb1⟩ := h1
  have hc1 := hc.below hb1 (Nat.le_refl _)
  obtain ⟨g, hg1, hs1⟩ := hk.auth
  have hga : ∀ o, (w.alloc o).cell? ⟨ba, 0, none⟩ = some (.slice (some ⟨g, 16, none⟩) 32 32) := fun o => (((Below.refl w.heap.size w).alloc (Nat.le_refl _) o).cell (p := ⟨ba, 0, none⟩) (block_lt_of_cell hg1)).trans hg1
  have hs1 := slice_any (slice_below hs1 hb1) (Nat.le_refl _)
  have hp1 : PartsOf w1 k m e v := by
    obtain ⟨A, c, rfl, h⟩ := hp
    refine ⟨A, c, rfl, fun h0 => ?_⟩
    obtain ⟨sb, so, hA, h⟩ := h h0
    refine ⟨sb, so, hA, fun i hi => ?_⟩
    obtain ⟨u, hu, hs⟩ := h i hi
    exact ⟨u, (hb1.cell (p := ⟨sb, so + i, none⟩) (block_lt_of_cell hu)).trans hu, slice_any (slice_below hs hb1) (Nat.le_refl _)⟩
  have hmac := mac_any (authB ks) (some ⟨g, 16, none⟩) 32 32 w1.heap.size k m e v w1 hc1 hs1 (by omega) hp1 hoff hkk
  have Hmac := Lib.hid hmac
  clear hk hc hc1 hs1 hp hp1 hmac hg1
  go_enter Tryd.func22, Tryd.ntmps22
  go_wp2_with fail
  change Calls Tryd.prog 23 _ (w.alloc (.cells (Array.replicate 32 (.int .u8 0)) 43)) _
  rw [← hw1]
  refine Hmac.out.mono ?_
  rintro x w2 ⟨rfl, hb2⟩
  have hr2 := hr1.of_block (hb2.block _ hr1.lt)
  have hb2' := hb1.trans (hb2.mono hb1.size)
  clear hr1 hb1 hb2 hw1 hga Hmac
  go_wp2_with (refine store_whole (by rfl) 43 (.tmp 3) (.tmp 6) (by rfl) w.heap.size _ 32 _ (fun t => .int .u8 ((code (authB ks) 32 (catAll m e k) (off m k) t).toNat : Int)) hr2 (by rfl) _ (by rfl) (by kernel_rfl) (size_cellsOf _ _) (cellsOf_at _ _) (fun _ _ => rfl) ?_
               intro w3 hr3 ho3)
  exact bodyPost_ret (results_row rfl _ w.heap.size _ _ _ _ (by rfl) hr3 Tryd.underlying43 rfl (by kernel_rfl)) rfl ⟨rfl, ho3.below hb2' (Nat.le_refl _)⟩
end Go.Proofs.YtfjoflpidmjkbaaDoor.Seal
