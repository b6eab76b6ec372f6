/-
  What bartizanref05.Seal does: the document's own sealed form, or why not.
-/
import Derived.Test.YtfjoflpidmjkbaaDoorRefKeys5
import Derived.Test.YtfjoflpidmjkbaaDoorRefFlip
import Derived.Test.YtfjoflpidmjkbaaDoorMix
import Derived.Test.YtfjoflpidmjkbaaDoorSealSeal
namespace Go.Proofs.YtfjoflpidmjkbaaDoor.Seal
open Go Go.RowKit Go.Proofs.YtfjoflpidmjkbaaDoor.Aid Go.Proofs.YtfjoflpidmjkbaaDoor.Sha Go.Proofs.YtfjoflpidmjkbaaDoor.Mac Go.Proofs.YtfjoflpidmjkbaaDoor.Aes Go.Proofs.YtfjoflpidmjkbaaDoor.Ctr

theorem str_none (s : ByteArray) : s.toList = [] ↔ s.size = 0 := by
  rw [ByteArray.toList_eq]
  constructor
  · intro h
    have := congrArg List.length h
    simpa using this
  · intro h
    exact List.eq_nil_of_length_eq_zero (by simpa using h)

theorem str_some (s : ByteArray) (h : 1 ≤ s.size) : s.toList.isEmpty = false := by
  rw [List.isEmpty_eq_false_iff]
  intro h'
  have := (str_none s).1 h'
  omega
set_option maxRecDepth 100000 in
theorem refSeal_arg (s : ByteArray) (h : ¬ (1 ≤ s.size ∧ s.size ≤ 40)) (C F : Array Value) (B : Option Addr) (n d : Nat) (w : World) :
    Calls Tryd.prog 8 #[.agg C, .string s, .agg F, .slice B n d] w fun x w' => x = .returned (.tuple #[.slice none 0 0, .int .i64 1]) ∧ Below w.heap.size w w' := by
  have hb : Below w.heap.size w ((w.alloc (.cells C 23)).alloc (.cells F 23)) := ((Below.refl _ _).alloc (Nat.le_refl _) _).alloc (by simp) _
  by_cases hz : s.size = 0
  · have hE : s.toList = [] := (str_none s).2 hz
    go_enter Tryd.func8, Tryd.ntmps8
    go_wp2
    go_ret2
    exact ⟨rfl, hb⟩
  · have hE : ¬ s.toList = [] := fun h => hz ((str_none s).1 h)
    have hg : (40 : Int) < (s.size : Int) := by omega
    go_enter Tryd.func8, Tryd.ntmps8
    go_wp2
    go_ret2
    exact ⟨rfl, hb⟩
set_option maxRecDepth 100000 in
theorem refSeal_full (s : ByteArray) (h : 1 ≤ s.size ∧ s.size ≤ 40) (C F : Array Value) (B : Option Addr) (n d : Nat) (hn : 1000 < n) (w : World) :
    Calls Tryd.prog 8 #[.agg C, .string s, .agg F, .slice B n d] w fun x w' => x = .returned (.tuple #[.slice none 0 0, .int .i64 7]) ∧ Below w.heap.size w w' := by
  have hb : Below w.heap.size w ((w.alloc (.cells C 23)).alloc (.cells F 23)) := ((Below.refl _ _).alloc (Nat.le_refl _) _).alloc (by simp) _
  have hE : s.toList.isEmpty = false := str_some s h.1
  have hg : ¬ (40 : Int) < (s.size : Int) := by omega
  have q0 : (1000 : Int) < (n : Int) := by omega
  go_enter Tryd.func8, Tryd.ntmps8
  go_wp2
  go_ret2
  exact ⟨rfl, hb⟩

set_option maxRecDepth 100000 in
set_option maxHeartbeats 4000000 in
theorem refSeal_ok (key first e : Nat → BitVec 8) (s : ByteArray) (h : 1 ≤ s.size ∧ s.size ≤ 40) (C F : Array Value) (hC : C.size = 16) (hCi : ∀ i, i < 16 → C[i]? = some (.int .u8 ((key i).toNat : Int)))
    (hF : F.size = 16) (hFi : ∀ i, i < 16 → F[i]? = some (.int .u8 ((first i).toNat : Int))) (B : Option Addr) (n d : Nat) (w : World) (hp : SliceOf w w.heap.size n e (.slice B n d)) (hn : n ≤ 1000) :
    Calls Tryd.prog 8 #[.agg C, .string s, .agg F, .slice B n d] w fun x w' => ∃ v, x = .returned (.tuple #[v, .int .i64 0]) ∧ SliceOf w' w'.heap.size (48 + n) (formB (keysB key s) first e n) v ∧ Below w.heap.size w w' := by
  have hE : s.toList.isEmpty = false := str_some s h.1
  have hg : ¬ (40 : Int) < (s.size : Int) := by omega
  have q0 : ¬ (1000 : Int) < (n : Int) := by omega
  have h1 : ∃ w1, w1 = (w.alloc (.cells C 23)).alloc (.cells F 23) ∧ RowB w1 w.heap.size 23 16 key ∧ RowB w1 (w.heap.size + 1) 23 16 first ∧ Below w.heap.size w w1 := by
    have r2 := row_new (w.alloc (.cells C 23)) F 23 16 (fun j => .int .u8 ((first j).toNat : Int)) hF hFi
    rw [World.size_alloc] at r2
    exact ⟨_, rfl, (row_new w C 23 16 (fun j => .int .u8 ((key j).toNat : Int)) hC hCi).alloc _, r2, ((Below.refl _ _).alloc (Nat.le_refl _) _).alloc (by simp) _⟩
  obtain ⟨w1, hw1, hr1, hr2, hb1⟩ := h1
  have hp1 := slice_any (slice_below hp hb1) (Nat.le_refl _)
  have hx : ∀ j, j < 16 → ((w.alloc (.cells C 23)).alloc (.cells F 23)).cell? ⟨w.heap.size, 0 + j, none⟩ = some (.int .u8 ((key j).toNat : Int)) := fun j hj => by rw [← hw1, Nat.zero_add]; exact World.rowIs.cell hr1 hj
  have HX := Lib.hid hx
  have HW := Lib.hid hw1
  clear hCi hFi hC hF hp hw1 hx
  go_enter Tryd.func8, Tryd.ntmps8
  go_wp2_with (refine load_bytes (by rfl) 23 (.tmp 4) (by rfl) w.heap.size 0 16 key HX.out (by rfl) _ Tryd.underlying23 rfl (by kernel_rfl) ?_)
  rw [← HW.out]
  clear HX HW
  refine (refKeys5_any key s (by omega) _ (size_cellsOf _ _) (cellsOf_at _ _) w1).mono ?_
  rintro x w2 ⟨A2, c2, rfl, ha2, hb2⟩
  have hr3 := World.rowIs.of_block hr2 (hb2.block _ (World.rowIs.lt hr2))
  have hp3 := slice_any (slice_below hp1 hb2) (Nat.le_refl _)
  have hb2' := hb1.trans (hb2.mono hb1.size)
  clear hr1 hr2 hp1 hb1 hb2
  go_wp2_with (refine store_whole (by rfl) 22 (.tmp 10) (.tmp 28) (by rfl) w2.heap.size _ 16 (fun _ => .int .u8 0) (fun j => .int .u8 ((keysB key s j).toNat : Int)) (by exact row_new w2 _ _ 16 _ (by rfl) (zeros16 _ (by rfl))) (by rfl) _ (by rfl) (by kernel_rfl) (size_cellsOf _ _) (cellsOf_at _ _) (fun _ _ => rfl) ?_
               intro w5 hk5 ho5)
  have h25 : Below w2.heap.size w2 w5 := ho5.below ((Below.refl _ _).alloc (Nat.le_refl _) _) (Nat.le_refl _)
  have hf5 := World.rowIs.of_block hr3 (h25.block _ (World.rowIs.lt hr3))
  have hp5 := slice_any (slice_below hp3 h25) (Nat.le_refl _)
  have ha5 := slice_any (slice_below ha2 h25) (Nat.le_refl _)
  have hb5 := hb2'.trans (h25.mono hb2'.size)
  clear hr3 hp3 ha2 hb2' ho5 h25
  have k1 := fun b W => all_run (P := Tryd.prog) 23 5 16 Tryd.underlying23 (by kernel_rfl) b 0 W
  obtain ⟨g, hg'⟩ : ∃ g, g = w5.heap.size := ⟨_, rfl⟩
  have hfl := World.rowIs.lt hf5
  have hkl := World.rowIs.lt hk5
  have hS : Below w5.heap.size w5 w5.drew := (Below.refl _ _).drew
  refine region_mix (fun W => Below w5.heap.size w5 W) [(1, true), (3, true), (4, true), (5, true), (0, false), (2, false), (6, false), (7, false), (8, false)] (by kernel_rfl) (by kernel_rfl) hS ?_
  refine m_val rfl (by rfl) (.slice (some ⟨w.heap.size + 1, 0, none⟩) 16 16) (fun W _ => by go_simp) ?_
  simp only [Act.put, List.setIfInBounds_toArray, List.set_cons_zero, List.set_cons_succ]
  refine m_load rfl (by rfl) 22 (.tmp 10) (by rfl) w2.heap.size 0 _ 16 16 _ (fun W hW => World.rowIs.of_block hk5 (hW.block _ hkl)) (by rfl) _ Tryd.underlying22 rfl (by kernel_rfl) (by omega) ?_
  simp only [Act.put, List.setIfInBounds_toArray, List.set_cons_zero, List.set_cons_succ, Nat.zero_add]
  refine m_load rfl (by rfl) 23 (.tmp 6) (by rfl) (w.heap.size + 1) 0 _ 16 16 _ (fun W hW => World.rowIs.of_block hf5 (hW.block _ hfl)) (by rfl) _ Tryd.underlying23 rfl (by kernel_rfl) (by omega) ?_
  simp only [Act.put, List.setIfInBounds_toArray, List.set_cons_zero, List.set_cons_succ, Nat.zero_add]
  refine m_val rfl (by rfl) (.slice B n d) (fun W _ => by go_simp) ?_
  simp only [Act.put, List.setIfInBounds_toArray, List.set_cons_zero, List.set_cons_succ]
  refine m_go rfl ?_
  go_wp2_with fail
  have h6 : Below w5.heap.size w5 ((w5.alloc (.cells #[] 5)).drew) := ((Below.refl _ _).alloc (Nat.le_refl _) _).drew
  have hown6 : Aid.Own ((w5.alloc (.cells #[] 5)).drew) w5.heap.size 0 first (.slice (some ⟨w5.heap.size, 0, none⟩) 0 0) := own_empty8 w5 first
  generalize (w5.alloc (.cells #[] 5)).drew = w6 at *
  have hf6 := World.rowIs.of_block hf5 (h6.block _ hfl)
  have hs6 : SliceOf w6 w6.heap.size 16 first (.slice (some ⟨w.heap.size + 1, 0, none⟩) 16 16) := SliceOf.congr (row_slice (t := 23) (f := first) hf6 0 16 16 0 (fun _ => rfl) (by omega) (Nat.le_refl _)) (fun j _ => by rw [Nat.zero_add])
  clear hS k1 hf6 hk5 hf5
  refine m_on h6 ?_
  refine m_go rfl ?_
  go_wp2_with (at_builtin
               refine append_bytes (by rfl) (.tmp 30) (.tmp 31) (by rfl) w5.heap.size 0 first _ (by rfl) hown6 w6.heap.size 16 first _ (by rfl) hs6 (by omega) h6.size ?_
               intro v7 w7 hown7' hg7 _)
  have h7 : Below w5.heap.size w5 w7 := h6.grown hg7 h6.size (fun b hb => (hown6.lt hb).1)
  have hown7 : Aid.Own w7 w5.heap.size 16 first v7 := Aid.Own.congr' hown7' (fun j hj => by rw [cat_ge _ _ _ _ (by omega), Nat.sub_zero])
  obtain ⟨A7, c7, rfl, _, _⟩ := own_shape hown7
  clear h6 hown6 hs6 hg7 hown7'
  refine m_on h7 ?_
  refine m_go rfl ?_
  go_wp2_with fail
  refine (refFlip_any (keysB key s) first e _ _ (size_cellsOf _ _) (cellsOf_at _ _) (size_cellsOf _ _) (cellsOf_at _ _) B n d w7 (slice_any (slice_below hp5 h7) (Nat.le_refl _)) hn).mono ?_
  rintro x w8 ⟨v8, rfl, hown8, hb8⟩
  have h8 := h7.trans (hb8.mono h7.size)
  have hown78 := hown7.below hb8
  have hs8 := hown8.slice (g' := w8.heap.size) (.inr (Nat.le_refl _))
  obtain ⟨A8, c8, rfl, _, _⟩ := own_shape hown8
  clear h7 hown7 hb8 hown8
  go_wp2_with fail
  refine m_on h8 ?_
  refine m_go rfl ?_
  go_wp2_with (at_builtin
               refine append_bytes (by rfl) (.tmp 32) (.tmp 36) (by rfl) w5.heap.size 16 first _ (by rfl) hown78 w8.heap.size n (flipB (keysB key s) first e) _ (by rfl) hs8 (by omega) h8.size ?_
               intro v9 w9 hown9 hg9 _)
  have h9 : Below w5.heap.size w5 w9 := h8.grown hg9 h8.size (fun b hb => (hown78.lt hb).1)
  obtain ⟨A9, c9, rfl, _, _⟩ := own_shape hown9
  clear h8 hown78 hs8 hg9
  refine m_on h9 ?_
  refine m_go rfl ?_
  go_wp2_with fail
  refine m_on h9 ?_
  refine m_end ?_
  go_wp2_with fail
  have hs9 := hown9.slice (g' := w9.heap.size) (.inr (Nat.le_refl _))
  refine (refMac_any (authB (keysB key s)) (cat first 16 (flipB (keysB key s) first e)) A2 A9 32 c2 (16 + n) c9 w9 (slice_any (slice_below ha5 h9) (Nat.le_refl _)) (by omega) hs9 (by omega)).mono ?_
  obtain ⟨D, hD⟩ : ∃ D, D = code (authB (keysB key s)) 32 (cat first 16 (flipB (keysB key s) first e)) (16 + n) := ⟨_, rfl⟩
  rw [← hD]
  have HD := Lib.hid hD
  rintro x w10 ⟨rfl, hb10⟩
  have hown10 := hown9.below hb10
  have h10 := h9.trans (hb10.mono h9.size)
  have k2 := fun b W => all_run (P := Tryd.prog) 43 5 32 Tryd.underlying43 (by kernel_rfl) b 0 W
  have hb5s := hb5.size
  clear hown9 hs9 h9 hb10 hD hp5 ha5
  go_wp2_with (first
    | (refine store_whole (by rfl) 43 (.tmp 13) (.tmp 40) (by rfl) w10.heap.size _ 32 (fun _ => .int .u8 0) (fun j => .int .u8 ((D j).toNat : Int)) (by exact row_new w10 _ _ 32 _ (by rfl) (zeros32 _ (by rfl))) (by rfl) _ (by rfl) (by kernel_rfl) (size_cellsOf _ _) (cellsOf_at _ _) (fun _ _ => rfl) ?_
       intro w11 hr11 ho11
       have h1011 : Below w10.heap.size w10 w11 := ho11.below ((Below.refl _ _).alloc (Nat.le_refl _) _) (Nat.le_refl _)
       have hown11 := hown10.below h1011
       have h11 := h10.trans (h1011.mono h10.size)
       have hs11 : SliceOf w11 w11.heap.size 32 D (.slice (some ⟨w10.heap.size, 0, none⟩) 32 32) := ⟨_, _, rfl, by omega, fun _ => ⟨_, 0, rfl, by have := World.rowIs.lt hr11; omega, fun j hj => by rw [Nat.zero_add]; exact World.rowIs.cell hr11 hj⟩⟩
       clear hr11 ho11 h1011 hown10 h10)
    | (at_builtin
       refine append_bytes (by rfl) (.tmp 41) (.tmp 42) (by rfl) w5.heap.size (16 + n) _ _ (by rfl) hown11 w11.heap.size 32 D _ (by rfl) hs11 (by omega) h11.size ?_
       intro v12 w12 hown12 hg12 _))
  have h12 : Below w5.heap.size w5 w12 := h11.grown hg12 h11.size (fun b hb => (hown11.lt hb).1)
  go_ret2
  refine ⟨_, rfl, ?_, hb5.trans (h12.mono hb5s)⟩
  have := hown12.slice (g' := w12.heap.size) (.inr (Nat.le_refl _))
  rw [show 16 + n + 32 = 48 + n by omega, HD.out] at this
  exact this
end Go.Proofs.YtfjoflpidmjkbaaDoor.Seal
