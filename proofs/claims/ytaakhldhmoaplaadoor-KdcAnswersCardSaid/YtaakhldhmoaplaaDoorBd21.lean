/-
  What bartizanref04.Next does: the document's own counter further on. What bartizanref04.Flip does: the document's own counter mode.
-/
import Derived.Test.YtaakhldhmoaplaaDoorBd01
import Derived.Test.YtaakhldhmoaplaaDoorBd16
import Derived.Test.YtaakhldhmoaplaaDoorBd06
import Derived.Test.YtaakhldhmoaplaaDoorBd20
namespace Go.Proofs.YtaakhldhmoaplaaDoor.Ctr
open Go Go.RowKit Go.Proofs.YtaakhldhmoaplaaDoor.Aid Go.Proofs.YtaakhldhmoaplaaDoor.Aes

/-- The last k bytes are those of g, the others those of f. -/
def downTo (f g : Blk) (k j : Nat) : BitVec 8 := if 16 ≤ j + k then g j else f j
theorem downTo_next {w : World} {b t : Nat} {f g : Blk} {k : Nat} (hk : k < 16) (h : RowB w b t 16 (downTo f g k)) (v : Int) (hv : v = ((g (15 - k)).toNat : Int)) : RowB (w.setCell ⟨b, 15 - k, none⟩ (.int .u8 v)) b t 16 (downTo f g (k + 1)) := by
  refine World.rowIs.congr (World.rowIs.set h (15 - k) (.int .u8 v)) (fun i hi => ?_)
  unfold downTo
  by_cases h1 : i = 15 - k
  · subst h1
    rw [if_pos rfl, hv, if_pos (by omega)]
  · rw [if_neg h1]
    by_cases h2 : 16 ≤ i + k
    · rw [if_pos h2, if_pos (by omega)]
    · rw [if_neg h2, if_neg (by omega)]
/-- The call's two blocks: the counter under way, the result's place. -/
structure NextRel (f : Blk) (w wr : World) : Prop where
  r0 : RowB wr w.heap.size 24 16 f
  r1 : wr.rowIs (w.heap.size + 1) 24 16 (fun _ => .int .u8 0)
  hb : Below w.heap.size w wr
theorem next_new (f : Blk) (X Z : Array Value) (hX : X.size = 16) (hXi : ∀ i, i < 16 → X[i]? = some (.int .u8 ((f i).toNat : Int))) (hZ : Z = Array.replicate 16 (.int .u8 0)) (w : World) :
    ∃ W, W = (w.alloc (.cells X 24)).alloc (.cells Z 24) ∧ NextRel f w W := by
  have s1 : (w.alloc (.cells X 24)).heap.size = w.heap.size + 1 := by simp
  have r1 := (row_new w X 24 16 (fun j => .int .u8 ((f j).toNat : Int)) hX hXi).alloc (.cells Z 24)
  have r2 := row_new (w.alloc (.cells X 24)) Z 24 16 _ (by rw [hZ]; simp) (zeros16 Z hZ)
  rw [s1] at r2
  exact ⟨_, rfl, r1, r2, ((Below.refl _ _).alloc (Nat.le_refl _) _).alloc (by simp) _⟩
theorem NextRel.set {f g : Blk} {i : Nat} {w wr : World} {v : Int} (h : NextRel f w wr) (hs : RowB (wr.setCell ⟨w.heap.size, i, none⟩ (.int .u8 v)) w.heap.size 24 16 g) : NextRel g w (wr.setCell ⟨w.heap.size, i, none⟩ (.int .u8 v)) :=
  ⟨hs, World.rowIs.setOther (a := ⟨w.heap.size, i, none⟩) h.r1 (by simp) _, h.hb.setCell (p := ⟨w.heap.size, i, none⟩) (by simp) _⟩
theorem NextRel.congr {f g : Blk} {w wr : World} (h : NextRel f w wr) (hf : Same16 f g) : NextRel g w wr := ⟨World.rowIs.congr h.r0 (fun i hi => by rw [hf i hi]), h.r1, h.hb⟩

/-- One byte more. -/
theorem ref_step {at_ : Blk} {by_ k B C : Nat} (hk : k < 16) (hC : C ≤ 1) (H : acc at_ by_ k = B + C) :
    (((at_ (15 - k)).toNat + B % 256 + C) % 256 = (nextB at_ by_ (15 - k)).toNat) ∧ acc at_ by_ (k + 1) = B / 256 + ((at_ (15 - k)).toNat + B % 256 + C) / 256 ∧ ((at_ (15 - k)).toNat + B % 256 + C) / 256 ≤ 1 := by
  have h2 := (at_ (15 - k)).isLt
  refine ⟨?_, ?_, by omega⟩
  · rw [nextB_acc at_ by_ k hk, BitVec.toNat_ofNat, H]
    omega
  · rw [acc_succ, H]
    omega

set_option maxRecDepth 100000 in
set_option maxHeartbeats 1000000 in
theorem refNext_any (at_ : Blk) (by_ : Nat) (hby : by_ < 2 ^ 64) (X : Array Value) (hX : X.size = 16) (hXi : ∀ i, i < 16 → X[i]? = some (.int .u8 ((at_ i).toNat : Int))) (w : World) :
    Calls Tryd.prog 62 #[.agg X, .int .u64 (by_ : Int)] w fun x w' => x = .returned (.agg (byteRow 16 (nextB at_ by_))) ∧ Below w.heap.size w w' := by
  have hr := Lib.hid (fun Z hZ => next_new at_ X Z hX hXi hZ w)
  have Hby := Lib.hid hby
  clear hXi hby
  go_enter Tryd.func62, Tryd.ntmps62
  go_wp2
  obtain ⟨W, hW, h0⟩ := hr.out _ rfl
  change Code.wp _ _ _ _ ((w.alloc (.cells X 24)).alloc (.cells (Array.replicate 16 (.int .u8 0)) 24))
  rw [← hW]
  clear hW hr
  go_loopw [1, 5, 6, 7] (fun b c i _ wr => ∃ k B C : Nat, k ≤ 16 ∧ C ≤ 1 ∧ b = .int .u64 (B : Int) ∧ c = .int .u64 (C : Int) ∧ i = .int .i64 (15 - (k : Int)) ∧ Hid (B < 2 ^ 64) ∧ Hid (acc at_ by_ k = B + C) ∧ Hid (NextRel (downTo at_ (nextB at_ by_) k) w wr)) (fun _ _ i _ _ => (intOf i + 1).toNat)
  case atStart => exact ⟨0, by_, 0, by omega, by omega, rfl, rfl, rfl, Hby.out, acc_zero at_ by_, h0.congr (fun i hi => by unfold downTo; rw [if_neg (by omega)])⟩
  case round =>
    clear h0
    obtain ⟨k, B, C, hk, hC, rfl, rfl, rfl, HB, H, h⟩ := hrel
    by_cases hlt : k < 16
    · obtain ⟨i, hi⟩ : ∃ i, i = 15 - k := ⟨_, rfl⟩
      have hi16 : i < 16 := by omega
      have e0 : (15 : Int) - (k : Int) = (i : Int) := by omega
      have hst := ref_step hlt hC H.out
      have c0 : wr.cell? ⟨w.heap.size, i, none⟩ = some (.int .u8 ((at_ i).toNat : Int)) := by
        rw [World.rowIs.cell h.out.r0 hi16]
        unfold downTo
        rw [if_neg (by omega)]
      have f0 : wr.frozen? ⟨w.heap.size, i, none⟩ = false := World.rowIs.frozen h.out.r0 i
      have hnx : Hid (∀ v : Int, v = ((nextB at_ by_ i).toNat : Int) → NextRel (downTo at_ (nextB at_ by_) (k + 1)) w (wr.setCell ⟨w.heap.size, i, none⟩ (.int .u8 v))) := fun v hv => by
        rw [hi] at hv ⊢
        exact h.out.set (downTo_next hlt h.out.r0 v hv)
      rw [← hi] at hst
      obtain ⟨m, hm⟩ : ∃ m, m = B % 256 := ⟨_, rfl⟩
      rw [← hm] at hst
      have hm256 : m < 256 := by omega
      have hby8 := (at_ i).isLt
      obtain ⟨N, hN⟩ : ∃ N, N = (at_ i).toNat + m + C := ⟨_, rfl⟩
      rw [← hN] at hst
      have e1 : (B : Int) % 256 = (m : Int) := by omega
      have e2 : ((at_ i).toNat : Int) + (m : Int) + (C : Int) = (N : Int) := by omega
      have hN600 : N < 600 := by omega
      have q1 : (0 : Int) ≤ (i : Int) := by omega
      have q2 : (i : Int) < 16 := by omega
      have Hst := Lib.hid hst
      have Hm := Lib.hid hm
      have HN := Lib.hid hN
      have Hi := Lib.hid hi
      rw [e0]
      clear hst hm hN h hi e0
      go_wp2
      have hB := HB.out
      have e3 : IntKind.u64.wrap ((B : Int) / 256) = (B : Int) / 256 := IntWalk.u64_in _ (by omega)
      exact ⟨⟨k + 1, B / 256, N / 256, by omega, Hst.out.2.2, ival (by rw [e3]; omega), ival (by omega), ival (by have := Hi.out; omega), Nat.lt_of_le_of_lt (Nat.div_le_self _ _) hB, Hst.out.2.1, hnx.out _ (by have := Hst.out.1; omega)⟩, by simp [intOf]⟩
    · have q0 : ¬ (0 : Int) ≤ 15 - (k : Int) := by omega
      have hr : wr.rowIs w.heap.size 24 16 (fun j => .int .u8 ((nextB at_ by_ j).toNat : Int)) := World.rowIs.congr h.out.r0 (fun j hj => by unfold downTo; rw [if_pos (by omega)])
      have hz := h.out.r1
      have hb := h.out.hb
      go_wp2_with (first
        | (refine load_whole (by rfl) 24 (.tmp 2) (by rfl) _ _ _ _ hr (by rfl) _ Tryd.underlying24 rfl (by kernel_rfl) ?_)
        | (refine store_whole (by rfl) 24 (.tmp 4) (.tmp 30) (by rfl) (w.heap.size + 1) _ 16 _ _ hz (by rfl) _ (by rfl) (by kernel_rfl) (size_cellsOf _ _) (cellsOf_at _ _) (fun _ _ => rfl) ?_
           intro w6 hr6 ho6))
      exact bodyPost_ret (results_row rfl _ (w.heap.size + 1) _ _ _ _ (by rfl) hr6 Tryd.underlying24 rfl (by kernel_rfl)) rfl ⟨rfl, ho6.below hb (by omega)⟩
end Go.Proofs.YtaakhldhmoaplaaDoor.Ctr

namespace Go.Proofs.YtaakhldhmoaplaaDoor.Ctr
open Go Go.RowKit Go.Proofs.YtaakhldhmoaplaaDoor.Aid Go.Proofs.YtaakhldhmoaplaaDoor.Aes

/-- The call's three blocks: the key, the counter, the block of the key stream. -/
structure FlipRel (key at_ M : Blk) (w wr : World) : Prop where
  r0 : RowB wr w.heap.size 24 16 key
  r1 : RowB wr (w.heap.size + 1) 24 16 at_
  r2 : RowB wr (w.heap.size + 2) 24 16 M
  hb : Below w.heap.size w wr
theorem FlipRel.below {key at_ M : Blk} {w wr wr' : World} {B : Nat} (h : FlipRel key at_ M w wr) (hb : Below B wr wr') (hB : w.heap.size + 3 ≤ B) : FlipRel key at_ M w wr' :=
  ⟨World.rowIs.of_block h.r0 (hb.block _ (by omega)), World.rowIs.of_block h.r1 (hb.block _ (by omega)), World.rowIs.of_block h.r2 (hb.block _ (by omega)), h.hb.trans (hb.mono (by omega))⟩
theorem FlipRel.drew {key at_ M : Blk} {w wr : World} (h : FlipRel key at_ M w wr) : FlipRel key at_ M w wr.drew := ⟨h.r0, h.r1, h.r2, h.hb.drew⟩
theorem FlipRel.store {key at_ M N : Blk} {w wr wr' : World} (h : FlipRel key at_ M w wr) (ho : Only (w.heap.size + 2) wr wr') (hr : RowB wr' (w.heap.size + 2) 24 16 N) : FlipRel key at_ N w wr' :=
  ⟨ho.row h.r0 (by omega), ho.row h.r1 (by omega), hr, ho.below h.hb (by omega)⟩
theorem stream_at {key at_ M : Blk} {k : Nat} (h : Same16 M (enc key (nextB at_ (k / 16)))) : M (k % 16) = stream key at_ k := h (k % 16) (by omega)

set_option maxRecDepth 100000 in
set_option maxHeartbeats 2000000 in
theorem refFlip_any (key at_ e : Nat → BitVec 8) (X Y : Array Value) (hX : X.size = 16) (hXi : ∀ i, i < 16 → X[i]? = some (.int .u8 ((key i).toNat : Int))) (hY : Y.size = 16) (hYi : ∀ i, i < 16 → Y[i]? = some (.int .u8 ((at_ i).toNat : Int)))
    (A : Option Addr) (n c : Nat) (w : World) (hs : SliceOf w w.heap.size n e (.slice A n c)) (hn : n ≤ 1000) :
    Calls Tryd.prog 46 #[.agg X, .agg Y, .slice A n c] w fun x w' => ∃ v, x = .returned v ∧ Own w' w.heap.size n (flipB key at_ e) v ∧ Below w.heap.size w w' := by
  have h0 : ∃ W, W = (w.alloc (.cells X 24)).alloc (.cells Y 24) ∧ W.heap.size = w.heap.size + 2 ∧ RowB W w.heap.size 24 16 key ∧ RowB W (w.heap.size + 1) 24 16 at_ ∧ Below w.heap.size w W := by
    have s1 : (w.alloc (.cells X 24)).heap.size = w.heap.size + 1 := by simp
    have r1 := (row_new w X 24 16 (fun j => .int .u8 ((key j).toNat : Int)) hX hXi).alloc (.cells Y 24)
    have r2 := row_new (w.alloc (.cells X 24)) Y 24 16 (fun j => .int .u8 ((at_ j).toNat : Int)) hY hYi
    rw [s1] at r2
    exact ⟨_, rfl, by simp, r1, r2, ((Below.refl _ _).alloc (Nat.le_refl _) _).alloc (by simp) _⟩
  obtain ⟨W, hW, hsz, hk0, ha0, hb0⟩ := h0
  have HS := Lib.hid hs
  clear hXi hYi hs
  go_enter Tryd.func46, Tryd.ntmps46
  go_wp2_with (first
    | (change wpList _ _ _ _ _ ((w.alloc (.cells X 24)).alloc (.cells Y 24))
       rw [← hW]
       clear hW
       refine build_named (by rfl) 24 _ (by rfl) (cellsOf 16 fun _ => .int .u8 0) (by kernel_rfl) ?_)
    | (refine store_whole (by rfl) 24 (.tmp 8) (.tmp 10) (by rfl) (w.heap.size + 2) _ 16 (fun _ => .int .u8 0) (fun _ => .int .u8 0) (by rw [← hsz]; exact row_new W _ _ 16 _ (by rfl) (zeros16 _ (by rfl))) (by rfl) _ (by rfl) (by kernel_rfl) (size_cellsOf _ _) (cellsOf_at _ _) (fun _ _ => rfl) ?_
       intro w3 hr3 ho3
       have h3 : Hid (FlipRel key at_ (fun _ => 0) w w3) := ⟨ho3.row (World.rowIs.alloc hk0 _) (by omega), ho3.row (World.rowIs.alloc ha0 _) (by omega), hr3, ho3.below (hb0.alloc hb0.size _) (by omega)⟩
       clear hk0 ha0 hb0 hsz hr3 ho3))
  go_loopw [7, 9] (fun o i wr => ∃ (k : Nat) (M : Blk), k ≤ n ∧ i = .int .i64 (k : Int) ∧ Hid (FlipRel key at_ M w wr) ∧ Hid (k % 16 ≠ 0 → Same16 M (enc key (nextB at_ (k / 16)))) ∧ Own wr (w.heap.size + 3) k (flipB key at_ e) o) (fun _ i _ => n - (intOf i).toNat)
  case atStart => exact ⟨0, fun _ => 0, by omega, rfl, h3.out, fun h => absurd rfl h, World.ownsRow_nil _ _ _ _⟩
  case round =>
    clear h3
    obtain ⟨k, M, hk, rfl, h, hM, hown⟩ := hrel
    by_cases hlt : k < n
    · have q0 : (0 : Int) ≤ (k : Int) := by omega
      have q1 : (k : Int) < (n : Int) := by omega
      obtain ⟨m, hm⟩ : ∃ m, m = k % 16 := ⟨_, rfl⟩
      have hm16 : m < 16 := by omega
      have e1 : (k : Int).tmod 16 = (m : Int) := by rw [Int.tmod_eq_emod_of_nonneg (by omega)]; omega
      have e2 : (k : Int) % 16 = (m : Int) := by omega
      have q2 : (0 : Int) ≤ (m : Int) := by omega
      have q3 : (m : Int) < 16 := by omega
      obtain ⟨A', c', ea, _, r1⟩ := HS.out
      simp only [Value.slice.injEq, true_and] at ea
      obtain ⟨rfl, rfl⟩ := ea
      obtain ⟨sb, so, rfl, _, hc⟩ := r1 (by omega)
      have cu0 := hc k hlt
      have hsb : sb < w.heap.size := block_lt_of_cell cu0
      have Hm := Lib.hid hm
      clear hc r1
      by_cases hm0 : k % 16 = 0
      · have b0 : ((m : Int) == 0) = true := by simp; omega
        obtain ⟨q, hq⟩ : ∃ q, q = k / 16 := ⟨_, rfl⟩
        have e3 : (k : Int) / 16 = (q : Int) := by omega
        have e4 : (k : Int).tdiv 16 = (q : Int) := by rw [Int.tdiv_eq_ediv_of_nonneg (by omega)]; omega
        have e5 : IntKind.u64.wrap (q : Int) = (q : Int) := IntWalk.u64_in _ (by omega)
        have e6 : IntKind.i64.wrap (q : Int) = (q : Int) := IntWalk.i64_in _ (by omega)
        have hkr := h.out.r0
        have har := h.out.r1
        have Hq := Lib.hid hq
        have Hm0 := Lib.hid hm0
        clear hq hm hm0
        go_wp2
        have hsz1 : w.heap.size + 3 ≤ wr.heap.size := by have := World.rowIs.lt h.out.r2; omega
        refine region_mix (Below (w.heap.size + 2) wr) [(0, true), (1, true), (2, true), (3, true), (4, true), (5, false), (6, false), (7, false)] (by kernel_rfl) (by kernel_rfl) (Below.refl _ wr).drew ?_
        refine m_load rfl (by rfl) 24 (.tmp 3) (by rfl) w.heap.size 0 _ 16 16 _ (fun W hW => World.rowIs.of_block hkr (hW.block _ (by omega))) (by rfl) _ Tryd.underlying24 rfl (by kernel_rfl) (by omega) ?_
        simp only [Act.put, List.setIfInBounds_toArray, List.set_cons_zero, List.set_cons_succ, Nat.zero_add]
        refine m_load rfl (by rfl) 24 (.tmp 4) (by rfl) (w.heap.size + 1) 0 _ 16 16 _ (fun W hW => World.rowIs.of_block har (hW.block _ (by omega))) (by rfl) _ Tryd.underlying24 rfl (by kernel_rfl) (by omega) ?_
        simp only [Act.put, List.setIfInBounds_toArray, List.set_cons_zero, List.set_cons_succ, Nat.zero_add]
        refine m_val rfl (by rfl) (.int .i64 (k : Int)) (fun W _ => by go_simp) ?_
        simp only [Act.put, List.setIfInBounds_toArray, List.set_cons_zero, List.set_cons_succ]
        refine m_val rfl (by rfl) (.int .i64 (q : Int)) (fun W _ => by go_simp) ?_
        simp only [Act.put, List.setIfInBounds_toArray, List.set_cons_zero, List.set_cons_succ]
        refine m_val rfl (by rfl) (.int .u64 (q : Int)) (fun W _ => by go_simp) ?_
        simp only [Act.put, List.setIfInBounds_toArray, List.set_cons_zero, List.set_cons_succ]
        refine m_go rfl ?_
        go_wp2_with fail
        refine (refNext_any at_ q (by omega) _ (size_cellsOf _ _) (cellsOf_at _ _) wr.drew).mono ?_
        rintro x w4 ⟨rfl, hb4⟩
        have hb4' : Below wr.heap.size wr w4 := (Below.refl _ wr).drew.trans hb4
        have h4 := Lib.hid (h.out.below hb4' hsz1)
        have hown4 := hown.below hb4'
        clear hkr har hb4
        go_wp2_with fail
        refine m_on (hb4'.mono (by omega)) ?_
        refine m_go rfl ?_
        go_wp2_with fail
        refine (refEncrypt_any key (nextB at_ q) _ _ (size_cellsOf _ _) (cellsOf_at _ _) (size_cellsOf _ _) (cellsOf_at _ _) w4).mono ?_
        rintro x w5 ⟨rfl, hb5⟩
        have hb5' : Below wr.heap.size wr w5 := hb4'.trans (hb5.mono hb4'.size)
        have h5 := Lib.hid (h4.out.below hb5 (by have := hb4'.size; omega))
        have hown5 := hown4.below hb5
        have hr5 := h5.out.r2
        clear hb5 hb4' h4 hown4 hown h
        go_wp2_with fail
        refine m_on (hb5'.mono (by omega)) ?_
        refine m_go rfl ?_
        go_wp2_with (refine store_whole (by rfl) 24 (.tmp 8) (.tmp 26) (by rfl) (w.heap.size + 2) _ 16 _ (fun j => .int .u8 ((enc key (nextB at_ q) j).toNat : Int)) hr5 (by rfl) _ (by rfl) (by kernel_rfl) (size_cellsOf _ _) (cellsOf_at _ _) (fun _ _ => rfl) ?_
                     intro w6 hr6 ho6
                     have h6 : Hid (FlipRel key at_ (enc key (nextB at_ q)) w w6) := h5.out.store ho6 hr6
                     have hown6 : Own w6 (w.heap.size + 3) k (flipB key at_ e) u7 := hown5.keep (fun b hb => ho6.block b (by have := (hown5.lt hb).1; omega))
                     clear hr6 hr5 h5 hown5)
        refine m_on ((hb5'.mono (by omega)).trans ⟨ho6.os, ho6.tape, ho6.output, by rw [ho6.size]; exact Nat.le_refl _, fun b hb => ho6.block b (by omega)⟩) ?_
        refine m_end ?_
        clear ho6 hb5'
        go_wp2
        obtain ⟨M', hM'⟩ : ∃ M', M' = enc key (nextB at_ q) := ⟨_, rfl⟩
        rw [← hM'] at h6
        have HM : Hid (Same16 M' (enc key (nextB at_ (k / 16)))) := by rw [hM', Hq.out]; exact fun _ _ => rfl
        clear hM'
        have cu := ((h6).out.hb.cell (p := ⟨sb, so + k, none⟩) hsb).trans cu0
        have cm : w6.cell? ⟨w.heap.size + 2, m, none⟩ = some (.int .u8 ((M' m).toNat : Int)) := World.rowIs.cell h6.out.r2 hm16
        have hx : Hid (flipB key at_ e k = e k ^^^ M' m) := by show e k ^^^ stream key at_ k = _; rw [Hm.out, stream_at HM.out]
        have hone := slice_below (slice_one w6 (w6.heap.size + 1) (by omega) (e k ^^^ M' m) (bits .xor .u8 ((e k).toNat : Int) ((M' m).toNat : Int)) (xor8 _ _)) (Below.refl _ _).drew
        have ho1 := (hown6.below ((Below.refl _ w6).alloc (Nat.le_refl _) (.cells #[.int .u8 (bits .xor .u8 ((e k).toNat : Int) ((M' m).toNat : Int))] 5))).below (Below.refl _ _).drew
        have hsz2 : w.heap.size + 3 ≤ w6.heap.size := by have := World.rowIs.lt h6.out.r2; omega
        refine region_mix (Below (w.heap.size + 3) w6) [(0, true), (1, true), (2, true), (3, true), (4, true), (5, true), (6, true), (7, true), (8, true), (9, true), (10, false), (11, false), (12, false)] (by kernel_rfl) (by kernel_rfl) (Below.refl _ w6).drew ?_
        refine m_val rfl (by rfl) u7 (fun W _ => by go_simp) ?_
        simp only [Act.put, List.setIfInBounds_toArray, List.set_cons_zero, List.set_cons_succ]
        refine m_val rfl (by rfl) (.slice (some ⟨sb, so, none⟩) n c) (fun W _ => by go_simp) ?_
        simp only [Act.put, List.setIfInBounds_toArray, List.set_cons_zero, List.set_cons_succ]
        refine m_val rfl (by rfl) (.int .i64 (k : Int)) (fun W _ => by go_simp) ?_
        simp only [Act.put, List.setIfInBounds_toArray, List.set_cons_zero, List.set_cons_succ]
        refine m_val rfl (by rfl) (.pointer (some ⟨sb, so + k, none⟩)) (fun W _ => by go_simp) ?_
        simp only [Act.put, List.setIfInBounds_toArray, List.set_cons_zero, List.set_cons_succ]
        refine m_val rfl (by rfl) (.int .u8 ((e k).toNat : Int)) (fun W hW => by have cW := (hW.cell (p := ⟨sb, so + k, none⟩) (by show sb < _; omega)).trans cu; go_simp) ?_
        simp only [Act.put, List.setIfInBounds_toArray, List.set_cons_zero, List.set_cons_succ]
        refine m_val rfl (by rfl) (.int .i64 (k : Int)) (fun W _ => by go_simp) ?_
        simp only [Act.put, List.setIfInBounds_toArray, List.set_cons_zero, List.set_cons_succ]
        refine m_val rfl (by rfl) (.int .i64 (m : Int)) (fun W _ => by go_simp) ?_
        simp only [Act.put, List.setIfInBounds_toArray, List.set_cons_zero, List.set_cons_succ]
        refine m_val rfl (by rfl) (.pointer (some ⟨w.heap.size + 2, m, none⟩)) (fun W _ => by go_simp) ?_
        simp only [Act.put, List.setIfInBounds_toArray, List.set_cons_zero, List.set_cons_succ]
        refine m_val rfl (by rfl) (.int .u8 ((M' m).toNat : Int)) (fun W hW => by have cW := (hW.cell (p := ⟨w.heap.size + 2, m, none⟩) (by show w.heap.size + 2 < _; omega)).trans cm; go_simp) ?_
        simp only [Act.put, List.setIfInBounds_toArray, List.set_cons_zero, List.set_cons_succ]
        refine m_val rfl (by rfl) (.int .u8 (bits .xor .u8 ((e k).toNat : Int) ((M' m).toNat : Int))) (fun W _ => by go_simp) ?_
        simp only [Act.put, List.setIfInBounds_toArray, List.set_cons_zero, List.set_cons_succ]
        refine m_go rfl ?_
        go_wp2_with fail
        refine m_on ((Below.refl _ w6).alloc (by omega) _).drew ?_
        refine m_go rfl ?_
        go_wp2_with (at_builtin
                     refine append_bytes (by rfl) (.tmp 27) (.tmp 37) (by rfl) (w.heap.size + 3) k (flipB key at_ e) _ (by rfl) ho1 (w6.heap.size + 1) 1 (fun _ => e k ^^^ M' m) _ (by rfl) hone (by omega) (by simp; omega) ?_
                     intro v3 w3 hown3 hg3 hat3)
        have hn3 : Own w3 (w.heap.size + 3) (k + 1) (flipB key at_ e) v3 := own_next hown3 hx.out
        have hb3 : Below (w.heap.size + 3) w6 w3 := ((Below.refl _ w6).alloc (by omega) _).drew.grown hg3 (by simp; omega) (fun b hb => (ho1.lt hb).1)
        have h5 := h6.out.below hb3 (Nat.le_refl _)
        refine m_on hb3 ?_
        refine m_go rfl ?_
        go_wp2_with fail
        refine m_on hb3 ?_
        refine m_end ?_
        go_wp2
        clear hown3 hg3 hat3 ho1 hone
        exact ⟨⟨k + 1, M', by omega, ival (by omega), h5, fun hne => by rw [show (k + 1) / 16 = k / 16 by omega]; exact HM.out, hn3⟩, by simp [intOf]; omega⟩
      · have b0 : ((m : Int) == 0) = false := by simp; omega
        obtain ⟨M', hM'⟩ : ∃ M', M' = M := ⟨_, rfl⟩
        rw [← hM'] at h hM
        have HM : Hid (Same16 M' (enc key (nextB at_ (k / 16)))) := hM.out hm0
        clear hM hM' hm0 hm
        go_wp2
        have cu := ((h).out.hb.cell (p := ⟨sb, so + k, none⟩) hsb).trans cu0
        have cm : wr.cell? ⟨w.heap.size + 2, m, none⟩ = some (.int .u8 ((M' m).toNat : Int)) := World.rowIs.cell h.out.r2 hm16
        have hx : Hid (flipB key at_ e k = e k ^^^ M' m) := by show e k ^^^ stream key at_ k = _; rw [Hm.out, stream_at HM.out]
        have hone := slice_below (slice_one wr (wr.heap.size + 1) (by omega) (e k ^^^ M' m) (bits .xor .u8 ((e k).toNat : Int) ((M' m).toNat : Int)) (xor8 _ _)) (Below.refl _ _).drew
        have ho1 := (hown.below ((Below.refl _ wr).alloc (Nat.le_refl _) (.cells #[.int .u8 (bits .xor .u8 ((e k).toNat : Int) ((M' m).toNat : Int))] 5))).below (Below.refl _ _).drew
        have hsz2 : w.heap.size + 3 ≤ wr.heap.size := by have := World.rowIs.lt h.out.r2; omega
        refine region_mix (Below (w.heap.size + 3) wr) [(0, true), (1, true), (2, true), (3, true), (4, true), (5, true), (6, true), (7, true), (8, true), (9, true), (10, false), (11, false), (12, false)] (by kernel_rfl) (by kernel_rfl) (Below.refl _ wr).drew ?_
        refine m_val rfl (by rfl) u7 (fun W _ => by go_simp) ?_
        simp only [Act.put, List.setIfInBounds_toArray, List.set_cons_zero, List.set_cons_succ]
        refine m_val rfl (by rfl) (.slice (some ⟨sb, so, none⟩) n c) (fun W _ => by go_simp) ?_
        simp only [Act.put, List.setIfInBounds_toArray, List.set_cons_zero, List.set_cons_succ]
        refine m_val rfl (by rfl) (.int .i64 (k : Int)) (fun W _ => by go_simp) ?_
        simp only [Act.put, List.setIfInBounds_toArray, List.set_cons_zero, List.set_cons_succ]
        refine m_val rfl (by rfl) (.pointer (some ⟨sb, so + k, none⟩)) (fun W _ => by go_simp) ?_
        simp only [Act.put, List.setIfInBounds_toArray, List.set_cons_zero, List.set_cons_succ]
        refine m_val rfl (by rfl) (.int .u8 ((e k).toNat : Int)) (fun W hW => by have cW := (hW.cell (p := ⟨sb, so + k, none⟩) (by show sb < _; omega)).trans cu; go_simp) ?_
        simp only [Act.put, List.setIfInBounds_toArray, List.set_cons_zero, List.set_cons_succ]
        refine m_val rfl (by rfl) (.int .i64 (k : Int)) (fun W _ => by go_simp) ?_
        simp only [Act.put, List.setIfInBounds_toArray, List.set_cons_zero, List.set_cons_succ]
        refine m_val rfl (by rfl) (.int .i64 (m : Int)) (fun W _ => by go_simp) ?_
        simp only [Act.put, List.setIfInBounds_toArray, List.set_cons_zero, List.set_cons_succ]
        refine m_val rfl (by rfl) (.pointer (some ⟨w.heap.size + 2, m, none⟩)) (fun W _ => by go_simp) ?_
        simp only [Act.put, List.setIfInBounds_toArray, List.set_cons_zero, List.set_cons_succ]
        refine m_val rfl (by rfl) (.int .u8 ((M' m).toNat : Int)) (fun W hW => by have cW := (hW.cell (p := ⟨w.heap.size + 2, m, none⟩) (by show w.heap.size + 2 < _; omega)).trans cm; go_simp) ?_
        simp only [Act.put, List.setIfInBounds_toArray, List.set_cons_zero, List.set_cons_succ]
        refine m_val rfl (by rfl) (.int .u8 (bits .xor .u8 ((e k).toNat : Int) ((M' m).toNat : Int))) (fun W _ => by go_simp) ?_
        simp only [Act.put, List.setIfInBounds_toArray, List.set_cons_zero, List.set_cons_succ]
        refine m_go rfl ?_
        go_wp2_with fail
        refine m_on ((Below.refl _ wr).alloc (by omega) _).drew ?_
        refine m_go rfl ?_
        go_wp2_with (at_builtin
                     refine append_bytes (by rfl) (.tmp 27) (.tmp 37) (by rfl) (w.heap.size + 3) k (flipB key at_ e) _ (by rfl) ho1 (wr.heap.size + 1) 1 (fun _ => e k ^^^ M' m) _ (by rfl) hone (by omega) (by simp; omega) ?_
                     intro v3 w3 hown3 hg3 hat3)
        have hn3 : Own w3 (w.heap.size + 3) (k + 1) (flipB key at_ e) v3 := own_next hown3 hx.out
        have hb3 : Below (w.heap.size + 3) wr w3 := ((Below.refl _ wr).alloc (by omega) _).drew.grown hg3 (by simp; omega) (fun b hb => (ho1.lt hb).1)
        have h5 := h.out.below hb3 (Nat.le_refl _)
        refine m_on hb3 ?_
        refine m_go rfl ?_
        go_wp2_with fail
        refine m_on hb3 ?_
        refine m_end ?_
        go_wp2
        clear hown3 hg3 hat3 ho1 hone
        exact ⟨⟨k + 1, M', by omega, ival (by omega), h5, fun hne => by rw [show (k + 1) / 16 = k / 16 by omega]; exact HM.out, hn3⟩, by simp [intOf]; omega⟩
    · have q1 : ¬ (k : Int) < (n : Int) := by omega
      have hkn : k = n := by omega
      rw [hkn] at hown
      have ho := own_base hown (show w.heap.size ≤ w.heap.size + 3 by omega)
      have hb := h.out.hb
      clear hkn hown
      go_wp2
      go_ret
      exact ⟨_, rfl, ho, hb⟩
end Go.Proofs.YtaakhldhmoaplaaDoor.Ctr
