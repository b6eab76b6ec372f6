/-
  The walk of bartizanlaw05.SealOne: for every key, label and bytes it returns true, and writes nothing that was there.
-/
import Derived.Test.YtfjoflpidmjkbaaDoorLaw05Awake
namespace Go.Proofs.YtfjoflpidmjkbaaDoor.Law05
open Go Go.RowKit Go.Proofs.YtfjoflpidmjkbaaDoor.Aid Go.Proofs.YtfjoflpidmjkbaaDoor.Sha Go.Proofs.YtfjoflpidmjkbaaDoor.Mac Go.Proofs.YtfjoflpidmjkbaaDoor.Aes Go.Proofs.YtfjoflpidmjkbaaDoor.Ctr Go.Proofs.YtfjoflpidmjkbaaDoor.Law01 Go.Proofs.YtfjoflpidmjkbaaDoor.Seal

theorem one_word (key : Nat → BitVec 8) (C : Array Value) (hC : C.size = 16) (hCi : ∀ i, i < 16 → C[i]? = some (.int .u8 ((key i).toNat : Int))) (w : World) :
    ∃ W, W = w.alloc (.cells C 23) ∧ RowB W w.heap.size 23 16 key ∧ Below w.heap.size w W :=
  ⟨_, rfl, row_new w C 23 16 (fun j => .int .u8 ((key j).toNat : Int)) hC hCi, (Below.refl _ _).alloc (Nat.le_refl _) _⟩

set_option maxRecDepth 100000 in
set_option maxHeartbeats 1000000 in
theorem one_out (C : Array Value) (s : ByteArray) (B : Option Addr) (m d : Nat) (w : World) (hk : Consts w) (h : (100 : Int) < (s.size : Int) ∨ (1100 : Int) < (m : Int)) :
    Calls Tryd.prog 5 #[.agg C, .string s, .slice B m d] w fun x w' => x = .returned (.bool true) ∧ Below w.heap.size w w' := by
  have hb0 := Law02.alloc_below w (.cells C 23)
  go_enter Tryd.func5, Tryd.ntmps5
  go_wp2_with fail
  refine (awake_any _ (hk.below hb0 (Nat.le_refl _))).mono ?_
  rintro x w1 ⟨rfl, hb1⟩
  have hb2 := hb0.trans (hb1.mono hb0.size)
  clear hb0 hb1
  by_cases h1 : (100 : Int) < (s.size : Int)
  · clear h
    go_wp2
    go_ret
    exact ⟨rfl, hb2⟩
  · have h2 : (1100 : Int) < (m : Int) := by omega
    clear h
    go_wp2
    go_ret
    exact ⟨rfl, hb2⟩

set_option maxRecDepth 100000 in
set_option maxHeartbeats 2000000 in
/-- By what Open answers. -/
theorem one_in (key e : Nat → BitVec 8) (C : Array Value) (hC : C.size = 16) (hCi : ∀ i, i < 16 → C[i]? = some (.int .u8 ((key i).toNat : Int))) (s : ByteArray) (B : Option Addr) (m d : Nat) (w : World) (hk : Consts w) (hp : SliceOf w w.heap.size m e (.slice B m d))
    (h1 : s.size ≤ 100) (h2 : m ≤ 1100) :
    Calls Tryd.prog 5 #[.agg C, .string s, .slice B m d] w fun x w' => x = .returned (.bool true) ∧ Below w.heap.size w w' := by
  obtain ⟨W, hW, hr0, hb0⟩ := one_word key C hC hCi w
  have q1 : ¬ (100 : Int) < (s.size : Int) := by omega
  have q2 : ¬ (1100 : Int) < (m : Int) := by omega
  clear hCi hC
  go_enter Tryd.func5, Tryd.ntmps5
  go_wp2_with fail
  rw [← hW]
  clear hW
  refine (awake_any _ (hk.below hb0 (Nat.le_refl _))).mono ?_
  rintro x w1 ⟨rfl, hb1⟩
  have hr1 := World.rowIs.of_block hr0 (hb1.block _ (World.rowIs.lt hr0))
  have hb1' := hb0.trans (hb1.mono hb0.size)
  have hp1 := slice_any (slice_below hp hb1') (Nat.le_refl _)
  have hk1 := hk.below hb1' (Nat.le_refl _)
  clear hr0 hb0 hb1 hp hk
  go_wp2_with (refine load_whole (by rfl) 23 (.tmp 3) (by rfl) _ _ _ _ hr1 (by rfl) _ Tryd.underlying23 rfl (by kernel_rfl) ?_)
  have hopen : Calls Tryd.prog 9 #[.agg (cellsOf 16 fun j => .int .u8 ((key j).toNat : Int)), .string s, .slice B m d] w1 fun x w' => Below w1.heap.size w1 w' ∧
      ((∃ k : Int, k ≠ 0 ∧ x = .returned (.tuple #[.slice none 0 0, .int .i64 k])) ∨
       (1 ≤ s.size ∧ s.size ≤ 40 ∧ 48 ≤ m ∧ m ≤ 1048 ∧ okB (keysB key s) e m = true ∧ ∃ A c, x = .returned (.tuple #[.slice A (m - 48) c, .int .i64 0]) ∧ SliceOf w' w'.heap.size (m - 48) (openB (keysB key s) e) (.slice A (m - 48) c))) := by
    by_cases hgood : 1 ≤ s.size ∧ s.size ≤ 40
    · by_cases hm1 : m < 48
      · exact (open_short s hgood _ B m d hm1 w1).mono fun x w' ⟨hx, hb⟩ => ⟨hb, .inl ⟨2, by omega, hx⟩⟩
      · by_cases hm2 : 1048 < m
        · exact (open_full s hgood _ B m d hm2 w1).mono fun x w' ⟨hx, hb⟩ => ⟨hb, .inl ⟨7, by omega, hx⟩⟩
        · refine (open_ok key e s hgood _ (size_cellsOf _ _) (cellsOf_at _ _) B m d w1 hk1 hp1 (by omega) (by omega)).mono ?_
          rintro x w' (⟨hok, A, c, hx, hs, hb⟩ | ⟨_, hx, hb⟩)
          · exact ⟨hb, .inr ⟨hgood.1, hgood.2, by omega, by omega, hok, A, c, hx, hs⟩⟩
          · exact ⟨hb, .inl ⟨6, by omega, hx⟩⟩
    · exact (open_arg s hgood _ B m d w1).mono fun x w' ⟨hx, hb⟩ => ⟨hb, .inl ⟨1, by omega, hx⟩⟩
  refine hopen.mono ?_
  clear hopen
  rintro x w2 ⟨hb2, ⟨k, hk0, rfl⟩ | ⟨hs1, hs2, hm1, hm2, hok, A, c, rfl, hs⟩⟩
  · have hb2' := hb1'.trans (hb2.mono hb1'.size)
    clear hr1 hb1' hp1 hk1 hb2
    go_wp2
    go_ret
    exact ⟨rfl, hb2'⟩
  · have hr2 := World.rowIs.of_block hr1 (hb2.block _ (World.rowIs.lt hr1))
    have hb2' := hb1'.trans (hb2.mono hb1'.size)
    have hp2 := slice_any (slice_below hp1 hb2) (Nat.le_refl _)
    have hk2 := hk1.below hb2 (Nat.le_refl _)
    clear hr1 hb1' hp1 hk1 hb2
    have Hs := Lib.hid hs
    clear hs
    go_wp2_with (refine store_whole (by rfl) 23 (.tmp 10) (.tmp 40) (by rfl) w2.heap.size _ 16 (fun _ => .int .u8 0) (fun _ => .int .u8 0) (by exact row_new w2 _ _ 16 _ (by rfl) (zeros16 _ (by rfl))) (by rfl) _ (by rfl) (by kernel_rfl) (by rfl) (zeros16 _ (by rfl)) (fun _ _ => rfl) ?_
                 intro w3 hr3 ho3)
    have h23 : Below w2.heap.size w2 w3 := ho3.below ((Below.refl _ _).alloc (Nat.le_refl _) _) (Nat.le_refl _)
    obtain ⟨B', d', eB, _, hB⟩ := hp2
    simp only [Value.slice.injEq, true_and] at eB
    obtain ⟨rfl, rfl⟩ := eB
    obtain ⟨sb, so, rfl, hsb, hcell⟩ := hB (by omega)
    have hsbl : sb < w2.heap.size := block_lt_of_cell (hcell 0 (by omega))
    have Hcell := Lib.hid hcell
    clear ho3 hB hcell
    go_loopw [11] (fun i wr => ∃ k : Nat, k ≤ 16 ∧ i = .int .i64 (k : Int) ∧ Hid (RowB wr w2.heap.size 23 16 (setTo (fun _ => 0) e k)) ∧ Hid (Below w2.heap.size w2 wr)) (fun i _ => 16 - (intOf i).toNat)
    case atStart => exact ⟨0, by omega, rfl, World.rowIs.congr hr3 (fun j _ => by unfold setTo; rw [if_neg (by omega)]; rfl), h23⟩
    case round =>
      clear hr3 h23
      obtain ⟨k, hk16, rfl, hr, hb⟩ := hrel
      by_cases hlt : k < 16
      · have q3 : (k : Int) < 16 := by omega
        have q4 : (k : Int) < (m : Int) := by omega
        have q5 : (0 : Int) ≤ (k : Int) := by omega
        have e1 : IntKind.i64.wrap ((k : Int) + 1) = (k : Int) + 1 := IntWalk.i64_in _ (by omega)
        have cb : wr.cell? ⟨sb, so + k, none⟩ = some (.int .u8 ((e k).toNat : Int)) := (hb.out.cell (p := ⟨sb, so + k, none⟩) hsbl).trans (Hcell.out k (by omega))
        have f3 : wr.frozen? ⟨w2.heap.size, k, none⟩ = false := World.rowIs.frozen hr.out _
        obtain ⟨u3, c3⟩ : ∃ u, wr.cell? ⟨w2.heap.size, k, none⟩ = some (.int .u8 u) := ⟨_, World.rowIs.cell hr.out hlt⟩
        go_wp2
        exact ⟨⟨k + 1, by omega, by go_num, setTo_next hr.out _ rfl, hb.out.setCell (by simp) _⟩, by simp [intOf]; omega⟩
      · have q3 : ¬ (k : Int) < 16 := by omega
        have hf : RowB wr w2.heap.size 23 16 e := World.rowIs.congr hr.out (fun j hj => by unfold setTo; rw [if_pos (by omega)])
        have hr4 := World.rowIs.of_block hr2 (hb.out.block _ (World.rowIs.lt hr2))
        have hk4 := hk2.below hb.out (Nat.le_refl _)
        have hs4 := slice_any (slice_below Hs.out hb.out) (Nat.le_refl _)
        have hb4 := hb2'.trans (hb.out.mono hb2'.size)
        have hcb : ∀ W, Below wr.heap.size wr W → SliceOf W W.heap.size m e (.slice (some ⟨sb, so, none⟩) m d) := fun W hW => ⟨_, _, rfl, by assumption, fun _ => ⟨sb, so, rfl, by have := hW.size; have := hb.out.size; omega, fun j hj => (hW.cell (p := ⟨sb, so + j, none⟩) (by have := hb.out.size; simp; omega)).trans ((hb.out.cell (p := ⟨sb, so + j, none⟩) hsbl).trans (Hcell.out j hj))⟩⟩
        have Hcb := Lib.hid hcb
        clear hr2 hk2 hb2' Hs Hcell hr hcb hb
        go_wp2_with (first
          | (refine load_whole (by rfl) 23 (.tmp 3) (by rfl) _ _ _ _ hr4 (by rfl) _ Tryd.underlying23 rfl (by kernel_rfl) ?_)
          | (refine load_whole (by rfl) 23 (.tmp 10) (by rfl) _ _ _ _ hf (by rfl) _ Tryd.underlying23 rfl (by kernel_rfl) ?_))
        refine (seal_ok key e (openB (keysB key s) e) s ⟨hs1, hs2⟩ _ _ (size_cellsOf _ _) (cellsOf_at _ _) (size_cellsOf _ _) (cellsOf_at _ _) A (m - 48) c wr hk4 hs4 (by omega)).mono ?_
        rw [show 48 + (m - 48) = m by omega]
        rintro x w5 ⟨g, rfl, hr5, _, hb5⟩
        have hs5 : SliceOf w5 w5.heap.size m e (.slice (some ⟨g, 0, none⟩) m m) := SliceOf.congr (row_slice hr5 0 m m 0 (fun _ => rfl) (by omega) (Nat.le_refl _)) (fun j hj => by rw [Nat.zero_add]; exact form_open _ _ _ hm1 hok j hj)
        have hc5 := Hcb.out w5 hb5
        have hb5' := hb4.trans (hb5.mono hb4.size)
        clear hf hr4 hk4 hs4 hb4 Hcb hr5 hb5
        go_wp2_with fail
        refine (same_gen _ _ m m d m e e _ _ w5 hc5 hs5 (by omega) (by omega)).mono ?_
        rw [same_refl _ _ m (fun _ _ => rfl)]
        rintro x w6 ⟨rfl, q, rfl⟩
        have hb6 := below_drewN hb5' q
        generalize w5.drewN q = w6 at *
        clear hs5 hc5
        go_wp2
        go_ret
        exact ⟨rfl, hb6⟩

/-- THE WALK, for every input. -/
theorem one_any (key e : Nat → BitVec 8) (C : Array Value) (hC : C.size = 16) (hCi : ∀ i, i < 16 → C[i]? = some (.int .u8 ((key i).toNat : Int))) (s : ByteArray) (B : Option Addr) (m d : Nat) (w : World) (hk : Consts w) (hp : SliceOf w w.heap.size m e (.slice B m d)) :
    Calls Tryd.prog 5 #[.agg C, .string s, .slice B m d] w fun x w' => x = .returned (.bool true) ∧ Below w.heap.size w w' := by
  by_cases h : (100 : Int) < (s.size : Int) ∨ (1100 : Int) < (m : Int)
  · exact one_out C s B m d w hk h
  · exact one_in key e C hC hCi s B m d w hk hp (by omega) (by omega)
end Go.Proofs.YtfjoflpidmjkbaaDoor.Law05
