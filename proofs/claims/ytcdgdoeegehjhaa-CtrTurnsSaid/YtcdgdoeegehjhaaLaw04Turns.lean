/-
  bartizanlaw04.CtrTurns, by what the program's own functions do: true, whatever the input.
-/
import Derived.Test.YtcdgdoeegehjhaaLaw04Back
import Derived.Test.YtcdgdoeegehjhaaOwnSet
namespace Go.Proofs.Ytcdgdoeegehjhaa.Ctr
open Go Go.RowKit Go.Proofs.Ytcdgdoeegehjhaa.Aid Go.Proofs.Ytcdgdoeegehjhaa.Aes

/-- What the law holds from its second flip on: key and counter in blocks of their own, the two numbers, and the four slices. -/
structure TurnRel (K D e d : Nat → BitVec 8) (N0 N1 p0 pa : Nat) (A F G H : Option Addr) (n c cf cg ch : Nat) (w wr : World) : Prop where
  n0 : wr.cell? ⟨p0, 0, none⟩ = some (.int .u64 (N0 : Int))
  n1 : wr.cell? ⟨p0, 1, none⟩ = some (.int .u64 (N1 : Int))
  r1 : RowB wr pa 22 16 D
  hs : SliceOf wr wr.heap.size n e (.slice A n c)
  hf : SliceOf wr wr.heap.size n (flipB K D e) (.slice F n cf)
  hg : SliceOf wr wr.heap.size n d (.slice G n cg)
  hd : SliceOf wr wr.heap.size n (flipB K D d) (.slice H n ch)
  hb : Below w.heap.size w wr

theorem TurnRel.below {K D e d : Nat → BitVec 8} {N0 N1 p0 pa : Nat} {A F G H : Option Addr} {n c cf cg ch : Nat} {w wr wr' : World} (h : TurnRel K D e d N0 N1 p0 pa A F G H n c cf cg ch w wr) (hb : Below wr.heap.size wr wr') : TurnRel K D e d N0 N1 p0 pa A F G H n c cf cg ch w wr' :=
  ⟨(hb.cell (p := ⟨p0, 0, none⟩) (block_lt_of_cell h.n0)).trans h.n0, (hb.cell (p := ⟨p0, 1, none⟩) (block_lt_of_cell h.n1)).trans h.n1, World.rowIs.of_block h.r1 (hb.block _ (World.rowIs.lt h.r1)),
    slice_any (slice_below h.hs hb) (Nat.le_refl _), slice_any (slice_below h.hf hb) (Nat.le_refl _), slice_any (slice_below h.hg hb) (Nat.le_refl _), slice_any (slice_below h.hd hb) (Nat.le_refl _), h.hb.trans (hb.mono h.hb.size)⟩

set_option maxRecDepth 100000 in
set_option maxHeartbeats 4000000 in
theorem turns_any (C : CtrHas) (K D e : Nat → BitVec 8) (Y : Array Value) (hY : Y.size = 32) (hYi : ∀ i, i < 32 → Y[i]? = some (.int .u8 ((if i < 16 then K i else D (i - 16)).toNat : Int)))
    (A : Option Addr) (n c : Nat) (N0 N1 : Nat) (hN0 : N0 < 2 ^ 64) (hN1 : N1 < 2 ^ 64) (w : World) (hs : SliceOf w w.heap.size n e (.slice A n c)) :
    Calls Try.prog 5 #[.agg Y, .slice A n c, .agg #[.int .u64 (N0 : Int), .int .u64 (N1 : Int)]] w fun x w' => x = .returned (.bool true) ∧ Below w.heap.size w w' := by
  have h1 : ∃ W, W = (w.alloc (.cells Y 30)).alloc (.cells #[.int .u64 (N0 : Int), .int .u64 (N1 : Int)] 31) ∧ W.rowIs w.heap.size 30 32 (fun i => .int .u8 ((if i < 16 then K i else D (i - 16)).toNat : Int)) ∧
      W.cell? ⟨w.heap.size + 1, 0, none⟩ = some (.int .u64 (N0 : Int)) ∧ W.cell? ⟨w.heap.size + 1, 1, none⟩ = some (.int .u64 (N1 : Int)) ∧ Below w.heap.size w W := by
    have s1 : (w.alloc (.cells Y 30)).heap.size = w.heap.size + 1 := by simp
    have r1 := (row_new w Y 30 32 _ hY hYi).alloc (.cells #[.int .u64 (N0 : Int), .int .u64 (N1 : Int)] 31)
    refine ⟨_, rfl, r1, ?_, ?_, ((Below.refl _ _).alloc (Nat.le_refl _) _).alloc (by simp) _⟩
    · rw [← s1, World.cell?_alloc_new]; rfl
    · rw [← s1, World.cell?_alloc_new]; rfl
  obtain ⟨W, hW, hl0, a0, a1, hb0⟩ := h1
  have HS := Lib.hid hs
  have HN0 := Lib.hid hN0
  have HN1 := Lib.hid hN1
  have hlt0 : w.heap.size + 1 < W.heap.size := block_lt_of_cell a0
  clear hYi hs hN0 hN1
  go_enter Try.func5, Try.ntmps5
  go_wp2_with fail
  rw [← hW]
  clear hW
  refine (awake_any C W).mono ?_
  rintro x w1 ⟨rfl, hb1⟩
  have hl1 := hl0.of_block (hb1.block _ hl0.lt)
  have b0 := (hb1.cell (p := ⟨w.heap.size + 1, 0, none⟩) hlt0).trans a0
  have b1 := (hb1.cell (p := ⟨w.heap.size + 1, 1, none⟩) hlt0).trans a1
  have hbw := hb0.trans (hb1.mono hb0.size)
  have hlt1 : w.heap.size + 1 < w1.heap.size := block_lt_of_cell b0
  clear hl0 a0 a1 hb0 hb1 hlt0
  by_cases hn : (200 : Int) < (n : Int)
  · go_wp2
    go_ret
    exact ⟨rfl, hbw⟩
  · have hn' : n ≤ 200 := by omega
    by_cases hn0 : n = 0
    · subst hn0
      go_wp2
      go_ret
      exact ⟨rfl, hbw⟩
    · have hnp : 0 < n := by omega
      have z0 : ((n : Int) == 0) = false := by simp; omega
      obtain ⟨p, hp⟩ : ∃ p, p = N0 % n := ⟨_, rfl⟩
      have hpn : p < n := by rw [hp]; exact Nat.mod_lt _ hnp
      have eN : IntKind.u64.wrap (n : Int) = (n : Int) := IntWalk.u64_in _ (by omega)
      have e1 : (N0 : Int) % (n : Int) = (p : Int) := by rw [hp]; simp
      have e2 : (N0 : Int).tmod (n : Int) = (p : Int) := by rw [Int.tmod_eq_emod_of_nonneg (by omega)]; exact e1
      have e3 : IntKind.u64.wrap (p : Int) = (p : Int) := IntWalk.u64_in _ (by omega)
      have e4 : IntKind.i64.wrap (p : Int) = (p : Int) := IntWalk.i64_in _ (by omega)
      have ek : (cellsOf 16 fun j => Value.int .u8 ((if 0 + j < 16 then K (0 + j) else D (0 + j - 16)).toNat : Int)) = byteRow 16 K := cellsOf_congr (fun i hi => by rw [Nat.zero_add, if_pos hi])
      have ed : (cellsOf 16 fun j => Value.int .u8 ((if 16 + j < 16 then K (16 + j) else D (16 + j - 16)).toNat : Int)) = byteRow 16 D := cellsOf_congr (fun i hi => by rw [if_neg (by omega), Nat.add_sub_cancel_left])
      have Hs1 : Hid (SliceOf w1 w1.heap.size n e (.slice A n c)) := slice_any (slice_below HS.out hbw) (Nat.le_refl _)
      have Hp := Lib.hid hp
      clear hp HS hn0
      go_wp2_with (first
        | (refine load_row (by rfl) 22 (.tmp 27) (by rfl) w.heap.size 0 _ 32 16 _ hl1 (by rfl) _ Try.underlying22 rfl (by kernel_rfl) (by decide) ?_
           rw [ek])
        | (refine store_whole (by rfl) 22 (.tmp 8) (.tmp 28) (by rfl) w1.heap.size _ 16 (fun _ => .int .u8 0) (fun j => .int .u8 ((K j).toNat : Int)) (by exact row_new w1 _ _ 16 _ (by rfl) (zeros16 _ (by rfl))) (by rfl) _ (by rfl) (by kernel_rfl) (size_cellsOf _ _) (cellsOf_at _ _) (fun _ _ => rfl) ?_
           intro w2 hk2 ho2
           have hl2 := ho2.row (hl1.alloc _) (by omega)
           have hb2 : Below w1.heap.size w1 w2 := ho2.below ((Below.refl _ _).alloc (Nat.le_refl _) _) (Nat.le_refl _)
           have hlt2 : w1.heap.size < w2.heap.size := hk2.lt
           clear hl1 ho2)
        | (refine load_row (by rfl) 22 (.tmp 29) (by rfl) w.heap.size 16 _ 32 16 _ hl2 (by rfl) _ Try.underlying22 rfl (by kernel_rfl) (by decide) ?_
           rw [ed])
        | (refine store_whole (by rfl) 22 (.tmp 9) (.tmp 30) (by rfl) w2.heap.size _ 16 (fun _ => .int .u8 0) (fun j => .int .u8 ((D j).toNat : Int)) (by exact row_new w2 _ _ 16 _ (by rfl) (zeros16 _ (by rfl))) (by rfl) _ (by rfl) (by kernel_rfl) (size_cellsOf _ _) (cellsOf_at _ _) (fun _ _ => rfl) ?_
           intro w3 ha3 ho3
           have hk3 := ho3.row (hk2.alloc _) (by omega)
           have hb3 : Below w1.heap.size w1 w3 := hb2.trans ((ho3.below ((Below.refl _ _).alloc (Nat.le_refl _) _) (Nat.le_refl _)).mono hb2.size)
           have b0' := (hb3.cell (p := ⟨w.heap.size + 1, 0, none⟩) hlt1).trans b0
           have b1' := (hb3.cell (p := ⟨w.heap.size + 1, 1, none⟩) hlt1).trans b1
           have Hs3 : Hid (SliceOf w3 w3.heap.size n e (.slice A n c)) := slice_any (slice_below Hs1.out hb3) (Nat.le_refl _)
           have hbw3 := hbw.trans (hb3.mono hbw.size)
           clear hl2 hk2 ho3 hb2 b0 b1 Hs1 hbw hb3)
        | (refine load_whole (by rfl) 22 (.tmp 8) (by rfl) _ _ _ _ hk3 (by rfl) _ Try.underlying22 rfl (by kernel_rfl) ?_)
        | (refine load_whole (by rfl) 22 (.tmp 9) (by rfl) _ _ _ _ ha3 (by rfl) _ Try.underlying22 rfl (by kernel_rfl) ?_)
        | (go_at_call 8
           refine (C.flip K D e _ _ (size_cellsOf _ _) (cellsOf_at _ _) (size_cellsOf _ _) (cellsOf_at _ _) A n c w3 Hs3.out (by omega)).mono ?_
           rintro x w4 ⟨F, cf, rfl, hf4, hb4⟩
           have hk4 := hk3.of_block (hb4.block _ hk3.lt)
           have ha4 := ha3.of_block (hb4.block _ ha3.lt)
           have b0'' := (hb4.cell (p := ⟨w.heap.size + 1, 0, none⟩) (block_lt_of_cell b0')).trans b0'
           have b1'' := (hb4.cell (p := ⟨w.heap.size + 1, 1, none⟩) (block_lt_of_cell b1')).trans b1'
           have hs4 := slice_any (slice_below Hs3.out hb4) (Nat.le_refl _)
           have hbw4 := hbw3.trans (hb4.mono hbw3.size)
           have ho4 := own_empty8 w4 (fun _ => 0)
           have hs5 : SliceOf (w4.alloc (.cells #[] 5)) w4.heap.size n e (.slice A n c) := hs4.keep (fun b hb _ => Below.heap_alloc w4 _ b hb)
           have Hf4 := Lib.hid hf4
           have Hs4 := Lib.hid hs4
           clear hk3 ha3 b0' b1' Hs3 hb4 hbw3 hf4 hs4)
        | (at_builtin
           refine append_bytes (by rfl) (.tmp 42) (.tmp 43) (by rfl) w4.heap.size 0 (fun _ => 0) _ (by rfl) ho4 w4.heap.size n e _ (by rfl) hs5 (by omega) (by simp) ?_
           intro v5 w5 hown5 hg5 hat5
           have hb5 : Below w4.heap.size w4 w5 := ((Below.refl _ w4).alloc (Nat.le_refl _) _).grown hg5 (by simp) (fun b hb => (ho4.lt hb).1)
           have ho5 : Own w5 w4.heap.size n e v5 := Own.congr' (by rw [Nat.zero_add] at hown5; exact hown5) (fun j _ => by unfold cat; rw [if_neg (by omega), Nat.sub_zero])
           obtain ⟨g, cg, rfl, hg4, hg5', hcap, hcell, hfro⟩ := own_cells ho5 hnp
           clear hown5 hg5 hat5 ho4 hs5))
      have hk5 := hk4.of_block (hb5.block _ hk4.lt)
      have ha5 := ha4.of_block (hb5.block _ ha4.lt)
      have c0 := (hb5.cell (p := ⟨w.heap.size + 1, 0, none⟩) (block_lt_of_cell b0'')).trans b0''
      have c1 := (hb5.cell (p := ⟨w.heap.size + 1, 1, none⟩) (block_lt_of_cell b1'')).trans b1''
      have lk4 : w1.heap.size < w4.heap.size := hk4.lt
      have la4 : w2.heap.size < w4.heap.size := ha4.lt
      have lb4 : w.heap.size + 1 < w4.heap.size := block_lt_of_cell b0''
      have cp := hcell p hpn
      have fp := hfro p
      obtain ⟨m1, hm1⟩ : ∃ m1, m1 = N1 % 256 := ⟨_, rfl⟩
      have hm1' : m1 < 256 := by omega
      have f1 : (N1 : Int) % 256 = (m1 : Int) := by omega
      have f2 : IntKind.u8.wrap (m1 : Int) = (m1 : Int) := IntWalk.u8_in _ (by omega)
      have f3 : IntKind.u64.wrap (m1 : Int) = (m1 : Int) := IntWalk.u64_in _ (by omega)
      have hx : Hid (bits .xor .u8 ((e p).toNat : Int) (m1 : Int) = ((e p ^^^ BitVec.ofNat 8 m1).toNat : Int)) := by
        have := xor8 (e p) (BitVec.ofNat 8 m1)
        rw [BitVec.toNat_ofNat, Nat.mod_eq_of_lt (by omega)] at this
        exact this
      have Hset : Hid (∀ v : Int, v = ((e p ^^^ BitVec.ofNat 8 m1).toNat : Int) → SliceOf (w5.setCell ⟨g, p, none⟩ (.int .u8 v)) w5.heap.size n (setAt e p (e p ^^^ BitVec.ofNat 8 m1)) (.slice (some ⟨g, 0, none⟩) n cg)) := fun v hv => slice_set hcell hpn hcap (by omega) _ v hv
      have Hm1 := Lib.hid hm1
      have q0 : (0 : Int) ≤ (p : Int) := by omega
      have q1 : (p : Int) < (n : Int) := by omega
      have hbw5 := hbw4.trans (hb5.mono hbw4.size)
      have hsz5 := hbw4.size
      clear hm1 hcell hfro hk4 ha4 b0'' b1'' hbw4 ho5
      obtain ⟨d, hd⟩ : ∃ d, d = setAt e p (e p ^^^ BitVec.ofNat 8 m1) := ⟨_, rfl⟩
      have Hd := Lib.hid hd
      clear hd
      refine region_tail 12 (by kernel_rfl) (by kernel_rfl) ?_
      simp only [List.take_succ_cons, List.take_zero, List.drop_succ_cons, List.drop_zero]
      repeat still_step
      refine wpStill_nil ?_
      refine store_byte (by rfl) (.tmp 56) (.tmp 55) (by rfl) g p (by rfl) _ (by rfl) _ (show w5.drew.cell? ⟨g, p, none⟩ = _ from cp) fp ?_
      intro w6 hw6
      rw [show IntKind.u8.wrap ((N1 : Int).tmod 256) = (m1 : Int) by rw [Int.tmod_eq_emod_of_nonneg (by omega), f1, f2]] at hw6
      have hb6 : Below w4.heap.size w5 w6 := by rw [hw6]; exact (Below.refl _ w5).drew.setCell (p := ⟨g, p, none⟩) hg4 _
      have hsz6 : w6.heap.size = w5.heap.size := by rw [hw6]; simp [World.setCell]
      have hg6 : Hid (SliceOf w6 w6.heap.size n d (.slice (some ⟨g, 0, none⟩) n cg)) := by
        rw [hsz6, hw6, Hd.out]
        show SliceOf (w5.setCell ⟨g, p, none⟩ (.int .u8 (bits .xor .u8 ((e p).toNat : Int) (m1 : Int)))).drew _ _ _ _
        exact slice_below (Hset.out _ hx.out) (Below.refl _ _).drew
      have hs6 : Hid (SliceOf w6 w6.heap.size n e (.slice A n c)) := slice_any (slice_below Hs4.out (hb5.trans hb6)) (Nat.le_refl _)
      have hf6 : Hid (SliceOf w6 w6.heap.size n (flipB K D e) (.slice F n cf)) := slice_any (slice_below Hf4.out (hb5.trans hb6)) (Nat.le_refl _)
      have hk6 := hk5.of_block (hb6.block _ lk4)
      have ha6 := ha5.of_block (hb6.block _ la4)
      have d0 := (hb6.cell (p := ⟨w.heap.size + 1, 0, none⟩) lb4).trans c0
      have d1 := (hb6.cell (p := ⟨w.heap.size + 1, 1, none⟩) lb4).trans c1
      have hbw6 := hbw5.trans (hb6.mono hsz5)
      clear Hset hx hb6 hsz6 Hs4 Hf4 hb5 hk5 ha5 hbw5 hw6 cp fp c0 c1
      go_wp2_with (first
        | (refine load_whole (by rfl) 22 (.tmp 8) (by rfl) _ _ _ _ hk6 (by rfl) _ Try.underlying22 rfl (by kernel_rfl) ?_)
        | (refine load_whole (by rfl) 22 (.tmp 9) (by rfl) _ _ _ _ ha6 (by rfl) _ Try.underlying22 rfl (by kernel_rfl) ?_)
        | (go_at_call 8
           refine (C.flip K D d _ _ (size_cellsOf _ _) (cellsOf_at _ _) (size_cellsOf _ _) (cellsOf_at _ _) (some ⟨g, 0, none⟩) n cg w6 hg6.out (by omega)).mono ?_
           rintro x w7 ⟨H, ch, rfl, hd7, hb7⟩
           have h7 : Hid (TurnRel K D e d N0 N1 (w.heap.size + 1) w2.heap.size A F (some ⟨g, 0, none⟩) H n c cf cg ch w w7) :=
             ⟨(hb7.cell (p := ⟨w.heap.size + 1, 0, none⟩) (block_lt_of_cell d0)).trans d0, (hb7.cell (p := ⟨w.heap.size + 1, 1, none⟩) (block_lt_of_cell d1)).trans d1, ha6.of_block (hb7.block _ ha6.lt), slice_any (slice_below hs6.out hb7) (Nat.le_refl _), slice_any (slice_below hf6.out hb7) (Nat.le_refl _), slice_any (slice_below hg6.out hb7) (Nat.le_refl _), hd7, hbw6.trans (hb7.mono hbw6.size)⟩
           clear hk6 ha6 d0 d1 hs6 hf6 hg6 hd7 hb7 hbw6))
      go_loopw [14] (fun i wr => ∃ k : Nat, k ≤ n ∧ i = .int .i64 (k : Int) ∧ Hid (TurnRel K D e d N0 N1 (w.heap.size + 1) w2.heap.size A F (some ⟨g, 0, none⟩) H n c cf cg ch w wr)) (fun i _ => n - (intOf i).toNat)
      case atStart => exact ⟨0, by omega, rfl, h7.out⟩
      case round =>
        clear h7
        obtain ⟨k, hk, rfl, h⟩ := hrel
        by_cases hlt : k < n
        · have s0 : (0 : Int) ≤ (k : Int) := by omega
          have s1 : (k : Int) < (n : Int) := by omega
          obtain ⟨A', c', ea, _, ra⟩ := h.out.hs
          obtain ⟨F', cf', ef, _, rf⟩ := h.out.hf
          obtain ⟨G', cg', eg, _, rg⟩ := h.out.hg
          obtain ⟨H', ch', eh, _, rh⟩ := h.out.hd
          simp only [Value.slice.injEq, true_and] at ea ef eg eh
          obtain ⟨rfl, rfl⟩ := ea
          obtain ⟨rfl, rfl⟩ := ef
          obtain ⟨rfl, rfl⟩ := eg
          obtain ⟨rfl, rfl⟩ := eh
          obtain ⟨ba, oa, rfl, _, ca⟩ := ra (by omega)
          obtain ⟨bf, of, rfl, _, cf2⟩ := rf (by omega)
          obtain ⟨bg, og, hgo, _, cg2⟩ := rg (by omega)
          obtain ⟨bh, oh, rfl, _, ch2⟩ := rh (by omega)
          simp only [Option.some.injEq, Addr.mk.injEq, and_true] at hgo
          obtain ⟨rfl, rfl⟩ := hgo
          have u0 := ca k hlt
          have u1 := cf2 k hlt
          have u2 := cg2 k hlt
          have u3 := ch2 k hlt
          rw [Nat.zero_add] at u2
          have x1 := xor8 (flipB K D e k) (flipB K D d k)
          have x2 := xor8 (e k) (d k)
          rw [flip_turn] at x1
          obtain ⟨z, hz⟩ : ∃ z, z = e k ^^^ d k := ⟨_, rfl⟩
          rw [← hz] at x1 x2
          clear ca cf2 cg2 ch2 ra rf rg rh hz
          go_wp2
          refine region_still (by kernel_rfl) (by kernel_rfl) ?_
          repeat still_step
          refine wpStill_nil ?_
          go_wp2
          exact ⟨⟨k + 1, by omega, ival (by omega), h.out.below (Below.refl _ wr).drew⟩, by simp [intOf]; omega⟩
        · have s1 : ¬ (k : Int) < (n : Int) := by omega
          have c0 := h.out.n0
          have c1 := h.out.n1
          have ha1 := h.out.r1
          have hb1 := h.out.hb
          obtain ⟨L, hL⟩ : ∃ L, L = N0 / 2 := ⟨_, rfl⟩
          obtain ⟨M, hM⟩ : ∃ M, M = N1 / 2 := ⟨_, rfl⟩
          obtain ⟨T, hT⟩ : ∃ T, T = L + M := ⟨_, rfl⟩
          have k0 := HN0.out
          have k1 := HN1.out
          have HL : Hid (L < 2 ^ 64) := by show L < 2 ^ 64; omega
          have HM : Hid (M < 2 ^ 64) := by show M < 2 ^ 64; omega
          have HT : Hid (T < 2 ^ 64) := by show T < 2 ^ 64; omega
          have g1 : (N0 : Int) / 2 = (L : Int) := by omega
          have g2 : (N1 : Int) / 2 = (M : Int) := by omega
          have g3 : IntKind.u64.wrap (L : Int) = (L : Int) := IntWalk.u64_in _ (by omega)
          have g4 : IntKind.u64.wrap (M : Int) = (M : Int) := IntWalk.u64_in _ (by omega)
          have g5 : IntKind.u64.wrap ((L : Int) + (M : Int)) = (T : Int) := by rw [IntWalk.u64_in _ (by omega)]; omega
          have hq : ∀ W, (binOp .eql 22 (.agg (byteRow 16 (nextB (nextB D L) M))) (.agg (byteRow 16 (nextB D T)))).run Try.prog W = .ok (.bool true) W := eq_same16 _ _ (fun i _ => by rw [hT]; exact nextB_nextB D L M i)
          obtain ⟨X1, hX1⟩ : ∃ X1, X1 = byteRow 16 (nextB (nextB D L) M) := ⟨_, rfl⟩
          obtain ⟨X2, hX2⟩ : ∃ X2, X2 = byteRow 16 (nextB D T) := ⟨_, rfl⟩
          rw [← hX1, ← hX2] at hq
          have HX1 := Lib.hid hX1
          have HX2 := Lib.hid hX2
          clear hL hM hT k0 k1 hX1 hX2 h e1 e2 e3 e4 eN f1 f2 f3 Hp Hm1 Hd HN0 HN1
          go_wp2
          refine region_mix (Below wr.heap.size wr) [(0, true), (1, true), (2, true), (3, true), (5, true), (7, true), (8, true), (9, true), (10, true), (4, false), (6, false), (11, false), (12, true), (13, true), (14, false)] (by kernel_rfl) (by kernel_rfl) (Below.refl _ wr).drew ?_
          refine m_val rfl (by rfl) (.bool true) (fun W _ => by go_simp) ?_
          simp only [Act.put, List.setIfInBounds_toArray, List.set_cons_zero, List.set_cons_succ]
          refine m_val rfl (by rfl) (.bool true) (fun W _ => by go_simp) ?_
          simp only [Act.put, List.setIfInBounds_toArray, List.set_cons_zero, List.set_cons_succ]
          refine m_load rfl (by rfl) 22 (.tmp 9) (by rfl) w2.heap.size 0 _ 16 16 _ (fun W hW => World.rowIs.of_block ha1 (hW.block _ (World.rowIs.lt ha1))) (by rfl) _ Try.underlying22 rfl (by kernel_rfl) (by decide) ?_
          simp only [Act.put, List.setIfInBounds_toArray, List.set_cons_zero, List.set_cons_succ, Nat.zero_add]
          refine m_val rfl (by rfl) (.int .u64 (L : Int)) (fun W _ => by go_simp) ?_
          simp only [Act.put, List.setIfInBounds_toArray, List.set_cons_zero, List.set_cons_succ]
          refine m_val rfl (by rfl) (.int .u64 (M : Int)) (fun W _ => by go_simp) ?_
          simp only [Act.put, List.setIfInBounds_toArray, List.set_cons_zero, List.set_cons_succ]
          refine m_load rfl (by rfl) 22 (.tmp 9) (by rfl) w2.heap.size 0 _ 16 16 _ (fun W hW => World.rowIs.of_block ha1 (hW.block _ (World.rowIs.lt ha1))) (by rfl) _ Try.underlying22 rfl (by kernel_rfl) (by decide) ?_
          simp only [Act.put, List.setIfInBounds_toArray, List.set_cons_zero, List.set_cons_succ, Nat.zero_add]
          refine m_val rfl (by rfl) (.int .u64 (L : Int)) (fun W _ => by go_simp) ?_
          simp only [Act.put, List.setIfInBounds_toArray, List.set_cons_zero, List.set_cons_succ]
          refine m_val rfl (by rfl) (.int .u64 (M : Int)) (fun W _ => by go_simp) ?_
          simp only [Act.put, List.setIfInBounds_toArray, List.set_cons_zero, List.set_cons_succ]
          refine m_val rfl (by rfl) (.int .u64 (T : Int)) (fun W _ => by go_simp) ?_
          simp only [Act.put, List.setIfInBounds_toArray, List.set_cons_zero, List.set_cons_succ]
          refine m_go rfl ?_
          go_wp2_with fail
          refine (C.next D L HL.out _ (size_cellsOf _ _) (cellsOf_at _ _) wr.drew).mono ?_
          rintro x y1 ⟨rfl, hy1⟩
          have hy1' : Below wr.heap.size wr y1 := (Below.refl _ wr).drew.trans hy1
          clear hy1
          go_wp2_with fail
          refine m_on hy1' ?_
          refine m_go rfl ?_
          go_wp2_with fail
          refine (C.next (nextB D L) M HM.out _ (size_cellsOf _ _) (cellsOf_at _ _) y1).mono ?_
          rintro x y2 ⟨rfl, hy2⟩
          have hy2' : Below wr.heap.size wr y2 := hy1'.trans (hy2.mono hy1'.size)
          rw [← HX1.out]
          clear hy2 hy1'
          go_wp2_with fail
          refine m_on hy2' ?_
          refine m_go rfl ?_
          go_wp2_with fail
          refine (C.next D T HT.out _ (size_cellsOf _ _) (cellsOf_at _ _) y2).mono ?_
          rintro x y3 ⟨rfl, hy3⟩
          have hy3' : Below wr.heap.size wr y3 := hy2'.trans (hy3.mono hy2'.size)
          rw [← HX2.out]
          clear hy3 hy2'
          go_wp2_with fail
          refine m_on hy3' ?_
          refine m_val rfl (by rfl) (.bool true) (fun W _ => by go_simp) ?_
          simp only [Act.put, List.setIfInBounds_toArray, List.set_cons_zero, List.set_cons_succ]
          refine m_val rfl (by rfl) (.bool true) (fun W _ => by go_simp) ?_
          simp only [Act.put, List.setIfInBounds_toArray, List.set_cons_zero, List.set_cons_succ]
          refine m_go rfl ?_
          go_wp2_with fail
          refine m_on hy3' ?_
          refine m_end ?_
          go_wp2
          go_ret
          exact ⟨rfl, hb1.trans (hy3'.mono hb1.size)⟩
end Go.Proofs.Ytcdgdoeegehjhaa.Ctr
