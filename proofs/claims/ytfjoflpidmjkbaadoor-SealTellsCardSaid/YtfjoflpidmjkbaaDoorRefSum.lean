/-
  What bartizanref01.Sum does: the digest of bytes.
-/
import Derived.Test.YtfjoflpidmjkbaaDoorRefFilled
import Derived.Test.YtfjoflpidmjkbaaDoorRefBlock
namespace Go.Proofs.YtfjoflpidmjkbaaDoor.Sha
open Go Go.RowKit Go.Proofs.YtfjoflpidmjkbaaDoor.Aid

/-- 'b[i:j]': the bytes between. -/
theorem mid_run {P : Program} (t e : TypeId) (hu : P.underlying t = some (.slice e)) (hsz : (P.info? e).map (·.size) = some 1) (sb M c lo m : Nat) (h1 : 0 < m) (h2 : lo + m ≤ M) (h3 : M ≤ c) (hi : Int) (hhi : hi = ((lo + m : Nat) : Int)) (kd kd' : IntKind) (W : World) :
    (Instr.sliceAt t (.slice (some ⟨sb, 0, none⟩) M c) (some (.int kd (lo : Int))) (some (.int kd' hi)) none).run P W = .ok (.slice (some ⟨sb, lo, none⟩) m (c - lo)) W := by
  subst hhi
  cases hq : P.info? e with
  | none => simp [hq] at hsz
  | some i =>
    have hs : i.size = 1 := by simpa [hq] using hsz
    have e1 : ¬ c = lo := by omega
    have e3 : ((lo : Int) + (m : Int)).toNat = lo + m := by omega
    have e5 : (lo : Int) + (m : Int) ≤ (c : Int) := by omega
    have e6 : lo + m - lo = m := by omega
    have e9 : (0 : Int) ≤ (lo : Int) + (m : Int) := by omega
    simp [Instr.sliceAt, Instr.slice, Instr.sliceBounds, Instr.sliceBound, asIntOf, Sem.run_bind, run_underlying hu W, Result.andThen, sizeOf, typeInfo, hq, hs, Addr.add_mid, e1, e3, e5, e6, e9]

/-- l is a slice of eight numbers: a state. -/
def StAt (w : World) (r : St) (l : Value) : Prop :=
  ∃ gl cl, l = .slice (some ⟨gl, 0, none⟩) 8 cl ∧ 8 ≤ cl ∧ ∀ j, j < 8 → w.cell? ⟨gl, j, none⟩ = some (.int .u32 ((r.get j).toNat : Int))
/-- What Sum holds in its first loop. -/
structure SumRows (D : Nat → BitVec 8) (N B ga : Nat) (w wr : World) : Prop where
  r0 : wr.rowIs B 43 32 (fun _ => .int .u8 0)
  all : ∀ j, j < N → wr.cell? ⟨ga, j, none⟩ = some (.int .u8 ((D j).toNat : Int))
  hb : Below B w wr
theorem SumRows.below {D : Nat → BitVec 8} {N B ga : Nat} {w wr w' : World} (h : SumRows D N B ga w wr) (hb : Below wr.heap.size wr w') : SumRows D N B ga w w' :=
  ⟨h.r0.of_block (hb.block _ h.r0.lt), fun j hj => (hb.cell (p := ⟨ga, j, none⟩) (block_lt_of_cell (h.all j hj))).trans (h.all j hj), h.hb.trans (hb.mono (by have := h.r0.lt; omega))⟩
/-- What Sum holds in its second loop. -/
structure OutRows (r : St) (B gl G k : Nat) (w wr : World) : Prop where
  r0 : wr.rowIs B 43 32 (fun _ => .int .u8 0)
  ws : ∀ j, j < 8 → wr.cell? ⟨gl, j, none⟩ = some (.int .u32 ((r.get j).toNat : Int))
  out : wr.rowIs G 43 32 (fun j => .int .u8 ((bytesTo r k j).toNat : Int))
  hb : Below B w wr
  hG : B < G
  hgl : gl ≠ G
theorem OutRows.next {r : St} {B gl G k : Nat} {w wr : World} (h : OutRows r B gl G k w wr) (v0 v1 v2 v3 : Int) (h0 : v0 = ((byteOf r (4 * k)).toNat : Int)) (h1 : v1 = ((byteOf r (4 * k + 1)).toNat : Int)) (h2 : v2 = ((byteOf r (4 * k + 2)).toNat : Int)) (h3 : v3 = ((byteOf r (4 * k + 3)).toNat : Int)) :
    OutRows r B gl G (k + 1) w ((((wr.setCell ⟨G, 4 * k, none⟩ (.int .u8 v0)).setCell ⟨G, 4 * k + 1, none⟩ (.int .u8 v1)).setCell ⟨G, 4 * k + 2, none⟩ (.int .u8 v2)).setCell ⟨G, 4 * k + 3, none⟩ (.int .u8 v3)) := by
  subst h0 h1 h2 h3
  have hG := h.hG
  have hgl := h.hgl
  refine ⟨(((h.r0.setOther (by simp; omega) _).setOther (by simp; omega) _).setOther (by simp; omega) _).setOther (by simp; omega) _, fun j hj => ?_, ?_, (((h.hb.setCell (by simp; omega) _).setCell (by simp; omega) _).setCell (by simp; omega) _).setCell (by simp; omega) _, hG, hgl⟩
  · rw [World.cell?_setCell_other, World.cell?_setCell_other, World.cell?_setCell_other, World.cell?_setCell_other, h.ws j hj]
    all_goals (intro e; simp only [Addr.mk.injEq] at e; omega)
  · exact ((((h.out.set (4 * k) _).set (4 * k + 1) _).set (4 * k + 2) _).set (4 * k + 3) _).congr (fun j _ => bytesTo_step r k j)
theorem sum_head (w w3 : World) (Z S : Array Value) (hZ : Z = cellsOf 32 fun _ => .int .u8 0) (hS : S = wordCells 8 start.get) (B : Nat) (hB : w.heap.size + 1 + 1 ≤ B) (hb : Below B ((w.alloc (.cells Z 43)).alloc (.cells S 69)) w3) :
    w3.rowIs w.heap.size 43 32 (fun _ => .int .u8 0) ∧ (∀ j, j < 8 → w3.cell? ⟨w.heap.size + 1, j, none⟩ = some (.int .u32 ((start.get j).toNat : Int))) ∧ Below w.heap.size w w3 := by
  subst hZ hS
  have h1 : ((w.alloc (.cells (cellsOf 32 fun _ => .int .u8 0) 43)).alloc (.cells (wordCells 8 start.get) 69)).rowIs w.heap.size 43 32 (fun _ => .int .u8 0) :=
    (row_new w _ _ 32 _ (size_cellsOf _ _) (cellsOf_at _ _)).alloc _
  have h2 := row_new (w.alloc (.cells (cellsOf 32 fun _ => .int .u8 0) 43)) (wordCells 8 start.get) 69 8 _ (size_wordCells _ _) (wordCells_at _ _)
  rw [show (w.alloc (.cells (cellsOf 32 fun _ => .int .u8 0) 43)).heap.size = w.heap.size + 1 by simp] at h2
  refine ⟨h1.of_block (hb.block _ (by omega)), fun j hj => (hb.cell (p := ⟨w.heap.size + 1, j, none⟩) (by simp; omega)).trans (h2.cell hj), ?_⟩
  exact (((Below.refl _ _).alloc (Nat.le_refl _) _).alloc (by simp) _).trans (hb.mono (by omega))

set_option maxRecDepth 100000 in
set_option maxHeartbeats 2000000 in
theorem refSum_any (e : Nat → BitVec 8) (A : Option Addr) (n c : Nat) (w : World) (hs : SliceOf w w.heap.size n e (.slice A n c)) (hn : n ≤ 2000) :
    Calls Tryd.prog 27 #[.slice A n c] w fun x w' => x = .returned (.agg (byteCells 32 (digest e n))) ∧ Below w.heap.size w w' := by
  have hs' : ∀ o1 o2, SliceOf ((w.alloc o1).alloc o2) ((w.alloc o1).alloc o2).heap.size n e (.slice A n c) := fun o1 o2 =>
    slice_any (slice_below hs (((Below.refl w.heap.size w).alloc (Nat.le_refl _) o1).alloc (by simp) o2)) (Nat.le_refl _)
  have Hs := Lib.hid hs'
  clear hs hs'
  go_enter Tryd.func27, Tryd.ntmps27
  go_wp2_with (go_at_call 39
               refine (filled_any e A n c _ (Hs.out _ _) hn).mono ?_
               rintro e0 w3 ⟨v, rfl, hown, hb3⟩)
  obtain ⟨hrow3, hst, hb3'⟩ := sum_head w w3 _ _ (by kernel_rfl) (by kernel_rfl) _ (by simp) hb3
  obtain ⟨B, hB, hown3⟩ : ∃ B : Nat, Hid (B = B) ∧ Own w3 B (n + (padAt n + 8)) (padded e n) v := ⟨_, rfl, hown⟩
  clear hown hb3 hB
  obtain ⟨N, hN⟩ : ∃ N : Nat, N = n + (padAt n + 8) := ⟨_, rfl⟩
  rw [← hN] at hown3
  have hN1 : N ≤ 2072 := by have := padAt_le n; omega
  have hN2 : 0 < N := by have := padAt_le n; omega
  have hN3 : Hid (N % 64 = 0) := by rw [hN]; exact padded_full n
  have HN := Lib.hid hN
  clear hN
  obtain ⟨hv, hm⟩ | ⟨ga, cap, cur, rfl, hgb, hgl, hcap, hheap, hcur, hcells⟩ := hown3.form
  · omega
  have h3 : SumRows (padded e n) N w.heap.size ga w w3 := ⟨hrow3, fun j hj => (cell_of_row w3 ga j cur _ _ hheap).trans (hcells j hj), hb3'⟩
  have hst3 : StAt w3 (after (padded e n) 0) (.slice (some ⟨w.heap.size + 1, 0, none⟩) 8 8) := ⟨_, _, rfl, by omega, hst⟩
  clear hown3 hb3' hrow3 hheap hcells hcur hgb hgl hst
  go_loopw [3, 5] (fun l i wr => ∃ I k : Nat, Hid (I = 64 * k) ∧ I ≤ N ∧ i = .int .i64 (I : Int) ∧ StAt wr (after (padded e n) k) l ∧ SumRows (padded e n) N w.heap.size ga w wr) (fun _ i _ => N - (intOf i).toNat)
  case atStart => exact ⟨0, 0, rfl, by omega, rfl, hst3, h3⟩
  case round =>
    clear hst3 h3
    obtain ⟨I, k, hI, hIN, rfl, ⟨gl, cl, rfl, h8, hst⟩, h⟩ := hrel
    by_cases hlt : I < N
    · have hI2 : I + 64 ≤ N := by have := hI.out; have := hN3.out; omega
      have hcut := fun W => mid_run (P := Tryd.prog) 25 5 Tryd.underlying25 (by kernel_rfl) ga N cap I 64 (by omega) hI2 hcap ((I : Int) + 64) (by omega) .i64 .i64 W
      have hblk := block_any (after (padded e n) k) (fun j => padded e n (64 * k + j)) (.slice (some ⟨gl, 0, none⟩) 8 cl) ga I (cap - I) wr ⟨gl, 0, cl, rfl, h8, fun j hj => by rw [Nat.zero_add]; exact hst j hj⟩ (by omega) (fun j hj => by rw [h.all (I + j) (by omega), hI.out])
      have Hblk := Lib.hid hblk
      have Hh := Lib.hid h
      clear hst hblk h
      go_wp2_with (go_at_call 40
                   refine Hblk.out.mono ?_
                   rintro e0 w4 ⟨gl', cl', rfl, h8', hge', hcell', hb'⟩)
      have h4 := Hh.out.below hb'
      have Hc := Lib.hid hcell'
      clear Hblk Hh hb' hcell' hcut
      go_roundw
      case rel => exact ⟨I + 64, k + 1, (by have := hI.out; show I + 64 = 64 * (k + 1); omega), by omega, by go_num, ⟨gl', cl', rfl, h8', Hc.out⟩, h4⟩
      case measure => simp [intOf]; omega
    · obtain ⟨r, hr⟩ : ∃ r, r = after (padded e n) k := ⟨_, rfl⟩
      have Hr : Hid (digest e n = byteOf r) := by
        show digest e n = byteOf r
        rw [hr]
        unfold digest
        have h1 := hI.out
        have h2 : (n + (padAt n + 8)) / 64 = k := by rw [← HN.out]; omega
        rw [h2]
      rw [← hr] at hst
      clear hr
      have hst' := Lib.hid hst
      have Hh := Lib.hid h
      clear hst h
      go_wp2_with (refine store_whole (by rfl) 43 (.tmp 6) (.tmp 24) (by rfl) wr.heap.size _ 32 (fun _ => .int .u8 0) (fun _ => .int .u8 0) (by exact row_new wr _ _ 32 _ (by rfl) (zeros32 _ (by rfl))) (by rfl) _ (by rfl) (by kernel_rfl) (by rfl) (zeros32 _ (by rfl)) (fun _ _ => rfl) ?_
                   intro w5 hr5 ho5)
      have hb5 : Below wr.heap.size wr w5 := ho5.below ((Below.refl _ _).alloc (Nat.le_refl _) _) (Nat.le_refl _)
      have hr0 := Hh.out.r0.lt
      have h5 : OutRows r w.heap.size gl wr.heap.size 0 w w5 :=
        ⟨Hh.out.r0.of_block (hb5.block _ hr0), fun j hj => (hb5.cell (p := ⟨gl, j, none⟩) (block_lt_of_cell (hst'.out j hj))).trans (hst'.out j hj), hr5.congr (fun j _ => by simp [bytesTo]), Hh.out.hb.trans (hb5.mono (by omega)), hr0, by
          have := block_lt_of_cell (hst'.out 0 (by omega))
          simp at this
          omega⟩
      clear hr5 ho5 hb5 hr0 hst' Hh
      go_loopw [7] (fun i wr' => ∃ k : Nat, k ≤ 8 ∧ i = .int .i64 k ∧ OutRows r w.heap.size gl wr.heap.size k w wr') (fun i _ => 8 - (intOf i).toNat)
      case atStart => exact ⟨0, by omega, rfl, h5⟩
      case round =>
        clear h5
        obtain ⟨k, hk, rfl, h⟩ := hrel
        have hne := h.hgl
        have hne' := h.hgl.symm
        by_cases hlt : k < 8
        · have c0 := h.out.cell (i := 4 * k) (by omega)
          have c1 := h.out.cell (i := 4 * k + 1) (by omega)
          have c2 := h.out.cell (i := 4 * k + 2) (by omega)
          have c3 := h.out.cell (i := 4 * k + 3) (by omega)
          have f0 := h.out.frozen (4 * k)
          have f1 := h.out.frozen (4 * k + 1)
          have f2 := h.out.frozen (4 * k + 2)
          have f3 := h.out.frozen (4 * k + 3)
          have c4 := h.ws k hlt
          have q0 : (0 : Int) ≤ (k : Int) := by omega
          have q1 : (k : Int) < 8 := by omega
          go_wp2
          go_roundw
          case rel => exact ⟨k + 1, by omega, by go_num, h.next _ _ _ _ (byteOf_0 r k) (byteOf_1 r k) (byteOf_2 r k) (byteOf_3 r k)⟩
          case measure => simp [intOf]; omega
        · have hr0 := h.r0
          have hr2 : wr.rowIs _ 43 32 (fun j => .int .u8 ((byteOf r j).toNat : Int)) := h.out.congr (fun j hj => by
            have e : k = 8 := by omega
            simp only [bytesTo, e, if_pos (show j < 4 * 8 by omega)])
          have hbl := h.hb
          clear h
          go_wp2_with (first
            | (refine load_whole (by rfl) 43 (.tmp 6) (by rfl) _ _ _ _ hr2 (by rfl) _ Tryd.underlying43 rfl (by kernel_rfl) ?_)
            | (refine store_whole (by rfl) 43 (.tmp 2) (.tmp 70) (by rfl) w.heap.size _ _ _ _ hr0 (by rfl) _ (by rfl) (by kernel_rfl) (size_cellsOf _ _) (cellsOf_at _ _) (fun _ _ => rfl) ?_
               intro w6 hr6 ho6))
          refine bodyPost_ret (results_row rfl _ w.heap.size _ _ _ _ (by rfl) hr6 Tryd.underlying43 rfl (by kernel_rfl)) rfl ⟨?_, ho6.below hbl (Nat.le_refl _)⟩
          rw [Hr.out]
          rfl
end Go.Proofs.YtfjoflpidmjkbaaDoor.Sha
