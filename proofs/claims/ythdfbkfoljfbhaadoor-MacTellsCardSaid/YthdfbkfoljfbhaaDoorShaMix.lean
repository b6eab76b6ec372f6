/-
  What sha.mix does, for every state, every block and every world that holds the constants: the state behind one more block.
-/
import Derived.Test.YthdfbkfoljfbhaaDoorProg
import Derived.Test.YthdfbkfoljfbhaaDoorShaPlain
import Derived.Test.YthdfbkfoljfbhaaDoorShaSched
namespace Go.Proofs.YthdfbkfoljfbhaaDoor.Sha
open Go Go.RowKit Go.Proofs.YthdfbkfoljfbhaaDoor.Aid

/-- The world holds the two tables of package sha. -/
structure Consts (w : World) : Prop where
  k : ∀ i, i < 64 → w.cell? ⟨1, i, none⟩ = some (.int .u32 ((kOf i).toNat : Int))
  s : ∀ i, i < 8 → w.cell? ⟨0, i, none⟩ = some (.int .u32 ((start.get i).toNat : Int))
theorem Consts.lt {w : World} (h : Consts w) : 1 < w.heap.size ∧ 0 < w.heap.size :=
  ⟨block_lt_of_cell (h.k 0 (by omega)), block_lt_of_cell (h.s 0 (by omega))⟩
theorem Consts.below {w w' : World} (h : Consts w) {B : Nat} (hb : Below B w w') (hB : w.heap.size ≤ B) : Consts w' := by
  have hl := h.lt
  exact ⟨fun i hi => (hb.cell (p := ⟨1, i, none⟩) (by simp; omega)).trans (h.k i hi), fun i hi => (hb.cell (p := ⟨0, i, none⟩) (by simp; omega)).trans (h.s i hi)⟩
theorem Consts.drew {w : World} (h : Consts w) : Consts w.drew := ⟨h.k, h.s⟩
theorem Consts.alloc {w : World} (h : Consts w) (o : Obj) : Consts (w.alloc o) := h.below ((Below.refl w.heap.size w).alloc (Nat.le_refl _) o) (Nat.le_refl _)

/-- What mix holds in its first loop: from block B on. -/
structure MixRows (s : St) (b : Nat → BitVec 8) (B g : Nat) (w wr : World) : Prop where
  st : wr.rowIs B 47 8 (fun j => .int .u32 ((s.get j).toNat : Int))
  res : wr.rowIs (B + 1 + 1) 47 8 (fun _ => .int .u32 0)
  ws : wr.rowIs g 65 64 (fun j => .int .u32 ((sched b j).toNat : Int))
  hb : Below B w wr
  ks : Consts wr
theorem MixRows.drew {s : St} {b : Nat → BitVec 8} {B g : Nat} {w wr : World} (h : MixRows s b B g w wr) : MixRows s b B g w wr.drew := ⟨h.st, h.res, h.ws, h.hb.drew, h.ks.drew⟩

/-- What mix holds at its head. -/
structure MixHead (s : St) (b : Nat → BitVec 8) (w wr : World) : Prop where
  st : wr.rowIs w.heap.size 47 8 (fun j => .int .u32 ((s.get j).toNat : Int))
  bl : wr.rowIs (w.heap.size + 1) 48 64 (fun j => .int .u8 ((b j).toNat : Int))
  res : wr.rowIs (w.heap.size + 1 + 1) 47 8 (fun _ => .int .u32 0)
  hb : Below w.heap.size w wr
  ks : Consts wr
theorem MixHead.born (s : St) (b : Nat → BitVec 8) (w : World) (S C : Array Value) (hS : S.size = 8) (hs : ∀ i, i < 8 → S[i]? = some (.int .u32 ((s.get i).toNat : Int)))
    (hC : C.size = 64) (hc : ∀ i, i < 64 → C[i]? = some (.int .u8 ((b i).toNat : Int))) (hk : Consts w) (Z : Array Value) (hZ : Z = Array.replicate 8 (.int .u32 0)) :
    MixHead s b w (((w.alloc (.cells S 47)).alloc (.cells C 48)).alloc (.cells Z 47)) := by
  have s1 : (w.alloc (.cells S 47)).heap.size = w.heap.size + 1 := by simp
  have s2 : ((w.alloc (.cells S 47)).alloc (.cells C 48)).heap.size = w.heap.size + 1 + 1 := by simp
  have hz : ∀ i, i < 8 → Z[i]? = some (.int .u32 0) := by subst hZ; intro i hi; simp [hi]
  have a0 := row_new w S 47 8 _ hS hs
  have a1 := row_new (w.alloc (.cells S 47)) C 48 64 _ hC hc
  have a2 := row_new ((w.alloc (.cells S 47)).alloc (.cells C 48)) Z 47 8 _ (by subst hZ; simp) hz
  rw [s1] at a1
  rw [s2] at a2
  exact ⟨(a0.alloc _).alloc _, a1.alloc _, a2, (((Below.refl _ _).alloc (by simp) _).alloc (by simp) _).alloc (by simp; omega) _, ((hk.alloc _).alloc _).alloc _⟩
theorem MixHead.rows {s : St} {b : Nat → BitVec 8} {w w1 w2 w3 : World} (h : MixHead s b w w1) (hb : Below w1.heap.size w1 w2) (o : Obj) (ho : Only w2.heap.size (w2.alloc o) w3)
    (hr : w3.rowIs w2.heap.size 65 64 (fun j => .int .u32 ((sched b j).toNat : Int))) : MixRows s b w.heap.size w2.heap.size w w3 := by
  have l1 := h.st.lt
  have l2 := h.res.lt
  have hb2 : Below w.heap.size w1 w2 := hb.mono (by omega)
  have hs := hb.size
  have hb3 : Below w2.heap.size w2 w3 := ho.below ((Below.refl _ _).alloc (Nat.le_refl _) o) (Nat.le_refl _)
  refine ⟨(h.st.of_block (hb.block _ l1)).of_block (hb3.block _ (by omega)), (h.res.of_block (hb.block _ l2)).of_block (hb3.block _ (by omega)), hr, (h.hb.trans hb2).trans (hb3.mono (by omega)), (h.ks.below hb (Nat.le_refl _)).below hb3 (Nat.le_refl _)⟩
theorem zeros64 (Z : Array Value) (hZ : Z = Array.replicate 64 (.int .u32 0)) (i : Nat) (hi : i < 64) : Z[i]? = some (Value.int .u32 0) := by
  subst hZ; simp [hi]

def StIs (r : St) (a b c d e f g h : Value) : Prop :=
  a = .int .u32 (r.a.toNat : Int) ∧ b = .int .u32 (r.b.toNat : Int) ∧ c = .int .u32 (r.c.toNat : Int) ∧ d = .int .u32 (r.d.toNat : Int) ∧
  e = .int .u32 (r.e.toNat : Int) ∧ f = .int .u32 (r.f.toNat : Int) ∧ g = .int .u32 (r.g.toNat : Int) ∧ h = .int .u32 (r.h.toNat : Int)

theorem int_of {k : IntKind} {a b : Int} (h : a = b) : Value.int k a = Value.int k b := by rw [h]
theorem t_walk (r : St) (k x : BitVec 32) :
    ((((((r.h.toNat : Int) + bits BinOp.xor IntKind.u32 (bits BinOp.xor IntKind.u32 ((rotr r.e 6).toNat : Int) ((rotr r.e 11).toNat : Int)) ((rotr r.e 25).toNat : Int)) % 4294967296 +
      bits BinOp.xor IntKind.u32 (bits BinOp.and IntKind.u32 (r.e.toNat : Int) (r.f.toNat : Int)) (bits BinOp.and IntKind.u32 (bits BinOp.xor IntKind.u32 (if IntKind.u32.signed = true then -1 else IntKind.u32.max) (r.e.toNat : Int)) (r.g.toNat : Int))) % 4294967296 +
      (k.toNat : Int)) % 4294967296 + (x.toNat : Int)) % 4294967296) = ((tOf r k x).toNat : Int) := by
  have e : (if IntKind.u32.signed = true then -1 else IntKind.u32.max) = 4294967295 := by decide
  rw [e, not32, xor32, xor32, and32, and32, xor32, add32, add32, add32, add32]
  rfl
theorem u_walk (r : St) :
    (bits BinOp.xor IntKind.u32 (bits BinOp.xor IntKind.u32 ((rotr r.a 2).toNat : Int) ((rotr r.a 13).toNat : Int)) ((rotr r.a 22).toNat : Int) +
      bits BinOp.xor IntKind.u32 (bits BinOp.xor IntKind.u32 (bits BinOp.and IntKind.u32 (r.a.toNat : Int) (r.b.toNat : Int)) (bits BinOp.and IntKind.u32 (r.a.toNat : Int) (r.c.toNat : Int))) (bits BinOp.and IntKind.u32 (r.b.toNat : Int) (r.c.toNat : Int))) % 4294967296 = ((uOf r).toNat : Int) := by
  rw [xor32, xor32, and32, and32, and32, xor32, xor32, add32]
  rfl

def sumTo (r s : St) (k j : Nat) : BitVec 32 := if j < k then r.get j + s.get j else r.get j
theorem sumTo_step (r s : St) (k j : Nat) : (if j = k then Value.int .u32 ((r.get k + s.get k).toNat : Int) else Value.int .u32 ((sumTo r s k j).toNat : Int)) = Value.int .u32 ((sumTo r s (k + 1) j).toNat : Int) := by
  unfold sumTo
  by_cases h : j = k
  · subst h; simp
  · by_cases h2 : j < k
    · simp [h, h2, Nat.lt_succ_of_lt h2]
    · have : ¬ j < k + 1 := by omega
      simp [h, h2, this]
theorem sumTo_end (r s : St) (j : Nat) (h : j < 8) : sumTo r s 8 j = (r.plus s).get j := by
  unfold sumTo
  rw [if_pos h]
  match j, h with
  | 0, _ => rfl
  | 1, _ => rfl
  | 2, _ => rfl
  | 3, _ => rfl
  | 4, _ => rfl
  | 5, _ => rfl
  | 6, _ => rfl
  | 7, _ => rfl
theorem stCells_at (r : St) (i : Nat) (hi : i < 8) :
    (#[Value.int .u32 (r.a.toNat : Int), Value.int .u32 (r.b.toNat : Int), Value.int .u32 (r.c.toNat : Int), Value.int .u32 (r.d.toNat : Int), Value.int .u32 (r.e.toNat : Int), Value.int .u32 (r.f.toNat : Int), Value.int .u32 (r.g.toNat : Int), Value.int .u32 (r.h.toNat : Int)] : Array Value)[i]? = some (.int .u32 ((r.get i).toNat : Int)) := by
  match i, hi with
  | 0, _ => rfl
  | 1, _ => rfl
  | 2, _ => rfl
  | 3, _ => rfl
  | 4, _ => rfl
  | 5, _ => rfl
  | 6, _ => rfl
  | 7, _ => rfl
/-- What mix holds in its second loop. -/
structure EndRows (r s : St) (B g k : Nat) (w wr : World) : Prop where
  st : wr.rowIs B 47 8 (fun j => .int .u32 ((s.get j).toNat : Int))
  res : wr.rowIs (B + 1 + 1) 47 8 (fun _ => .int .u32 0)
  nx : wr.rowIs g 47 8 (fun j => .int .u32 ((sumTo r s k j).toNat : Int))
  hb : Below B w wr
  hg : B + 1 + 1 < g
theorem EndRows.born {s r : St} {b : Nat → BitVec 8} {B g : Nat} {w wr : World} (h : MixRows s b B g w wr) (R : Array Value) (hR : R.size = 8) (hr : ∀ i, i < 8 → R[i]? = some (.int .u32 ((r.get i).toNat : Int))) :
    EndRows r s B wr.heap.size 0 w (wr.alloc (.cells R 47)) := by
  have l1 := h.res.lt
  exact ⟨h.st.alloc _, h.res.alloc _, (row_new wr R 47 8 _ hR hr).congr (fun j _ => by simp [sumTo]), h.hb.alloc (by omega) _, l1⟩
theorem EndRows.next {s r : St} {B g k : Nat} {w wr : World} (h : EndRows r s B g k w wr) (v : Int) (hv : v = ((r.get k + s.get k).toNat : Int)) :
    EndRows r s B g (k + 1) w (wr.setCell ⟨g, k, none⟩ (.int .u32 v)).drew := by
  subst hv
  have := h.hg
  exact ⟨(h.st.setOther (by simp; omega) _).drew, (h.res.setOther (by simp; omega) _).drew, ((h.nx.set k _).congr (fun j _ => sumTo_step r s k j)).drew, (h.hb.setCell (by simp; omega) _).drew, h.hg⟩

theorem rotr_any (x : BitVec 32) (k : Int) (h1 : 1 ≤ k) (h2 : k ≤ 31) (w : World) :
    Calls Tryd.prog 35 #[.int .u32 x.toNat, .int .u64 k] w fun e w' => e = .returned (.int .u32 (rotr x k.toNat).toNat) ∧ w = w' :=
  (rotr_still x k h1 h2 w).mono fun _ _ ⟨he, hw⟩ => ⟨he, hw.symm⟩

set_option maxRecDepth 100000 in
set_option maxHeartbeats 2000000 in
theorem mix_any (s : St) (b : Nat → BitVec 8) (S C : Array Value) (hS : S.size = 8) (hs : ∀ i, i < 8 → S[i]? = some (.int .u32 ((s.get i).toNat : Int)))
    (hC : C.size = 64) (hc : ∀ i, i < 64 → C[i]? = some (.int .u8 ((b i).toNat : Int))) (w : World) (hk : Consts w) :
    Calls Tryd.prog 26 #[.agg S, .agg C] w fun e w' => e = .returned (.agg (wordCells 8 (mixOf s b).get)) ∧ Below w.heap.size w w' := by
  have HS := Lib.hid hS
  have Hs := Lib.hid hs
  have HC := Lib.hid hC
  have Hc := Lib.hid hc
  clear hS hs hC hc
  go_enter Tryd.func26, Tryd.ntmps26
  have hh := MixHead.born s b w S C HS.out Hs.out HC.out Hc.out hk _ rfl
  go_wp2_with (refine load_whole (by rfl) 48 (.tmp 3) (by rfl) (w.heap.size + 1) _ 64 (fun j => .int .u8 ((b j).toNat : Int)) (by exact hh.bl) (by rfl) _ Tryd.underlying48 rfl (by kernel_rfl) ?_)
  refine (schedule_any b _ (size_cellsOf _ _) (cellsOf_at _ _) _).mono ?_
  rintro e w2 ⟨rfl, hb2⟩
  have hz : Hid ((wordCells 64 (sched b)).size = 64) := size_wordCells _ _
  obtain ⟨Z, hZ⟩ : ∃ Z, Z = wordCells 64 (sched b) := ⟨_, rfl⟩
  have HZ := Lib.hid hZ
  rw [← hZ] at hz ⊢
  clear hZ
  have Hb2 := Lib.hid hb2
  clear hb2
  go_wp2_with (refine store_whole (by rfl) 65 (.tmp 5) (.tmp 20) (by rfl) w2.heap.size _ 64 _ (fun j => .int .u32 ((sched b j).toNat : Int)) (by exact row_new _ _ _ 64 (fun _ => .int .u32 0) (by rfl) (zeros64 _ (by rfl))) (by rfl) _ (by rfl) (by kernel_rfl) hz.out (by intro i hi; rw [HZ.out]; exact wordCells_at 64 _ i hi) (fun _ _ => rfl) ?_
               intro w3 hr3 ho3)
  have h := hh.rows Hb2.out _ ho3 hr3
  clear hh Hb2 hr3 ho3 hz HZ
  have c0 := h.st.cell (i := 0) (by omega)
  have c1 := h.st.cell (i := 1) (by omega)
  have c2 := h.st.cell (i := 2) (by omega)
  have c3 := h.st.cell (i := 3) (by omega)
  have c4 := h.st.cell (i := 4) (by omega)
  have c5 := h.st.cell (i := 5) (by omega)
  have c6 := h.st.cell (i := 6) (by omega)
  have c7 := h.st.cell (i := 7) (by omega)
  simp only [Act.put]
  refine region_still (by kernel_rfl) (by kernel_rfl) ?_
  repeat still_step
  refine wpStill_nil ?_
  clear c0 c1 c2 c3 c4 c5 c6 c7
  obtain ⟨w4, hw4⟩ : ∃ w4, w4 = w3.drew := ⟨_, rfl⟩
  rw [← hw4]
  have h4 : MixRows s b w.heap.size w2.heap.size w w4 := by rw [hw4]; exact h.drew
  clear hw4 h
  go_wp2
  go_loopw [6, 7, 8, 9, 10, 11, 12, 13, 37] (fun a0 a1 a2 a3 a4 a5 a6 a7 i wr => ∃ k : Nat, k ≤ 64 ∧ i = .int .i64 k ∧ StIs (rounds s kOf (sched b) k) a0 a1 a2 a3 a4 a5 a6 a7 ∧ MixRows s b w.heap.size w2.heap.size w wr) (fun _ _ _ _ _ _ _ _ i _ => 64 - (intOf i).toNat)
  case atStart => exact ⟨0, by omega, rfl, ⟨rfl, rfl, rfl, rfl, rfl, rfl, rfl, rfl⟩, h4⟩
  case round =>
    clear h4
    obtain ⟨k, hk, rfl, ⟨rfl, rfl, rfl, rfl, rfl, rfl, rfl, rfl⟩, h⟩ := hrel
    by_cases hlt : k < 64
    · obtain ⟨r, hr⟩ : ∃ r, r = rounds s kOf (sched b) k := ⟨_, rfl⟩
      rw [← hr]
      have Hr := Lib.hid hr
      clear hr
      have c0 := h.ks.k k hlt
      have c1 := h.ws.cell hlt
      have q0 : (0 : Int) ≤ (k : Int) := by omega
      have q1 : (k : Int) < 64 := by omega
      go_wp2
      refine region_still (by kernel_rfl) (by kernel_rfl) ?_
      repeat (first | still_call (rotr_still _ _ (by decide) (by decide) _) | still_step)
      refine wpStill_nil ?_
      go_wp2_with (go_at_call 35; refine (rotr_any _ _ (by decide) (by decide) _).mono ?_; rintro e w' ⟨rfl, rfl⟩)
      go_roundw
      case rel =>
        refine ⟨k + 1, by omega, by go_num, ?_, h.drew⟩
        show StIs ((rounds s kOf (sched b) k).round (kOf k) (sched b k)) _ _ _ _ _ _ _ _
        rw [← Hr.out]
        exact ⟨int_of (by rw [t_walk, u_walk, add32]; rfl), rfl, rfl, rfl, int_of (by rw [t_walk, add32]; rfl), rfl, rfl, rfl⟩
      case measure => simp [intOf]; omega
    · obtain ⟨r, hr⟩ : ∃ r, r = rounds s kOf (sched b) k := ⟨_, rfl⟩
      rw [← hr]
      have Hr : Hid (r = rounds s kOf (sched b) 64) := by
        have e : k = 64 := by omega
        rw [e] at hr; exact hr
      clear hr
      go_wp2
      go_loopw [18, 109] (fun _ i wr2 => ∃ k : Nat, k ≤ 8 ∧ i = .int .i64 k ∧ EndRows r s w.heap.size wr.heap.size k w wr2) (fun _ i _ => 8 - (intOf i).toNat)
      case atStart => exact ⟨0, by omega, rfl, EndRows.born h _ rfl (stCells_at r)⟩
      case round =>
        clear h hlt
        obtain ⟨g, hg⟩ : ∃ g : Nat, Hid (g = k) := ⟨_, rfl⟩
        obtain ⟨k, hk, rfl, h⟩ := hrel
        by_cases hlt : k < 8
        · have c0 := h.nx.cell (i := k) (by omega)
          have c1 := h.st.cell (i := k) (by omega)
          have f0 := h.nx.frozen k
          rw [show sumTo r s k k = r.get k by simp [sumTo]] at c0
          have q0 : (0 : Int) ≤ (k : Int) := by omega
          have q1 : (k : Int) < 8 := by omega
          go_wp2
          refine region_tail 8 (by kernel_rfl) (by kernel_rfl) ?_
          simp only [List.take_succ_cons, List.take_zero, List.drop_succ_cons, List.drop_zero]
          repeat still_step
          refine wpStill_nil ?_
          go_wp2
          go_roundw
          case rel => exact ⟨k + 1, by omega, by go_num, h.next _ (add32 _ _)⟩
          case measure => simp [intOf]; omega
        · have hr1 := h.res
          have hr2 : wr.rowIs _ 47 8 (fun j => .int .u32 (((mixOf s b).get j).toNat : Int)) := h.nx.congr (fun j hj => by
            have e : k = 8 := by omega
            rw [e, sumTo_end r s j hj, Hr.out]; rfl)
          have hbl := h.hb
          clear h
          go_wp2_with (first
            | (refine load_whole (by rfl) 47 (.tmp 17) (by rfl) _ _ _ _ hr2 (by rfl) _ Tryd.underlying47 rfl (by kernel_rfl) ?_)
            | (refine store_whole (by rfl) 47 (.tmp 4) (.tmp 121) (by rfl) (w.heap.size + 1 + 1) _ _ _ _ hr1 (by rfl) _ (by rfl) (by kernel_rfl) (size_cellsOf _ _) (cellsOf_at _ _) (fun _ _ => rfl) ?_
               intro w3 hr3 ho3))
          exact bodyPost_ret (results_row rfl _ (w.heap.size + 1 + 1) _ _ _ _ (by rfl) hr3 Tryd.underlying47 rfl (by kernel_rfl)) rfl ⟨rfl, ho3.below hbl (by omega)⟩
end Go.Proofs.YthdfbkfoljfbhaaDoor.Sha
