/-
  What copyOf does. A book that lies in a block, at some place in it, its lists in blocks of their own; what a change of it leaves. What next, rekey and remove do. What the law's own of a book does: the same book, for the document.
-/
import Derived.Test.YtebchoeeohmlaaaDoorBd11
import Derived.Test.YtebchoeeohmlaaaDoorBd12
import Derived.Test.YtebchoeeohmlaaaDoorBd14
import Derived.Test.YtebchoeeohmlaaaDoorBd09
import Derived.Test.YtebchoeeohmlaaaDoorBd15
import Derived.Test.YtebchoeeohmlaaaDoorBd16
import Derived.Test.YtebchoeeohmlaaaDoorBd06
import Derived.Test.YtebchoeeohmlaaaDoorBd07
import Derived.WalkSmall
import Derived.WalkMore
import Derived.OwnWalk
import Derived.Deep.DeepCutAuto
namespace Go.Proofs.YtebchoeeohmlaaaDoor.Book
open Go Go.RowKit Go.Proofs.YtebchoeeohmlaaaDoor.Aid

theorem bookF_L (b : Bk) (Lv Rv v : Value) : (fun j => if j = 0 then v else bookF b Lv Rv j) = bookF b v Rv := by
  funext j
  unfold bookF
  by_cases h : j = 0
  · rw [if_pos h, if_pos h]
  · rw [if_neg h, if_neg h, if_neg h]
theorem bookF_R (b : Bk) (Lv Rv v : Value) : (fun j => if j = 1 then v else bookF b Lv Rv j) = bookF b Lv v := by
  funext j
  unfold bookF
  by_cases h : j = 0
  · subst h; rfl
  · by_cases h1 : j = 1
    · subst h1; rfl
    · rw [if_neg h1, if_neg h, if_neg h1, if_neg h, if_neg h1]
theorem bookF_one {b : Bk} {Lv Rv : Value} (h1 : Lv.oneCell' = true) (h2 : Rv.oneCell' = true) (j : Nat) : (bookF b Lv Rv j).oneCell' = true := by
  unfold bookF
  split
  · exact h1
  · split
    · exact h2
    · split
      · rfl
      · rfl
theorem own_one {W : World} {base : Nat} {e : TypeId} {s : Nat} {L : List (List Value)} {v : Value} (h : OwnE W base e s L v) : v.oneCell' = true := by
  obtain ⟨A, c, rfl⟩ := h.shape
  rfl
set_option maxRecDepth 100000 in
set_option maxHeartbeats 2000000 in
theorem copyOf_any {w : World} (b : Bk) (Lv Rv : Value) (hL : RowsAt w 17 b.L.length (entsL b) Lv) (hR : RowsAt w 16 b.rev.length (revsL b) Rv) (h1 : b.L.length ≤ 100000) (h2 : b.rev.length ≤ 100000) (hap : ∀ g, w.heap.size ≤ g → Lv.ownBlock ≠ some g ∧ Rv.ownBlock ≠ some g) :
    Calls Tryd.prog 44 #[bookV b Lv Rv] w fun y w' => ∃ Lv' Rv', y = .returned (bookV b Lv' Rv') ∧ OwnBk w' w.heap.size b Lv' Rv' ∧ Below w.heap.size w w' := by
  have hr := row_new w (cellsOf 19 (bookF b Lv Rv)) 38 19 (bookF b Lv Rv) (size_cellsOf _ _) (cellsOf_at _ _)
  have hb := (Below.refl w.heap.size w).alloc (Nat.le_refl _) (.cells (cellsOf 19 (bookF b Lv Rv)) 38)
  have HB := Lib.hid hb
  have HL := Lib.hid (rows_below hL hb)
  have HR := Lib.hid (rows_below hR hb)
  have HROW := Lib.hid hr
  have HAP : Hid ((∀ g, w.heap.size ≤ g → Lv.ownBlock ≠ some g) ∧ ∀ g, w.heap.size ≤ g → Rv.ownBlock ≠ some g) := Lib.hid ⟨fun g hg => (hap g hg).1, fun g hg => (hap g hg).2⟩
  obtain ⟨A, c, rfl, -⟩ := hL
  obtain ⟨A2, c2, rfl, -⟩ := hR
  clear hr hb hap
  unfold bookV
  generalize cellsOf 19 (bookF b (.slice A b.L.length c) (.slice A2 b.rev.length c2)) = C at *
  go_enter Tryd.func44, Tryd.ntmps44
  go_upto_region 1 with fail
  have HSZ : Hid ((w.alloc (.cells C 38)).heap.size = w.heap.size + 1) := Lib.hid (by simp)
  generalize w.alloc (.cells C 38) = w1 at *
  have HZ := Lib.hid (row_new w1 _ 38 19 (bookF bk0 (.slice none 0 0) (.slice none 0 0)) (by rfl) (zero19 _ rfl))
  rw [HSZ.out] at HZ
  have hb2 := (Below.refl w1.heap.size w1).alloc (Nat.le_refl _) (.cells #[.slice none 0 0, .slice none 0 0, .int .i64 0, .int .u8 0, .int .u8 0, .int .u8 0, .int .u8 0, .int .u8 0, .int .u8 0, .int .u8 0, .int .u8 0, .int .u8 0, .int .u8 0, .int .u8 0, .int .u8 0, .int .u8 0, .int .u8 0, .int .u8 0, .int .u8 0] 38)
  have HB2 := Lib.hid (HB.out.trans (hb2.mono HB.out.size))
  have HL2 := Lib.hid (rows_below HL.out hb2)
  have HR2 := Lib.hid (rows_below HR.out hb2)
  have HROW2 := Lib.hid (HROW.out.of_block (hb2.block w.heap.size (by have := HSZ.out; omega)))
  have HS2 : Hid (w.heap.size + 2 ≤ (w1.alloc (.cells #[.slice none 0 0, .slice none 0 0, .int .i64 0, .int .u8 0, .int .u8 0, .int .u8 0, .int .u8 0, .int .u8 0, .int .u8 0, .int .u8 0, .int .u8 0, .int .u8 0, .int .u8 0, .int .u8 0, .int .u8 0, .int .u8 0, .int .u8 0, .int .u8 0, .int .u8 0] 38)).heap.size) := Lib.hid (by have := HSZ.out; simp; omega)
  clear hb2 HB HL HR HROW HSZ
  generalize w1.alloc (.cells #[.slice none 0 0, .slice none 0 0, .int .i64 0, .int .u8 0, .int .u8 0, .int .u8 0, .int .u8 0, .int .u8 0, .int .u8 0, .int .u8 0, .int .u8 0, .int .u8 0, .int .u8 0, .int .u8 0, .int .u8 0, .int .u8 0, .int .u8 0, .int .u8 0, .int .u8 0] 38) = w2 at *
  have c0 := HROW2.out.cell (i := 0) (by omega)
  rw [show bookF b (.slice A b.L.length c) (.slice A2 b.rev.length c2) 0 = .slice A b.L.length c from rfl] at c0
  go_wp2_with fail
  refine (cloneE w2 b.L.length (entsL b) _ HL2.out (fun i _ => by unfold entsL; simp) h1).mono ?_
  rintro _ w3 ⟨Lv', rfl, ho3, hb3⟩
  have HO3 : Hid (OwnE w3 w2.heap.size 95 17 (b.L.map entR) Lv') := Lib.hid (by rw [← ents_map]; exact ho3)
  have HR3 := Lib.hid (rows_below HR2.out hb3)
  have HROW3 := Lib.hid (HROW2.out.of_block (hb3.block w.heap.size (by have := HS2.out; omega)))
  have HZ3 := Lib.hid (HZ.out.of_block (hb3.block (w.heap.size + 1) (by have := HS2.out; omega)))
  have HB3 := Lib.hid (HB2.out.trans (hb3.mono HB2.out.size))
  have HS3 : Hid (w2.heap.size ≤ w3.heap.size) := Lib.hid hb3.size
  clear ho3 hb3 HL2 HR2 HROW2 HZ c0 HB2
  have c1 := HROW3.out.cell (i := 0) (by omega)
  have f1 := HROW3.out.frozen 0
  rw [show bookF b (.slice A b.L.length c) (.slice A2 b.rev.length c2) 0 = .slice A b.L.length c from rfl] at c1
  obtain ⟨A3, d3, hs3⟩ := HO3.out.shape
  subst hs3
  rw [List.length_map] at HO3
  go_upto_region 2 with fail
  have ho4 := only_setCells w.heap.size [.slice A3 b.L.length d3] 0 w3
  rw [show w3.setCells w.heap.size 0 [.slice A3 b.L.length d3] = w3.setCell ⟨w.heap.size, 0, none⟩ (.slice A3 b.L.length d3) from rfl] at ho4
  have HROW4 : Hid ((w3.setCell ⟨w.heap.size, 0, none⟩ (.slice A3 b.L.length d3)).rowIs w.heap.size 38 19 (bookF b (.slice A3 b.L.length d3) (.slice A2 b.rev.length c2))) := Lib.hid (by
    have := HROW3.out.set 0 (.slice A3 b.L.length d3)
    rw [bookF_L] at this
    exact this)
  have HZ4 := Lib.hid (HZ3.out.of_block (ho4.block (w.heap.size + 1) (by omega)))
  have HO4 : Hid (OwnE (w3.setCell ⟨w.heap.size, 0, none⟩ (.slice A3 b.L.length d3)) w2.heap.size 95 17 (b.L.map entR) (.slice A3 b.L.length d3)) := Lib.hid (HO3.out.keep (fun g hg => ho4.block g (by have := (HO3.out.lt g hg).1; have := HS2.out; omega)))
  have HR4 := Lib.hid (rows_only (g := w.heap.size) HR3.out (HAP.out.2 _ (Nat.le_refl _)) ho4)
  have HB4 := Lib.hid (ho4.below HB3.out (Nat.le_refl _))
  have HS4 : Hid ((w3.setCell ⟨w.heap.size, 0, none⟩ (.slice A3 b.L.length d3)).heap.size = w3.heap.size) := Lib.hid ho4.size
  clear ho4 HROW3 HZ3 HO3 HR3 HB3 c1 f1
  generalize w3.setCell ⟨w.heap.size, 0, none⟩ (.slice A3 b.L.length d3) = w4 at *
  have c0 := HROW4.out.cell (i := 1) (by omega)
  rw [show bookF b (.slice A3 b.L.length d3) (.slice A2 b.rev.length c2) 1 = .slice A2 b.rev.length c2 from rfl] at c0
  go_wp2_with fail
  refine (cloneW w4 b.rev.length (revsL b) _ HR4.out (fun i _ => by unfold revsL; simp) h2).mono ?_
  rintro _ w5 ⟨Rv', rfl, ho5, hb5⟩
  have HP5 : Hid (OwnE w5 w4.heap.size 26 16 (b.rev.map wordR) Rv') := Lib.hid (by rw [← revs_map]; exact ho5)
  have HO5 := Lib.hid (HO4.out.below hb5)
  have HROW5 := Lib.hid (HROW4.out.of_block (hb5.block w.heap.size (by have := HS2.out; have := HS3.out; have := HS4.out; omega)))
  have HZ5 := Lib.hid (HZ4.out.of_block (hb5.block (w.heap.size + 1) (by have := HS2.out; have := HS3.out; have := HS4.out; omega)))
  have HB5 := Lib.hid (HB4.out.trans (hb5.mono HB4.out.size))
  clear ho5 hb5 HR4 HROW4 HZ4 c0 HB4 HO4
  have c1 := HROW5.out.cell (i := 1) (by omega)
  have f1 := HROW5.out.frozen 1
  rw [show bookF b (.slice A3 b.L.length d3) (.slice A2 b.rev.length c2) 1 = .slice A2 b.rev.length c2 from rfl] at c1
  obtain ⟨A5, d5, hs5⟩ := HP5.out.shape
  subst hs5
  rw [List.length_map] at HP5
  go_upto_region 3 with fail
  have ho6 := only_setCells w.heap.size [.slice A5 b.rev.length d5] 1 w5
  rw [show w5.setCells w.heap.size 1 [.slice A5 b.rev.length d5] = w5.setCell ⟨w.heap.size, 1, none⟩ (.slice A5 b.rev.length d5) from rfl] at ho6
  have HROW6 : Hid ((w5.setCell ⟨w.heap.size, 1, none⟩ (.slice A5 b.rev.length d5)).rowIs w.heap.size 38 19 (bookF b (.slice A3 b.L.length d3) (.slice A5 b.rev.length d5))) := Lib.hid (by
    have := HROW5.out.set 1 (.slice A5 b.rev.length d5)
    rw [bookF_R] at this
    exact this)
  have HZ6 := Lib.hid (HZ5.out.of_block (ho6.block (w.heap.size + 1) (by omega)))
  have HO6 : Hid (OwnBk (w5.setCell ⟨w.heap.size, 1, none⟩ (.slice A5 b.rev.length d5)) w2.heap.size b (.slice A3 b.L.length d3) (.slice A5 b.rev.length d5)) := Lib.hid ⟨HO5.out.keep (fun g hg => ho6.block g (by have := (HO5.out.lt g hg).1; have := HS2.out; omega)),
    (HP5.out.base_ (by have := HS3.out; have := HS4.out; omega)).keep (fun g hg => ho6.block g (by have := (HP5.out.lt g hg).1; have := HS2.out; have := HS3.out; have := HS4.out; omega))⟩
  have HB6 := Lib.hid (ho6.below HB5.out (Nat.le_refl _))
  clear ho6 HROW5 HZ5 HO5 HP5 HB5 c1 f1
  generalize w5.setCell ⟨w.heap.size, 1, none⟩ (.slice A5 b.rev.length d5) = w6 at *
  go_wp2_with first
    | (refine load_whole (by rfl) 38 (.tmp 1) (by rfl) w.heap.size _ 19 _ HROW6.out (by rfl) _ Tryd.underlying38 (by rfl) (by kernel_rfl) ?_)
    | (refine store_whole (by rfl) 38 (.tmp 2) (.tmp 11) (by rfl) (w.heap.size + 1) _ 19 _ (bookF b (.slice A3 b.L.length d3) (.slice A5 b.rev.length d5)) HZ6.out (by rfl) _ (by rfl) (by kernel_rfl) (size_cellsOf _ _) (cellsOf_at _ _) (fun i _ => bookF_one rfl rfl i) ?_; intro w7 hr7 ho7)
  have HO7 : Hid (OwnBk w7 w.heap.size b (.slice A3 b.L.length d3) (.slice A5 b.rev.length d5)) := Lib.hid (by
    have hk := HO6.out.keep (W' := w7) (fun g hg => ho7.block g (by have := (HO6.out.lt g hg).1; have := HS2.out; omega))
    have hle : w.heap.size ≤ w2.heap.size := by have := HS2.out; omega
    exact ⟨hk.eL.base_ hle, hk.eR.base_ hle⟩)
  have HB7 := Lib.hid (ho7.below HB6.out (Nat.le_succ _))
  have HR7 := Lib.hid hr7
  clear hr7 ho7 HO6 HB6 HZ6 HROW6
  refine bodyPost_ret (v := bookV b (.slice A3 b.L.length d3) (.slice A5 b.rev.length d5)) (results_row rfl _ (w.heap.size + 1) _ 19 _ _ rfl HR7.out Tryd.underlying38 (by rfl) (by kernel_rfl)) rfl ?_
  exact ⟨_, _, rfl, HO7.out, HB7.out⟩
end Go.Proofs.YtebchoeeohmlaaaDoor.Book
namespace Go.Proofs.YtebchoeeohmlaaaDoor.Book
open Go Go.RowKit Go.Proofs.YtebchoeeohmlaaaDoor.Aid

structure BkPtr (W : World) (g o t n base : Nat) (b : Bk) (Lv Rv : Value) (f : Nat → Value) : Prop where
  row : W.rowIs g t n f
  room : o + 19 ≤ n
  at_ : ∀ j, j < 19 → f (o + j) = bookF b Lv Rv j
  own : OwnBk W base b Lv Rv
  base_le : base ≤ W.heap.size
  apart : Apart Lv Rv g
/-- Its blocks. -/
def BkFp (g : Nat) (Lv Rv : Value) (k : Nat) : Prop := k = g ∨ Lv.ownBlock = some k ∨ Rv.ownBlock = some k
/-- What a change leaves. -/
def Turned (w W : World) (g o t n base : Nat) (b : Bk) (Lv Rv : Value) (f : Nat → Value) : Prop :=
  ∃ Lv' Rv' f', BkPtr W g o t n base b Lv' Rv' f' ∧ (∀ j, (j < o ∨ o + 19 ≤ j) → f' j = f j) ∧ Cache.Leaves (BkFp g Lv Rv) w W ∧ ∀ k, BkFp g Lv' Rv' k → BkFp g Lv Rv k ∨ w.heap.size ≤ k
section
variable {w W W' : World} {g o t n base : Nat} {b : Bk} {Lv Rv : Value} {f : Nat → Value}
theorem BkPtr.lt (h : BkPtr W g o t n base b Lv Rv f) : g < W.heap.size := World.rowIs.lt h.row
theorem BkPtr.below (h : BkPtr W g o t n base b Lv Rv f) (hb : Below W.heap.size W W') : BkPtr W' g o t n base b Lv Rv f :=
  ⟨h.row.of_block (hb.block g h.lt), h.room, h.at_, h.own.below hb, Nat.le_trans h.base_le hb.size, h.apart⟩
theorem BkPtr.keep (h : BkPtr W g o t n base b Lv Rv f) (hk : ∀ k, BkFp g Lv Rv k → W'.heap[k]? = W.heap[k]?) (hs : W.heap.size ≤ W'.heap.size) : BkPtr W' g o t n base b Lv Rv f :=
  ⟨h.row.of_block (hk g (.inl rfl)), h.room, h.at_, h.own.keep (fun k hk' => hk k (.inr hk')), Nat.le_trans h.base_le hs, h.apart⟩
theorem BkPtr.same (h : BkPtr W g o t n base b Lv Rv f) (hb : Below W.heap.size W W') : Turned W W' g o t n base b Lv Rv f :=
  ⟨Lv, Rv, f, h.below hb, fun _ _ => rfl, Cache.Leaves.of_below hb, fun _ hk => .inl hk⟩
theorem BkPtr.cells (h : BkPtr W g o t n base b Lv Rv f) : cellsOf 19 (fun j => f (o + j)) = cellsOf 19 (bookF b Lv Rv) := cellsOf_congr fun j hj => h.at_ j hj
theorem BkPtr.c0 (h : BkPtr W g o t n base b Lv Rv f) : W.cell? ⟨g, o, none⟩ = some Lv := by
  rw [h.row.cell (i := o) (by have := h.room; omega)]
  exact congrArg some (h.at_ 0 (by omega))
theorem BkPtr.c1 (h : BkPtr W g o t n base b Lv Rv f) : W.cell? ⟨g, o + 1, none⟩ = some Rv := by
  rw [h.row.cell (i := o + 1) (by have := h.room; omega)]
  exact congrArg some (h.at_ 1 (by omega))
theorem BkPtr.c2 (h : BkPtr W g o t n base b Lv Rv f) : W.cell? ⟨g, o + 2, none⟩ = some (.int .i64 b.gen) := by
  rw [h.row.cell (i := o + 2) (by have := h.room; omega)]
  exact congrArg some (h.at_ 2 (by omega))
/-- The list of entries is another. -/
theorem BkPtr.setL (h : BkPtr W g o t n base b Lv Rv f) {L' : List (ByteArray × Wd)} {Lv' : Value} (hL : OwnE W base 95 17 (L'.map entR) Lv') (hg : Lv'.ownBlock ≠ some g) :
    BkPtr (W.setCell ⟨g, o, none⟩ Lv') g o t n base { b with L := L' } Lv' Rv (fun j => if j = o then Lv' else f j) := by
  have ho := only_setCells g [Lv'] o W
  rw [show W.setCells g o [Lv'] = W.setCell ⟨g, o, none⟩ Lv' from rfl] at ho
  refine ⟨h.row.set o Lv', h.room, fun j hj => ?_, ⟨hL.keep (fun k hk => ho.block k (fun e => hg (by rw [hk, e]))), h.own.eR.keep (fun k hk => ho.block k (fun e => h.apart.2 (by rw [hk, e])))⟩, by rw [ho.size]; exact h.base_le, ⟨hg, h.apart.2⟩⟩
  by_cases h0 : j = 0
  · subst h0
    rw [if_pos (by omega)]
    rfl
  · rw [if_neg (by omega), h.at_ j hj]
    unfold bookF
    rw [if_neg h0, if_neg h0]
theorem BkPtr.setR (h : BkPtr W g o t n base b Lv Rv f) {R' : List Wd} {Rv' : Value} (hR : OwnE W base 26 16 (R'.map wordR) Rv') (hg : Rv'.ownBlock ≠ some g) :
    BkPtr (W.setCell ⟨g, o + 1, none⟩ Rv') g o t n base { b with rev := R' } Lv Rv' (fun j => if j = o + 1 then Rv' else f j) := by
  have ho := only_setCells g [Rv'] (o + 1) W
  rw [show W.setCells g (o + 1) [Rv'] = W.setCell ⟨g, o + 1, none⟩ Rv' from rfl] at ho
  refine ⟨h.row.set (o + 1) Rv', h.room, fun j hj => ?_, ⟨h.own.eL.keep (fun k hk => ho.block k (fun e => h.apart.1 (by rw [hk, e]))), hR.keep (fun k hk => ho.block k (fun e => hg (by rw [hk, e])))⟩, by rw [ho.size]; exact h.base_le, ⟨h.apart.1, hg⟩⟩
  by_cases h0 : j = 1
  · subst h0
    rw [if_pos rfl]
    rfl
  · rw [if_neg (by omega), h.at_ j hj]
    unfold bookF
    rw [if_neg h0]
    by_cases h1 : j = 0
    · rw [if_pos h1, if_pos h1]
    · rw [if_neg h1, if_neg h1, if_neg h0]
theorem BkPtr.setG (h : BkPtr W g o t n base b Lv Rv f) (x : Int) : BkPtr (W.setCell ⟨g, o + 2, none⟩ (.int .i64 x)) g o t n base { b with gen := x } Lv Rv (fun j => if j = o + 2 then .int .i64 x else f j) := by
  have ho := only_setCells g [.int .i64 x] (o + 2) W
  rw [show W.setCells g (o + 2) [.int .i64 x] = W.setCell ⟨g, o + 2, none⟩ (.int .i64 x) from rfl] at ho
  have hk2 := h.own.keep (W' := W.setCell ⟨g, o + 2, none⟩ (.int .i64 x)) (fun k hk => ho.block k (fun e => by subst e; rcases hk with hk | hk; exact h.apart.1 hk; exact h.apart.2 hk))
  refine ⟨h.row.set (o + 2) (.int .i64 x), h.room, fun j hj => ?_, ⟨hk2.eL, hk2.eR⟩, by rw [ho.size]; exact h.base_le, h.apart⟩
  by_cases h0 : j = 2
  · subst h0
    rw [if_pos rfl]
    rfl
  · rw [if_neg (by omega), h.at_ j hj]
    unfold bookF
    by_cases h1 : j = 0
    · rw [if_pos h1, if_pos h1]
    · rw [if_neg h1, if_neg h1]
      by_cases h2 : j = 1
      · rw [if_pos h2, if_pos h2]
      · rw [if_neg h2, if_neg h2, if_neg h0, if_neg h0]
/-- The key of one's own is another: behind a store of a word. -/
theorem BkPtr.setO (h : BkPtr W g o t n base b Lv Rv f) {k : Wd} (ho : Only g W W') (hr : W'.rowIs g t n (fun j => if o + 3 ≤ j ∧ j < o + 3 + 16 then wordF k (j - (o + 3)) else f j)) :
    BkPtr W' g o t n base { b with own := k } Lv Rv (fun j => if o + 3 ≤ j ∧ j < o + 3 + 16 then wordF k (j - (o + 3)) else f j) := by
  have hk2 := h.own.keep (W' := W') (fun k hk => ho.block k (fun e => by subst e; rcases hk with hk | hk; exact h.apart.1 hk; exact h.apart.2 hk))
  refine ⟨hr, h.room, fun j hj => ?_, ⟨hk2.eL, hk2.eR⟩, by rw [ho.size]; exact h.base_le, h.apart⟩
  by_cases h0 : 3 ≤ j
  · rw [if_pos (by omega)]
    unfold bookF
    rw [if_neg (by omega), if_neg (by omega), if_neg (by omega), show o + j - (o + 3) = j - 3 by omega]
  · rw [if_neg (by omega), h.at_ j hj]
    unfold bookF
    match j, hj, h0 with
    | 0, _, _ => rfl
    | 1, _, _ => rfl
    | 2, _, _ => rfl
    | _ + 3, _, h0 => exact absurd (by omega) h0
theorem Turned.drew {w0 : World} (h : Turned w W g o t n base b Lv Rv f) (hb : Below w0.heap.size w0 w) : Turned w0 W g o t n base b Lv Rv f := by
  obtain ⟨Lv', Rv', f', h1, h2, h3, h4⟩ := h
  exact ⟨Lv', Rv', f', h1, h2, (Cache.Leaves.of_below (F := BkFp g Lv Rv) hb).trans h3 (fun _ hk _ => hk), fun k hk => (h4 k hk).imp_right (fun h => Nat.le_trans hb.size h)⟩
theorem leaves_set {F : Nat → Prop} {W W' : World} {g p : Nat} {v : Value} (h : Cache.Leaves F W W') (hg : F g) : Cache.Leaves F W (W'.setCell ⟨g, p, none⟩ v) :=
  h.trans (F' := fun k => k = g) ⟨rfl, rfl, rfl, by simp [World.setCell], fun k _ hk => Below.heap_setCell W' ⟨g, p, none⟩ v k hk⟩ (fun _ hk _ => hk ▸ hg)
/-- Behind a change in the block of the entries, and a store of the list. -/
theorem BkPtr.putL (h : BkPtr W g o t n base b Lv Rv f) {L' : List (ByteArray × Wd)} {Lv' : Value} (hL : OwnE W' base 95 17 (L'.map entR) Lv') (hgr : W.grownBy W' Lv.ownBlock) (hv : Lv'.ownBlock = Lv.ownBlock ∨ Lv'.ownBlock = some W.heap.size ∨ ∀ k, Lv'.ownBlock = some k → W.heap.size ≤ k) :
    Turned W (W'.setCell ⟨g, o, none⟩ Lv') g o t n base { b with L := L' } Lv Rv f := by
  have hne : Lv'.ownBlock ≠ some g := fun e => by
    rcases hv with hv | hv | hv
    · exact h.apart.1 (hv ▸ e)
    · rw [hv] at e
      have := h.lt
      simp at e
      omega
    · have := hv g e
      have := h.lt
      omega
  have hfp : ∀ k, k ≠ g → (Rv.ownBlock = some k) → W'.heap[k]? = W.heap[k]? := fun k _ hk => hgr.block k (h.own.eR.lt k hk).2 (own_ne_own h.own.eL h.own.eR (by decide) k hk)
  have hrow : W'.rowIs g t n f := h.row.of_block (hgr.block g h.lt (fun e => h.apart.1 e.symm))
  have ho := only_setCells g [Lv'] o W'
  rw [show W'.setCells g o [Lv'] = W'.setCell ⟨g, o, none⟩ Lv' from rfl] at ho
  refine ⟨Lv', Rv, fun j => if j = o then Lv' else f j, ⟨hrow.set o Lv', h.room, fun j hj => ?_, ⟨hL.keep (fun k hk => ho.block k (fun e => hne (by rw [hk, e]))), h.own.eR.keep (fun k hk => (ho.block k (fun e => h.apart.2 (by rw [hk, e]))).trans (hfp k (fun e => h.apart.2 (by rw [hk, e])) hk))⟩, by rw [ho.size]; exact Nat.le_trans h.base_le hgr.size, ⟨hne, h.apart.2⟩⟩, fun j hj => ?_, ?_, fun k hk => ?_⟩
  · by_cases h0 : j = 0
    · subst h0
      rw [if_pos (by omega)]
      rfl
    · rw [if_neg (by omega), h.at_ j hj]
      unfold bookF
      rw [if_neg h0, if_neg h0]
  · exact if_neg (by omega)
  · exact leaves_set ⟨hgr.os, hgr.tape, hgr.output, hgr.size, fun k hlt hk => hgr.block k hlt (fun e => hk (.inr (.inl e.symm)))⟩ (.inl rfl)
  · rcases hk with hk | hk | hk
    · exact .inl (.inl hk)
    · rcases hv with hv | hv | hv
      · exact .inl (.inr (.inl (hv ▸ hk)))
      · rw [hv] at hk
        simp at hk
        exact .inr (by omega)
      · exact .inr (hv k hk)
    · exact .inl (.inr (.inr hk))
/-- Behind a change in the block of the revoked ones, and a store of their list. -/
theorem BkPtr.putR (h : BkPtr W g o t n base b Lv Rv f) {R' : List Wd} {Rv' : Value} (hR : OwnE W' base 26 16 (R'.map wordR) Rv') (hgr : W.grownBy W' Rv.ownBlock) (hv : Rv'.ownBlock = Rv.ownBlock ∨ Rv'.ownBlock = some W.heap.size ∨ ∀ k, Rv'.ownBlock = some k → W.heap.size ≤ k) :
    Turned W (W'.setCell ⟨g, o + 1, none⟩ Rv') g o t n base { b with rev := R' } Lv Rv f := by
  have hne : Rv'.ownBlock ≠ some g := fun e => by
    rcases hv with hv | hv | hv
    · exact h.apart.2 (hv ▸ e)
    · rw [hv] at e
      have := h.lt
      simp at e
      omega
    · have := hv g e
      have := h.lt
      omega
  have hfp : ∀ k, (Lv.ownBlock = some k) → W'.heap[k]? = W.heap[k]? := fun k hk => hgr.block k (h.own.eL.lt k hk).2 (own_ne_own h.own.eR h.own.eL (by decide) k hk)
  have hrow : W'.rowIs g t n f := h.row.of_block (hgr.block g h.lt (fun e => h.apart.2 e.symm))
  have ho := only_setCells g [Rv'] (o + 1) W'
  rw [show W'.setCells g (o + 1) [Rv'] = W'.setCell ⟨g, o + 1, none⟩ Rv' from rfl] at ho
  refine ⟨Lv, Rv', fun j => if j = o + 1 then Rv' else f j, ⟨hrow.set (o + 1) Rv', h.room, fun j hj => ?_, ⟨h.own.eL.keep (fun k hk => (ho.block k (fun e => h.apart.1 (by rw [hk, e]))).trans (hfp k hk)), hR.keep (fun k hk => ho.block k (fun e => hne (by rw [hk, e])))⟩, by rw [ho.size]; exact Nat.le_trans h.base_le hgr.size, ⟨h.apart.1, hne⟩⟩, fun j hj => ?_, ?_, fun k hk => ?_⟩
  · by_cases h0 : j = 1
    · subst h0
      rw [if_pos rfl]
      rfl
    · rw [if_neg (by omega), h.at_ j hj]
      unfold bookF
      rw [if_neg h0]
      by_cases h1 : j = 0
      · rw [if_pos h1, if_pos h1]
      · rw [if_neg h1, if_neg h1, if_neg h0]
  · exact if_neg (by omega)
  · exact leaves_set ⟨hgr.os, hgr.tape, hgr.output, hgr.size, fun k hlt hk => hgr.block k hlt (fun e => hk (.inr (.inr e.symm)))⟩ (.inl rfl)
  · rcases hk with hk | hk | hk
    · exact .inl (.inl hk)
    · exact .inl (.inr (.inl hk))
    · rcases hv with hv | hv | hv
      · exact .inl (.inr (.inr (hv ▸ hk)))
      · rw [hv] at hk
        simp at hk
        exact .inr (by omega)
      · exact .inr (hv k hk)
end
end Go.Proofs.YtebchoeeohmlaaaDoor.Book
namespace Go.Proofs.YtebchoeeohmlaaaDoor.Book
open Go Go.RowKit Go.Proofs.YtebchoeeohmlaaaDoor.Aid

/-- Next: what it answers. -/
def nxtC (b : Bk) (gen : Int) : Int := if gen ≤ b.gen then 5 else 0
def nxtB (b : Bk) (gen : Int) (k : Wd) : Bk := if gen ≤ b.gen then b else { b with gen := gen, own := k }
set_option maxRecDepth 100000 in
set_option maxHeartbeats 2000000 in
theorem next_any {w : World} {g o t n base : Nat} {b : Bk} {Lv Rv : Value} {f : Nat → Value} (h : BkPtr w g o t n base b Lv Rv f) (gen : Int) (k : Wd) :
    Calls Tryd.prog 66 #[.pointer (some ⟨g, o, none⟩), .int .i64 gen, wordV k] w fun y w' => y = .returned (.int .i64 (nxtC b gen)) ∧ Turned w w' g o t n base (nxtB b gen k) Lv Rv f := by
  unfold nxtC nxtB
  have hb := (Below.refl w.heap.size w).alloc (Nat.le_refl _) (.cells (cellsOf 16 (wordF k)) 26)
  have HK := Lib.hid (row_new w (cellsOf 16 (wordF k)) 26 16 (wordF k) (size_cellsOf _ _) (cellsOf_at _ _))
  have HP := Lib.hid (h.below hb)
  have HB := Lib.hid hb
  have HLT := Lib.hid h.lt
  have HP0 := Lib.hid h
  clear hb h
  unfold wordV
  generalize cellsOf 16 (wordF k) = C at *
  by_cases hg : gen ≤ b.gen
  · rw [if_pos hg, if_pos hg]
    go_enter Tryd.func66, Tryd.ntmps66
    go_upto_region 1 with fail
    generalize w.alloc (.cells C 26) = w1 at *
    have c2 := HP.out.c2
    go_wp2
    go_ret
    exact ⟨rfl, HP0.out.same HB.out⟩
  · rw [if_neg hg, if_neg hg]
    go_enter Tryd.func66, Tryd.ntmps66
    go_upto_region 1 with fail
    generalize w.alloc (.cells C 26) = w1 at *
    have c2 := HP.out.c2
    go_upto_region 3 with fail
    refine region_mix (fun W => W.rowIs w.heap.size 26 16 (wordF k)) [(0, true), (1, true), (2, true), (3, true), (4, true), (5, true), (6, false), (7, true), (8, true), (9, false)] (by kernel_rfl) (by kernel_rfl) HK.out ?_
    refine m_val rfl (by rfl) (.pointer (some ⟨g, o, none⟩)) (fun W hW => by go_simp) ?_
    simp only [Act.put, List.setIfInBounds_toArray, List.set_cons_zero, List.set_cons_succ]
    refine m_val rfl (by rfl) (.pointer (some ⟨g, o, none⟩)) (fun W hW => by go_simp) ?_
    simp only [Act.put, List.setIfInBounds_toArray, List.set_cons_zero, List.set_cons_succ]
    refine m_val rfl (by rfl) (.int .i64 gen) (fun W hW => by go_simp) ?_
    simp only [Act.put, List.setIfInBounds_toArray, List.set_cons_zero, List.set_cons_succ]
    refine m_range rfl (by rfl) 26 (.tmp 5) (by rfl) w.heap.size 0 16 (wordF k) (fun W hW => range_row hW) (by rfl) _ Tryd.underlying26 (by rfl) (by kernel_rfl) ?_
    simp only [Act.put, List.setIfInBounds_toArray, List.set_cons_zero, List.set_cons_succ]
    refine m_val rfl (by rfl) (.pointer (some ⟨g, o, none⟩)) (fun W hW => by go_simp) ?_
    simp only [Act.put, List.setIfInBounds_toArray, List.set_cons_zero, List.set_cons_succ]
    refine m_val rfl (by rfl) (.pointer (some ⟨g, o + 2, none⟩)) (fun W hW => by go_simp) ?_
    simp only [Act.put, List.setIfInBounds_toArray, List.set_cons_zero, List.set_cons_succ]
    have HP1 := Lib.hid (HP.out.below ⟨rfl, rfl, rfl, Nat.le_refl _, fun _ _ => rfl⟩ (W' := w1.drew))
    have HB1 : Hid (Below w.heap.size w w1.drew) := Lib.hid (HB.out.trans ⟨rfl, rfl, rfl, Nat.le_refl _, fun _ _ => rfl⟩)
    have HK1 : Hid (w1.drew.rowIs w.heap.size 26 16 (wordF k)) := Lib.hid HK.out
    clear HP HB HK c2
    generalize w1.drew = w2 at *
    have c2 := HP1.out.c2
    have f2 := HP1.out.row.frozen (o + 2)
    refine m_go rfl ?_
    go_wp2_with fail
    have ho := only_setCells g [.int .i64 gen] (o + 2) w2
    rw [show w2.setCells g (o + 2) [.int .i64 gen] = w2.setCell ⟨g, o + 2, none⟩ (.int .i64 gen) from rfl] at ho
    have HP2 := Lib.hid (HP1.out.setG gen)
    have HG2 : Hid (Only g w2 (w2.setCell ⟨g, o + 2, none⟩ (.int .i64 gen))) := Lib.hid ho
    have HK2 := Lib.hid (HK1.out.of_block (ho.block w.heap.size (by have := HLT.out; omega)))
    clear ho c2 f2
    generalize w2.setCell ⟨g, o + 2, none⟩ (.int .i64 gen) = w3 at *
    refine m_on HK2.out ?_
    refine m_val rfl (by rfl) (.pointer (some ⟨g, o, none⟩)) (fun W hW => by go_simp) ?_
    simp only [Act.put, List.setIfInBounds_toArray, List.set_cons_zero, List.set_cons_succ]
    refine m_val rfl (by rfl) (.pointer (some ⟨g, o + 3, none⟩)) (fun W hW => by go_simp) ?_
    simp only [Act.put, List.setIfInBounds_toArray, List.set_cons_zero, List.set_cons_succ]
    refine m_go rfl ?_
    go_wp2_with (refine store_row (by rfl) 26 (.tmp 20) (.tmp 16) (by rfl) g (o + 3) _ n 16 _ (wordF k) HP2.out.row (by rfl) _ (by rfl) (by kernel_rfl) (by have := HP2.out.room; omega) (size_cellsOf _ _) (cellsOf_at _ _) (fun _ _ => rfl) ?_; intro w4 hr4 ho4)
    have HK4 := Lib.hid (HK2.out.of_block (ho4.block w.heap.size (by have := HLT.out; omega)))
    have HP4 := Lib.hid (HP2.out.setO ho4 hr4)
    have HG4 : Hid (Only g w2 w4) := Lib.hid ⟨ho4.os.trans HG2.out.os, ho4.tape.trans HG2.out.tape, ho4.output.trans HG2.out.output, ho4.size.trans HG2.out.size, fun k hk => (ho4.block k hk).trans (HG2.out.block k hk)⟩
    clear hr4 ho4
    refine m_on HK4.out ?_
    refine m_end ?_
    go_wp2
    go_ret
    refine ⟨rfl, Lv, Rv, _, HP4.out, fun j hj => ?_, ?_, fun _ hk => .inl hk⟩
    · rw [if_neg (by omega), if_neg (by omega)]
    · exact (Cache.Leaves.of_below HB1.out).trans (F' := BkFp g Lv Rv) ⟨HG4.out.os, HG4.out.tape, HG4.out.output, by rw [HG4.out.size]; exact Nat.le_refl _, fun k _ hk => HG4.out.block k (fun e => hk (.inl e))⟩ (fun _ hk _ => hk)
/-- The list behind a store of a key. -/
theorem own_rekey {W W' : World} {base gl n c : Nat} {L : List (ByteArray × Wd)} (h : OwnE W base 95 17 (L.map entR) (.slice (some ⟨gl, 0, none⟩) n c)) {k : Nat} (hk : k < L.length) (key : Wd) {f : Nat → Value} (hr : W.rowIs gl 95 (c * 17) f)
    (hr' : W'.rowIs gl 95 (c * 17) (fun j => if k * 17 + 1 ≤ j ∧ j < k * 17 + 1 + 16 then wordF key (j - (k * 17 + 1)) else f j)) : OwnE W' base 95 17 ((L.set k ((L.getD k (nos, zw)).1, key)).map entR) (.slice (some ⟨gl, 0, none⟩) n c) := by
  obtain ⟨f2, hr2, hc, hm, hb, hn, hf⟩ := h.toRow
  have hff : ∀ j, j < c * 17 → f j = f2 j := fun j hj => by
    have := hr.cell hj
    rw [hr2.cell hj] at this
    exact (Option.some.inj this).symm
  rw [List.length_map] at hc hn
  have hl : ((L.set k ((L.getD k (nos, zw)).1, key)).map entR).length = n := by rw [List.length_map, List.length_set, hn]
  have := OwnE.ofRow (L := (L.set k ((L.getD k (nos, zw)).1, key)).map entR) (base := base) hr' (by omega) hm hb (fun r hr => by obtain ⟨p, _, rfl⟩ := List.mem_map.1 hr; exact entR_len p) (fun i r j u h1 h2 => by
    rw [List.getElem?_map] at h1
    have hj : j < 17 := by
      obtain ⟨p, _, rfl⟩ := Option.map_eq_some_iff.1 h1
      have := (List.getElem?_eq_some_iff.1 h2).1
      rwa [entR_len] at this
    by_cases hik : i = k
    · subst hik
      rw [List.getElem?_set_self hk] at h1
      simp only [Option.map_some, Option.some.injEq] at h1
      subst h1
      unfold entR at h2
      rw [List.getElem?_map, List.getElem?_range hj] at h2
      simp only [Option.map_some, Option.some.injEq] at h2
      subst h2
      by_cases h0 : j = 0
      · subst h0
        rw [if_neg (by omega), hff _ (by omega)]
        have hg : L[i]? = some (L.getD i (nos, zw)) := by rw [List.getD_eq_getElem?_getD, List.getElem?_eq_getElem hk]; rfl
        exact hf i (entR (L.getD i (nos, zw))) 0 _ (by rw [List.getElem?_map, hg]; rfl) rfl
      · rw [if_pos (by omega)]
        unfold entF
        rw [if_neg h0, show i * 17 + j - (i * 17 + 1) = j - 1 by omega]
    · rw [List.getElem?_set_ne (fun e => hik e.symm)] at h1
      have hi : i < L.length := by
        obtain ⟨p, hp, _⟩ := Option.map_eq_some_iff.1 h1
        exact (List.getElem?_eq_some_iff.1 hp).1
      rw [if_neg (by omega), hff _ (by omega)]
      exact hf i r j u (by rw [List.getElem?_map]; exact h1) h2)
  rw [hl] at this
  exact this
/-- Rekey, Remove: what they answer. -/
def hadC (b : Bk) (n : ByteArray) : Int := if hasN b.L n = true then 0 else 4
def reBk (b : Bk) (n : ByteArray) (k : Wd) : Bk := if hasN b.L n = true then { b with L := reN n k b.L } else b
def rmBk (b : Bk) (n : ByteArray) : Bk := if hasN b.L n = true then { b with L := rmN n b.L } else b
set_option maxRecDepth 100000 in
set_option maxHeartbeats 2000000 in
theorem rekey_any {w : World} {g o t n base : Nat} {b : Bk} {Lv Rv : Value} {f : Nat → Value} (h : BkPtr w g o t n base b Lv Rv f) (hN : b.L.length ≤ 100000) (nm : ByteArray) (k : Wd) :
    Calls Tryd.prog 64 #[.pointer (some ⟨g, o, none⟩), .string nm, wordV k] w fun y w' => y = .returned (.int .i64 (hadC b nm)) ∧ Turned w w' g o t n base (reBk b nm k) Lv Rv f := by
  have hb := (Below.refl w.heap.size w).alloc (Nat.le_refl _) (.cells (cellsOf 16 (wordF k)) 26)
  have HK := Lib.hid (row_new w (cellsOf 16 (wordF k)) 26 16 (wordF k) (size_cellsOf _ _) (cellsOf_at _ _))
  have HP := Lib.hid (h.below hb)
  have HB := Lib.hid hb
  have HLT := Lib.hid h.lt
  have HLS : Hid (∀ j, Lv.ownBlock = some j → j < w.heap.size) := Lib.hid (fun j hj => (h.own.eL.lt j hj).2)
  have hsh := h.own.ents
  obtain ⟨A, c, rfl, -⟩ := hsh
  clear hb h
  unfold wordV
  go_enter Tryd.func64, Tryd.ntmps64
  generalize cellsOf 16 (wordF k) = C at *
  go_upto_region 1 with fail
  generalize w.alloc (.cells C 26) = w1 at *
  have HPL := Lib.hid (place_any (w := w1) b (.slice A b.L.length c) Rv HP.out.own.ents hN nm)
  unfold bookV at HPL
  go_wp2_with first
    | (refine load_as (by rfl) 38 (.tmp 9) (by rfl) g o _ n 19 f _ HP.out.cells HP.out.row (by rfl) _ Tryd.underlying38 (by rfl) (by kernel_rfl) (by have := HP.out.room; omega) ?_)
    | fail
  refine HPL.out.mono ?_
  rintro _ w2 ⟨rfl, hb2⟩
  have HP2 := Lib.hid (HP.out.below hb2)
  have HK2 := Lib.hid (HK.out.of_block (hb2.block w.heap.size (World.rowIs.lt HK.out)))
  have HB2 := Lib.hid (HB.out.trans (hb2.mono HB.out.size))
  clear hb2 HP HK HB HPL
  cases hh : hasN b.L nm with
  | false =>
    rw [idx_not hh]
    have HC : Hid (hadC b nm = 4 ∧ reBk b nm k = b) := Lib.hid ⟨by unfold hadC; rw [hh]; rfl, by unfold reBk; rw [hh]; rfl⟩
    clear hh
    go_wp2
    go_ret
    rw [HC.out.1, HC.out.2]
    exact ⟨rfl, (HP2.out.same (Below.refl _ _)).drew HB2.out⟩
  | true =>
    obtain ⟨e1, hlt⟩ := idx_has hh
    rw [e1]
    have HC : Hid (hadC b nm = 0 ∧ reBk b nm k = { b with L := b.L.set (atL b.L nm) ((b.L.getD (atL b.L nm) (nos, zw)).1, k) }) := Lib.hid ⟨by unfold hadC; rw [hh]; rfl, by unfold reBk; rw [if_pos hh, reN_at hh]⟩
    generalize atL b.L nm = i at *
    have q0 : (0 : Int) ≤ (i : Int) := by omega
    have q1 : (i : Int) < (b.L.length : Int) := by omega
    have q2 : ¬ (i : Int) < 0 := by omega
    clear hh e1
    have hown := HP2.out.own.eL.own.2
    rcases hown with ⟨-, h0⟩ | ⟨gl, c', cur, he, -, -, -⟩
    · rw [List.length_map] at h0
      omega
    simp only [Value.slice.injEq] at he
    obtain ⟨rfl, -, rfl⟩ := he
    have HGL : Hid (gl < w.heap.size) := Lib.hid (HLS.out gl rfl)
    have HNE : Hid (gl ≠ g) := Lib.hid (fun e => HP2.out.apart.1 (by rw [e]; rfl))
    obtain ⟨fl, hrl, hcl, -, -, -, -⟩ := HP2.out.own.eL.toRow
    rw [List.length_map] at hcl
    have HRL := Lib.hid hrl
    have HLEN : Hid (b.L.length ≤ c) := Lib.hid hcl
    clear hrl hcl
    go_upto_region 4 with fail
    refine region_mix (fun W => W.cell? ⟨g, o, none⟩ = some (.slice (some ⟨gl, 0, none⟩) b.L.length c) ∧ W.rowIs w.heap.size 26 16 (wordF k)) [(0, true), (1, true), (2, true), (3, true), (4, true), (5, true), (6, true), (7, true), (8, false)] (by kernel_rfl) (by kernel_rfl) ⟨HP2.out.c0, HK2.out⟩ ?_
    refine m_val rfl (by rfl) (.pointer (some ⟨g, o, none⟩)) (fun W hW => by go_simp) ?_
    simp only [Act.put, List.setIfInBounds_toArray, List.set_cons_zero, List.set_cons_succ]
    refine m_val rfl (by rfl) (.pointer (some ⟨g, o, none⟩)) (fun W hW => by go_simp) ?_
    simp only [Act.put, List.setIfInBounds_toArray, List.set_cons_zero, List.set_cons_succ]
    refine m_val rfl (by rfl) (.pointer (some ⟨g, o, none⟩)) (fun W hW => by go_simp) ?_
    simp only [Act.put, List.setIfInBounds_toArray, List.set_cons_zero, List.set_cons_succ]
    refine m_val rfl (by rfl) (.slice (some ⟨gl, 0, none⟩) b.L.length c) (fun W hW => by have h1 := hW.1; clear hW; go_simp) ?_
    simp only [Act.put, List.setIfInBounds_toArray, List.set_cons_zero, List.set_cons_succ]
    refine m_val rfl (by rfl) (.int .i64 (i : Int)) (fun W hW => by go_simp) ?_
    simp only [Act.put, List.setIfInBounds_toArray, List.set_cons_zero, List.set_cons_succ]
    refine m_range rfl (by rfl) 26 (.tmp 5) (by rfl) w.heap.size 0 16 (wordF k) (fun W hW => range_row hW.2) (by rfl) _ Tryd.underlying26 (by rfl) (by kernel_rfl) ?_
    simp only [Act.put, List.setIfInBounds_toArray, List.set_cons_zero, List.set_cons_succ]
    refine m_val rfl (by rfl) (.pointer (some ⟨gl, i * 17, none⟩)) (fun W hW => by clear hW; go_simp) ?_
    simp only [Act.put, List.setIfInBounds_toArray, List.set_cons_zero, List.set_cons_succ]
    refine m_val rfl (by rfl) (.pointer (some ⟨gl, i * 17 + 1, none⟩)) (fun W hW => by clear hW; go_simp) ?_
    simp only [Act.put, List.setIfInBounds_toArray, List.set_cons_zero, List.set_cons_succ]
    have HP3 := Lib.hid (HP2.out.below ⟨rfl, rfl, rfl, Nat.le_refl _, fun _ _ => rfl⟩ (W' := w2.drew))
    have HB3 : Hid (Below w.heap.size w w2.drew) := Lib.hid (HB2.out.trans ⟨rfl, rfl, rfl, Nat.le_refl _, fun _ _ => rfl⟩)
    have HK3 : Hid (w2.drew.rowIs w.heap.size 26 16 (wordF k)) := Lib.hid HK2.out
    have HRL3 : Hid (w2.drew.rowIs gl 95 (c * 17) fl) := Lib.hid HRL.out
    clear HP2 HB2 HK2 HRL
    generalize w2.drew = w3 at *
    refine m_go rfl ?_
    go_wp2_with (refine store_row (by rfl) 26 (.tmp 22) (.tmp 20) (by rfl) gl (i * 17 + 1) _ (c * 17) 16 _ (wordF k) HRL3.out (by rfl) _ (by rfl) (by kernel_rfl) (by have := HLEN.out; omega) (size_cellsOf _ _) (cellsOf_at _ _) (fun _ _ => rfl) ?_; intro w4 hr4 ho4)
    have HK4 := Lib.hid (HK3.out.of_block (ho4.block w.heap.size (by have := HGL.out; omega)))
    have HL4 := Lib.hid (own_rekey HP3.out.own.eL hlt k HRL3.out hr4)
    have HRW4 := Lib.hid (HP3.out.row.of_block (ho4.block g (fun e => HNE.out e.symm)))
    have HR4 := Lib.hid (HP3.out.own.eR.keep (W' := w4) (fun j hj => ho4.block j (fun e => own_ne_own HP3.out.own.eL HP3.out.own.eR (by decide) j hj (by rw [e]; rfl))))
    have HO4 := Lib.hid ho4
    have c4 : w4.cell? ⟨g, o, none⟩ = some (.slice (some ⟨gl, 0, none⟩) b.L.length c) := by
      rw [HRW4.out.cell (i := o) (by have := HP3.out.room; omega)]
      exact congrArg some (HP3.out.at_ 0 (by omega))
    clear hr4 ho4
    refine m_on ⟨c4, HK4.out⟩ ?_
    refine m_end ?_
    clear c4
    go_wp2
    go_ret
    rw [HC.out.1, HC.out.2]
    refine ⟨rfl, .slice (some ⟨gl, 0, none⟩) b.L.length c, Rv, f, ⟨HRW4.out, HP3.out.room, HP3.out.at_, ⟨HL4.out, HR4.out⟩, by rw [HO4.out.size]; exact HP3.out.base_le, HP3.out.apart⟩, fun _ _ => rfl, ?_, fun _ hk => .inl hk⟩
    exact (Cache.Leaves.of_below HB3.out).trans (F' := BkFp g (.slice (some ⟨gl, 0, none⟩) b.L.length c) Rv) ⟨HO4.out.os, HO4.out.tape, HO4.out.output, by rw [HO4.out.size]; exact Nat.le_refl _, fun j _ hj => HO4.out.block j (fun e => hj (.inr (.inl (by rw [e]; rfl))))⟩ (fun _ hk _ => hk)
set_option maxRecDepth 100000 in
set_option maxHeartbeats 2000000 in
theorem remove_any {w : World} {g o t n base : Nat} {b : Bk} {Lv Rv : Value} {f : Nat → Value} (h : BkPtr w g o t n base b Lv Rv f) (hN : b.L.length ≤ 100000) (nm : ByteArray) :
    Calls Tryd.prog 63 #[.pointer (some ⟨g, o, none⟩), .string nm] w fun y w' => y = .returned (.int .i64 (hadC b nm)) ∧ Turned w w' g o t n base (rmBk b nm) Lv Rv f := by
  have HP := Lib.hid h
  have hsh := h.own.ents
  obtain ⟨A, c, rfl, -⟩ := hsh
  clear h
  have HPL := Lib.hid (place_any (w := w) b (.slice A b.L.length c) Rv HP.out.own.ents hN nm)
  unfold bookV at HPL
  go_enter Tryd.func63, Tryd.ntmps63
  go_wp2_with first
    | (refine load_as (by rfl) 38 (.tmp 7) (by rfl) g o _ n 19 f _ HP.out.cells HP.out.row (by rfl) _ Tryd.underlying38 (by rfl) (by kernel_rfl) (by have := HP.out.room; omega) ?_)
    | fail
  refine HPL.out.mono ?_
  rintro _ w2 ⟨rfl, hb2⟩
  have HP2 := Lib.hid (HP.out.below hb2)
  have HB2 := Lib.hid hb2
  clear hb2 HP HPL
  cases hh : hasN b.L nm with
  | false =>
    rw [idx_not hh]
    have HC : Hid (hadC b nm = 4 ∧ rmBk b nm = b) := Lib.hid ⟨by unfold hadC; rw [hh]; rfl, by unfold rmBk; rw [hh]; rfl⟩
    clear hh
    go_wp2
    go_ret
    rw [HC.out.1, HC.out.2]
    exact ⟨rfl, (HP2.out.same (Below.refl _ _)).drew HB2.out⟩
  | true =>
    obtain ⟨e1, hlt⟩ := idx_has hh
    rw [e1]
    have HC : Hid (hadC b nm = 0 ∧ rmBk b nm = { b with L := b.L.take (atL b.L nm) ++ b.L.drop (atL b.L nm + 1) }) := Lib.hid ⟨by unfold hadC; rw [hh]; rfl, by unfold rmBk; rw [if_pos hh, rmN_at hh]⟩
    generalize atL b.L nm = i at *
    have q0 : (0 : Int) ≤ (i : Int) := by omega
    have q1 : (i : Int) < (b.L.length : Int) := by omega
    have q2 : ¬ (i : Int) < 0 := by omega
    have hw : wrap64 ((i : Int) + 1) = (i : Int) + 1 := wrap64_id (by omega) (by omega)
    clear hh e1
    have HD := Lib.hid (deleteE base (b.L.map entR) _ w2 HP2.out.own.eL (fun r hr => by obtain ⟨p, _, rfl⟩ := List.mem_map.1 hr; exact entR_one p) i (by rw [List.length_map]; exact hlt) (by rw [List.length_map]; omega))
    have c0 := HP2.out.c0
    go_wp2_with fail
    refine HD.out.mono ?_
    rintro _ w3 ⟨r, rfl, ho3, hg3, hv3⟩
    rw [← List.map_take, ← List.map_drop, ← List.map_append] at ho3
    have HT := Lib.hid (HP2.out.putL ho3 hg3 (.inl hv3))
    have r3 := HP2.out.row.of_block (hg3.block g HP2.out.lt (fun e => HP2.out.apart.1 e.symm))
    have c3 : w3.cell? ⟨g, o, none⟩ = some (.slice A b.L.length c) := by
      rw [r3.cell (i := o) (by have := HP2.out.room; omega)]
      exact congrArg some (HP2.out.at_ 0 (by omega))
    have f3 := r3.frozen o
    have hsh := ho3.shape
    obtain ⟨A3, d3, hs3⟩ := hsh
    generalize (List.map entR (b.L.take i ++ b.L.drop (i + 1))).length = m3 at hs3
    subst hs3
    clear ho3 hg3 hv3 r3 c0 HD hw
    go_wp2
    go_ret
    rw [HC.out.1, HC.out.2]
    exact ⟨rfl, HT.out.drew HB2.out⟩
end Go.Proofs.YtebchoeeohmlaaaDoor.Book
namespace Go.Proofs.YtebchoeeohmlaaaDoor.Book
open Go Go.RowKit Go.Proofs.YtebchoeeohmlaaaDoor.Aid

theorem info_rent : (Tryd.prog.info? 94).map (fun i => (i.zero, i.size, i.bytes)) = some (some (.agg #[.string ⟨#[]⟩, .int .u8 0, .int .u8 0, .int .u8 0, .int .u8 0, .int .u8 0, .int .u8 0, .int .u8 0, .int .u8 0, .int .u8 0, .int .u8 0, .int .u8 0, .int .u8 0, .int .u8 0, .int .u8 0, .int .u8 0, .int .u8 0]), 17, 32) := by kernel_rfl
theorem entF_o (p : ByteArray × Wd) (i : Nat) : (entF p i).oneCell' = true := by
  unfold entF wordF
  split
  · rfl
  · rfl
set_option maxRecDepth 100000 in
set_option maxHeartbeats 4000000 in
theorem lawOwn_any {w : World} {b : Bk} {Lv Rv : Value} (h : BookAt w b Lv Rv) :
    Calls Tryd.prog 17 #[bookV b Lv Rv] w fun y w' => ∃ Lv', y = .returned (bookV b Lv' Rv) ∧ BookAt w' b Lv' Rv ∧ Below w.heap.size w w' := by
  have hb := (Below.refl w.heap.size w).alloc (Nat.le_refl _) (.cells (cellsOf 19 (bookF b Lv Rv)) 38)
  have HROW := Lib.hid (row_new w (cellsOf 19 (bookF b Lv Rv)) 38 19 (bookF b Lv Rv) (size_cellsOf _ _) (cellsOf_at _ _))
  have HSZ : Hid ((w.alloc (.cells (cellsOf 19 (bookF b Lv Rv)) 38)).heap.size = w.heap.size + 1) := Lib.hid (by simp)
  have HA := Lib.hid h
  have HB := Lib.hid hb
  have hs1 := h.ents
  have hs2 := h.revs
  obtain ⟨A, c, rfl, -⟩ := hs1
  obtain ⟨A2, c2, rfl, -⟩ := hs2
  clear hb h
  unfold bookV
  go_enter Tryd.func17, Tryd.ntmps17
  generalize cellsOf 19 (bookF b (.slice A b.L.length c) (.slice A2 b.rev.length c2)) = C at *
  go_upto_region 1 with fail
  generalize w.alloc (.cells C 38) = w1 at *
  have hb2 := (Below.refl w1.heap.size w1).alloc (Nat.le_refl _) (.cells #[.slice none 0 0, .slice none 0 0, .int .i64 0, .int .u8 0, .int .u8 0, .int .u8 0, .int .u8 0, .int .u8 0, .int .u8 0, .int .u8 0, .int .u8 0, .int .u8 0, .int .u8 0, .int .u8 0, .int .u8 0, .int .u8 0, .int .u8 0, .int .u8 0, .int .u8 0] 41)
  have HZ := Lib.hid (row_new w1 _ 41 19 (bookF bk0 (.slice none 0 0) (.slice none 0 0)) (by rfl) (zero19 _ rfl))
  rw [HSZ.out] at HZ
  have HROW2 := Lib.hid (HROW.out.of_block (hb2.block _ (World.rowIs.lt HROW.out)))
  have HB2 := Lib.hid (HB.out.trans (hb2.mono HB.out.size))
  have HSZ2 : Hid ((w1.alloc (.cells #[.slice none 0 0, .slice none 0 0, .int .i64 0, .int .u8 0, .int .u8 0, .int .u8 0, .int .u8 0, .int .u8 0, .int .u8 0, .int .u8 0, .int .u8 0, .int .u8 0, .int .u8 0, .int .u8 0, .int .u8 0, .int .u8 0, .int .u8 0, .int .u8 0, .int .u8 0] 41)).heap.size = w.heap.size + 2) := Lib.hid (by have := HSZ.out; simp; omega)
  clear hb2 HB HROW HSZ
  generalize w1.alloc (.cells #[.slice none 0 0, .slice none 0 0, .int .i64 0, .int .u8 0, .int .u8 0, .int .u8 0, .int .u8 0, .int .u8 0, .int .u8 0, .int .u8 0, .int .u8 0, .int .u8 0, .int .u8 0, .int .u8 0, .int .u8 0, .int .u8 0, .int .u8 0, .int .u8 0, .int .u8 0] 41) = w2 at *
  have hb3 := (Below.refl w2.heap.size w2).alloc (Nat.le_refl _) (.cells #[.slice none 0 0, .slice none 0 0, .int .i64 0, .int .u8 0, .int .u8 0, .int .u8 0, .int .u8 0, .int .u8 0, .int .u8 0, .int .u8 0, .int .u8 0, .int .u8 0, .int .u8 0, .int .u8 0, .int .u8 0, .int .u8 0, .int .u8 0, .int .u8 0, .int .u8 0] 41)
  have HN3 := Lib.hid (row_new w2 _ 41 19 (bookF bk0 (.slice none 0 0) (.slice none 0 0)) (by rfl) (zero19 _ rfl))
  have HROW3 := Lib.hid (HROW2.out.of_block (hb3.block _ (World.rowIs.lt HROW2.out)))
  have HZ3 := Lib.hid (HZ.out.of_block (hb3.block _ (World.rowIs.lt HZ.out)))
  have HB3 := Lib.hid (HB2.out.trans (hb3.mono HB2.out.size))
  have HSZ3 : Hid ((w2.alloc (.cells #[.slice none 0 0, .slice none 0 0, .int .i64 0, .int .u8 0, .int .u8 0, .int .u8 0, .int .u8 0, .int .u8 0, .int .u8 0, .int .u8 0, .int .u8 0, .int .u8 0, .int .u8 0, .int .u8 0, .int .u8 0, .int .u8 0, .int .u8 0, .int .u8 0, .int .u8 0] 41)).heap.size = w.heap.size + 3) := Lib.hid (by have := HSZ2.out; simp; omega)
  have HOC : Hid (cellsOf 16 (fun j => bookF b (.slice A b.L.length c) (.slice A2 b.rev.length c2) (3 + j)) = #[wordF b.own 0, wordF b.own 1, wordF b.own 2, wordF b.own 3, wordF b.own 4, wordF b.own 5, wordF b.own 6, wordF b.own 7, wordF b.own 8, wordF b.own 9, wordF b.own 10, wordF b.own 11, wordF b.own 12, wordF b.own 13, wordF b.own 14, wordF b.own 15]) := Lib.hid ((own_cells b _ _).trans rfl)
  have k1 := HROW2.out.cell (i := 1) (by omega)
  rw [show bookF b (.slice A b.L.length c) (.slice A2 b.rev.length c2) 1 = .slice A2 b.rev.length c2 from rfl] at k1
  have k2 := HROW2.out.cell (i := 2) (by omega)
  rw [show bookF b (.slice A b.L.length c) (.slice A2 b.rev.length c2) 2 = .int .i64 b.gen from rfl] at k2
  clear hb3
  go_upto_region 2 with first
    | (refine load_as (by rfl) 26 (.tmp 7) (by rfl) w.heap.size 3 _ 19 16 _ _ HOC.out HROW2.out (by rfl) _ Tryd.underlying26 (by rfl) (by kernel_rfl) (by omega) ?_)
    | (refine store_whole (by rfl) 41 (.tmp 3) (.tmp 11) (by rfl) w2.heap.size _ 19 _ (bookF { b with L := [] } (.slice none 0 0) (.slice A2 b.rev.length c2)) HN3.out (by rfl) _ (by rfl) (by kernel_rfl) (by rfl) (cellsOf_at 19 (bookF { b with L := [] } (.slice none 0 0) (.slice A2 b.rev.length c2))) (fun i _ => bookF_one rfl rfl i) ?_; intro w3 hr3 ho3)
  have HR3 := Lib.hid hr3
  have hb4 : Below w2.heap.size w2 w3 := ho3.below (Below.mono ((Below.refl w2.heap.size w2).alloc (Nat.le_refl _) _) (Nat.le_refl _)) (Nat.le_refl _)
  have HROW4 := Lib.hid (HROW2.out.of_block (hb4.block _ (World.rowIs.lt HROW2.out)))
  have HZ4 := Lib.hid (HZ.out.of_block (hb4.block _ (World.rowIs.lt HZ.out)))
  have HB4 := Lib.hid (HB2.out.trans (hb4.mono HB2.out.size))
  have HG3 : Hid (w.heap.size + 2 ≤ w2.heap.size ∧ w2.heap.size < w3.heap.size) := Lib.hid ⟨by have := HSZ2.out; omega, World.rowIs.lt hr3⟩
  have HN : Hid (b.L.length ≤ 50) := Lib.hid HA.out.reach.most
  clear hr3 ho3 hb4 HROW2 HZ HB2 HROW3 HZ3 HB3 HSZ3 HSZ2 HN3 HOC k1 k2
  generalize w2.heap.size = g3 at *
  obtain ⟨N, hNN⟩ : ∃ N, N = b.L.length := ⟨_, rfl⟩
  have HNN := Lib.hid hNN
  rw [← hNN] at HN
  clear hNN
  go_wp2_with fail
  go_loopw [4] (fun i wr => ∃ k : Nat, k ≤ N ∧ i = .int .i64 (k : Int) ∧ Hid (∃ Lv', wr.rowIs g3 41 19 (bookF { b with L := b.L.take k } Lv' (.slice A2 b.rev.length c2)) ∧ OwnE wr w3.heap.size 94 17 ((b.L.take k).map entR) Lv') ∧ Hid (Cache.Leaves (fun x => x = g3) w3 wr)) (fun i _ => N - (intOf i).toNat)
  case atStart => exact ⟨0, by omega, rfl, Lib.hid ⟨_, HR3.out, OwnE.nil _ _ _ _⟩, Lib.hid (Cache.Leaves.refl _ _)⟩
  case round =>
    obtain ⟨k, hk, rfl, hst, hlv⟩ := hrel
    have HROWk := Lib.hid (HROW4.out.of_block (hlv.out.block _ (World.rowIs.lt HROW4.out) (by have := HG3.out.1; omega)))
    have c0 := HROWk.out.cell (i := 0) (by omega)
    rw [show bookF b (.slice A b.L.length c) (.slice A2 b.rev.length c2) 0 = .slice A b.L.length c from rfl, ← HNN.out] at c0
    by_cases hlt : k < N
    · obtain ⟨Lv', hrw, hown⟩ := hst.out
      have hkl : k < b.L.length := by have := HNN.out; omega
      obtain ⟨A1, c1, he, hr⟩ := HA.out.ents
      rw [← HNN.out] at he
      simp only [Value.slice.injEq, true_and] at he
      obtain ⟨rfl, rfl⟩ := he
      obtain ⟨sb, so, rfl, hsb, hcc⟩ := hr (by omega)
      have hget := List.getElem?_eq_getElem hkl
      have hq : b.L.getD k (nos, zw) = b.L[k] := by rw [List.getD_eq_getElem?_getD, hget]; rfl
      have HR : Hid (∀ W, Cache.Leaves (fun x => x = g3) w3 W → W.rangeAt sb (so + k * 17) ((List.range 17).map (entF b.L[k]))) := Lib.hid (fun W hW j u hu => by
        have h1 := hcc k hkl j u (by show (entR (b.L.getD k (nos, zw)))[j]? = _; rw [hq]; exact hu)
        have h2 := (HB4.out.cell (p := ⟨sb, so + k * 17 + j, none⟩) hsb).trans h1
        exact hW.cell h2 (by have := HG3.out.1; show sb ≠ g3; omega))
      have HX : Hid ((b.L.take (k + 1)).map entR = (b.L.take k).map entR ++ [entR b.L[k]] ∧ b.L.take (k + 1) = b.L.take k ++ [b.L[k]]) := Lib.hid ⟨by rw [List.take_succ_eq_append_getElem hkl, List.map_append]; rfl, List.take_succ_eq_append_getElem hkl⟩
      have HTL : Hid (((b.L.take k).map entR).length ≤ 50) := Lib.hid (by rw [List.length_map, List.length_take]; have := HN.out; omega)
      have q0 : (0 : Int) ≤ (k : Int) := by omega
      have q1 : (k : Int) < (N : Int) := by omega
      have hw : wrap64 ((k : Int) + 1) = (k : Int) + 1 := wrap64_id (by omega) (by have := HN.out; omega)
      have HW := Lib.hid hw
      clear hget hq hcc hr hw hst
      generalize b.L[k] = p at *
      clear hkl
      have HRW := Lib.hid hrw
      have HOW := Lib.hid hown
      obtain ⟨A5, c5, hs5⟩ := hown.shape
      generalize ((b.L.take k).map entR).length = m5 at hs5
      subst hs5
      clear hrw hown
      go_upto_region 5 with fail
      clear c0
      refine region_mix_tail (fun W => Cache.Leaves (fun x => x = g3) w3 W ∧ W.cell? ⟨g3, 0, none⟩ = some (.slice A5 m5 c5) ∧ W.cell? ⟨w.heap.size, 0, none⟩ = some (.slice (some ⟨sb, so, none⟩) N c)) 10 [(0, true), (1, true), (2, true), (3, true), (4, true), (5, true), (6, true), (7, false), (8, false), (9, true)] (by kernel_rfl) (by rfl) (by kernel_rfl) ⟨hlv.out.drew, by rw [show wr.drew.cell? ⟨g3, 0, none⟩ = wr.cell? ⟨g3, 0, none⟩ from rfl, HRW.out.cell (i := 0) (by omega)]; rfl, by rw [show wr.drew.cell? ⟨w.heap.size, 0, none⟩ = wr.cell? ⟨w.heap.size, 0, none⟩ from rfl, HROWk.out.cell (i := 0) (by omega), HNN.out]; rfl⟩ ?_
      refine m_val rfl (by rfl) (.pointer (some ⟨g3, 0, none⟩)) (fun W hW => by clear hW; go_simp) ?_
      simp only [Act.put, List.setIfInBounds_toArray, List.set_cons_zero, List.set_cons_succ]
      refine m_val rfl (by rfl) (.slice A5 m5 c5) (fun W hW => by have h1 := hW.2.1; clear hW; go_simp) ?_
      simp only [Act.put, List.setIfInBounds_toArray, List.set_cons_zero, List.set_cons_succ]
      refine m_val rfl (by rfl) (.pointer (some ⟨w.heap.size, 0, none⟩)) (fun W hW => by clear hW; go_simp) ?_
      simp only [Act.put, List.setIfInBounds_toArray, List.set_cons_zero, List.set_cons_succ]
      refine m_val rfl (by rfl) (.slice (some ⟨sb, so, none⟩) N c) (fun W hW => by have h1 := hW.2.2; clear hW; go_simp) ?_
      simp only [Act.put, List.setIfInBounds_toArray, List.set_cons_zero, List.set_cons_succ]
      refine m_val rfl (by rfl) (.int .i64 (k : Int)) (fun W hW => by clear hW; go_simp) ?_
      simp only [Act.put, List.setIfInBounds_toArray, List.set_cons_zero, List.set_cons_succ]
      refine m_val rfl (by rfl) (.pointer (some ⟨sb, so + k * 17, none⟩)) (fun W hW => by clear hW; go_simp) ?_
      simp only [Act.put, List.setIfInBounds_toArray, List.set_cons_zero, List.set_cons_succ]
      refine m_range rfl (by rfl) 95 (.tmp 24) (by rfl) sb (so + k * 17) 17 (entF p) (fun W hW => HR.out W hW.1) (by rfl) _ Tryd.underlying95 (by rfl) (by kernel_rfl) ?_
      simp only [Act.put, List.setIfInBounds_toArray, List.set_cons_zero, List.set_cons_succ]
      rw [show cellsOf 17 (entF p) = #[.string p.1, wordF p.2 0, wordF p.2 1, wordF p.2 2, wordF p.2 3, wordF p.2 4, wordF p.2 5, wordF p.2 6, wordF p.2 7, wordF p.2 8, wordF p.2 9, wordF p.2 10, wordF p.2 11, wordF p.2 12, wordF p.2 13, wordF p.2 14, wordF p.2 15] from rfl]
      have HLV := Lib.hid hlv.out.drew
      have HRW1 : Hid (wr.drew.rowIs g3 41 19 (bookF { b with L := b.L.take k } (.slice A5 m5 c5) (.slice A2 b.rev.length c2))) := Lib.hid HRW.out
      have HOW1 : Hid (OwnE wr.drew w3.heap.size 94 17 ((b.L.take k).map entR) (.slice A5 m5 c5)) := Lib.hid (HOW.out.keep (fun _ _ => rfl))
      have HRK1 : Hid (wr.drew.rowIs w.heap.size 38 19 (bookF b (.slice (some ⟨sb, so, none⟩) b.L.length c) (.slice A2 b.rev.length c2))) := Lib.hid HROWk.out
      clear HRW HOW hlv HROWk
      generalize wr.drew = w4 at *
      refine m_go rfl ?_
      go_wp2_with fail
      have HNEW : Hid (RowsAt (w4.alloc (.cells #[.string p.1, wordF p.2 0, wordF p.2 1, wordF p.2 2, wordF p.2 3, wordF p.2 4, wordF p.2 5, wordF p.2 6, wordF p.2 7, wordF p.2 8, wordF p.2 9, wordF p.2 10, wordF p.2 11, wordF p.2 12, wordF p.2 13, wordF p.2 14, wordF p.2 15] 94)) 17 1 (fun _ => entR p) (.slice (some ⟨w4.heap.size, 0, none⟩) 1 1)) := Lib.hid (row_one w4 _ 94 17 (entR p) rfl)
      have hal : Below w4.heap.size w4 (w4.alloc (.cells #[.string p.1, wordF p.2 0, wordF p.2 1, wordF p.2 2, wordF p.2 3, wordF p.2 4, wordF p.2 5, wordF p.2 6, wordF p.2 7, wordF p.2 8, wordF p.2 9, wordF p.2 10, wordF p.2 11, wordF p.2 12, wordF p.2 13, wordF p.2 14, wordF p.2 15] 94)) := (Below.refl _ _).alloc (Nat.le_refl _) _
      have HLV5 : Hid (Cache.Leaves (fun x => x = g3) w3 (w4.alloc (.cells #[.string p.1, wordF p.2 0, wordF p.2 1, wordF p.2 2, wordF p.2 3, wordF p.2 4, wordF p.2 5, wordF p.2 6, wordF p.2 7, wordF p.2 8, wordF p.2 9, wordF p.2 10, wordF p.2 11, wordF p.2 12, wordF p.2 13, wordF p.2 14, wordF p.2 15] 94))) := Lib.hid (HLV.out.trans (F' := fun _ => False) (Cache.Leaves.of_below hal) (fun _ h _ => h.elim))
      have HRW5 := Lib.hid (HRW1.out.of_block (hal.block _ (World.rowIs.lt HRW1.out)))
      have HRK5 := Lib.hid (HRK1.out.of_block (hal.block _ (World.rowIs.lt HRK1.out)))
      have HOW5 := Lib.hid (HOW1.out.below hal)
      clear hal HLV HRW1 HRK1 HOW1
      generalize w4.heap.size = g4 at *
      generalize w4.alloc (.cells #[.string p.1, wordF p.2 0, wordF p.2 1, wordF p.2 2, wordF p.2 3, wordF p.2 4, wordF p.2 5, wordF p.2 6, wordF p.2 7, wordF p.2 8, wordF p.2 9, wordF p.2 10, wordF p.2 11, wordF p.2 12, wordF p.2 13, wordF p.2 14, wordF p.2 15] 94) = w5 at *
      refine m_on ⟨HLV5.out, by rw [HRW5.out.cell (i := 0) (by omega)]; rfl, by rw [HRK5.out.cell (i := 0) (by omega), HNN.out]; rfl⟩ ?_
      refine m_go rfl ?_
      go_wp2_with (at_builtin
                   refine append_rows (by rfl) (.tmp 20) (.tmp 26) 39 (by rfl) w3.heap.size 94 17 32 _ Tryd.underlying39 info_rent (by rfl) (by omega) _ _ (by rfl) HOW5.out 1 _ _ (by rfl) HNEW.out (fun i _ => ⟨entR_len _, entR_one _⟩) (by have := HTL.out; omega) (by omega) HLV5.out.size ?_
                   intro v6 w6 ho6 hg6 hv6
                   have HO6 : Hid (OwnE w6 w3.heap.size 94 17 ((b.L.take (k + 1)).map entR) v6) := Lib.hid (by rw [HX.out.1]; exact ho6)
                   have HLV6 : Hid (Cache.Leaves (fun x => x = g3) w3 w6) := Lib.hid (HLV5.out.trans (F' := fun x => w3.heap.size ≤ x) ⟨hg6.os, hg6.tape, hg6.output, hg6.size, fun x hlt hx => hg6.block x hlt (fun e => hx (HOW5.out.lt x e.symm).1)⟩ (fun x hx hlt => by omega))
                   have HRW6 := Lib.hid (HRW5.out.of_block (hg6.block g3 (World.rowIs.lt HRW5.out) (fun e => by have := (HOW5.out.lt g3 e.symm).1; have := HG3.out.2; omega)))
                   have HRK6 := Lib.hid (HRK5.out.of_block (hg6.block _ (World.rowIs.lt HRK5.out) (fun e => by have := (HOW5.out.lt _ e.symm).1; have := HG3.out.1; have := HG3.out.2; omega)))
                   obtain ⟨A6, c6, hs6⟩ := ho6.shape
                   generalize (List.map entR (b.L.take k) ++ List.map (fun _ => entR p) (List.range 1)).length = m6 at hs6
                   subst hs6
                   clear ho6 hg6 hv6)
      refine m_on ⟨HLV6.out, by rw [HRW6.out.cell (i := 0) (by omega)]; rfl, by rw [HRK6.out.cell (i := 0) (by omega), HNN.out]; rfl⟩ ?_
      refine m_val rfl (by rfl) (.pointer (some ⟨g3, 0, none⟩)) (fun W hW => by clear hW; go_simp) ?_
      simp only [Act.put, List.setIfInBounds_toArray, List.set_cons_zero, List.set_cons_succ]
      refine m_end ?_
      dsimp only
      have d6 := HRW6.out.cell (i := 0) (by omega)
      rw [show bookF { b with L := b.L.take k } (.slice A5 m5 c5) (.slice A2 b.rev.length c2) 0 = .slice A5 m5 c5 from rfl] at d6
      have f6 := HRW6.out.frozen 0
      have ho7 := only_setCells g3 [.slice A6 m6 c6] 0 w6
      rw [show w6.setCells g3 0 [.slice A6 m6 c6] = w6.setCell ⟨g3, 0, none⟩ (.slice A6 m6 c6) from rfl] at ho7
      have HST : Hid (∃ Lv', (w6.setCell ⟨g3, 0, none⟩ (.slice A6 m6 c6)).rowIs g3 41 19 (bookF { b with L := b.L.take (k + 1) } Lv' (.slice A2 b.rev.length c2)) ∧ OwnE (w6.setCell ⟨g3, 0, none⟩ (.slice A6 m6 c6)) w3.heap.size 94 17 ((b.L.take (k + 1)).map entR) Lv') := Lib.hid ⟨_, by
          have := HRW6.out.set 0 (.slice A6 m6 c6)
          rw [bookF_L] at this
          exact this, HO6.out.keep (fun x hx => ho7.block x (by have := (HO6.out.lt x hx).1; have := HG3.out.2; omega))⟩
      have HLV7 : Hid (Cache.Leaves (fun x => x = g3) w3 (w6.setCell ⟨g3, 0, none⟩ (.slice A6 m6 c6))) := Lib.hid (HLV6.out.trans (F' := fun x => x = g3) ⟨ho7.os, ho7.tape, ho7.output, by rw [ho7.size]; exact Nat.le_refl _, fun x _ hx => ho7.block x hx⟩ (fun _ h _ => h))
      clear ho7
      go_wp2_with fail
      refine NoPanic.normal ?_
      clear d6 f6
      go_wp2
      rw [HW.out]
      exact ⟨⟨k + 1, by omega, congrArg (Value.int .i64) (by omega), HST.out, HLV7.out⟩, by show N - ((k : Int) + 1).toNat < N - (k : Int).toNat; omega⟩
    · obtain rfl : k = N := by omega
      obtain ⟨Lv', hrw, hown⟩ := hst.out
      rw [List.take_of_length_le (by have := HNN.out; omega)] at hrw hown
      have HRW := Lib.hid hrw
      have HOW := Lib.hid hown
      have HO1 := Lib.hid (own_one hown)
      have HZ5 := Lib.hid (HZ4.out.of_block (hlv.out.block _ (World.rowIs.lt HZ4.out) (by have := HG3.out.1; omega)))
      have HB5 : Hid (Below w.heap.size w wr) := Lib.hid (HB4.out.trans (hlv.out.below HB4.out.size (fun x hx => by have := HG3.out.1; omega)))
      have HLVK := Lib.hid hlv.out.size
      clear hrw hown hst hlv
      go_wp2_with first
        | (refine load_whole (by rfl) 41 (.tmp 3) (by rfl) g3 _ 19 _ HRW.out (by rfl) _ Tryd.underlying41 (by rfl) (by kernel_rfl) ?_)
        | (refine store_whole (by rfl) 41 (.tmp 2) (.tmp 29) (by rfl) (w.heap.size + 1) _ 19 _ (bookF b Lv' (.slice A2 b.rev.length c2)) HZ5.out (by rfl) _ (by rfl) (by kernel_rfl) (size_cellsOf _ _) (cellsOf_at _ _) (fun i _ => bookF_one HO1.out rfl i) ?_; intro w7 hr7 ho7)
      refine bodyPost_ret (results_row rfl _ (w.heap.size + 1) _ 19 _ _ rfl hr7 Tryd.underlying41 (by rfl) (by kernel_rfl)) rfl ?_
      have hB7 : Below w.heap.size w w7 := ho7.below HB5.out (Nat.le_succ _)
      have ho := HOW.out.keep (W' := w7) (fun x hx => ho7.block x (by have := (HOW.out.lt x hx).1; have := HG3.out.1; have := HG3.out.2; omega))
      have hA7 := HA.out.below hB7
      refine ⟨Lv', rfl, ⟨rowsB_congr ho.rows (by simp) (fun i hi => ?_), hA7.revs, hA7.reach, fun g hg => ⟨fun e => by have := (ho.lt g e).2; omega, (hA7.apart g hg).2⟩, fun A' n' c' hv => ?_⟩, hB7⟩
      · rw [List.length_map] at hi
        rw [List.getD_eq_getElem?_getD, List.getElem?_map, List.getElem?_eq_getElem hi]
        show entR _ = entR _
        rw [List.getD_eq_getElem?_getD, List.getElem?_eq_getElem hi]
        rfl
      · rcases hv with hv | hv
        · exact ho.cap hv
        · exact hA7.cap A' n' c' (.inr hv)
end Go.Proofs.YtebchoeeohmlaaaDoor.Book
