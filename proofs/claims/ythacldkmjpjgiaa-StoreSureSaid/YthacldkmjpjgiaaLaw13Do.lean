/-
  An operation on a store: the program's and the document's.
-/
import Derived.Test.YthacldkmjpjgiaaOps13
import Derived.WalkSmall
import Derived.WalkMore
namespace Go.Proofs.Ythacldkmjpjgiaa.Law13
open Go Go.RowKit Go.Proofs.Ythacldkmjpjgiaa.Aid Go.Proofs.Ythacldkmjpjgiaa.Cache Go.Proofs.Ythacldkmjpjgiaa.Store

theorem byte_wrap (n : Nat) : (n : Int) % 256 = ((BitVec.ofNat 8 n).toNat : Int) := by
  rw [BitVec.toNat_ofNat]
  omega
set_option maxRecDepth 100000 in
set_option maxHeartbeats 2000000 in
theorem do_in {Rep : RepSt} (H : StForm 8 16 17 19 15 14 18 Rep) {w : World} {F : Nat → Prop} {v : Value} {m : Nat} {s : St} (d k : Int) (n : Nat) (e : Nat → BitVec 8) (A : Option Addr) (c : Nat)
    (h : Rep w F v m s) (hb : Apart w F n e (.slice A n c)) (hn : n ≤ 2000) (hk1 : -9223372036854775808 ≤ k) (hk2 : k ≤ 9223372036854775807) :
    Calls Try.prog 10 #[v, .agg #[.int .i64 d, .int .i64 k, .slice A n c]] w fun x w' => x = .returned (.int .i64 (doC m s d k n)) ∧ Moved Rep F w w' v m (doS m s d k n e) := by
  obtain ⟨p, rfl⟩ := H.ptr h
  have hlt := H.lt h
  obtain ⟨W0, hW0⟩ : ∃ W0, W0 = w.alloc (.cells #[.int .i64 d, .int .i64 k, .slice A n c] 35) := ⟨_, rfl⟩
  have hb0 : Below w.heap.size w W0 := by rw [hW0]; exact (Below.refl _ _).alloc (Nat.le_refl _) _
  have hl0 : Cache.Leaves F w W0 := Cache.Leaves.of_below hb0
  have h0 : Rep W0 F _ m s := H.keep _ _ _ _ _ _ h (fun b hF => hb0.block b (hlt b hF))
  have HA := Lib.hid (hb.leaves hl0)
  have HL := Lib.hid hl0
  have HR := Lib.hid h0
  have HF := Lib.hid H
  clear h hb hb0 hl0 h0 hlt H
  by_cases h0 : d = 0
  · subst h0
    have HS : Hid (doS m s 0 k n e = appS m s n e) := Lib.hid (by unfold doS; rw [if_pos rfl])
    have HC : Hid (doC m s 0 k n = appC m s n) := Lib.hid (by unfold doC; rw [if_pos rfl])
    rw [HS.out, HC.out]
    clear HS HC
    go_enter Try.func10, Try.ntmps10
    go_wp2_with fail
    rw [← hW0]
    refine (HF.out.app n e (.slice A n c) HR.out HA.out hn).mono ?_
    rintro _ w1 ⟨rfl, h1⟩
    have HM := Lib.hid (moved_behind h1 HL.out)
    clear h1 HL HR HA
    go_wp2
    go_ret
    exact ⟨rfl, HM.out⟩
  have q0 : (d == 0) = false := by simp [h0]
  by_cases h1 : d = 1
  · subst h1
    have HS : Hid (doS m s 1 k n e = syncS s) := Lib.hid (by unfold doS; rw [if_neg (by omega)]; rw [if_pos rfl])
    have HC : Hid (doC m s 1 k n = syncC s) := Lib.hid (by unfold doC; rw [if_neg (by omega)]; rw [if_pos rfl])
    rw [HS.out, HC.out]
    clear HS HC
    go_enter Try.func10, Try.ntmps10
    go_wp2_with fail
    rw [← hW0]
    refine (HF.out.sync HR.out).mono ?_
    rintro _ w1 ⟨rfl, h1⟩
    have HM := Lib.hid (moved_behind h1 HL.out)
    clear h1 HL HR HA
    go_wp2
    go_ret
    exact ⟨rfl, HM.out⟩
  have q1 : (d == 1) = false := by simp [h1]
  by_cases h2 : d = 2
  · subst h2
    have HS : Hid (doS m s 2 k n e = repS m s n e) := Lib.hid (by unfold doS; rw [if_neg (by omega)]; rw [if_neg (by omega)]; rw [if_pos rfl])
    have HC : Hid (doC m s 2 k n = repC m s n) := Lib.hid (by unfold doC; rw [if_neg (by omega)]; rw [if_neg (by omega)]; rw [if_pos rfl])
    rw [HS.out, HC.out]
    clear HS HC
    go_enter Try.func10, Try.ntmps10
    go_wp2_with fail
    rw [← hW0]
    refine (HF.out.rep n e (.slice A n c) HR.out HA.out hn).mono ?_
    rintro _ w1 ⟨rfl, h1⟩
    have HM := Lib.hid (moved_behind h1 HL.out)
    clear h1 HL HR HA
    go_wp2
    go_ret
    exact ⟨rfl, HM.out⟩
  have q2 : (d == 2) = false := by simp [h2]
  by_cases h3 : d = 3
  · subst h3
    have HS : Hid (doS m s 3 k n e = fuseS s k) := Lib.hid (by unfold doS; rw [if_neg (by omega)]; rw [if_neg (by omega)]; rw [if_neg (by omega)]; rw [if_pos rfl])
    have HC : Hid (doC m s 3 k n = 0) := Lib.hid (by unfold doC; rw [if_neg (by omega)]; rw [if_neg (by omega)]; rw [if_neg (by omega)]; rw [if_pos rfl])
    rw [HS.out, HC.out]
    clear HS HC
    go_enter Try.func10, Try.ntmps10
    go_wp2_with fail
    rw [← hW0]
    refine (HF.out.fuse k HR.out hk1 hk2).mono ?_
    rintro _ w1 ⟨rfl, h1⟩
    have HM := Lib.hid (moved_behind h1 HL.out)
    clear h1 HL HR HA
    go_wp2
    go_ret
    exact ⟨rfl, HM.out⟩
  have q3 : (d == 3) = false := by simp [h3]
  by_cases h4 : d = 4
  · subst h4
    have HS : Hid (doS m s 4 k n e = crashS s k) := Lib.hid (by unfold doS; rw [if_neg (by omega)]; rw [if_neg (by omega)]; rw [if_neg (by omega)]; rw [if_neg (by omega)]; rw [if_pos rfl])
    have HC : Hid (doC m s 4 k n = 0) := Lib.hid (by unfold doC; rw [if_neg (by omega)]; rw [if_neg (by omega)]; rw [if_neg (by omega)]; rw [if_neg (by omega)]; rw [if_pos rfl])
    rw [HS.out, HC.out]
    clear HS HC
    go_enter Try.func10, Try.ntmps10
    go_wp2_with fail
    rw [← hW0]
    refine (HF.out.crash k HR.out hk1 hk2).mono ?_
    rintro _ w1 ⟨rfl, h1⟩
    have HM := Lib.hid (moved_behind h1 HL.out)
    clear h1 HL HR HA
    go_wp2
    go_ret
    exact ⟨rfl, HM.out⟩
  have q4 : (d == 4) = false := by simp [h4]
  have HS : Hid (doS m s d k n e = turnS s k (BitVec.ofNat 8 n)) := Lib.hid (by unfold doS; rw [if_neg (by omega)]; rw [if_neg (by omega)]; rw [if_neg (by omega)]; rw [if_neg (by omega)]; rw [if_neg (by omega)])
  have HC : Hid (doC m s d k n = turnC s k) := Lib.hid (by unfold doC; rw [if_neg (by omega)]; rw [if_neg (by omega)]; rw [if_neg (by omega)]; rw [if_neg (by omega)]; rw [if_neg (by omega)])
  rw [HS.out, HC.out]
  have HWB := Lib.hid (byte_wrap n)
  clear HS HC
  go_enter Try.func10, Try.ntmps10
  go_wp2_with fail
  rw [HWB.out]
  rw [← hW0]
  refine (HF.out.turn k (BitVec.ofNat 8 n) HR.out hk1 hk2).mono ?_
  rintro _ w1 ⟨rfl, h1⟩
  have HM := Lib.hid (moved_behind h1 HL.out)
  clear h1 HL HR HA
  go_wp2
  go_ret
  exact ⟨rfl, HM.out⟩
set_option maxRecDepth 100000 in
set_option maxHeartbeats 2000000 in
theorem told_in {Rep : RepSt} (H : StForm 9 20 21 22 23 24 25 Rep) {w : World} {F : Nat → Prop} {v : Value} {m : Nat} {s : St} (d k : Int) (n : Nat) (e : Nat → BitVec 8) (A : Option Addr) (c : Nat)
    (h : Rep w F v m s) (hb : Apart w F n e (.slice A n c)) (hn : n ≤ 2000) (hk1 : -9223372036854775808 ≤ k) (hk2 : k ≤ 9223372036854775807) :
    Calls Try.prog 11 #[v, .agg #[.int .i64 d, .int .i64 k, .slice A n c]] w fun x w' => x = .returned (.int .i64 (doC m s d k n)) ∧ Moved Rep F w w' v m (doS m s d k n e) := by
  obtain ⟨p, rfl⟩ := H.ptr h
  have hlt := H.lt h
  obtain ⟨W0, hW0⟩ : ∃ W0, W0 = w.alloc (.cells #[.int .i64 d, .int .i64 k, .slice A n c] 35) := ⟨_, rfl⟩
  have hb0 : Below w.heap.size w W0 := by rw [hW0]; exact (Below.refl _ _).alloc (Nat.le_refl _) _
  have hl0 : Cache.Leaves F w W0 := Cache.Leaves.of_below hb0
  have h0 : Rep W0 F _ m s := H.keep _ _ _ _ _ _ h (fun b hF => hb0.block b (hlt b hF))
  have HA := Lib.hid (hb.leaves hl0)
  have HL := Lib.hid hl0
  have HR := Lib.hid h0
  have HF := Lib.hid H
  clear h hb hb0 hl0 h0 hlt H
  by_cases h0 : d = 0
  · subst h0
    have HS : Hid (doS m s 0 k n e = appS m s n e) := Lib.hid (by unfold doS; rw [if_pos rfl])
    have HC : Hid (doC m s 0 k n = appC m s n) := Lib.hid (by unfold doC; rw [if_pos rfl])
    rw [HS.out, HC.out]
    clear HS HC
    go_enter Try.func11, Try.ntmps11
    go_wp2_with fail
    rw [← hW0]
    refine (HF.out.app n e (.slice A n c) HR.out HA.out hn).mono ?_
    rintro _ w1 ⟨rfl, h1⟩
    have HM := Lib.hid (moved_behind h1 HL.out)
    clear h1 HL HR HA
    go_wp2
    go_ret
    exact ⟨rfl, HM.out⟩
  have q0 : (d == 0) = false := by simp [h0]
  by_cases h1 : d = 1
  · subst h1
    have HS : Hid (doS m s 1 k n e = syncS s) := Lib.hid (by unfold doS; rw [if_neg (by omega)]; rw [if_pos rfl])
    have HC : Hid (doC m s 1 k n = syncC s) := Lib.hid (by unfold doC; rw [if_neg (by omega)]; rw [if_pos rfl])
    rw [HS.out, HC.out]
    clear HS HC
    go_enter Try.func11, Try.ntmps11
    go_wp2_with fail
    rw [← hW0]
    refine (HF.out.sync HR.out).mono ?_
    rintro _ w1 ⟨rfl, h1⟩
    have HM := Lib.hid (moved_behind h1 HL.out)
    clear h1 HL HR HA
    go_wp2
    go_ret
    exact ⟨rfl, HM.out⟩
  have q1 : (d == 1) = false := by simp [h1]
  by_cases h2 : d = 2
  · subst h2
    have HS : Hid (doS m s 2 k n e = repS m s n e) := Lib.hid (by unfold doS; rw [if_neg (by omega)]; rw [if_neg (by omega)]; rw [if_pos rfl])
    have HC : Hid (doC m s 2 k n = repC m s n) := Lib.hid (by unfold doC; rw [if_neg (by omega)]; rw [if_neg (by omega)]; rw [if_pos rfl])
    rw [HS.out, HC.out]
    clear HS HC
    go_enter Try.func11, Try.ntmps11
    go_wp2_with fail
    rw [← hW0]
    refine (HF.out.rep n e (.slice A n c) HR.out HA.out hn).mono ?_
    rintro _ w1 ⟨rfl, h1⟩
    have HM := Lib.hid (moved_behind h1 HL.out)
    clear h1 HL HR HA
    go_wp2
    go_ret
    exact ⟨rfl, HM.out⟩
  have q2 : (d == 2) = false := by simp [h2]
  by_cases h3 : d = 3
  · subst h3
    have HS : Hid (doS m s 3 k n e = fuseS s k) := Lib.hid (by unfold doS; rw [if_neg (by omega)]; rw [if_neg (by omega)]; rw [if_neg (by omega)]; rw [if_pos rfl])
    have HC : Hid (doC m s 3 k n = 0) := Lib.hid (by unfold doC; rw [if_neg (by omega)]; rw [if_neg (by omega)]; rw [if_neg (by omega)]; rw [if_pos rfl])
    rw [HS.out, HC.out]
    clear HS HC
    go_enter Try.func11, Try.ntmps11
    go_wp2_with fail
    rw [← hW0]
    refine (HF.out.fuse k HR.out hk1 hk2).mono ?_
    rintro _ w1 ⟨rfl, h1⟩
    have HM := Lib.hid (moved_behind h1 HL.out)
    clear h1 HL HR HA
    go_wp2
    go_ret
    exact ⟨rfl, HM.out⟩
  have q3 : (d == 3) = false := by simp [h3]
  by_cases h4 : d = 4
  · subst h4
    have HS : Hid (doS m s 4 k n e = crashS s k) := Lib.hid (by unfold doS; rw [if_neg (by omega)]; rw [if_neg (by omega)]; rw [if_neg (by omega)]; rw [if_neg (by omega)]; rw [if_pos rfl])
    have HC : Hid (doC m s 4 k n = 0) := Lib.hid (by unfold doC; rw [if_neg (by omega)]; rw [if_neg (by omega)]; rw [if_neg (by omega)]; rw [if_neg (by omega)]; rw [if_pos rfl])
    rw [HS.out, HC.out]
    clear HS HC
    go_enter Try.func11, Try.ntmps11
    go_wp2_with fail
    rw [← hW0]
    refine (HF.out.crash k HR.out hk1 hk2).mono ?_
    rintro _ w1 ⟨rfl, h1⟩
    have HM := Lib.hid (moved_behind h1 HL.out)
    clear h1 HL HR HA
    go_wp2
    go_ret
    exact ⟨rfl, HM.out⟩
  have q4 : (d == 4) = false := by simp [h4]
  have HS : Hid (doS m s d k n e = turnS s k (BitVec.ofNat 8 n)) := Lib.hid (by unfold doS; rw [if_neg (by omega)]; rw [if_neg (by omega)]; rw [if_neg (by omega)]; rw [if_neg (by omega)]; rw [if_neg (by omega)])
  have HC : Hid (doC m s d k n = turnC s k) := Lib.hid (by unfold doC; rw [if_neg (by omega)]; rw [if_neg (by omega)]; rw [if_neg (by omega)]; rw [if_neg (by omega)]; rw [if_neg (by omega)])
  rw [HS.out, HC.out]
  have HWB := Lib.hid (byte_wrap n)
  clear HS HC
  go_enter Try.func11, Try.ntmps11
  go_wp2_with fail
  rw [HWB.out]
  rw [← hW0]
  refine (HF.out.turn k (BitVec.ofNat 8 n) HR.out hk1 hk2).mono ?_
  rintro _ w1 ⟨rfl, h1⟩
  have HM := Lib.hid (moved_behind h1 HL.out)
  clear h1 HL HR HA
  go_wp2
  go_ret
  exact ⟨rfl, HM.out⟩
end Go.Proofs.Ythacldkmjpjgiaa.Law13
