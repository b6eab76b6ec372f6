/-
  The program's own store: Replace.
-/
import Derived.Test.YtpnkcacmmjmehaaDoorStHold
namespace Go.Proofs.YtpnkcacmmjmehaaDoor.Store
open Go Go.RowKit Go.Proofs.YtpnkcacmmjmehaaDoor.Aid Go.Proofs.YtpnkcacmmjmehaaDoor.Cache

set_option maxRecDepth 100000 in
set_option maxHeartbeats 1000000 in
theorem replace_any {w : World} {F : Nat → Prop} {v : Value} {m : Nat} {s : St} (h : RepOwn w F v m s) (n : Nat) (e : Nat → BitVec 8) (bv : Value) (hb : Apart w F n e bv) :
    Calls Tryd.prog 16 #[v, bv] w fun x w' => x = .returned (.int .i64 (repC m s n)) ∧ Moved RepOwn F w w' v m (repS m s n e) := by
  obtain ⟨g, Bv, z, rfl, h⟩ := h
  have HP := Lib.hid (burn_any h)
  have HB := Lib.hid hb
  obtain ⟨A, c, rfl, -, -⟩ := hb
  clear h
  cases hp : power s with
  | false =>
    have HS : Hid (repS m s n e = burnS s) := Lib.hid (by unfold repS; rw [if_neg (by rw [hp]; simp)])
    have HC : Hid (repC m s n = 8) := Lib.hid (by unfold repC; rw [hp]; rfl)
    rw [hp, if_neg (by decide)] at HP
    go_enter Tryd.func16, Tryd.ntmps16
    go_wp2_with fail
    refine HP.out.mono ?_
    rintro _ w1 ⟨rfl, ⟨z1, h1⟩, hl1⟩
    have HM := Lib.hid (moved_own h1 hl1)
    clear h1 hl1
    go_wp2
    go_ret
    exact ⟨by rw [HC.out]; rfl, by rw [HS.out]; exact HM.out⟩
  | true =>
    rw [hp, if_pos rfl] at HP
    go_enter Tryd.func16, Tryd.ntmps16
    go_wp2_with fail
    refine HP.out.mono ?_
    rintro _ w1 ⟨rfl, ⟨z1, h1⟩, hl1⟩
    have HL1 := Lib.hid hl1
    have HB1 := Lib.hid (HB.out.leaves hl1)
    have c0 := h1.row.cell (i := 0) (by omega)
    rw [stP0] at c0
    have H1 := Lib.hid h1
    clear h1 hl1
    by_cases hfit : n ≤ m
    rotate_left
    · have HS : Hid (repS m s n e = burnS s) := Lib.hid (by unfold repS; rw [if_neg (by omega)])
      have HC : Hid (repC m s n = 7) := Lib.hid (by unfold repC; rw [if_pos hp, if_neg hfit])
      have q : (m : Int) < (n : Int) := by omega
      go_wp2
      go_ret
      exact ⟨by rw [HC.out]; rfl, by rw [HS.out]; exact moved_own H1.out HL1.out⟩
    · have HS : Hid (repS m s n e = holdS (burnS s) n e) := Lib.hid (by unfold repS; rw [if_pos ⟨hp, hfit⟩]; rfl)
      have HC : Hid (repC m s n = 0) := Lib.hid (by unfold repC; rw [if_pos hp, if_pos hfit])
      have q : ¬ (m : Int) < (n : Int) := by omega
      have HH := Lib.hid (hold_any H1.out n e _ _ HB1.out.slice hfit)
      go_wp2_with fail
      refine HH.out.mono ?_
      rintro _ w2 ⟨rfl, hm2⟩
      have HM := Lib.hid hm2
      clear hm2 HH
      go_wp2
      go_ret
      exact ⟨by rw [HC.out]; rfl, by rw [HS.out]; exact Own.behind HM.out HL1.out⟩
end Go.Proofs.YtpnkcacmmjmehaaDoor.Store
