/-
  The program's own store: Append.
-/
import Derived.Test.YtpnkcacmmjmehaaDoorStHold
namespace Go.Proofs.YtpnkcacmmjmehaaDoor.Store
open Go Go.RowKit Go.Proofs.YtpnkcacmmjmehaaDoor.Aid Go.Proofs.YtpnkcacmmjmehaaDoor.Law01 Go.Proofs.YtpnkcacmmjmehaaDoor.Cache

set_option maxRecDepth 100000 in
set_option maxHeartbeats 1000000 in
theorem append_any {w : World} {F : Nat → Prop} {v : Value} {m : Nat} {s : St} (h : RepOwn w F v m s) (n : Nat) (e : Nat → BitVec 8) (bv : Value) (hb : Apart w F n e bv) :
    Calls Tryd.prog 21 #[v, bv] w fun x w' => x = .returned (.int .i64 (appC m s n)) ∧ Moved RepOwn F w w' v m (appS m s n e) := by
  obtain ⟨g, Bv, z, rfl, h⟩ := h
  have HP := Lib.hid (burn_any h)
  have HOK := Lib.hid h.ok
  have HB := Lib.hid hb
  obtain ⟨A, c, rfl, -, -⟩ := hb
  clear h
  cases hp : power s with
  | false =>
    have HS : Hid (appS m s n e = burnS s) := Lib.hid (by unfold appS; rw [if_neg (by rw [hp]; simp)])
    have HC : Hid (appC m s n = 8) := Lib.hid (by unfold appC; rw [hp]; rfl)
    rw [hp, if_neg (by decide)] at HP
    go_enter Tryd.func21, Tryd.ntmps21
    go_wp2_with fail
    refine HP.out.mono ?_
    rintro _ w1 ⟨rfl, ⟨z1, h1⟩, hl1⟩
    have HM := Lib.hid (moved_own h1 hl1)
    clear h1 hl1
    go_wp2
    go_ret
    exact ⟨by rw [HC.out]; rfl, by rw [HS.out]; exact HM.out⟩
  | true =>
    rw [hp, if_pos rfl] at HP
    go_enter Tryd.func21, Tryd.ntmps21
    go_wp2_with fail
    refine HP.out.mono ?_
    rintro _ w1 ⟨rfl, ⟨z1, h1⟩, hl1⟩
    have HL1 := Lib.hid hl1
    have HB1 := Lib.hid (HB.out.leaves hl1)
    have c0 := h1.row.cell (i := 0) (by omega)
    have c1 := h1.row.cell (i := 1) (by omega)
    rw [stP0] at c0
    rw [stP1] at c1
    obtain ⟨B, d, hBv, -, -⟩ := own_shape h1.own
    have hb1 := burn_n s
    rw [hb1.1] at hBv
    subst hBv
    have hk := HOK.out
    have w1' : wrap64 ((m : Int) - (s.n : Int)) = (m : Int) - (s.n : Int) := by unfold wrap64; have := hk.n; have := hk.m; omega
    have H1 := Lib.hid h1
    clear h1 hl1
    by_cases hfit : s.n + n ≤ m
    rotate_left
    · have HS : Hid (appS m s n e = burnS s) := Lib.hid (by unfold appS; rw [if_neg (by omega)])
      have HC : Hid (appC m s n = 7) := Lib.hid (by unfold appC; rw [if_pos hp, if_neg hfit])
      have q : (m : Int) - (s.n : Int) < (n : Int) := by omega
      go_wp2_with fail
      go_quiet (fail)
      have HW : Hid (OwnStIn (w1.drewN nq) F g (.slice B s.n d) z1 m (burnS s) ∧ Cache.Leaves F w1 (w1.drewN nq)) := Lib.hid ⟨H1.out.kept (fun _ _ => rfl), ⟨rfl, rfl, rfl, Nat.le_refl _, fun _ _ _ => rfl⟩⟩
      generalize w1.drewN nq = W at *
      clear c0 c1
      go_wp2
      go_ret
      exact ⟨by rw [HC.out]; rfl, by rw [HS.out]; exact moved_own HW.out.1 (HL1.out.trans HW.out.2 (fun x hx _ => hx))⟩
    · have HS : Hid (appS m s n e = { burnS s with n := s.n + n, e := cat s.e s.n e }) := Lib.hid (by unfold appS; rw [if_pos ⟨hp, hfit⟩])
      have HC : Hid (appC m s n = 0) := Lib.hid (by unfold appC; rw [if_pos hp, if_pos hfit])
      have q : ¬ (m : Int) - (s.n : Int) < (n : Int) := by omega
      go_wp2_with fail
      go_quiet (fail)
      have HW : Hid (OwnStIn (w1.drewN nq) F g (.slice B s.n d) z1 m (burnS s) ∧ Cache.Leaves F w1 (w1.drewN nq)) := Lib.hid ⟨H1.out.kept (fun _ _ => rfl), ⟨rfl, rfl, rfl, Nat.le_refl _, fun _ _ _ => rfl⟩⟩
      generalize w1.drewN nq = W at *
      have HBW := Lib.hid (HB1.out.leaves HW.out.2)
      have c1' := HW.out.1.row.cell (i := 1) (by omega)
      rw [stP1] at c1'
      have ho := HW.out.1.own
      rw [hb1.1, hb1.2.1] at ho
      have HO := Lib.hid ho
      have hk2 := hk.n
      have hk3 := hk.m
      have HG := Lib.hid (HW.out.1.lt g HW.out.1.fg)
      clear c0 c1 H1 w1' q ho
      go_wp2_with (at_builtin
                   refine append_bytes (by rfl) (.tmp 28) (.tmp 29) (by rfl) 0 s.n s.e _ (by rfl) HO.out W.heap.size n e _ (by rfl) HBW.out.slice (by omega) (Nat.zero_le _) ?_
                   intro v2 w2 ho2 hg2 hv2
                   have hin := HW.out.1.inF
                   have hL2 : Cache.Leaves (fun b => F b ∧ b ≠ g) W w2 := ⟨hg2.os, hg2.tape, hg2.output, hg2.size, fun b hlt hnf => hg2.block b hlt (fun hb => hnf (hin b hb.symm))⟩
                   have hr2 := HW.out.1.row.of_block (hL2.block g HG.out (fun h => h.2 rfl))
                   have c2 := hr2.cell (i := 1) (by omega)
                   have f2 := hr2.frozen 1
                   have HV2 : Hid (∀ b, v2.ownBlock = some b → (F b ∧ b ≠ g) ∨ W.heap.size ≤ b) := Lib.hid fun b hb => by
                     rcases hv2 with h | h
                     · exact .inl (hin b (h ▸ hb))
                     · rw [h] at hb; cases hb; exact .inr (Nat.le_refl _)
                   have hsh := own_shape ho2
                   have HO2 := Lib.hid ho2
                   have HL2 := Lib.hid hL2
                   have HR2 := Lib.hid hr2
                   clear ho2 hg2 hv2 hin hL2 hr2 c1'
                   obtain ⟨sA, sc, hss, -, -⟩ := hsh
                   subst hss)
      go_ret
      refine ⟨by rw [HC.out]; rfl, ?_⟩
      rw [HS.out]
      exact Own.behind (HW.out.1.fresh (z' := z1) HL2.out HO2.out HV2.out rfl rfl (onlyG g 1 _ w2) ((HR2.out.set 1 _).congr (fun i hi => by match i, hi with | 0, _ => rfl | 1, _ => rfl | 2, _ => rfl | 3, _ => rfl | 4, _ => rfl)) (by rw [← HS.out]; exact app_ok HOK.out n e) HW.out.1.burn HW.out.1.lo) (HL1.out.trans HW.out.2 (fun x hx _ => hx))
end Go.Proofs.YtpnkcacmmjmehaaDoor.Store
