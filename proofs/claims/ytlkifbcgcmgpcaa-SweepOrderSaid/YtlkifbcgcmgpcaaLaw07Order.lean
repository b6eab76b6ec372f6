/-
  The walk of bartizanlaw07.SweepOrder: for any spans and liars it returns true, and writes nothing that was there.
-/
import Derived.Test.YtlkifbcgcmgpcaaLaw07Awake
import Derived.Test.YtlkifbcgcmgpcaaOwnSpans
namespace Go.Proofs.Ytlkifbcgcmgpcaa.Sweep
open Go Go.RowKit Go.Proofs.Ytlkifbcgcmgpcaa.Aid Go.Proofs.Ytlkifbcgcmgpcaa.Span

theorem fuseR_turn (e : Nat → Int × Int) (n : Nat) (L : Int) : (fuseR (turned e n) n L).1 = (fuseR e n L).1 ∧ (fuseR (turned e n) n L).2.1 = (fuseR e n L).2.1 ∧ (fuseR (turned e n) n L).2.2 = (fuseR e n L).2.2 := by
  have h := (fuse_turn (fuseR_spec e n L)).eq
  exact ⟨h.1.symm, h.2.1.symm, h.2.2.symm⟩
theorem mostR_turn (e : Nat → Int × Int) (n : Nat) : (mostR (turned e n) n).1 = (mostR e n).1 ∧ (mostR (turned e n) n).2.1 = (mostR e n).2.1 ∧ (mostR (turned e n) n).2.2 = (mostR e n).2.2 := by
  have h := (most_turn (mostR_spec e n)).eq
  exact ⟨h.1.symm, h.2.1.symm, h.2.2.symm⟩

set_option maxRecDepth 100000 in
set_option maxHeartbeats 4000000 in
theorem order_any (C : SweepHas) (e : Nat → Int × Int) (N : Nat) (L : Int) (A : Option Addr) (c : Nat) (w : World) (hv : SpansAt w w.heap.size N e (.slice A N c)) :
    Calls Try.prog 6 #[.slice A N c, .int .i64 L] w fun x w' => x = .returned (.bool true) ∧ Below w.heap.size w w' := by
  by_cases hN : N ≤ 70
  · have hN' : ¬ (70 : Int) < (N : Int) := by omega
    have f1 := fun W hW => C.fuse e N (by omega) L (.slice A N c) W hW
    have f2 := fun v W hW => C.fuse (turned e N) N (by omega) L v W hW
    have f3 := fun W hW => C.most e N (by omega) (.slice A N c) W hW
    have f4 := fun v W hW => C.most (turned e N) N (by omega) v W hW
    rw [(fuseR_turn e N L).1, (fuseR_turn e N L).2.1, (fuseR_turn e N L).2.2] at f2
    rw [(mostR_turn e N).1, (mostR_turn e N).2.1, (mostR_turn e N).2.2] at f4
    generalize (fuseR e N L).1 = a0 at *
    generalize (fuseR e N L).2.1 = a1 at *
    generalize (fuseR e N L).2.2 = a2 at *
    generalize (mostR e N).1 = m0 at *
    generalize (mostR e N).2.1 = m1 at *
    generalize (mostR e N).2.2 = m2 at *
    unfold sp at *
    have F1 := Lib.hid f1
    have F2 := Lib.hid f2
    have F3 := Lib.hid f3
    have F4 := Lib.hid f4
    have HV := Lib.hid hv
    obtain ⟨A', c', he, hv⟩ := hv
    simp only [Value.slice.injEq, true_and] at he
    obtain ⟨rfl, rfl⟩ := he
    have HC := Lib.hid hv
    clear f1 f2 f3 f4 hv
    go_enter Try.func6, Try.ntmps6
    go_wp2_with fail
    refine (awake_any C _).mono ?_
    rintro _ u0 ⟨rfl, hb0⟩
    have HB0 := Lib.hid hb0
    clear hb0
    go_wp2
    go_loopw [6, 7] (fun m i wr => ∃ (j : Nat) (z : Int), j ≤ N ∧ i = .int .i64 z ∧ z = (N : Int) - 1 - (j : Int) ∧ Hid (OwnS wr w.heap.size j (turned e N) m) ∧ Hid (Below w.heap.size w wr)) (fun _ i _ => (intOf i + 1).toNat)
    case atStart => exact ⟨0, _, by omega, rfl, by omega, ⟨rfl, .inl ⟨rfl, rfl⟩⟩, HB0.out⟩
    case round =>
      clear HB0
      obtain ⟨j, z, hj, rfl, hz, hown, hb⟩ := hrel
      by_cases hlt : j < N
      · obtain ⟨k, hk⟩ : ∃ k : Nat, k + j + 1 = N := ⟨N - 1 - j, by omega⟩
        obtain rfl : z = (k : Int) := by omega
        obtain ⟨b, o, rfl, hB, hc⟩ := HC.out (by omega)
        have c0 := (hb.out.cell (p := ⟨b, o + k * 2, none⟩) hB).trans (hc k (by omega)).1
        have c1 := (hb.out.cell (p := ⟨b, o + k * 2 + 1, none⟩) hB).trans (hc k (by omega)).2
        have q0 : (0 : Int) ≤ (k : Int) := by omega
        have q1 : (k : Int) < (N : Int) := by omega
        have het : turned e N j = e k := by unfold turned; congr 1; omega
        have HE := Lib.hid het
        clear hc HV HC F1 F2 F3 F4 hz het
        have hx0 : (wr.alloc (.cells #[.int .i64 (e k).1, .int .i64 (e k).2] 25)).cell? ⟨wr.heap.size, 0, none⟩ = some (.int .i64 (turned e N j).1) := by rw [HE.out]; go_simp
        have hx1 : (wr.alloc (.cells #[.int .i64 (e k).1, .int .i64 (e k).2] 25)).cell? ⟨wr.heap.size, 1, none⟩ = some (.int .i64 (turned e N j).2) := by rw [HE.out]; go_simp
        have hb1 : Below w.heap.size w (wr.alloc (.cells #[.int .i64 (e k).1, .int .i64 (e k).2] 25)) := hb.out.alloc hb.out.size _
        have hown1 := hown.out.below ((Below.refl _ wr).alloc (Nat.le_refl _) (.cells #[.int .i64 (e k).1, .int .i64 (e k).2] 25))
        have HX0 := Lib.hid hx0
        have HX1 := Lib.hid hx1
        have HB1 := Lib.hid hb1
        have HO1 := Lib.hid hown1
        clear hx0 hx1 hb1 hown1 hown hb
        go_wp2_with (at_builtin
                     refine append_span (by rfl) (.tmp 30) (.tmp 35) (by rfl) w.heap.size j (turned e N) _ (by rfl) HO1.out wr.heap.size 1 (by rfl) HX0.out HX1.out (by omega) HB1.out.size ?_
                     intro v2 w2 hown2 hg2)
        have hb2 : Hid (Below w.heap.size w w2) := HB1.out.grown hg2 HB1.out.size (fun x hx => (HO1.out.lt x hx).1)
        have ho2 : Hid (OwnS w2 w.heap.size (j + 1) (turned e N) v2) := hown2
        clear hown2 hg2 HO1 HX0 HX1 HB1 HE c0 c1
        go_wp2
        exact ⟨⟨j + 1, (k : Int) - 1, by omega, rfl, by omega, ho2, hb2⟩, by simp [intOf] <;> omega⟩
      · obtain rfl : j = N := by omega
        have hz' : ¬ (0 : Int) ≤ z := by omega
        have M : Held7 w j e (.slice A j c) [] wr := ⟨(HV.out.below hb.out).mono hb.out.size, hb.out, by simp⟩
        have S := hown.out.spans
        clear HV HC hown hb hz
        go_wp2_with fail
        refine (F1.out _ M.1).mono ?_
        rintro _ u1 ⟨rfl, hb⟩
        replace M := (M.step hb).two (.int .i64 a0) (.int .i64 a1) 25 u1.heap.size rfl
        replace S := (S.below hb).mono (Nat.le_trans hb.size (Nat.le_refl _))
        have hal : Below u1.heap.size u1 (u1.alloc (.cells #[.int .i64 a0, .int .i64 a1] 25)) := (Below.refl _ _).alloc (Nat.le_refl _) _
        replace S := (S.below hal).mono hal.size
        clear hb hal
        go_wp2_with fail
        refine (F2.out _ _ S).mono ?_
        rintro _ u2 ⟨rfl, hb⟩
        replace M := (M.step hb).two (.int .i64 a0) (.int .i64 a1) 25 u2.heap.size rfl
        replace S := (S.below hb).mono hb.size
        have hal : Below u2.heap.size u2 (u2.alloc (.cells #[.int .i64 a0, .int .i64 a1] 25)) := (Below.refl _ _).alloc (Nat.le_refl _) _
        replace S := (S.below hal).mono hal.size
        clear hb hal
        go_wp2_with fail
        refine (F3.out _ M.1).mono ?_
        rintro _ u3 ⟨rfl, hb⟩
        replace M := M.step hb
        replace S := (S.below hb).mono hb.size
        clear hb
        go_wp2_with fail
        refine (F4.out _ _ S).mono ?_
        rintro _ u4 ⟨rfl, hb⟩
        replace M := M.step hb
        clear hb S
        have x0 := M.2.at_ 0 rfl
        have x1 := M.2.at_ 1 rfl
        have x2 := M.2.at_ 2 rfl
        have x3 := M.2.at_ 3 rfl
        go_wp2
        go_ret
        exact ⟨rfl, M.2.below⟩
  · have hN' : (70 : Int) < (N : Int) := by omega
    go_enter Try.func6, Try.ntmps6
    go_wp2_with fail
    refine (awake_any C _).mono ?_
    rintro _ u0 ⟨rfl, hb⟩
    go_wp2
    go_ret
    exact ⟨rfl, hb⟩
end Go.Proofs.Ytlkifbcgcmgpcaa.Sweep
