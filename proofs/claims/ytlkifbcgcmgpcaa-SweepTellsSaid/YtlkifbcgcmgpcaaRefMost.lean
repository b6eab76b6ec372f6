/-
  What the document's Most does.
-/
import Derived.Test.YtlkifbcgcmgpcaaRefVotes
import Derived.Test.YtlkifbcgcmgpcaaRefMay
namespace Go.Proofs.Ytlkifbcgcmgpcaa.Sweep
open Go Go.RowKit Go.Proofs.Ytlkifbcgcmgpcaa.Aid Go.Proofs.Ytlkifbcgcmgpcaa.Span

set_option maxRecDepth 100000 in
set_option maxHeartbeats 2000000 in
theorem refMost_ok (e : Nat → Int × Int) (N : Nat) (hN : N ≤ 100) (v : Value) (w : World) (hv : SpansAt w w.heap.size N e v) :
    Calls Try.prog 11 #[v] w fun x w' => ∃ t m c, x = .returned (.tuple #[.int .i64 t, .int .i64 m, .int .i64 c]) ∧ MostSpec e N t m c ∧ Below w.heap.size w w' := by
  have hmay := refMay7_any e N hN v _ hv
  cases hval : validB e N
  · rw [hval] at hmay
    have HM := Lib.hid hmay
    have hf : MostSpec e N 0 0 1 := .inl ⟨hval, rfl, rfl, rfl⟩
    obtain ⟨A, c, rfl, _⟩ := hv
    clear hval hmay
    go_enter Try.func11, Try.ntmps11
    go_wp2_with fail
    refine (HM.out).mono ?_
    rintro _ w1 ⟨rfl, hb⟩
    go_wp2
    exact bodyPost_ret (v := .tuple #[.int .i64 0, .int .i64 0, .int .i64 1]) (by simp [results, Try.results11, go_sem]) rfl ⟨0, 0, 1, rfl, hf, hb⟩
  · rw [hval] at hmay
    have HM := Lib.hid hmay
    have HV := Lib.hid hv
    have hn1 := (valid_at hval).1
    have HVal := Lib.hid hval
    obtain ⟨A, c, rfl, hv⟩ := hv
    have HC := Lib.hid hv
    obtain ⟨b, o, rfl, hB, hc⟩ := hv hn1
    have c00 := (hc 0 (by omega)).1
    clear hmay hval hv hc
    go_enter Try.func11, Try.ntmps11
    go_wp2_with fail
    refine (HM.out).mono ?_
    rintro _ w1 ⟨rfl, hb1⟩
    replace c00 := (hb1.cell (p := ⟨b, o + 0 * 2, none⟩) hB).trans c00
    rw [Nat.zero_mul, Nat.add_zero] at c00
    have q0 : (0 : Int) < (N : Int) := by omega
    have HB1 := Lib.hid hb1
    clear HM hb1
    go_wp2
    go_loopw [5, 6] (fun t i wr => ∃ (k : Nat) (at_ : Int), k ≤ N ∧ i = .int .i64 (k : Int) ∧ t = .int .i64 at_ ∧ Hid (Best e N k at_) ∧ Hid (Below w.heap.size w wr)) (fun _ i _ => N - (intOf i).toNat)
    case atStart => exact ⟨0, (e 0).1, by omega, rfl, rfl, ⟨⟨0, by omega, rfl⟩, fun j hj => by omega⟩, HB1.out⟩
    case round =>
      clear HB1 c00
      obtain ⟨k, at_, hk, rfl, rfl, hbest, hb⟩ := hrel
      by_cases hlt : k < N
      · have c0 := (hb.out.cell (p := ⟨b, o + k * 2, none⟩) hB).trans ((fun h => by obtain ⟨b', o', he, _, hc⟩ := h; simp only [Option.some.injEq, Addr.mk.injEq, and_true] at he; obtain ⟨rfl, rfl⟩ := he; exact (hc k hlt).1) (HC.out (by omega)) : w.cell? ⟨b, o + k * 2, none⟩ = some (.int .i64 (e k).1))
        have lb : b < wr.heap.size := Nat.lt_of_lt_of_le hB hb.out.size
        have q0 : (0 : Int) ≤ (k : Int) := by omega
        have q1 : (k : Int) < (N : Int) := by omega
        have hvw : SpansAt wr wr.heap.size N e (.slice (some ⟨b, o, none⟩) N c) := (HV.out.below hb.out).mono hb.out.size
        have T1 := Lib.hid (refVotes_any e N hN (e k).1 _ _ hvw)
        have T2 : Hid (∀ w2, Below wr.heap.size wr w2 → Calls Try.prog 13 #[.slice (some ⟨b, o, none⟩) N c, .int .i64 at_] w2 fun r w' => r = .returned (.int .i64 (votes e at_ N : Int)) ∧ Below w2.heap.size w2 w') :=
          fun w2 hb2 => refVotes_any e N hN at_ _ _ ((hvw.below hb2).mono hb2.size)
        have hk1 : ∀ _ : votes e at_ N < votes e (e k).1 N ∨ votes e (e k).1 N = votes e at_ N ∧ (e k).1 < at_, Best e N (k + 1) (e k).1 := fun h => hbest.out.take hlt h
        have hk2 : ∀ _ : ¬ (votes e at_ N < votes e (e k).1 N ∨ votes e (e k).1 N = votes e at_ N ∧ (e k).1 < at_), Best e N (k + 1) at_ := fun h => hbest.out.keep h
        generalize votes e (e k).1 N = vk at *
        generalize votes e at_ N = va at *
        have K1 := Lib.hid hk1
        have K2 := Lib.hid hk2
        clear hvw HV HC hbest hk1 hk2
        go_wp2_with fail
        refine (T1.out).mono ?_
        rintro _ w2 ⟨rfl, hb2⟩
        have T3 := Lib.hid (T2.out w2 hb2)
        replace c0 := (hb2.cell (p := ⟨b, o + k * 2, none⟩) lb).trans c0
        replace hb : Hid (Below w.heap.size w w2) := hb.out.trans (hb2.mono hb.out.size)
        replace lb := Nat.lt_of_lt_of_le lb hb2.size
        clear hb2 T1 T2
        go_wp2_with fail
        refine (T3.out).mono ?_
        rintro _ w3 ⟨rfl, hb2⟩
        replace c0 := (hb2.cell (p := ⟨b, o + k * 2, none⟩) lb).trans c0
        replace hb : Hid (Below w.heap.size w w3) := hb.out.trans (hb2.mono hb.out.size)
        clear hb2 T3 lb
        by_cases p1 : (va : Int) < (vk : Int)
        · have K : Hid (Best e N (k + 1) (e k).1) := K1.out (.inl (by omega))
          have p1' : decide ((va : Int) < (vk : Int)) = true := by rw [decide_eq_true_iff]; exact p1
          have p1n : va < vk := by omega
          clear K1 K2 p1 p1'
          go_wp2
          exact ⟨⟨k + 1, (e k).1, by omega, vI (by omega), rfl, K, hb⟩, by simp [intOf]; omega⟩
        · have p1' : decide ((va : Int) < (vk : Int)) = false := by rw [decide_eq_false_iff_not]; exact p1
          by_cases p2 : vk = va
          · subst p2
            by_cases p3 : (e k).1 < at_
            · have K : Hid (Best e N (k + 1) (e k).1) := K1.out (.inr ⟨rfl, p3⟩)
              have p3' : decide ((e k).1 < at_) = true := by rw [decide_eq_true_iff]; exact p3
              clear K1 K2 p1 p3 p1'
              go_wp2
              exact ⟨⟨k + 1, (e k).1, by omega, vI (by omega), rfl, K, hb⟩, by simp [intOf]; omega⟩
            · have K : Hid (Best e N (k + 1) at_) := K2.out (by omega)
              have p3' : decide ((e k).1 < at_) = false := by rw [decide_eq_false_iff_not]; exact p3
              clear K1 K2 p1 p3 p1'
              go_wp2
              exact ⟨⟨k + 1, at_, by omega, vI (by omega), rfl, K, hb⟩, by simp [intOf]; omega⟩
          · have K : Hid (Best e N (k + 1) at_) := K2.out (by omega)
            have p1n : ¬ va < vk := by omega
            clear K1 K2 p1 p1'
            go_wp2
            exact ⟨⟨k + 1, at_, by omega, vI (by omega), rfl, K, hb⟩, by simp [intOf]; omega⟩
      · obtain rfl : k = N := by omega
        have q1 : ¬ (k : Int) < (k : Int) := by omega
        have hf := Lib.hid (best_most HVal.out hbest.out)
        have hvw : SpansAt wr wr.heap.size k e (.slice (some ⟨b, o, none⟩) k c) := (HV.out.below hb.out).mono hb.out.size
        have T1 := Lib.hid (refVotes_any e k hN at_ _ _ hvw)
        clear hvw HV HC hbest HVal
        go_wp2_with fail
        refine (T1.out).mono ?_
        rintro _ w2 ⟨rfl, hb2⟩
        replace hb2 := hb.out.trans (hb2.mono hb.out.size)
        clear hb T1
        go_wp2
        exact bodyPost_ret (v := .tuple #[.int .i64 at_, .int .i64 (votes e at_ k : Int), .int .i64 0]) (by simp [results, Try.results11, go_sem]) rfl ⟨at_, _, 0, rfl, hf.out, hb2⟩
theorem refMost_any (e : Nat → Int × Int) (N : Nat) (hN : N ≤ 100) (v : Value) (w : World) (hv : SpansAt w w.heap.size N e v) :
    Calls Try.prog 11 #[v] w fun x w' => x = .returned (.tuple #[.int .i64 (mostR e N).1, .int .i64 (mostR e N).2.1, .int .i64 (mostR e N).2.2]) ∧ Below w.heap.size w w' := by
  refine (refMost_ok e N hN v w hv).mono ?_
  rintro _ w' ⟨t, m, c, rfl, hf, hb⟩
  obtain ⟨e1, e2, e3⟩ := hf.eq
  exact ⟨by rw [← e1, ← e2, ← e3], hb⟩
end Go.Proofs.Ytlkifbcgcmgpcaa.Sweep
