/-
  What sweep.endpoints does.
-/
import Derived.Test.YtmkmmpmhbahmeaaSpansAt
import Derived.Test.YtmkmmpmhbahmeaaOwnInts
namespace Go.Proofs.Ytmkmmpmhbahmeaa.Sweep
open Go Go.RowKit Go.Proofs.Ytmkmmpmhbahmeaa.Aid Go.Proofs.Ytmkmmpmhbahmeaa.Span

def los (e : Nat → Int × Int) (N : Nat) : List Int := (List.range N).map fun i => (e i).1
def his (e : Nat → Int × Int) (N : Nat) : List Int := (List.range N).map fun i => (e i).2
theorem los_succ (e : Nat → Int × Int) (k : Nat) : los e k ++ [(e k).1] = los e (k + 1) := by unfold los; rw [List.range_succ, List.map_append]; rfl
theorem his_succ (e : Nat → Int × Int) (k : Nat) : his e k ++ [(e k).2] = his e (k + 1) := by unfold his; rw [List.range_succ, List.map_append]; rfl
theorem los_length (e : Nat → Int × Int) (k : Nat) : (los e k).length = k := by simp [los]
theorem his_length (e : Nat → Int × Int) (k : Nat) : (his e k).length = k := by simp [his]
/-- Behind an append to the one, what stands of both. -/
theorem ends_step {B : Nat} {w W1 w2 : World} {vb ve v2 : Value} {xs ys xs' : List Int} (h1 : OwnI W1 B vb xs) (h2 : OwnI W1 B ve ys) (ha : Apart ve vb) (hb : Below B w W1) (hB : B ≤ W1.heap.size)
    (ho : OwnI w2 B v2 xs') (hg : W1.grownBy w2 vb.ownBlock) (hu : v2.ownBlock = vb.ownBlock ∨ v2.ownBlock = some W1.heap.size) : OwnI w2 B v2 xs' ∧ OwnI w2 B ve ys ∧ Apart ve v2 ∧ Below B w w2 ∧ B ≤ w2.heap.size :=
  ⟨ho, h2.other hg ha, Apart.grown h2 ha hu, hb.grown hg hB (fun x hx => (h1.lt x hx).1), Nat.le_trans hB hg.size⟩
theorem far_cell {B : Nat} {W1 w2 : World} {vb : Value} {xs : List Int} {g o : Nat} {x : Option Value} {wr : World} (h : OwnI wr B vb xs) (hg : W1.grownBy w2 vb.ownBlock) (h1 : wr.heap.size ≤ g) (h2 : g < W1.heap.size) (hx : W1.cell? ⟨g, o, none⟩ = x) : w2.cell? ⟨g, o, none⟩ = x :=
  by
    have e1 : w2.heap[g]? = W1.heap[g]? := hg.block g h2 (fun e => by have := (h.lt g e.symm).2; omega)
    rw [← hx]
    simp only [World.cell?, e1]
set_option maxRecDepth 100000 in
theorem endpoints_any (e : Nat → Int × Int) (N : Nat) (hN1 : 1 ≤ N) (hN : N ≤ 100) (v : Value) (w : World) (hv : SpansAt w w.heap.size N e v) :
    Calls Try.prog 43 #[v] w fun x w' => ∃ vb ve, x = .returned (.tuple #[vb, ve]) ∧ OwnI w' w.heap.size vb (sorted (los e N)) ∧ OwnI w' w.heap.size ve (sorted (his e N)) ∧ Apart vb ve ∧ Below w.heap.size w w' := by
  obtain ⟨A, c, rfl, hv⟩ := hv
  have HV := Lib.hid hv
  clear hv
  go_enter Try.func43, Try.ntmps43
  go_wp2
  go_loopw [2, 3, 8] (fun vb ve i wr => ∃ k : Nat, k ≤ N ∧ i = .int .i64 (k : Int) ∧ Hid (OwnI wr w.heap.size vb (los e k)) ∧ Hid (OwnI wr w.heap.size ve (his e k)) ∧ Hid (Apart vb ve) ∧ Hid (Below w.heap.size w wr)) (fun _ _ i _ => N - (intOf i).toNat)
  case atStart => exact ⟨0, by omega, rfl, OwnI.start _ _, OwnI.start _ _, Apart.start _, Below.refl _ _⟩
  case round =>
    obtain ⟨k, hk, rfl, hvb, hve, hap, hb⟩ := hrel
    by_cases hlt : k < N
    · obtain ⟨b, o, rfl, hB, hc⟩ := HV.out (by omega)
      have c0 := (hb.out.cell (p := ⟨b, o + k * 2, none⟩) hB).trans (hc k hlt).1
      have c1 := (hb.out.cell (p := ⟨b, o + k * 2 + 1, none⟩) hB).trans (hc k hlt).2
      have q0 : (0 : Int) ≤ (k : Int) := by omega
      have q1 : (k : Int) < (N : Int) := by omega
      clear hc HV
      have hw1 : Hid (Below wr.heap.size wr ((wr.alloc (.cells #[.int .i64 (e k).1, .int .i64 (e k).2] 23)).alloc (.cells #[.int .i64 (e k).1] 2))) := ((Below.refl _ _).alloc (Nat.le_refl _) _).alloc (by simp) _
      have hx0 : Hid (((wr.alloc (.cells #[.int .i64 (e k).1, .int .i64 (e k).2] 23)).alloc (.cells #[.int .i64 (e k).1] 2)).cell? ⟨wr.heap.size + 1, 0, none⟩ = some (.int .i64 (e k).1)) := by show _ = _; go_simp
      have hx1 : Hid (((wr.alloc (.cells #[.int .i64 (e k).1, .int .i64 (e k).2] 23)).alloc (.cells #[.int .i64 (e k).1] 2)).cell? ⟨wr.heap.size, 1, none⟩ = some (.int .i64 (e k).2)) := by show _ = _; go_simp
      have hz1 : Hid (wr.heap.size < ((wr.alloc (.cells #[.int .i64 (e k).1, .int .i64 (e k).2] 23)).alloc (.cells #[.int .i64 (e k).1] 2)).heap.size) := by show _ < _; simp; omega
      have hB1 := Lib.hid (Nat.le_trans hb.out.size hw1.out.size)
      have hb1 := Lib.hid (hb.out.trans (hw1.out.mono hb.out.size))
      have hvb1 := Lib.hid (hvb.out.below hw1.out)
      have hve1 := Lib.hid (hve.out.below hw1.out)
      have hl1 := Lib.hid (los_length e k)
      have hl2 := Lib.hid (his_length e k)
      go_wp2_with (first
        | (at_builtin
           refine append_int (by rfl) (.tmp 12) (.tmp 15) (by rfl) w.heap.size (los e k) (e k).1 _ (by rfl) hvb1.out (wr.heap.size + 1) 1 (by rfl) hx0.out (by rw [hl1.out]; omega) hB1.out ?_
           intro v2 w2 hown2 hg2 hu2
           have hs2 := Lib.hid (ends_step hvb1.out hve1.out hap.out.symm hb1.out hB1.out hown2 hg2 hu2)
           have d1 := far_cell hvb.out hg2 (Nat.le_refl _) hz1.out hx1.out
           clear hown2 hg2 hu2)
        | (at_builtin
           have hw3 : Hid (Below w2.heap.size w2 (w2.alloc (.cells #[.int .i64 (e k).2] 2))) := (Below.refl _ _).alloc (Nat.le_refl _) _
           have hx3 : Hid ((w2.alloc (.cells #[.int .i64 (e k).2] 2)).cell? ⟨w2.heap.size, 0, none⟩ = some (.int .i64 (e k).2)) := by show _ = _; go_simp
           have hv3 := Lib.hid (hs2.out.1.below hw3.out)
           have he3 := Lib.hid (hs2.out.2.1.below hw3.out)
           have hB3 := Lib.hid (Nat.le_trans hs2.out.2.2.2.2 hw3.out.size)
           have hb3 := Lib.hid (hs2.out.2.2.2.1.trans (hw3.out.mono hs2.out.2.2.2.2))
           have ha3 := Lib.hid hs2.out.2.2.1
           refine append_int (by rfl) (.tmp 17) (.tmp 20) (by rfl) w.heap.size (his e k) (e k).2 _ (by rfl) he3.out w2.heap.size 1 (by rfl) hx3.out (by rw [hl2.out]; omega) hB3.out ?_
           intro v4 w4 hown4 hg4 hu4
           have hs4 := Lib.hid (ends_step he3.out hv3.out ha3.out.symm hb3.out hB3.out hown4 hg4 hu4)
           clear hown4 hg4 hu4 hw3 hx3 hv3 he3 hB3 hb3 ha3 hs2 d1))
      obtain ⟨z1, z2, z3, z4, z5⟩ := hs4.out
      rw [his_succ] at z1
      rw [los_succ] at z2
      exact ⟨⟨k + 1, by omega, vI (by omega), z2, z1, z3, z4⟩, by simp [intOf]; omega⟩
    · obtain rfl : k = N := by omega
      have hbo := hb.out
      have hl1 := Lib.hid (los_length e k)
      have hl2 := Lib.hid (his_length e k)
      have hs1 := Lib.hid (sort_own hvb.out (by rw [hl1.out]; exact hN1) (by rw [hl1.out]; omega))
      have hB := Lib.hid hb.out.size
      have HB := Lib.hid hbo
      clear HV hb hbo
      go_wp2_with (first
        | (go_at_call 47
           refine hs1.out.mono ?_
           rintro _ w1 ⟨rfl, ho1, hg1⟩
           have he1 := Lib.hid (hve.out.other hg1 hap.out.symm)
           have hb1 := Lib.hid (HB.out.grown hg1 hB.out (fun x hx => (hvb.out.lt x hx).1))
           have hB1 := Lib.hid (Nat.le_trans hB.out hg1.size)
           have hs2 := Lib.hid (sort_own he1.out (by rw [hl2.out]; exact hN1) (by rw [hl2.out]; omega))
           have ho1 := Lib.hid ho1
           clear hg1 hs1 hvb hve HB)
        | (go_at_call 47
           refine hs2.out.mono ?_
           rintro _ w2 ⟨rfl, ho2, hg2⟩
           have he2 := Lib.hid (ho1.out.other hg2 hap.out)
           have hb2 := Lib.hid (hb1.out.grown hg2 hB1.out (fun x hx => (he1.out.lt x hx).1))
           have ho2 := Lib.hid ho2
           clear hg2 hs2 hb1 he1 ho1))
      exact bodyPost_ret (v := .tuple #[u2, u3]) (by simp [results, Try.results43, go_sem]) rfl ⟨_, _, rfl, he2.out, ho2.out, hap.out, hb2.out⟩
end Go.Proofs.Ytmkmmpmhbahmeaa.Sweep
