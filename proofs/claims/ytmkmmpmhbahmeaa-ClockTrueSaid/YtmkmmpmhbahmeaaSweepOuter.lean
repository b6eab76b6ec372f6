/-
  What sweep.outermost does, whatever closure it asks.
-/
import Derived.Test.YtmkmmpmhbahmeaaSweepEnds
import Derived.Test.YtmkmmpmhbahmeaaRefFuseOk
import Derived.Deep.LoopGhost
import Derived.WalkMore
import Derived.Shelf.Abstract
namespace Go.Proofs.Ytmkmmpmhbahmeaa.Sweep
open Go Go.RowKit Go.Proofs.Ytmkmmpmhbahmeaa.Aid Go.Proofs.Ytmkmmpmhbahmeaa.Span

/-- Function g, with the captured values caps, tells p of any time; in whatever world where what lay in w is as it was. -/
def Asks (w : World) (g : Nat) (caps : Array Value) (p : Int → Bool) : Prop := ∀ (t : Int) (W : World), Below w.heap.size w W →
  Calls Try.prog g (#[.int .i64 t] ++ caps) W fun x w' => x = .returned (.bool (p t)) ∧ Below W.heap.size W w'
/-- What is outermost of what counts. -/
def OuterSpec (e : Nat → Int × Int) (N : Nat) (p : Int → Bool) (u : Bool) (lo hi : Int) : Prop :=
  (u = false ∧ lo = 0 ∧ hi = 0 ∧ ((∀ i, i < N → p (e i).1 = false) ∨ ∀ i, i < N → p (e i).2 = false)) ∨
  (u = true ∧ p lo = true ∧ p hi = true ∧ (∃ i, i < N ∧ lo = (e i).1) ∧ (∃ i, i < N ∧ hi = (e i).2) ∧ (∀ i, i < N → p (e i).1 = true → lo ≤ (e i).1) ∧ ∀ i, i < N → p (e i).2 = true → (e i).2 ≤ hi)
/-- What the loops of outermost keep. -/
structure OutS (w : World) (B G : Nat) (vb ve : Value) (xs ys : List Int) (o0 o1 : Int) (W : World) : Prop where
  low : W.rowIs w.heap.size 23 2 (spf 0 0)
  out : W.rowIs G 69 2 (spf o0 o1)
  lo : OwnI W B vb xs
  hi : OwnI W B ve ys
  bel : Below w.heap.size w W
  far : w.heap.size < G ∧ (∀ b, vb.ownBlock = some b → b < G) ∧ ∀ b, ve.ownBlock = some b → b < G
theorem OutS.step {w : World} {B G : Nat} {vb ve : Value} {xs ys : List Int} {o0 o1 : Int} {W W' : World} (h : OutS w B G vb ve xs ys o0 o1 W) (hb : Below W.heap.size W W') : OutS w B G vb ve xs ys o0 o1 W' :=
  ⟨h.low.of_block (hb.block _ h.low.lt), h.out.of_block (hb.block _ h.out.lt), h.lo.below hb, h.hi.below hb, h.bel.trans (hb.mono h.bel.size), h.far⟩
theorem OutS.set {w : World} {B G : Nat} {vb ve : Value} {xs ys : List Int} {o0 o1 : Int} {W : World} (h : OutS w B G vb ve xs ys o0 o1 W) (i : Nat) (x p0 p1 : Int) (hr : (W.setCell ⟨G, i, none⟩ (.int .i64 x)).rowIs G 69 2 (spf p0 p1)) : OutS w B G vb ve xs ys p0 p1 (W.setCell ⟨G, i, none⟩ (.int .i64 x)) :=
  have hf := h.far
  ⟨h.low.of_block (Below.heap_setCell W ⟨G, i, none⟩ _ _ (by show _ ≠ G; omega)), hr,
    h.lo.keep (fun b hb => Below.heap_setCell W ⟨G, i, none⟩ _ b (by have := hf.2.1 b hb; show b ≠ G; omega)), h.hi.keep (fun b hb => Below.heap_setCell W ⟨G, i, none⟩ _ b (by have := hf.2.2 b hb; show b ≠ G; omega)),
    h.bel.setCell (by show _ ≤ G; omega) _, hf⟩
theorem out_lo {w : World} {g : Nat} {a b a' : Int} (h : w.rowIs g 69 2 (spf a b)) : (w.setCell ⟨g, 0, none⟩ (.int .i64 a')).rowIs g 69 2 (spf a' b) := set_lo h
theorem out_hi {w : World} {g : Nat} {a b b' : Int} (h : w.rowIs g 69 2 (spf a b)) : (w.setCell ⟨g, 1, none⟩ (.int .i64 b')).rowIs g 69 2 (spf a b') := set_hi h
theorem OutS.set0 {w : World} {B G : Nat} {vb ve : Value} {xs ys : List Int} {o0 o1 : Int} {W : World} (h : OutS w B G vb ve xs ys o0 o1 W) (x : Int) : OutS w B G vb ve xs ys x o1 (W.setCell ⟨G, 0, none⟩ (.int .i64 x)) := h.set 0 x _ _ (out_lo h.out)
theorem OutS.set1 {w : World} {B G : Nat} {vb ve : Value} {xs ys : List Int} {o0 o1 : Int} {W : World} (h : OutS w B G vb ve xs ys o0 o1 W) (x : Int) : OutS w B G vb ve xs ys o0 x (W.setCell ⟨G, 1, none⟩ (.int .i64 x)) := h.set 1 x _ _ (out_hi h.out)
/-- The first of a list that counts. -/
def First (p : Int → Bool) (l : List Int) (x : Int) : Prop := ∃ i, ∃ h : i < l.length, l[i] = x ∧ p x = true ∧ ∀ j (hj : j < l.length), j < i → p l[j] = false
def NoneOf (p : Int → Bool) (l : List Int) (k : Nat) : Prop := ∀ j (hj : j < l.length), j < k → p l[j] = false
theorem First.least {p : Int → Bool} {l : List Int} {x : Int} (h : First p (sorted l) x) : x ∈ l ∧ p x = true ∧ ∀ y ∈ l, p y = true → x ≤ y := by
  obtain ⟨i, hi, rfl, hp, hn⟩ := h
  refine ⟨mem_sorted.1 (List.getElem_mem hi), hp, fun y hy hpy => ?_⟩
  obtain ⟨j, hj, rfl⟩ := List.mem_iff_getElem.1 (mem_sorted.2 hy)
  rcases Nat.lt_trichotomy j i with h1 | rfl | h1
  · rw [hn j hj h1] at hpy; cases hpy
  · exact Int.le_refl _
  · exact List.pairwise_iff_getElem.1 (sorted_up l) i j hi hj h1
theorem First.most {p : Int → Bool} {l : List Int} {x : Int} (h : First p (sorted l).reverse x) : x ∈ l ∧ p x = true ∧ ∀ y ∈ l, p y = true → y ≤ x := by
  obtain ⟨i, hi, rfl, hp, hn⟩ := h
  refine ⟨mem_sorted.1 (List.mem_reverse.1 (List.getElem_mem hi)), hp, fun y hy hpy => ?_⟩
  obtain ⟨j, hj, rfl⟩ := List.mem_iff_getElem.1 (List.mem_reverse.2 (mem_sorted.2 hy))
  rcases Nat.lt_trichotomy j i with h1 | rfl | h1
  · rw [hn j hj h1] at hpy; cases hpy
  · exact Int.le_refl _
  · exact List.pairwise_iff_getElem.1 (List.pairwise_reverse.2 (sorted_up l)) i j hi hj h1
theorem NoneOf.mem {p : Int → Bool} {l : List Int} (h : NoneOf p l l.length) {x : Int} (hx : x ∈ l) : p x = false := by
  obtain ⟨i, hi, rfl⟩ := List.mem_iff_getElem.1 hx
  exact h i hi hi
theorem mem_los {e : Nat → Int × Int} {N : Nat} {x : Int} : x ∈ los e N ↔ ∃ i, i < N ∧ (e i).1 = x := by unfold los; simp
theorem mem_his {e : Nat → Int × Int} {N : Nat} {x : Int} : x ∈ his e N ↔ ∃ i, i < N ∧ (e i).2 = x := by unfold his; simp
theorem outer_none_lo {e : Nat → Int × Int} {N : Nat} {p : Int → Bool} (h : NoneOf p (sorted (los e N)) N) : OuterSpec e N p false 0 0 :=
  .inl ⟨rfl, rfl, rfl, .inl fun i hi => by
    have h' : NoneOf p (sorted (los e N)) (sorted (los e N)).length := by rw [length_sorted, los_length]; exact h
    exact NoneOf.mem h' (mem_sorted.2 (mem_los.2 ⟨i, by simpa [los_length] using hi, rfl⟩))⟩
theorem outer_none_hi {e : Nat → Int × Int} {N : Nat} {p : Int → Bool} (h : NoneOf p (sorted (his e N)).reverse N) : OuterSpec e N p false 0 0 :=
  .inl ⟨rfl, rfl, rfl, .inr fun i hi => by
    have h' : NoneOf p (sorted (his e N)).reverse (sorted (his e N)).reverse.length := by rw [List.length_reverse, length_sorted, his_length]; exact h
    exact NoneOf.mem h' (List.mem_reverse.2 (mem_sorted.2 (mem_his.2 ⟨i, by simpa [his_length] using hi, rfl⟩)))⟩
theorem outer_both {e : Nat → Int × Int} {N : Nat} {p : Int → Bool} {lo hi : Int} (h : First p (sorted (los e N)) lo) (h' : First p (sorted (his e N)).reverse hi) : OuterSpec e N p true lo hi := by
  obtain ⟨a1, a2, a3⟩ := h.least
  obtain ⟨b1, b2, b3⟩ := h'.most
  obtain ⟨i, hi1, hi2⟩ := mem_los.1 a1
  obtain ⟨j, hj1, hj2⟩ := mem_his.1 b1
  exact .inr ⟨rfl, a2, b2, ⟨i, hi1, hi2.symm⟩, ⟨j, hj1, hj2.symm⟩, fun k hk hp => a3 _ (mem_los.2 ⟨k, hk, rfl⟩) hp, fun k hk hp => b3 _ (mem_his.2 ⟨k, hk, rfl⟩) hp⟩
set_option maxRecDepth 100000 in
set_option maxHeartbeats 4000000 in
theorem outer_any (e : Nat → Int × Int) (N : Nat) (hN1 : 1 ≤ N) (hN : N ≤ 100) (v : Value) (w : World) (hv : SpansAt w w.heap.size N e v) (g : Nat) (caps : Array Value) (p : Int → Bool) (hp : Asks w g caps p)
    (eg : ∀ args w, (callFunc g args).run Try.prog w = .ok (.enter g args) w) :
    Calls Try.prog 35 #[v, .func (.func g) #[] caps] w fun x w' => ∃ u lo hi, x = .returned (.tuple #[sp lo hi, .bool u]) ∧ OuterSpec e N p u lo hi ∧ Below w.heap.size w w' := by
  have HE := fun W hW => endpoints_any e N hN1 hN v W hW
  obtain ⟨A, c, rfl, hv'⟩ := hv
  have HV : Hid (SpansAt w w.heap.size N e (.slice A N c)) := ⟨A, c, rfl, hv'⟩
  have HP := Lib.hid hp
  have HE' := Lib.hid HE
  clear hv' hp HE
  have hb0 : Below w.heap.size w (w.alloc (.cells #[.int .i64 0, .int .i64 0] 23)) := (Below.refl _ _).alloc (Nat.le_refl _) _
  have hr4 := row_new w #[.int .i64 0, .int .i64 0] 23 2 (spf 0 0) rfl (fun i hi => by match i, hi with | 0, _ => rfl | 1, _ => rfl)
  have hE0 := Lib.hid (HE'.out _ ((HV.out.below hb0).mono hb0.size))
  have hz0 : Hid (w.heap.size + 1 = (w.alloc (.cells #[.int .i64 0, .int .i64 0] 23)).heap.size) := by show _ = _; simp
  have HR4 := Lib.hid hr4
  have HB0 := Lib.hid hb0
  clear hr4 hb0
  clear HE' HV
  go_enter Try.func35, Try.ntmps35
  go_wp2
  go_step3
  go_wp2_with (first
    | (go_at_call 43
       refine hE0.out.mono ?_
       rintro _ w1 ⟨vb, ve, rfl, xvb, xve, xap, xb1⟩
       have hap := Lib.hid xap
       have hrev := Lib.hid (reverse_own xve (by rw [length_sorted, his_length]; exact hN1) (by rw [length_sorted, his_length]; omega))
       have hvb := Lib.hid xvb
       have hve := Lib.hid xve
       have hb1 := Lib.hid xb1
       clear xvb xve xap xb1)
    | (go_at_call 44
       refine hrev.out.mono ?_
       rintro _ w2 ⟨rfl, xo2, hg2⟩
       have hvb2 := Lib.hid (hvb.out.other hg2 hap.out)
       have hb2 := Lib.hid (hb1.out.grown hg2 hb1.out.size (fun x hx => (hve.out.lt x hx).1))
       have ho2 := Lib.hid xo2
       clear hg2 hvb hve hb1 hrev xo2))
  have hl0 := Lib.hid (show (sorted (los e N)).length = N by rw [length_sorted, los_length])
  have hl1 := Lib.hid (show (sorted (his e N)).reverse.length = N by rw [List.length_reverse, length_sorted, his_length])
  obtain ⟨g0, c0, rfl, -, hg0, -⟩ := hvb2.out.cell (by rw [hl0.out]; exact hN1)
  obtain ⟨g1, c1, rfl, -, hg1, -⟩ := ho2.out.cell (by rw [hl1.out]; exact hN1)
  have hw0 := Nat.lt_of_lt_of_le HR4.out.lt hb2.out.size
  have hal : Below w2.heap.size w2 (w2.alloc (.cells #[.int .i64 0, .int .i64 0] 69)) := (Below.refl _ _).alloc (Nat.le_refl _) _
  have S0' : OutS w (w.alloc (.cells #[.int .i64 0, .int .i64 0] 23)).heap.size w2.heap.size (.slice (some ⟨g0, 0, none⟩) (sorted (los e N)).length c0) (.slice (some ⟨g1, 0, none⟩) (sorted (his e N)).reverse.length c1) (sorted (los e N)) (sorted (his e N)).reverse 0 0 (w2.alloc (.cells #[.int .i64 0, .int .i64 0] 69)) :=
    ⟨(HR4.out.of_block (hb2.out.block _ HR4.out.lt)).of_block (hal.block _ (by simpa using hw0)), row_new w2 #[.int .i64 0, .int .i64 0] 69 2 (spf 0 0) rfl (fun i hi => by match i, hi with | 0, _ => rfl | 1, _ => rfl),
      hvb2.out.below hal, ho2.out.below hal, (HB0.out.trans (hb2.out.mono HB0.out.size)).trans (hal.mono (Nat.le_of_lt hw0)), hw0, fun b hb => (hvb2.out.lt b hb).2, fun b hb => (ho2.out.lt b hb).2⟩
  generalize (w.alloc (.cells #[.int .i64 0, .int .i64 0] 23)).heap.size = B at S0'
  rw [hl0.out, hl1.out] at S0'
  rw [hl0.out, hl1.out]
  have S0 := Lib.hid S0'
  clear S0' hvb2 ho2 hb2 HR4 HB0 hal hE0 hap hz0 hw0
  generalize w2.heap.size = G at *
  generalize w2.alloc (.cells #[.int .i64 0, .int .i64 0] 69) = w3 at *
  go_step3
  go_wp2
  go_loopg [23] 2 (fun g1' i wr => ∃ (s : Nat) (o0 o1 : Int), s + g1' = 2 ∧ i = .int .i64 (s : Int) ∧ Hid (1 ≤ s → First p (sorted (los e N)) o0) ∧ Hid (2 ≤ s → First p (sorted (his e N)).reverse o1) ∧ Hid (OutS w B G (.slice (some ⟨g0, 0, none⟩) N c0) (.slice (some ⟨g1, 0, none⟩) N c1) (sorted (los e N)) (sorted (his e N)).reverse o0 o1 wr))
  case atStart => exact ⟨0, 0, 0, by omega, rfl, fun h => by omega, fun h => by omega, S0⟩
  case round =>
    clear S0
    obtain ⟨s, o0, o1, hs, hi, hf0, hf1, S⟩ := hrel
    obtain rfl | rfl | rfl : s = 0 ∨ s = 1 ∨ s = 2 := by omega

    · -- side 0
      rw [show ((0 : Nat) : Int) = 0 from rfl] at hi
      subst hi
      obtain rfl : gk = 2 := by omega
      have hix := run_index 70 2 65 Try.underlying70 _ Try.underlying65 rfl (by kernel_rfl) #[.slice (some ⟨g0, 0, none⟩) N c0, .slice (some ⟨g1, 0, none⟩) N c1] 0 (by omega) _ rfl .i64
      rw [show ((0 : Nat) : Int) = 0 from rfl] at hix
      go_wp2
      clear hix
      go_loopg [29] N (fun g2 i wy => ∃ j : Nat, j + g2 = N ∧ i = .int .i64 (j : Int) ∧ Hid (NoneOf p (sorted (los e N)) j) ∧ Hid (OutS w B G (.slice (some ⟨g0, 0, none⟩) N c0) (.slice (some ⟨g1, 0, none⟩) N c1) (sorted (los e N)) (sorted (his e N)).reverse o0 o1 wy))
      case atStart => exact ⟨0, by omega, rfl, fun j hj h => by omega, S⟩
      case round =>
        clear S
        obtain ⟨j, hj, rfl, hn, S⟩ := hrel
        by_cases hlt : j < N
        · have hjL : j < (sorted (los e N)).length := by rw [hl0.out]; exact hlt
          obtain ⟨g', c', he', -, hgw, hcell⟩ := S.out.lo.cell (by rw [hl0.out]; exact hN1)
          simp only [Value.slice.injEq, Option.some.injEq, Addr.mk.injEq, and_true] at he'
          obtain ⟨rfl, -, -⟩ := he'
          have k0 := hcell j hjL
          have q0 : (0 : Int) ≤ (j : Int) := by omega
          have q1 : (j : Int) < (N : Int) := by omega
          have hstep : Hid (p (sorted (los e N))[j] = true → First p (sorted (los e N)) (sorted (los e N))[j]) := fun hp => ⟨j, hjL, rfl, hp, fun i hi h => hn.out i hi h⟩
          have hmiss : Hid (p (sorted (los e N))[j] = false → NoneOf p (sorted (los e N)) (j + 1)) := fun hp i hi h => by
            by_cases e1 : i = j
            · subst e1; exact hp
            · exact hn.out i hi (by omega)
          have hcall := HP.out (sorted (los e N))[j] wr S.out.bel
          clear hcell hn
          generalize (sorted (los e N))[j] = t at *
          generalize p t = u at *
          have HCL := Lib.hid hcall
          clear hcall
          rcases u with _ | _
          · go_wp2_with (go_at_fn g; refine HCL.out.mono ?_; rintro _ w4 ⟨rfl, hb4⟩)
            go_roundg (gk - 1)
            case measure => omega
            case rel => exact ⟨j + 1, by omega, vI (by omega), hmiss.out (by first | rfl | trivial), S.out.step hb4⟩
          · go_wp2_with (go_at_fn g
                         refine HCL.out.mono ?_
                         rintro _ w4 ⟨rfl, hb4⟩
                         have S4 := Lib.hid (S.out.step hb4)
                         have d0 : w4.cell? ⟨G, 0, none⟩ = some (.int .i64 o0) := S4.out.out.cell (i := 0) (by omega)
                         have f0 := S4.out.out.frozen 0
                         have S5 := Lib.hid (S4.out.set0 t)
                         clear hb4 HCL hmiss k0)
            go_roundg 1
            case measure => omega
            case rel => exact ⟨1, t, o1, by omega, rfl, fun _ => hstep.out (by first | rfl | trivial), fun h => by omega, S5.out⟩
        · obtain rfl : j = N := by omega
          have hsp := Lib.hid (outer_none_lo hn.out)
          have S4 := S
          have d0 : wr.cell? ⟨w.heap.size, 0, none⟩ = some (.int .i64 0) := S4.out.low.cell (i := 0) (by omega)
          have d1 : wr.cell? ⟨w.heap.size, 1, none⟩ = some (.int .i64 0) := S4.out.low.cell (i := 1) (by omega)
          have f0 := S4.out.low.frozen 0
          have f1 := S4.out.low.frozen 1
          have hbl : Hid (Below w.heap.size w ((wr.setCell ⟨w.heap.size, 0, none⟩ (.int .i64 0)).setCell ⟨w.heap.size, 1, none⟩ (.int .i64 0))) := (S.out.bel.setCell (Nat.le_refl _) _).setCell (Nat.le_refl _) _
          have hrw := set_hi (b' := 0) (set_lo (a' := 0) S.out.low)
          have y0 : Hid (((wr.setCell ⟨w.heap.size, 0, none⟩ (.int .i64 0)).setCell ⟨w.heap.size, 1, none⟩ (.int .i64 0)).cell? ⟨w.heap.size, 0, none⟩ = some (.int .i64 0)) := hrw.cell (i := 0) (by omega)
          have y1 : Hid (((wr.setCell ⟨w.heap.size, 0, none⟩ (.int .i64 0)).setCell ⟨w.heap.size, 1, none⟩ (.int .i64 0)).cell? ⟨w.heap.size, 1, none⟩ = some (.int .i64 0)) := hrw.cell (i := 1) (by omega)
          clear hn S S4 HP hrw
          go_wp2
          have z0 := y0.out
          have z1 := y1.out
          rw [Exit.noGoto_ret]
          exact bodyPost_ret (v := .tuple #[sp 0 0, .bool false]) (by simp [sp, results, Try.results35, go_sem, z0, z1]) rfl ⟨_, _, _, rfl, hsp.out, hbl.out⟩
    · -- side 1
      rw [show ((1 : Nat) : Int) = 1 from rfl] at hi
      subst hi
      obtain rfl : gk = 1 := by omega
      have hix := run_index 70 2 65 Try.underlying70 _ Try.underlying65 rfl (by kernel_rfl) #[.slice (some ⟨g0, 0, none⟩) N c0, .slice (some ⟨g1, 0, none⟩) N c1] 1 (by omega) _ rfl .i64
      rw [show ((1 : Nat) : Int) = 1 from rfl] at hix
      go_wp2
      clear hix
      go_loopg [29] N (fun g2 i wy => ∃ j : Nat, j + g2 = N ∧ i = .int .i64 (j : Int) ∧ Hid (NoneOf p (sorted (his e N)).reverse j) ∧ Hid (OutS w B G (.slice (some ⟨g0, 0, none⟩) N c0) (.slice (some ⟨g1, 0, none⟩) N c1) (sorted (los e N)) (sorted (his e N)).reverse o0 o1 wy))
      case atStart => exact ⟨0, by omega, rfl, fun j hj h => by omega, S⟩
      case round =>
        clear S
        obtain ⟨j, hj, rfl, hn, S⟩ := hrel
        by_cases hlt : j < N
        · have hjL : j < (sorted (his e N)).reverse.length := by rw [hl1.out]; exact hlt
          obtain ⟨g', c', he', -, hgw, hcell⟩ := S.out.hi.cell (by rw [hl1.out]; exact hN1)
          simp only [Value.slice.injEq, Option.some.injEq, Addr.mk.injEq, and_true] at he'
          obtain ⟨rfl, -, -⟩ := he'
          have k0 := hcell j hjL
          have q0 : (0 : Int) ≤ (j : Int) := by omega
          have q1 : (j : Int) < (N : Int) := by omega
          have hstep : Hid (p (sorted (his e N)).reverse[j] = true → First p (sorted (his e N)).reverse (sorted (his e N)).reverse[j]) := fun hp => ⟨j, hjL, rfl, hp, fun i hi h => hn.out i hi h⟩
          have hmiss : Hid (p (sorted (his e N)).reverse[j] = false → NoneOf p (sorted (his e N)).reverse (j + 1)) := fun hp i hi h => by
            by_cases e1 : i = j
            · subst e1; exact hp
            · exact hn.out i hi (by omega)
          have hcall := HP.out (sorted (his e N)).reverse[j] wr S.out.bel
          clear hcell hn
          generalize (sorted (his e N)).reverse[j] = t at *
          generalize p t = u at *
          have HCL := Lib.hid hcall
          clear hcall
          rcases u with _ | _
          · go_wp2_with (go_at_fn g; refine HCL.out.mono ?_; rintro _ w4 ⟨rfl, hb4⟩)
            go_roundg (gk - 1)
            case measure => omega
            case rel => exact ⟨j + 1, by omega, vI (by omega), hmiss.out (by first | rfl | trivial), S.out.step hb4⟩
          · go_wp2_with (go_at_fn g
                         refine HCL.out.mono ?_
                         rintro _ w4 ⟨rfl, hb4⟩
                         have S4 := Lib.hid (S.out.step hb4)
                         have d0 : w4.cell? ⟨G, 1, none⟩ = some (.int .i64 o1) := S4.out.out.cell (i := 1) (by omega)
                         have f0 := S4.out.out.frozen 1
                         have S5 := Lib.hid (S4.out.set1 t)
                         clear hb4 HCL hmiss k0)
            go_roundg 0
            case measure => omega
            case rel => exact ⟨2, o0, t, by omega, rfl, fun _ => hf0.out (by omega), fun _ => hstep.out (by first | rfl | trivial), S5.out⟩
        · obtain rfl : j = N := by omega
          have hsp := Lib.hid (outer_none_hi hn.out)
          have S4 := S
          have d0 : wr.cell? ⟨w.heap.size, 0, none⟩ = some (.int .i64 0) := S4.out.low.cell (i := 0) (by omega)
          have d1 : wr.cell? ⟨w.heap.size, 1, none⟩ = some (.int .i64 0) := S4.out.low.cell (i := 1) (by omega)
          have f0 := S4.out.low.frozen 0
          have f1 := S4.out.low.frozen 1
          have hbl : Hid (Below w.heap.size w ((wr.setCell ⟨w.heap.size, 0, none⟩ (.int .i64 0)).setCell ⟨w.heap.size, 1, none⟩ (.int .i64 0))) := (S.out.bel.setCell (Nat.le_refl _) _).setCell (Nat.le_refl _) _
          have hrw := set_hi (b' := 0) (set_lo (a' := 0) S.out.low)
          have y0 : Hid (((wr.setCell ⟨w.heap.size, 0, none⟩ (.int .i64 0)).setCell ⟨w.heap.size, 1, none⟩ (.int .i64 0)).cell? ⟨w.heap.size, 0, none⟩ = some (.int .i64 0)) := hrw.cell (i := 0) (by omega)
          have y1 : Hid (((wr.setCell ⟨w.heap.size, 0, none⟩ (.int .i64 0)).setCell ⟨w.heap.size, 1, none⟩ (.int .i64 0)).cell? ⟨w.heap.size, 1, none⟩ = some (.int .i64 0)) := hrw.cell (i := 1) (by omega)
          clear hn S S4 HP hrw
          go_wp2
          have z0 := y0.out
          have z1 := y1.out
          rw [Exit.noGoto_ret]
          exact bodyPost_ret (v := .tuple #[sp 0 0, .bool false]) (by simp [sp, results, Try.results35, go_sem, z0, z1]) rfl ⟨_, _, _, rfl, hsp.out, hbl.out⟩
    · -- both are found
      rw [show ((2 : Nat) : Int) = 2 from rfl] at hi
      subst hi
      have hsp := Lib.hid (outer_both (hf0.out (by omega)) (hf1.out (by omega)))
      have d0 : wr.cell? ⟨w.heap.size, 0, none⟩ = some (.int .i64 0) := S.out.low.cell (i := 0) (by omega)
      have d1 : wr.cell? ⟨w.heap.size, 1, none⟩ = some (.int .i64 0) := S.out.low.cell (i := 1) (by omega)
      have f0 := S.out.low.frozen 0
      have f1 := S.out.low.frozen 1
      have k0 : wr.cell? ⟨G, 0, none⟩ = some (.int .i64 o0) := S.out.out.cell (i := 0) (by omega)
      have k1 : wr.cell? ⟨G, 1, none⟩ = some (.int .i64 o1) := S.out.out.cell (i := 1) (by omega)
      have hbl : Hid (Below w.heap.size w ((wr.setCell ⟨w.heap.size, 0, none⟩ (.int .i64 o0)).setCell ⟨w.heap.size, 1, none⟩ (.int .i64 o1))) := (S.out.bel.setCell (Nat.le_refl _) _).setCell (Nat.le_refl _) _
      have hrw := set_hi (b' := o1) (set_lo (a' := o0) S.out.low)
      have y0 : Hid (((wr.setCell ⟨w.heap.size, 0, none⟩ (.int .i64 o0)).setCell ⟨w.heap.size, 1, none⟩ (.int .i64 o1)).cell? ⟨w.heap.size, 0, none⟩ = some (.int .i64 o0)) := hrw.cell (i := 0) (by omega)
      have y1 : Hid (((wr.setCell ⟨w.heap.size, 0, none⟩ (.int .i64 o0)).setCell ⟨w.heap.size, 1, none⟩ (.int .i64 o1)).cell? ⟨w.heap.size, 1, none⟩ = some (.int .i64 o1)) := hrw.cell (i := 1) (by omega)
      clear hf0 hf1 S HP hrw
      go_wp2
      have z0 := y0.out
      have z1 := y1.out
      rw [Exit.noGoto_ret]
      exact bodyPost_ret (v := .tuple #[sp o0 o1, .bool true]) (by simp [sp, results, Try.results35, go_sem, z0, z1]) rfl ⟨_, _, _, rfl, hsp.out, hbl.out⟩
end Go.Proofs.Ytmkmmpmhbahmeaa.Sweep
