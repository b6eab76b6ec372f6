/-
  The walk of bartizanlaw02.MacFirst: for every key, purpose and two numbers it returns true, and writes nothing that was there.
-/
import Derived.Test.YthdfbkfoljfbhaaDoorLaw02Awake
namespace Go.Proofs.YthdfbkfoljfbhaaDoor.Law02
open Go Go.RowKit Go.Proofs.YthdfbkfoljfbhaaDoor.Aid Go.Proofs.YthdfbkfoljfbhaaDoor.Sha Go.Proofs.YthdfbkfoljfbhaaDoor.Law01 Go.Proofs.YthdfbkfoljfbhaaDoor.Mac

/-- 'b[:k]' of bytes of the call's own. -/
theorem head_run {P : Program} (t e : TypeId) (hu : P.underlying t = some (.slice e)) (hsz : (P.info? e).map (·.size) = some 1) (A : Option Addr) (hA : ∀ x, A = some x → ∃ sb so, x = ⟨sb, so, none⟩) (M c k : Nat) (hk : k ≤ c) (kd : IntKind) (W : World) :
    (Instr.sliceAt t (.slice A M c) none (some (.int kd (k : Int))) none).run P W = .ok (.slice A k c) W := by
  cases hq : P.info? e with
  | none => simp [hq] at hsz
  | some i =>
    cases A with
    | none => simp [Instr.sliceAt, Instr.slice, Instr.sliceBounds, Instr.sliceBound, asIntOf, Sem.run_bind, run_underlying hu W, Result.andThen, sizeOf, typeInfo, hq, hk]
    | some x =>
      obtain ⟨sb, so, rfl⟩ := hA x rfl
      simp [Instr.sliceAt, Instr.slice, Instr.sliceBounds, Instr.sliceBound, asIntOf, Sem.run_bind, run_underlying hu W, Result.andThen, sizeOf, typeInfo, hq, hk, Addr.add_mid]
theorem own_shape {w : World} {base m : Nat} {e : Nat → BitVec 8} {v : Value} (h : Own w base m e v) : ∃ A cap, v = .slice A m cap ∧ m ≤ cap ∧ ∀ x, A = some x → ∃ sb so, x = ⟨sb, so, none⟩ := by
  rcases h.form with ⟨rfl, rfl⟩ | ⟨g, cap, cur, rfl, _, _, hc, _⟩
  · exact ⟨none, 0, rfl, Nat.le_refl _, fun _ h => by cases h⟩
  · exact ⟨_, cap, rfl, hc, fun x h => by cases h; exact ⟨_, _, rfl⟩⟩
/-- The first of more bytes. -/
theorem slice_head {w : World} {g m k c : Nat} {e : Nat → BitVec 8} {A : Option Addr} (h : SliceOf w g m e (.slice A m c)) (hk : k ≤ m) : SliceOf w g k e (.slice A k c) := by
  obtain ⟨A', c', hv, hc, hr⟩ := h
  simp only [Value.slice.injEq, true_and] at hv
  obtain ⟨rfl, rfl⟩ := hv
  refine ⟨_, _, rfl, by omega, fun h0 => ?_⟩
  obtain ⟨sb, so, h1, h2, h3⟩ := hr (by omega)
  exact ⟨sb, so, h1, h2, fun j hj => h3 j (by omega)⟩

set_option maxRecDepth 100000 in
set_option maxHeartbeats 1000000 in
theorem first_out (A : Option Addr) (len cap : Nat) (s : ByteArray) (l0 l1 : Int) (w : World) (hk : Consts w) (h : (200 : Int) < (len : Int) ∨ (200 : Int) < (s.size : Int) ∨ l0 < 0 ∨ l1 < l0 ∨ 500 < l1) :
    Calls Tryd.prog 8 #[.slice A len cap, .string s, .agg #[.int .i64 l0, .int .i64 l1]] w fun e w' => e = .returned (.bool true) ∧ Below w.heap.size w w' := by
  have hb0 := alloc_below w (.cells #[.int .i64 l0, .int .i64 l1] 44)
  have c0 : (w.alloc (.cells #[.int .i64 l0, .int .i64 l1] 44)).cell? ⟨w.heap.size, 0, none⟩ = some (.int .i64 l0) := by rw [World.cell?_alloc_new]; rfl
  have c1 : (w.alloc (.cells #[.int .i64 l0, .int .i64 l1] 44)).cell? ⟨w.heap.size, 1, none⟩ = some (.int .i64 l1) := by rw [World.cell?_alloc_new]; rfl
  go_enter Tryd.func8, Tryd.ntmps8
  go_wp2_with fail
  refine (awake_any _ (hk.below hb0 (Nat.le_refl _))).mono ?_
  rintro x w1 ⟨rfl, hb1⟩
  have c0' : w1.cell? ⟨w.heap.size, 0, none⟩ = some (.int .i64 l0) := (hb1.cell (p := ⟨w.heap.size, 0, none⟩) (by simp)).trans c0
  have c1' : w1.cell? ⟨w.heap.size, 1, none⟩ = some (.int .i64 l1) := (hb1.cell (p := ⟨w.heap.size, 1, none⟩) (by simp)).trans c1
  have hb2 := hb0.trans (hb1.mono hb0.size)
  clear hb0 hb1 c0 c1
  by_cases h1 : (200 : Int) < (len : Int)
  · clear h
    go_wp2
    go_ret
    exact ⟨rfl, hb2⟩
  · by_cases h2 : (200 : Int) < (s.size : Int)
    · clear h
      go_wp2
      go_ret
      exact ⟨rfl, hb2⟩
    · by_cases h3 : l0 < 0
      · clear h
        go_wp2
        go_ret
        exact ⟨rfl, hb2⟩
      · by_cases h4 : l1 < l0
        · clear h
          go_wp2
          go_ret
          exact ⟨rfl, hb2⟩
        · have h5 : 500 < l1 := by omega
          clear h
          go_wp2
          go_ret
          exact ⟨rfl, hb2⟩

set_option maxRecDepth 100000 in
set_option maxHeartbeats 2000000 in
theorem first_in (A : Option Addr) (len cap : Nat) (K : Nat → BitVec 8) (s : ByteArray) (a b : Nat) (w : World) (hk : Consts w) (hs : SliceOf w w.heap.size len K (.slice A len cap)) (hl : len ≤ 200) (hsz : s.size ≤ 200) (hab : a ≤ b) (hb : b ≤ 500) :
    Calls Tryd.prog 8 #[.slice A len cap, .string s, .agg #[.int .i64 (a : Int), .int .i64 (b : Int)]] w fun e w' => e = .returned (.bool true) ∧ Below w.heap.size w w' := by
  have hb0 := alloc_below w (.cells #[.int .i64 (a : Int), .int .i64 (b : Int)] 44)
  have c0 : (w.alloc (.cells #[.int .i64 (a : Int), .int .i64 (b : Int)] 44)).cell? ⟨w.heap.size, 0, none⟩ = some (.int .i64 (a : Int)) := by rw [World.cell?_alloc_new]; rfl
  have c1 : (w.alloc (.cells #[.int .i64 (a : Int), .int .i64 (b : Int)] 44)).cell? ⟨w.heap.size, 1, none⟩ = some (.int .i64 (b : Int)) := by rw [World.cell?_alloc_new]; rfl
  go_enter Tryd.func8, Tryd.ntmps8
  go_wp2_with fail
  refine (awake_any _ (hk.below hb0 (Nat.le_refl _))).mono ?_
  rintro x w1 ⟨rfl, hb1⟩
  have c0' : w1.cell? ⟨w.heap.size, 0, none⟩ = some (.int .i64 (a : Int)) := (hb1.cell (p := ⟨w.heap.size, 0, none⟩) (by simp)).trans c0
  have c1' : w1.cell? ⟨w.heap.size, 1, none⟩ = some (.int .i64 (b : Int)) := (hb1.cell (p := ⟨w.heap.size, 1, none⟩) (by simp)).trans c1
  have hb2 := hb0.trans (hb1.mono hb0.size)
  have hlt1 : w.heap.size < w1.heap.size := block_lt_of_cell c0'
  clear hb0 hb1 c0 c1
  have q1 : ¬ (200 : Int) < (len : Int) := by omega
  have q2 : ¬ (200 : Int) < (s.size : Int) := by omega
  have q3 : ¬ (a : Int) < 0 := by omega
  have q4 : ¬ (b : Int) < (a : Int) := by omega
  have q5 : ¬ (500 : Int) < (b : Int) := by omega
  have hs1 := slice_any (slice_below hs hb2) (Nat.le_refl _)
  have hk1 := hk.below hb2 (Nat.le_refl _)
  clear hs
  go_wp2_with fail
  refine (expand_any K A len cap s a w1 hk1 hs1 (by omega) (by omega) (by omega)).mono ?_
  rintro x w2 ⟨v2, rfl, hown2, hb3⟩
  obtain ⟨A2, cap2, rfl, hc2, hA2⟩ := own_shape hown2
  have c0 := (hb3.cell (p := ⟨w.heap.size, 0, none⟩) hlt1).trans c0'
  have c1 := (hb3.cell (p := ⟨w.heap.size, 1, none⟩) hlt1).trans c1'
  have hs2 := slice_any (slice_below hs1 hb3) (Nat.le_refl _)
  have hk2 := hk1.below hb3 (Nat.le_refl _)
  have hb3' := hb2.trans (hb3.mono hb2.size)
  have hlt2 : w.heap.size < w2.heap.size := block_lt_of_cell c0
  clear c0' c1' hs1 hk1 hb3 hb2 hA2
  go_wp2_with fail
  refine (expand_any K A len cap s b w2 hk2 hs2 (by omega) (by omega) (by omega)).mono ?_
  rintro x w3 ⟨v3, rfl, hown3, hb4⟩
  obtain ⟨A3, cap3, rfl, hc3, hA3⟩ := own_shape hown3
  have c0' := (hb4.cell (p := ⟨w.heap.size, 0, none⟩) hlt2).trans c0
  have c1' := (hb4.cell (p := ⟨w.heap.size, 1, none⟩) hlt2).trans c1
  have hb4' := hb3'.trans (hb4.mono hb3'.size)
  have hown2' := hown2.below hb4
  have hcut := fun W => head_run (P := Tryd.prog) 22 5 Tryd.underlying22 (by kernel_rfl) A3 hA3 b cap3 a (by omega) .i64 W
  have e1 := hown2'.slice (g' := w3.heap.size) (.inr (Nat.le_refl _))
  have e2 := slice_head (hown3.slice (g' := w3.heap.size) (.inr (Nat.le_refl _))) hab
  have heq := equal_any _ _ _ _ _ _ _ _ _ _ w3 e1 e2 (by omega) (by omega)
  rw [same_refl _ _ a (fun _ _ => rfl)] at heq
  have Heq := Lib.hid heq
  clear c0 c1 hs2 hk2 hb4 hb3' hown2 hown2' hown3 hA3 e1 e2 heq
  go_wp2_with (go_at_call 23
               refine Heq.out.mono ?_
               rintro x w4 ⟨rfl, q, rfl⟩)
  go_ret
  exact ⟨rfl, below_drewN hb4' _⟩

/-- THE WALK, for every input. -/
theorem first_any (A : Option Addr) (len cap : Nat) (K : Nat → BitVec 8) (s : ByteArray) (l0 l1 : Int) (w : World) (hk : Consts w) (hs : SliceOf w w.heap.size len K (.slice A len cap)) :
    Calls Tryd.prog 8 #[.slice A len cap, .string s, .agg #[.int .i64 l0, .int .i64 l1]] w fun e w' => e = .returned (.bool true) ∧ Below w.heap.size w w' := by
  by_cases h : (200 : Int) < (len : Int) ∨ (200 : Int) < (s.size : Int) ∨ l0 < 0 ∨ l1 < l0 ∨ 500 < l1
  · exact first_out A len cap s l0 l1 w hk h
  · obtain ⟨a, rfl⟩ : ∃ a : Nat, l0 = (a : Int) := ⟨l0.toNat, by omega⟩
    obtain ⟨b, rfl⟩ : ∃ b : Nat, l1 = (b : Int) := ⟨l1.toNat, by omega⟩
    exact first_in A len cap K s a b w hk hs (by omega) (by omega) (by omega) (by omega)
end Go.Proofs.YthdfbkfoljfbhaaDoor.Law02
