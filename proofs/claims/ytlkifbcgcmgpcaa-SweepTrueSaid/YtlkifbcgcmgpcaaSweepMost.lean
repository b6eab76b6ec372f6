/-
  What sweep.Most does; the three functions as the bundle that the laws ask for.
-/
import Derived.Test.YtlkifbcgcmgpcaaSweepFuse
import Derived.Test.YtlkifbcgcmgpcaaFork
import Derived.Test.YtlkifbcgcmgpcaaSweepHas
namespace Go.Proofs.Ytlkifbcgcmgpcaa.Sweep
open Go Go.RowKit Go.Proofs.Ytlkifbcgcmgpcaa.Aid Go.Proofs.Ytlkifbcgcmgpcaa.Span

/-- The most votes for the beginning of one of the first k spans. -/
def topV (e : Nat → Int × Int) (N : Nat) : Nat → Nat
  | 0 => 0
  | k + 1 => max (topV e N k) (votes e (e k).1 N)
theorem topV_ge (e : Nat → Int × Int) (N : Nat) : ∀ k j, j < k → votes e (e j).1 N ≤ topV e N k
  | 0, j, h => by omega
  | k + 1, j, h => by
    show _ ≤ max (topV e N k) (votes e (e k).1 N)
    by_cases e1 : j = k
    · subst e1; omega
    · have := topV_ge e N k j (by omega); omega
theorem topV_at (e : Nat → Int × Int) (N : Nat) : ∀ k, topV e N k = 0 ∨ ∃ j, j < k ∧ votes e (e j).1 N = topV e N k
  | 0 => .inl rfl
  | k + 1 => by
    show max (topV e N k) (votes e (e k).1 N) = 0 ∨ ∃ j, j < k + 1 ∧ votes e (e j).1 N = max (topV e N k) (votes e (e k).1 N)
    by_cases h : topV e N k ≤ votes e (e k).1 N
    · exact .inr ⟨k, by omega, by omega⟩
    · rcases topV_at e N k with h0 | ⟨j, hj, hx⟩
      · omega
      · exact .inr ⟨j, by omega, by omega⟩
theorem topV_le (e : Nat → Int × Int) (N : Nat) : ∀ k, topV e N k ≤ N
  | 0 => by simp [topV]
  | k + 1 => by
    show max (topV e N k) (votes e (e k).1 N) ≤ N
    have h1 := topV_le e N k
    have h2 := votes_le e (e k).1 N
    omega
theorem outer_most {e : Nat → Int × Int} {N : Nat} {u : Bool} {lo hi : Int} (hv : validB e N = true) (h : OuterSpec e N (fun t => decide ((votes e t N : Int) = (topV e N N : Int))) u lo hi) : MostSpec e N lo (topV e N N : Int) 0 := by
  obtain ⟨h1, h2, h3⟩ := valid_at hv
  have hle : ∀ t, votes e t N ≤ topV e N N := fun t => by
    by_cases hz : 1 ≤ votes e t N
    · obtain ⟨i, ki, x1, x2⟩ := to_lo e t N hz
      have := topV_ge e N N i ki
      omega
    · omega
  have hex : ∃ j, j < N ∧ votes e (e j).1 N = topV e N N := by
    rcases topV_at e N N with h0 | hx
    · exact ⟨0, by omega, by have := topV_ge e N N 0 (by omega); omega⟩
    · exact hx
  have hpos : 1 ≤ topV e N N := by
    have hp : 0 < votes e (e 0).1 N := votes_pos e _ N 0 (by omega) (hasE_iff.2 ⟨by omega, (h3 0 (by omega)).2.2⟩)
    have := hle (e 0).1
    omega
  obtain ⟨j, hj, hx⟩ := hex
  rcases h with ⟨_, _, _, h⟩ | ⟨_, hlo, hhi, _, _, hl, hh⟩
  · rcases h with h | h
    · have := h j hj
      simp only [decide_eq_false_iff_not] at this
      omega
    · obtain ⟨i, ki, x1, x2⟩ := to_hi e (e j).1 N (by omega)
      have h4 := h i ki
      have h5 := hle (e i).2
      simp only [decide_eq_false_iff_not] at h4
      omega
  · have hlo' := of_decide_eq_true hlo
    refine .inr ⟨hv, hlo'.symm, fun t => ⟨by have := hle t; omega, fun ht => ?_⟩, rfl⟩
    obtain ⟨i, ki, x1, x2⟩ := to_lo e t N (by omega)
    have h5 := hle (e i).1
    have := hl i ki (by rw [decide_eq_true_iff]; omega)
    omega

/-- What the loop of Most keeps. -/
structure MostS (w : World) (g : Nat) (v : Value) (m : Int) (W : World) : Prop where
  bel : Below w.heap.size w W
  box : W.rowIs w.heap.size 22 1 (fun _ => v)
  top : W.rowIs g 3 1 (fun _ => .int .i64 m)
  far : w.heap.size < g
theorem MostS.step {w : World} {g : Nat} {v : Value} {m : Int} {W W' : World} (h : MostS w g v m W) (hb : Below W.heap.size W W') : MostS w g v m W' :=
  ⟨h.bel.trans (hb.mono h.bel.size), h.box.of_block (hb.block _ h.box.lt), h.top.of_block (hb.block _ h.top.lt), h.far⟩
theorem MostS.set {w : World} {g : Nat} {v : Value} {m : Int} {W : World} (h : MostS w g v m W) (x : Int) : MostS w g v x (W.setCell ⟨g, 0, none⟩ (.int .i64 x)) :=
  have hf := h.far
  ⟨h.bel.setCell (by show _ ≤ g; omega) _, h.box.of_block (Below.heap_setCell W ⟨g, 0, none⟩ _ _ (by show _ ≠ g; omega)), (h.top.set 0 (.int .i64 x)).congr (fun i hi => by match i, hi with | 0, _ => rfl), hf⟩
/-- What stays of it in the loop's region that draws. -/
structure MostC (w : World) (v : Value) (g7 : Nat) (lo : Int) (W : World) : Prop where
  bel : Below w.heap.size w W
  box : W.rowIs w.heap.size 22 1 (fun _ => v)
  at7 : W.cell? ⟨g7, 0, none⟩ = some (.int .i64 lo)
  lt7 : g7 < W.heap.size
theorem MostC.at1 {w : World} {v : Value} {g7 : Nat} {lo : Int} {W : World} (h : MostC w v g7 lo W) : W.cell? ⟨w.heap.size, 0, none⟩ = some v := h.box.cell (i := 0) (by omega)
theorem MostC.step {w : World} {v : Value} {g7 : Nat} {lo : Int} {W W' : World} (h : MostC w v g7 lo W) (hb : Below W.heap.size W W') : MostC w v g7 lo W' :=
  ⟨h.bel.trans (hb.mono h.bel.size), h.box.of_block (hb.block _ h.box.lt), (hb.cell (p := ⟨g7, 0, none⟩) h.lt7).trans h.at7, Nat.lt_of_lt_of_le h.lt7 hb.size⟩
theorem MostC.set {w : World} {v : Value} {g7 : Nat} {lo : Int} {W : World} (h : MostC w v g7 lo W) (g : Nat) (x : Int) (h1 : w.heap.size < g) (h2 : g < g7) : MostC w v g7 lo (W.setCell ⟨g, 0, none⟩ (.int .i64 x)) :=
  ⟨h.bel.setCell (by show _ ≤ g; omega) _, h.box.of_block (Below.heap_setCell W ⟨g, 0, none⟩ _ _ (by show _ ≠ g; omega)),
    (by have e1 := Below.heap_setCell W ⟨g, 0, none⟩ (.int .i64 x) g7 (by show _ ≠ g; omega); rw [← h.at7]; simp only [World.cell?, e1]), by have := h.lt7; simp [World.setCell]; omega⟩
set_option maxRecDepth 100000 in
theorem most_bad (e : Nat → Int × Int) (N : Nat) (hN : N ≤ 100) (hm : validB e N = false) (v : Value) (w : World) (hv : SpansAt w w.heap.size N e v) :
    Calls Try.prog 10 #[v] w fun x w' => x = .returned (.tuple #[.int .i64 0, .int .i64 0, .int .i64 1]) ∧ Below w.heap.size w w' := by
  obtain ⟨A, c, rfl, hv'⟩ := hv
  have HV : Hid (SpansAt w w.heap.size N e (.slice A N c)) := ⟨A, c, rfl, hv'⟩
  clear hv'
  have hal : Below w.heap.size w (w.alloc (.cells #[.slice A N c] 22)) := (Below.refl _ _).alloc (Nat.le_refl _) _
  have HM := Lib.hid (validB_any e N hN _ _ ((HV.out.below hal).mono hal.size))
  rw [hm] at HM
  have HAL := Lib.hid hal
  clear hal hm
  go_enter Try.func10, Try.ntmps10
  go_wp2_with (go_at_call 18; refine HM.out.mono ?_; rintro _ w3 ⟨rfl, hb3⟩)
  go_ret3
  exact ⟨rfl, HAL.out.trans (hb3.mono HAL.out.size)⟩
set_option maxRecDepth 100000 in
set_option maxHeartbeats 2000000 in
theorem most_good (e : Nat → Int × Int) (N : Nat) (hN : N ≤ 100) (hm : validB e N = true) (v : Value) (w : World) (hv : SpansAt w w.heap.size N e v) :
    Calls Try.prog 10 #[v] w fun x w' => ∃ lo, x = .returned (.tuple #[.int .i64 lo, .int .i64 (topV e N N : Int), .int .i64 0]) ∧ MostSpec e N lo (topV e N N : Int) 0 ∧ Below w.heap.size w w' := by
  obtain ⟨A, c, rfl, hv'⟩ := hv
  have HV : Hid (SpansAt w w.heap.size N e (.slice A N c)) := ⟨A, c, rfl, hv'⟩
  have HC := Lib.hid hv'
  clear hv'
  have hal : Below w.heap.size w (w.alloc (.cells #[.slice A N c] 22)) := (Below.refl _ _).alloc (Nat.le_refl _) _
  have HM := Lib.hid (validB_any e N hN _ _ ((HV.out.below hal).mono hal.size))
  rw [hm] at HM
  have hr1 := row_new w #[.slice A N c] 22 1 (fun _ => .slice A N c) rfl (fun i hi => by match i, hi with | 0, _ => rfl)
  have HR1 := Lib.hid hr1
  have HU := Lib.hid hm
  have HAL := Lib.hid hal
  have hN1 := (valid_at hm).1
  clear hal hm hr1
  go_enter Try.func10, Try.ntmps10
  go_wp2_with fail
  refine HM.out.mono ?_
  rintro _ w3 ⟨rfl, hb3⟩
  have hr3 := HR1.out.of_block (hb3.block _ HR1.out.lt)
  have hb4 := HAL.out.trans (hb3.mono HAL.out.size)
  have hal3 : Below w3.heap.size w3 (w3.alloc (.cells #[.int .i64 0] 3)) := (Below.refl _ _).alloc (Nat.le_refl _) _
  have S0 : MostS w w3.heap.size (.slice A N c) 0 (w3.alloc (.cells #[.int .i64 0] 3)) :=
    ⟨hb4.trans (hal3.mono hb4.size), hr3.of_block (hal3.block _ hr3.lt), row_new w3 #[.int .i64 0] 3 1 (fun _ => .int .i64 0) rfl (fun i hi => by match i, hi with | 0, _ => rfl), hr3.lt⟩
  have HS0 := Lib.hid S0
  have k1 : w3.cell? ⟨w.heap.size, 0, none⟩ = some (.slice A N c) := hr3.cell (i := 0) (by omega)
  have l1 : w.heap.size < w3.heap.size := hr3.lt
  clear hr3 hb4 hal3 S0 hb3 HM HR1 HAL
  go_wp2
  generalize w3.alloc (.cells #[.int .i64 0] 3) = w4 at *
  generalize w3.heap.size = g5 at *
  go_loopw [15] (fun i wr => ∃ k : Nat, k ≤ N ∧ i = .int .i64 (k : Int) ∧ Hid (MostS w g5 (.slice A N c) (topV e N k : Int) wr)) (fun i _ => N - (intOf i).toNat)
  case atStart => exact ⟨0, by omega, rfl, HS0⟩
  case round =>
    clear HS0 k1
    obtain ⟨k, hk, rfl, S⟩ := hrel
    by_cases hlt : k < N
    · obtain ⟨b, o, rfl, hB, hc⟩ := HC.out (by omega)
      have c0 := (S.out.bel.cell (p := ⟨b, o + k * 2, none⟩) hB).trans (hc k hlt).1
      have c1 := (S.out.bel.cell (p := ⟨b, o + k * 2 + 1, none⟩) hB).trans (hc k hlt).2
      have q0 : (0 : Int) ≤ (k : Int) := by omega
      have q1 : (k : Int) < (N : Int) := by omega
      have hvt := Lib.hid (fun W (hW : Below w.heap.size w W) => votes_any e N hN (e k).1 _ W ((HV.out.below hW).mono hW.size))
      have hal : Below wr.heap.size wr (wr.alloc (.cells #[.int .i64 (e k).1, .int .i64 (e k).2] 25)) := (Below.refl _ _).alloc (Nat.le_refl _) _
      have S1 := Lib.hid (S.out.step hal)
      have hlo : (wr.alloc (.cells #[.int .i64 (e k).1, .int .i64 (e k).2] 25)).cell? ⟨wr.heap.size, 0, none⟩ = some (.int .i64 (e k).1) := by go_simp
      have hl7 : wr.heap.size < (wr.alloc (.cells #[.int .i64 (e k).1, .int .i64 (e k).2] 25)).heap.size := by simp
      have hl5 := S.out.top.lt
      have K7 := Lib.hid hlo
      have L7 := Lib.hid hl7
      have htop : Hid ((topV e N (k + 1) : Int) = max (topV e N k : Int) (votes e (e k).1 N : Int)) := by
        show ((max (topV e N k) (votes e (e k).1 N) : Nat) : Int) = _
        omega
      clear hc HC HV S hal hlo hl7
      go_wp2
      generalize (topV e N k : Int) = m0 at *
      generalize (votes e (e k).1 N : Int) = vt at *
      generalize (e k).1 = lo at *
      generalize (e k).2 = hi at *
      generalize wr.heap.size = g7 at *
      generalize wr.alloc (.cells #[.int .i64 lo, .int .i64 hi] 25) = w5 at *
      have hC : MostC w (.slice (some ⟨b, o, none⟩) N c) g7 lo w5.drew := MostC.mk S1.out.bel.drew (S1.out.box.of_block rfl) K7.out L7.out
      refine region_h (MostC w (.slice (some ⟨b, o, none⟩) N c) g7 lo) 7 (by kernel_rfl) rfl ?_
      refine f_take 1 rfl (by kernel_rfl) (by rfl) _ (fun W hW => by have x0 := hW.at1; go_simp; rfl) hC ?_
      simp only [Act.put, List.setIfInBounds_toArray, List.set_cons_zero, List.set_cons_succ]
      refine f_take 2 rfl (by kernel_rfl) (by rfl) _ (fun W hW => by go_simp; rfl) hC ?_
      simp only [Act.put, List.setIfInBounds_toArray, List.set_cons_zero, List.set_cons_succ]
      refine f_take 3 rfl (by kernel_rfl) (by rfl) _ (fun W hW => by have x0 := hW.at7; go_simp; rfl) hC ?_
      simp only [Act.put, List.setIfInBounds_toArray, List.set_cons_zero, List.set_cons_succ]
      have S2 := Lib.hid (S1.out.step (Below.refl _ _).drew)
      clear S1 K7 L7 c0 c1
      generalize w5.drew = w6 at *
      refine f_two 0 4 rfl rfl (by kernel_rfl) ?_ ?_
      · skip
        have x5 := S2.out.top.cell (i := 0) (by omega)
        go_wp2_with fail
        refine m_on hC ?_
        clear x5
        refine f_go 4 rfl (by kernel_rfl) ?_
        go_wp2_with fail
        refine (hvt.out _ hC.bel).mono ?_
        rintro _ w7 ⟨rfl, hb7⟩
        have hC7 := hC.step hb7
        have S7 := Lib.hid (S2.out.step hb7)
        clear hb7
        go_wp2_with fail
        refine m_on hC7 ?_
        refine f_go 5 rfl (by kernel_rfl) ?_
        go_wp2_with fail
        refine m_on hC7 ?_
        have x5 := S7.out.top.cell (i := 0) (by omega)
        have y5 := S7.out.top.frozen 0
        refine f_go 6 rfl (by kernel_rfl) ?_
        have S8 : Hid (MostS w g5 (.slice (some ⟨b, o, none⟩) N c) (topV e N (k + 1) : Int) (w7.setCell ⟨g5, 0, none⟩ (.int .i64 (max m0 vt)))) := by have := S7.out.set (max m0 vt); rw [← htop.out] at this; rw [← htop.out]; exact this
        have hC8 := hC7.set g5 (max m0 vt) l1 hl5
        clear htop
        go_wp2_with fail
        refine m_on hC8 ?_
        refine f_end (by kernel_rfl) ?_
        clear hC8 hC7 S7
        generalize w7.setCell ⟨g5, 0, none⟩ (.int .i64 (max m0 vt)) = w8 at *
        go_wp2
        exact ⟨⟨k + 1, by omega, vI (by omega), S8⟩, by simp [intOf]; omega⟩
      · skip
        go_wp2_with fail
        refine (hvt.out _ hC.bel).mono ?_
        rintro _ w7 ⟨rfl, hb7⟩
        have hC7 := hC.step hb7
        have S7 := Lib.hid (S2.out.step hb7)
        clear hb7
        go_wp2_with fail
        refine m_on hC7 ?_
        refine f_go 0 rfl (by kernel_rfl) ?_
        have x5 := S7.out.top.cell (i := 0) (by omega)
        go_wp2_with fail
        refine m_on hC7 ?_
        clear x5
        refine f_go 5 rfl (by kernel_rfl) ?_
        go_wp2_with fail
        refine m_on hC7 ?_
        have x5 := S7.out.top.cell (i := 0) (by omega)
        have y5 := S7.out.top.frozen 0
        refine f_go 6 rfl (by kernel_rfl) ?_
        have S8 : Hid (MostS w g5 (.slice (some ⟨b, o, none⟩) N c) (topV e N (k + 1) : Int) (w7.setCell ⟨g5, 0, none⟩ (.int .i64 (max m0 vt)))) := by have := S7.out.set (max m0 vt); rw [← htop.out] at this; rw [← htop.out]; exact this
        have hC8 := hC7.set g5 (max m0 vt) l1 hl5
        clear htop
        go_wp2_with fail
        refine m_on hC8 ?_
        refine f_end (by kernel_rfl) ?_
        clear hC8 hC7 S7
        generalize w7.setCell ⟨g5, 0, none⟩ (.int .i64 (max m0 vt)) = w8 at *
        go_wp2
        exact ⟨⟨k + 1, by omega, vI (by omega), S8⟩, by simp [intOf]; omega⟩
    · obtain rfl : k = N := by omega
      clear HC
      have k1 : wr.cell? ⟨w.heap.size, 0, none⟩ = some (.slice A k c) := S.out.box.cell (i := 0) (by omega)
      have k5 : wr.cell? ⟨g5, 0, none⟩ = some (.int .i64 (topV e k k : Int)) := S.out.top.cell (i := 0) (by omega)
      have l5 := S.out.top.lt
      have hvr := (HV.out.below S.out.bel).mono S.out.bel.size
      have HO := Lib.hid (outer_any e k hN1 hN _ _ hvr 22 #[.pointer (some ⟨w.heap.size, 0, none⟩), .pointer (some ⟨g5, 0, none⟩)] (fun t => decide ((votes e t k : Int) = (topV e k k : Int)))
        (fun t W hW => mostFn_any e k hN (topV e k k : Int) t A c w.heap.size g5 W ((hvr.below hW).mono hW.size) ((hW.cell (p := ⟨w.heap.size, 0, none⟩) (by show w.heap.size < _; omega)).trans k1) ((hW.cell (p := ⟨g5, 0, none⟩) l5).trans k5) (by have := hW.size; omega) (by have := hW.size; omega))
        (enters_of Try.func22 (by kernel_rfl) rfl))
      clear hvr k5
      go_wp2_with fail
      refine HO.out.mono ?_
      rintro _ w5 ⟨u, lo, hi, rfl, hsp, hb5⟩
      have hms := Lib.hid (outer_most HU.out hsp)
      have S5 := S.out.step hb5
      have hal : Below w5.heap.size w5 (w5.alloc (.cells #[.int .i64 lo, .int .i64 hi] 25)) := (Below.refl _ _).alloc (Nat.le_refl _) _
      have S6 := Lib.hid (S5.step hal)
      have x0 : (w5.alloc (.cells #[.int .i64 lo, .int .i64 hi] 25)).cell? ⟨w5.heap.size, 0, none⟩ = some (.int .i64 lo) := by go_simp
      have x5 : (w5.alloc (.cells #[.int .i64 lo, .int .i64 hi] 25)).cell? ⟨g5, 0, none⟩ = some (.int .i64 (topV e k k : Int)) := S6.out.top.cell (i := 0) (by omega)
      have l8 : w5.heap.size < (w5.alloc (.cells #[.int .i64 lo, .int .i64 hi] 25)).heap.size := by simp
      have l9 : g5 < (w5.alloc (.cells #[.int .i64 lo, .int .i64 hi] 25)).heap.size := S6.out.top.lt
      have hb6 := Lib.hid S6.out.bel
      have X0 := Lib.hid x0
      have X5 := Lib.hid x5
      have L8 := Lib.hid l8
      have L9 := Lib.hid l9
      clear hsp S5 hal S6 x0 x5 l8 l9 HO hb5 S k1 l5
      unfold sp
      go_wp2
      have x0 := X0.out
      have x5 := X5.out
      have l8 := L8.out
      have l9 := L9.out
      clear X0 X5 L8 L9
      generalize w5.heap.size = g8 at *
      generalize w5.alloc (.cells #[.int .i64 lo, .int .i64 hi] 25) = w6 at *
      have F1 := after_cell w6
      refine region_after (by kernel_rfl) (by kernel_rfl) ?_
      repeat (go_big_quiet_step (fail))
      refine wpQuiet_nil ?_
      rintro _ ⟨x, rfl⟩
      have hb7 := hb6.out.trans ((after_below w6 x).mono hb6.out.size)
      clear F1
      generalize after w6 x = w7 at *
      go_wp2
      go_ret3
      exact ⟨_, rfl, hms.out, hb7⟩
theorem most_any (e : Nat → Int × Int) (N : Nat) (hN : N ≤ 100) (v : Value) (w : World) (hv : SpansAt w w.heap.size N e v) :
    Calls Try.prog 10 #[v] w fun x w' => x = .returned (.tuple #[.int .i64 (mostR e N).1, .int .i64 (mostR e N).2.1, .int .i64 (mostR e N).2.2]) ∧ Below w.heap.size w w' := by
  cases hm : validB e N
  · obtain ⟨e1, e2, e3⟩ := (show MostSpec e N 0 0 1 from .inl ⟨hm, rfl, rfl, rfl⟩).eq
    rw [← e1, ← e2, ← e3]
    exact most_bad e N hN hm v w hv
  · refine (most_good e N hN hm v w hv).mono ?_
    rintro _ w' ⟨lo, rfl, h, hb⟩
    obtain ⟨e1, e2, e3⟩ := h.eq
    rw [← e1, ← e2, ← e3]
    exact ⟨rfl, hb⟩
end Go.Proofs.Ytlkifbcgcmgpcaa.Sweep
