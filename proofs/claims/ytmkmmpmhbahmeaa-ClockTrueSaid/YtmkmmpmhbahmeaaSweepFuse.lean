/-
  What sweep.Fuse does.
-/
import Derived.Test.YtmkmmpmhbahmeaaSweepOuter
import Derived.Test.YtmkmmpmhbahmeaaSweepFns
import Derived.Test.YtmkmmpmhbahmeaaSweepValid
namespace Go.Proofs.Ytmkmmpmhbahmeaa.Sweep
open Go Go.RowKit Go.Proofs.Ytmkmmpmhbahmeaa.Aid Go.Proofs.Ytmkmmpmhbahmeaa.Span

theorem outer_fuse {e : Nat → Int × Int} {N : Nat} {L : Int} {u : Bool} {lo hi : Int} (hm : may e N L) (h : OuterSpec e N (fun t => decide ((N : Int) - L ≤ (votes e t N : Int))) u lo hi) :
    (u = false → FuseSpec e N L 0 0 11) ∧ (u = true → FuseSpec e N L lo hi 0) := by
  obtain ⟨h1, h2, h3⟩ := valid_at hm.1
  have hL := hm.2.2
  rcases h with ⟨rfl, rfl, rfl, h⟩ | ⟨rfl, hlo, hhi, ⟨i, hi1, hi2⟩, ⟨j, hj1, hj2⟩, hl, hh⟩
  · refine ⟨fun _ => .inr (.inl ⟨hm, fun t ht => ?_, rfl, rfl, rfl⟩), fun hc => by cases hc⟩
    unfold enough at ht
    rcases h with h | h
    · obtain ⟨i, ki, x1, x2⟩ := to_lo e t N (by omega)
      have := h i ki
      simp only [decide_eq_false_iff_not] at this
      omega
    · obtain ⟨i, ki, x1, x2⟩ := to_hi e t N (by omega)
      have := h i ki
      simp only [decide_eq_false_iff_not] at this
      omega
  · refine ⟨fun hc => by (cases hc), fun _ => .inr (.inr ⟨hm, of_decide_eq_true hlo, of_decide_eq_true hhi, fun t ht => ?_, rfl⟩)⟩
    unfold enough at ht
    obtain ⟨i', ki, x1, x2⟩ := to_lo e t N (by omega)
    obtain ⟨j', kj, y1, y2⟩ := to_hi e t N (by omega)
    have z1 := hl i' ki (by rw [decide_eq_true_iff]; omega)
    have z2 := hh j' kj (by rw [decide_eq_true_iff]; omega)
    omega
set_option maxRecDepth 100000 in
set_option maxHeartbeats 2000000 in
theorem fuse_bad (e : Nat → Int × Int) (N : Nat) (hN : N ≤ 100) (L : Int) (hm : ¬ may e N L) (v : Value) (w : World) (hv : SpansAt w w.heap.size N e v) :
    Calls Try.prog 24 #[v, .int .i64 L] w fun x w' => x = .returned (.tuple #[sp 0 0, .int .i64 1]) ∧ Below w.heap.size w w' := by
  obtain ⟨A, c, rfl, hv'⟩ := hv
  have HV : Hid (SpansAt w w.heap.size N e (.slice A N c)) := ⟨A, c, rfl, hv'⟩
  clear hv'
  have hal : Below w.heap.size w ((w.alloc (.cells #[.slice A N c] 26)).alloc (.cells #[.int .i64 0, .int .i64 0] 23)) := ((Below.refl _ _).alloc (Nat.le_refl _) _).alloc (by simp) _
  have HM := Lib.hid (validB_any e N hN _ _ ((HV.out.below hal).mono hal.size))
  have hc2 : Hid (((w.alloc (.cells #[.slice A N c] 26)).alloc (.cells #[.int .i64 0, .int .i64 0] 23)).cell? ⟨w.heap.size, 0, none⟩ = some (.slice A N c)) := by show _ = _; go_simp
  have hl2 : Hid (w.heap.size < ((w.alloc (.cells #[.slice A N c] 26)).alloc (.cells #[.int .i64 0, .int .i64 0] 23)).heap.size) := by show _ < _; simp; omega
  have hr4 := row_new (w.alloc (.cells #[.slice A N c] 26)) #[.int .i64 0, .int .i64 0] 23 2 (spf 0 0) rfl (fun i hi => by match i, hi with | 0, _ => rfl | 1, _ => rfl)
  rw [show (w.alloc (.cells #[.slice A N c] 26)).heap.size = w.heap.size + 1 by simp] at hr4
  have HR4 := Lib.hid hr4
  have HAL := Lib.hid hal
  clear hr4 hal
  have hcs : validB e N = false ∨ (validB e N = true ∧ L < 0) ∨ (validB e N = true ∧ ¬ L < 0 ∧ (N : Int) ≤ L) := by
    cases h : validB e N
    · exact .inl rfl
    · by_cases h1 : L < 0
      · exact .inr (.inl ⟨rfl, h1⟩)
      · refine .inr (.inr ⟨rfl, h1, ?_⟩)
        by_cases h2 : (N : Int) ≤ L
        · exact h2
        · exact absurd ⟨h, by omega, by omega⟩ hm
  clear hm
  generalize validB e N = u at *
  rcases hcs with rfl | ⟨rfl, q0⟩ | ⟨rfl, q0, q1⟩
  all_goals
    go_enter Try.func24, Try.ntmps24
    go_wp2_with (go_at_call 34
                 refine HM.out.mono ?_
                 rintro _ w3 ⟨rfl, hb3⟩
                 have k2 := (hb3.cell (p := ⟨w.heap.size, 0, none⟩) hl2.out).trans hc2.out
                 have hr3 := Lib.hid (HR4.out.of_block (hb3.block _ HR4.out.lt))
                 have d0 : w3.cell? ⟨w.heap.size + 1, 0, none⟩ = some (.int .i64 0) := hr3.out.cell (i := 0) (by omega)
                 have d1 : w3.cell? ⟨w.heap.size + 1, 1, none⟩ = some (.int .i64 0) := hr3.out.cell (i := 1) (by omega)
                 have f0 := hr3.out.frozen 0
                 have f1 := hr3.out.frozen 1
                 have hbl3 := Lib.hid (HAL.out.trans (hb3.mono HAL.out.size))
                 clear hb3)
    have hrw := set_hi (b' := 0) (set_lo (a' := 0) hr3.out)
    have y0 : ((w3.setCell ⟨w.heap.size + 1, 0, none⟩ (.int .i64 0)).setCell ⟨w.heap.size + 1, 1, none⟩ (.int .i64 0)).cell? ⟨w.heap.size + 1, 0, none⟩ = some (.int .i64 0) := hrw.cell (i := 0) (by omega)
    have y1 : ((w3.setCell ⟨w.heap.size + 1, 0, none⟩ (.int .i64 0)).setCell ⟨w.heap.size + 1, 1, none⟩ (.int .i64 0)).cell? ⟨w.heap.size + 1, 1, none⟩ = some (.int .i64 0) := hrw.cell (i := 1) (by omega)
    exact bodyPost_ret (v := .tuple #[sp 0 0, .int .i64 1]) (by simp [sp, results, Try.results24, go_sem, y0, y1]) rfl ⟨rfl, (hbl3.out.setCell (by show _ ≤ w.heap.size + 1; omega) _).setCell (by show _ ≤ w.heap.size + 1; omega) _⟩
set_option maxRecDepth 100000 in
set_option maxHeartbeats 2000000 in
theorem fuse_good (e : Nat → Int × Int) (N : Nat) (hN : N ≤ 100) (L : Int) (hm : may e N L) (v : Value) (w : World) (hv : SpansAt w w.heap.size N e v) :
    Calls Try.prog 24 #[v, .int .i64 L] w fun x w' => ∃ lo hi k, x = .returned (.tuple #[sp lo hi, .int .i64 k]) ∧ FuseSpec e N L lo hi k ∧ Below w.heap.size w w' := by
  obtain ⟨A, c, rfl, hv'⟩ := hv
  have HV : Hid (SpansAt w w.heap.size N e (.slice A N c)) := ⟨A, c, rfl, hv'⟩
  clear hv'
  have hal : Below w.heap.size w ((w.alloc (.cells #[.slice A N c] 26)).alloc (.cells #[.int .i64 0, .int .i64 0] 23)) := ((Below.refl _ _).alloc (Nat.le_refl _) _).alloc (by simp) _
  have HM := Lib.hid (validB_any e N hN _ _ ((HV.out.below hal).mono hal.size))
  have hc2 : Hid (((w.alloc (.cells #[.slice A N c] 26)).alloc (.cells #[.int .i64 0, .int .i64 0] 23)).cell? ⟨w.heap.size, 0, none⟩ = some (.slice A N c)) := by show _ = _; go_simp
  have hl2 : Hid (w.heap.size < ((w.alloc (.cells #[.slice A N c] 26)).alloc (.cells #[.int .i64 0, .int .i64 0] 23)).heap.size) := by show _ < _; simp; omega
  have hr4 := row_new (w.alloc (.cells #[.slice A N c] 26)) #[.int .i64 0, .int .i64 0] 23 2 (spf 0 0) rfl (fun i hi => by match i, hi with | 0, _ => rfl | 1, _ => rfl)
  rw [show (w.alloc (.cells #[.slice A N c] 26)).heap.size = w.heap.size + 1 by simp] at hr4
  have HR4 := Lib.hid hr4
  have HAL := Lib.hid hal
  clear hr4 hal
  rw [hm.1] at HM
  have q0 : ¬ L < 0 := by have := hm.2.1; omega
  have q1 : ¬ (N : Int) ≤ L := by have := hm.2.2; omega
  have q2 : IntKind.i64.wrap ((N : Int) - L) = (N : Int) - L := IntWalk.i64_in _ (by omega)
  have HU := Lib.hid hm
  clear hm
  have hN1 := (valid_at HU.out.1).1
  go_enter Try.func24, Try.ntmps24
  go_wp2_with fail
  refine HM.out.mono ?_
  rintro _ w3 ⟨rfl, hb3⟩
  have k2 := (hb3.cell (p := ⟨w.heap.size, 0, none⟩) hl2.out).trans hc2.out
  have hr3 := HR4.out.of_block (hb3.block _ HR4.out.lt)
  have hbl3 := HAL.out.trans (hb3.mono HAL.out.size)
  have hsz : w.heap.size + 1 < w3.heap.size := hr3.lt
  have hal : Below w3.heap.size w3 (w3.alloc (.cells #[.int .i64 ((N : Int) - L)] 3)) := (Below.refl _ _).alloc (Nat.le_refl _) _
  have k4 : (w3.alloc (.cells #[.int .i64 ((N : Int) - L)] 3)).cell? ⟨w.heap.size, 0, none⟩ = some (.slice A N c) := (hal.cell (p := ⟨w.heap.size, 0, none⟩) (by show w.heap.size < _; omega)).trans k2
  have j4 : (w3.alloc (.cells #[.int .i64 ((N : Int) - L)] 3)).cell? ⟨w3.heap.size, 0, none⟩ = some (.int .i64 ((N : Int) - L)) := by go_simp
  have hb4 := hbl3.trans (hal.mono (by omega))
  have hv4 := (HV.out.below hb4).mono hb4.size
  have hr4 := hr3.of_block (hal.block _ hsz)
  have lz : w3.heap.size < (w3.alloc (.cells #[.int .i64 ((N : Int) - L)] 3)).heap.size := by simp
  have HO := Lib.hid (outer_any e N hN1 hN _ _ hv4 36 #[.pointer (some ⟨w.heap.size, 0, none⟩), .pointer (some ⟨w3.heap.size, 0, none⟩)] (fun t => decide ((N : Int) - L ≤ (votes e t N : Int)))
    (fun t W hW => fuseFn_any e N hN ((N : Int) - L) t A c w.heap.size w3.heap.size W ((hv4.below hW).mono hW.size) ((hW.cell (p := ⟨w.heap.size, 0, none⟩) (by show w.heap.size < _; omega)).trans k4) ((hW.cell (p := ⟨w3.heap.size, 0, none⟩) lz).trans j4) (by have := hW.size; omega) (by have := hW.size; omega))
    (enters_of Try.func36 (by kernel_rfl) rfl))
  have HR := Lib.hid hr4
  have HB := Lib.hid hb4
  clear HM hb3 hr3 hbl3 hal hb4 hv4 hr4 j4 HR4 HAL hc2 hl2
  go_wp2_with fail
  refine HO.out.mono ?_
  rintro _ w5 ⟨u, lo, hi, rfl, hsp0, hb5⟩
  have hsp := outer_fuse HU.out hsp0
  have hr5 := HR.out.of_block (hb5.block _ HR.out.lt)
  have hal : Below w5.heap.size w5 (w5.alloc (.cells #[.int .i64 lo, .int .i64 hi] 23)) := (Below.refl _ _).alloc (Nat.le_refl _) _
  have hbl5 := HB.out.trans (hb5.mono HB.out.size)
  have HB6 := Lib.hid (hbl5.trans (hal.mono hbl5.size))
  have HR6 := Lib.hid (hr5.of_block (hal.block _ hr5.lt))
  have d0 : w5.cell? ⟨w.heap.size + 1, 0, none⟩ = some (.int .i64 0) := hr5.cell (i := 0) (by omega)
  have d1 : w5.cell? ⟨w.heap.size + 1, 1, none⟩ = some (.int .i64 0) := hr5.cell (i := 1) (by omega)
  have f0 := hr5.frozen 0
  have f1 := hr5.frozen 1
  have l7 : w.heap.size + 1 < w5.heap.size := hr5.lt
  have HR5 := Lib.hid hr5
  have HB5 := Lib.hid hbl5
  clear hsp0 hr5 hal hbl5 hb5 HR HB HO k2 k4 lz hsz
  unfold sp
  rcases u with _ | _
  · have hsp' := Lib.hid (hsp.1 rfl)
    clear hsp
    go_wp2
    have hrw := (set_hi (b' := 0) (set_lo (a' := 0) HR5.out)).alloc (.cells #[.int .i64 lo, .int .i64 hi] 23)
    have y0 : (((w5.setCell ⟨w.heap.size + 1, 0, none⟩ (.int .i64 0)).setCell ⟨w.heap.size + 1, 1, none⟩ (.int .i64 0)).alloc (.cells #[.int .i64 lo, .int .i64 hi] 23)).cell? ⟨w.heap.size + 1, 0, none⟩ = some (.int .i64 0) := hrw.cell (i := 0) (by omega)
    have y1 : (((w5.setCell ⟨w.heap.size + 1, 0, none⟩ (.int .i64 0)).setCell ⟨w.heap.size + 1, 1, none⟩ (.int .i64 0)).alloc (.cells #[.int .i64 lo, .int .i64 hi] 23)).cell? ⟨w.heap.size + 1, 1, none⟩ = some (.int .i64 0) := hrw.cell (i := 1) (by omega)
    have HBs : Below w.heap.size w (((w5.setCell ⟨w.heap.size + 1, 0, none⟩ (.int .i64 0)).setCell ⟨w.heap.size + 1, 1, none⟩ (.int .i64 0)).alloc (.cells #[.int .i64 lo, .int .i64 hi] 23)) := ((HB5.out.setCell (by show _ ≤ w.heap.size + 1; omega) _).setCell (by show _ ≤ w.heap.size + 1; omega) _).alloc (by have := HB5.out.size; simp [World.setCell]; omega) _
    exact bodyPost_ret (v := .tuple #[sp 0 0, .int .i64 11]) (by simp [sp, results, Try.results24, go_sem, y0, y1]) rfl ⟨_, _, _, rfl, hsp'.out, HBs⟩
  · have hsp' := Lib.hid (hsp.2 rfl)
    clear hsp
    go_wp2
    have hrw := (set_hi (b' := hi) (set_lo (a' := lo) HR5.out)).alloc (.cells #[.int .i64 lo, .int .i64 hi] 23)
    have y0 : (((w5.setCell ⟨w.heap.size + 1, 0, none⟩ (.int .i64 lo)).setCell ⟨w.heap.size + 1, 1, none⟩ (.int .i64 hi)).alloc (.cells #[.int .i64 lo, .int .i64 hi] 23)).cell? ⟨w.heap.size + 1, 0, none⟩ = some (.int .i64 lo) := hrw.cell (i := 0) (by omega)
    have y1 : (((w5.setCell ⟨w.heap.size + 1, 0, none⟩ (.int .i64 lo)).setCell ⟨w.heap.size + 1, 1, none⟩ (.int .i64 hi)).alloc (.cells #[.int .i64 lo, .int .i64 hi] 23)).cell? ⟨w.heap.size + 1, 1, none⟩ = some (.int .i64 hi) := hrw.cell (i := 1) (by omega)
    have HBs : Below w.heap.size w (((w5.setCell ⟨w.heap.size + 1, 0, none⟩ (.int .i64 lo)).setCell ⟨w.heap.size + 1, 1, none⟩ (.int .i64 hi)).alloc (.cells #[.int .i64 lo, .int .i64 hi] 23)) := ((HB5.out.setCell (by show _ ≤ w.heap.size + 1; omega) _).setCell (by show _ ≤ w.heap.size + 1; omega) _).alloc (by have := HB5.out.size; simp [World.setCell]; omega) _
    exact bodyPost_ret (v := .tuple #[sp lo hi, .int .i64 0]) (by simp [sp, results, Try.results24, go_sem, y0, y1]) rfl ⟨_, _, _, rfl, hsp'.out, HBs⟩
theorem fuse_any (e : Nat → Int × Int) (N : Nat) (hN : N ≤ 100) (L : Int) (v : Value) (w : World) (hv : SpansAt w w.heap.size N e v) :
    Calls Try.prog 24 #[v, .int .i64 L] w fun x w' => x = .returned (.tuple #[sp (fuseR e N L).1 (fuseR e N L).2.1, .int .i64 (fuseR e N L).2.2]) ∧ Below w.heap.size w w' := by
  by_cases hm : may e N L
  · refine (fuse_good e N hN L hm v w hv).mono ?_
    rintro _ w' ⟨lo, hi, k, rfl, h, hb⟩
    obtain ⟨e1, e2, e3⟩ := h.eq
    rw [← e1, ← e2, ← e3]
    exact ⟨rfl, hb⟩
  · obtain ⟨e1, e2, e3⟩ := (show FuseSpec e N L 0 0 1 from .inl ⟨hm, rfl, rfl, rfl⟩).eq
    rw [← e1, ← e2, ← e3]
    exact fuse_bad e N hN L hm v w hv
end Go.Proofs.Ytmkmmpmhbahmeaa.Sweep
