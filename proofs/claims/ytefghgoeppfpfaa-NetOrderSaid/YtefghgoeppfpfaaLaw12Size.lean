/-
  How many bytes there are, about.
-/
import Derived.Test.YtefghgoeppfpfaaOps12
import Derived.Test.YtefghgoeppfpfaaProg
import Derived.Deep.DeepCutAuto
import Derived.WalkSmall
import Derived.WalkMore
namespace Go.Proofs.Ytefghgoeppfpfaa.Law12
open Go Go.RowKit Go.Proofs.Ytefghgoeppfpfaa.Aid Go.Proofs.Ytefghgoeppfpfaa.Cache Go.Proofs.Ytefghgoeppfpfaa.Net

theorem wrap_in {x : Int} (h1 : -9223372036854775808 ≤ x) (h2 : x ≤ 9223372036854775807) : IntKind.i64.wrap x = x := by
  rw [IntKind.wrap_i64]
  omega
theorem wrap64_id {x : Int} (h1 : -9223372036854775808 ≤ x) (h2 : x ≤ 9223372036854775807) : wrap64 x = x := by
  unfold wrap64
  omega
set_option maxRecDepth 100000 in
set_option maxHeartbeats 2000000 in
theorem size_any (n : Nat) (X : Nat → OpN) (v : Value) (w w0 : World) (hv : OpsIn w0 n X v) (hb : Below w0.heap.size w0 w) :
    Calls Try.prog 7 #[v] w fun x w' => ∃ s : Nat, x = .returned (.int .i64 (s : Int)) ∧ Below w.heap.size w w' ∧ (s ≤ 2000 → n ≤ 2000 ∧ ∀ i, i < n → (X i).x.n ≤ 2000) := by
  obtain ⟨A, c, rfl, hr⟩ := hv.rows
  have HR := Lib.hid hr
  have HL := Lib.hid hv.lt
  have HB := Lib.hid hb
  clear hr hv hb
  go_enter Try.func7, Try.ntmps7
  go_wp2_with fail
  go_loopw [3, 4] (fun s i wr => ∃ (k m : Nat), k ≤ n ∧ i = .int .i64 (k : Int) ∧ s = .int .i64 (m : Int) ∧ Hid (Below w.heap.size w wr ∧ k ≤ m ∧ ∀ i, i < k → (X i).x.n ≤ m) ∧ m ≤ 600000000000000) (fun _ i _ => n - (intOf i).toNat)
  case atStart => exact ⟨0, 0, by omega, rfl, rfl, Lib.hid ⟨Below.refl _ _, by omega, fun i hi => by omega⟩, by omega⟩
  case round =>
    obtain ⟨k, m, hk, rfl, rfl, hh, hm⟩ := hrel
    by_cases hlt : k < n
    · by_cases hms : m < 100000
      · obtain ⟨b, o, rfl, hbB, hc⟩ := HR.out (by omega)
        have hbel := (HB.out.trans (hh.out.1.mono HB.out.size))
        have hL := HL.out k hlt
        obtain ⟨bA, bc, hbv⟩ := hL.shape
        have c0 := (hbel.cell (p := ⟨b, o + k * 4 + 1, none⟩) hbB).trans (hc k hlt 1 _ rfl)
        have c1 := (hbel.cell (p := ⟨b, o + k * 4 + 1 + 1, none⟩) hbB).trans (hc k hlt 2 _ rfl)
        have c2 := (hbel.cell (p := ⟨b, o + k * 4 + 1 + 2, none⟩) hbB).trans (hc k hlt 3 _ rfl)
        rw [hbv] at c2
        have q0 : (0 : Int) ≤ (k : Int) := by omega
        have q1 : (k : Int) < (n : Int) := by omega
        have q2 : (m : Int) < 100000 := by omega
        have hn := hL.n
        have hf := hL.f
        have ht := hL.t
        have HN : Hid (Below w.heap.size w wr.drew ∧ k + 1 ≤ m + (X k).x.n + (X k).x.f.size + (X k).x.t.size + 1 ∧ ∀ i, i < k + 1 → (X i).x.n ≤ m + (X k).x.n + (X k).x.f.size + (X k).x.t.size + 1) := Lib.hid ⟨hh.out.1.drew, by have := hh.out.2.1; omega, fun i hi => by
          by_cases e : i = k
          · rw [e]; omega
          · have := hh.out.2.2 i (by omega); omega⟩
        have w1 : IntKind.i64.wrap ((m : Int) + ((X k).x.n : Int)) = (m : Int) + ((X k).x.n : Int) := wrap_in (by omega) (by omega)
        have w2 : IntKind.i64.wrap ((m : Int) + ((X k).x.n : Int) + ((X k).x.f.size : Int)) = (m : Int) + ((X k).x.n : Int) + ((X k).x.f.size : Int) := wrap_in (by omega) (by omega)
        have w3 : IntKind.i64.wrap ((m : Int) + ((X k).x.n : Int) + ((X k).x.f.size : Int) + ((X k).x.t.size : Int)) = (m : Int) + ((X k).x.n : Int) + ((X k).x.f.size : Int) + ((X k).x.t.size : Int) := wrap_in (by omega) (by omega)
        have w4 : IntKind.i64.wrap ((m : Int) + ((X k).x.n : Int) + ((X k).x.f.size : Int) + ((X k).x.t.size : Int) + 1) = (((m + (X k).x.n + (X k).x.f.size + (X k).x.t.size + 1 : Nat) : Nat) : Int) := (wrap_in (by omega) (by omega)).trans (by omega)
        have w5 : wrap64 ((k : Int) + 1) = (((k + 1 : Nat) : Nat) : Int) := (wrap64_id (by omega) (by have := hh.out.2.1; omega)).trans (by omega)
        have HM : Hid (m + (X k).x.n + (X k).x.f.size + (X k).x.t.size + 1 ≤ 600000000000000) := Lib.hid (by omega)
        clear hn hf ht hm
        generalize (X k).x.n = bn at *
        generalize (X k).x.f = sf at *
        generalize (X k).x.t = st at *
        have W1 := Lib.hid w1
        have W2 := Lib.hid w2
        have W3 := Lib.hid w3
        have W4 := Lib.hid w4
        have W5 := Lib.hid w5
        clear hc hbel hL hh HL HR HB w1 w2 w3 w4 w5
        go_upto_region 5 with fail
        refine region_still (by kernel_rfl) (by kernel_rfl) ?_
        repeat still_step
        refine wpStill_nil ?_
        clear c0 c1 c2 hbv
        rw [W1.out, W2.out, W3.out, W4.out]
        generalize m + bn + sf.size + st.size + 1 = m2 at *
        clear W1 W2 W3 W4
        go_wp2
        rw [W5.out]
        exact ⟨⟨k + 1, m2, by omega, rfl, rfl, HN, HM.out⟩, by simp [intOf]; omega⟩
      · have q1 : (k : Int) < (n : Int) := by omega
        have q2 : ¬ (m : Int) < 100000 := by omega
        have HX := Lib.hid hh.out.1
        clear hh HL HR HB
        go_wp2
        go_ret
        exact ⟨m, rfl, HX.out, fun h => by omega⟩
    · obtain rfl : k = n := by omega
      have HX := Lib.hid hh.out
      clear hh HL HR HB
      go_wp2
      go_ret
      exact ⟨m, rfl, HX.out.1, fun h => ⟨by have := HX.out.2.1; omega, fun i hi => by have := HX.out.2.2 i hi; omega⟩⟩
end Go.Proofs.Ytefghgoeppfpfaa.Law12
