/-
  How many bytes there are, about.
-/
import Derived.Test.YtpnkcacmmjmehaaDoorOps14
import Derived.Deep.DeepCutAuto
import Derived.WalkSmall
import Derived.WalkMore
namespace Go.Proofs.YtpnkcacmmjmehaaDoor.Law14
open Go Go.RowKit Go.Proofs.YtpnkcacmmjmehaaDoor.Aid Go.Proofs.YtpnkcacmmjmehaaDoor.Cache Go.Proofs.YtpnkcacmmjmehaaDoor.Store Go.Proofs.YtpnkcacmmjmehaaDoor.Jour

theorem wrap_in {x : Int} (h1 : -9223372036854775808 ≤ x) (h2 : x ≤ 9223372036854775807) : IntKind.i64.wrap x = x := by
  rw [IntKind.wrap_i64]
  omega
theorem wrap64_id {x : Int} (h1 : -9223372036854775808 ≤ x) (h2 : x ≤ 9223372036854775807) : wrap64 x = x := by
  unfold wrap64
  omega
set_option maxRecDepth 100000 in
set_option maxHeartbeats 2000000 in
theorem size_any (n : Nat) (X : Nat → OpJ) (v : Value) (w w0 : World) (hv : OpsJIn w0 n X v) (hb : Below w0.heap.size w0 w) :
    Calls Tryd.prog 5 #[v] w fun x w' => ∃ s : Nat, x = .returned (.int .i64 (s : Int)) ∧ Below w.heap.size w w' ∧ (s ≤ 2000 → n ≤ 2000 ∧ ∀ i, i < n → (X i).x.length ≤ 2000) ∧ (s ≤ 2000 → sumJ X n ≤ 2000) := by
  obtain ⟨A, c, rfl, hr⟩ := hv.rows
  have HR := Lib.hid hr
  have HL := Lib.hid hv.lt
  have HB := Lib.hid hb
  clear hr hv hb
  go_enter Tryd.func5, Tryd.ntmps5
  go_wp2_with fail
  go_loopw [3, 4] (fun s i wr => ∃ (k m : Nat), k ≤ n ∧ i = .int .i64 (k : Int) ∧ s = .int .i64 (m : Int) ∧ Hid (Below w.heap.size w wr ∧ k ≤ m ∧ (∀ i, i < k → (X i).x.length ≤ m) ∧ sumJ X k ≤ m) ∧ m ≤ 600000000000000) (fun _ i _ => n - (intOf i).toNat)
  case atStart => exact ⟨0, 0, by omega, rfl, rfl, Lib.hid ⟨Below.refl _ _, by omega, fun i hi => by omega, by show (0 : Nat) ≤ 0; omega⟩, by omega⟩
  case round =>
    obtain ⟨k, m, hk, rfl, rfl, hh, hm⟩ := hrel
    by_cases hlt : k < n
    · by_cases hms : m < 100000
      · obtain ⟨b, o, rfl, hbB, hc⟩ := HR.out (by omega)
        have hbel := (HB.out.trans (hh.out.1.mono HB.out.size))
        have hL := HL.out k hlt
        obtain ⟨bA, bc, hbv⟩ := hL.shape
        have c2 := (hbel.cell (p := ⟨b, o + k * 3 + 2, none⟩) hbB).trans (hc k hlt 2 _ rfl)
        rw [hbv] at c2
        have q0 : (0 : Int) ≤ (k : Int) := by omega
        have q1 : (k : Int) < (n : Int) := by omega
        have q2 : (m : Int) < 100000 := by omega
        have hn := hL.n
        have HN : Hid (Below w.heap.size w wr ∧ k + 1 ≤ m + 2 * (X k).x.length + 10 ∧ (∀ i, i < k + 1 → (X i).x.length ≤ m + 2 * (X k).x.length + 10) ∧ sumJ X (k + 1) ≤ m + 2 * (X k).x.length + 10) := Lib.hid ⟨hh.out.1, by have := hh.out.2.1; omega, fun i hi => by
          by_cases e : i = k
          · rw [e]; omega
          · have := hh.out.2.2.1 i (by omega); omega, by have := hh.out.2.2.2; show sumJ X k + (2 * (X k).x.length + 10) ≤ _; omega⟩
        have w1 : wrap64 ((m : Int) + wrap64 (2 * ((X k).x.length : Int))) = (m : Int) + 2 * ((X k).x.length : Int) := by
          have i1 : wrap64 (2 * ((X k).x.length : Int)) = 2 * ((X k).x.length : Int) := wrap64_id (by omega) (by omega)
          rw [i1]
          exact wrap64_id (by omega) (by omega)
        have w4 : wrap64 ((m : Int) + 2 * ((X k).x.length : Int) + 10) = (((m + 2 * (X k).x.length + 10 : Nat) : Nat) : Int) := (wrap64_id (by omega) (by omega)).trans (by omega)
        have w5 : wrap64 ((k : Int) + 1) = (((k + 1 : Nat) : Nat) : Int) := (wrap64_id (by omega) (by have := hh.out.2.1; omega)).trans (by omega)
        have HM : Hid (m + 2 * (X k).x.length + 10 ≤ 600000000000000) := Lib.hid (by omega)
        clear hn hm
        generalize hbn : (X k).x.length = bn at *
        clear hbn
        have W1 := Lib.hid w1
        have W4 := Lib.hid w4
        have W5 := Lib.hid w5
        clear hc hbel hL hh HL HR HB w1 w4 w5
        go_wp2
        rw [W1.out, W4.out, W5.out]
        exact ⟨⟨k + 1, m + 2 * bn + 10, by omega, rfl, rfl, HN, HM.out⟩, by simp [intOf]; omega⟩
      · have q1 : (k : Int) < (n : Int) := by omega
        have q2 : ¬ (m : Int) < 100000 := by omega
        have HX := Lib.hid hh.out.1
        clear hh HL HR HB
        go_wp2
        go_ret
        exact ⟨m, rfl, HX.out, fun h => by omega, fun h => by omega⟩
    · obtain rfl : k = n := by omega
      have HX := Lib.hid hh.out
      clear hh HL HR HB
      go_wp2
      go_ret
      exact ⟨m, rfl, HX.out.1, fun h => ⟨by have := HX.out.2.1; omega, fun i hi => by have := HX.out.2.2.1 i hi; omega⟩, fun h => by have := HX.out.2.2.2; omega⟩
end Go.Proofs.YtpnkcacmmjmehaaDoor.Law14
