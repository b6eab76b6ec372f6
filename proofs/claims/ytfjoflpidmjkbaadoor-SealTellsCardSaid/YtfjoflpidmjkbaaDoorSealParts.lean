/-
  What seal.valid and seal.partsOf do: whether a label has 1 to 40 bytes; the three parts of a sealed form, each a slice that ends where its part does.
-/
import Derived.Test.YtfjoflpidmjkbaaDoorOwn
import Derived.OwnWalk
namespace Go.Proofs.YtfjoflpidmjkbaaDoor.Seal
open Go Go.RowKit Go.Proofs.YtfjoflpidmjkbaaDoor.Aid

theorem valid_any (s : ByteArray) (w : World) : Calls Tryd.prog 12 #[.string s] w fun x w' => x = .returned (.bool (decide (1 ≤ s.size ∧ s.size ≤ 40))) ∧ w' = w := by
  by_cases h : 1 ≤ s.size
  · have q0 : (1 : Int) ≤ (s.size : Int) := by omega
    by_cases h2 : s.size ≤ 40
    · have q1 : (s.size : Int) ≤ 40 := by omega
      rw [decide_eq_true (show 1 ≤ s.size ∧ s.size ≤ 40 from ⟨h, h2⟩)]
      go_enter Tryd.func12, Tryd.ntmps12
      go_wp2
      go_ret
      exact ⟨rfl, rfl⟩
    · have q1 : ¬ (s.size : Int) ≤ 40 := by omega
      rw [decide_eq_false (show ¬ (1 ≤ s.size ∧ s.size ≤ 40) from fun h => h2 h.2)]
      go_enter Tryd.func12, Tryd.ntmps12
      go_wp2
      go_ret
      exact ⟨rfl, rfl⟩
  · have q0 : ¬ (1 : Int) ≤ (s.size : Int) := by omega
    rw [decide_eq_false (show ¬ (1 ≤ s.size ∧ s.size ≤ 40) from fun h2 => h h2.1)]
    go_enter Tryd.func12, Tryd.ntmps12
    go_wp2
    go_ret
    exact ⟨rfl, rfl⟩

/-- 'b[lo:hi:most]'. -/
theorem cut3_run {P : Program} (t e : TypeId) (hu : P.underlying t = some (.slice e)) (hsz : (P.info? e).map (·.size) = some 1) (sb so M c lo hi mx : Nat) (h1 : lo ≤ hi) (h2 : hi ≤ mx) (h3 : mx ≤ c) :
    ∃ o : Nat, o ≤ so + lo ∧ (0 < mx - lo → o = so + lo) ∧ ∀ (l h m : Int) (k1 k2 k3 : IntKind) (W : World), l = (lo : Int) → h = (hi : Int) → m = (mx : Int) →
      (Instr.sliceAt t (.slice (some ⟨sb, so, none⟩) M c) (some (.int k1 l)) (some (.int k2 h)) (some (.int k3 m))).run P W = .ok (.slice (some ⟨sb, o, none⟩) (hi - lo) (mx - lo)) W := by
  refine ⟨if mx = lo then so else so + lo, by split <;> omega, fun h => by rw [if_neg (by omega)], fun l h m k1 k2 k3 W hl hh hm => ?_⟩
  subst hl hh hm
  cases hq : P.info? e with
  | none => simp [hq] at hsz
  | some i =>
    have hs : i.size = 1 := by simpa [hq] using hsz
    by_cases hck : mx = lo
    · subst hck
      obtain rfl : hi = mx := by omega
      simp [Instr.sliceAt, Instr.slice, Instr.sliceBounds, Instr.sliceBound, asIntOf, Sem.run_bind, run_underlying hu W, Result.andThen, sizeOf, typeInfo, hq, h3]
    · simp [Instr.sliceAt, Instr.slice, Instr.sliceBounds, Instr.sliceBound, asIntOf, Sem.run_bind, run_underlying hu W, Result.andThen, sizeOf, typeInfo, hq, hck, h1, h2, h3, hs, Addr.add_mid]
/-- 'b[:hi:most]'. -/
theorem head3_run {P : Program} (t e : TypeId) (hu : P.underlying t = some (.slice e)) (hsz : (P.info? e).map (·.size) = some 1) (sb so M c hi mx : Nat) (h2 : hi ≤ mx) (h3 : mx ≤ c) (h m : Int) (k2 k3 : IntKind) (W : World) (hh : h = (hi : Int)) (hm : m = (mx : Int)) :
      (Instr.sliceAt t (.slice (some ⟨sb, so, none⟩) M c) none (some (.int k2 h)) (some (.int k3 m))).run P W = .ok (.slice (some ⟨sb, so, none⟩) hi mx) W := by
  subst hh hm
  cases hq : P.info? e with
  | none => simp [hq] at hsz
  | some i =>
    simp [Instr.sliceAt, Instr.slice, Instr.sliceBounds, Instr.sliceBound, asIntOf, Sem.run_bind, run_underlying hu W, Result.andThen, sizeOf, typeInfo, hq, h2, h3, Addr.add_mid]

/-- 'x[:]' of an array. -/
theorem all_run {P : Program} (t e N : TypeId) (hu : P.underlying t = some (.array N e)) (hsz : (P.info? e).map (·.size) = some 1) (b o : Nat) (W : World) :
    (Instr.sliceAt t (.pointer (some ⟨b, o, none⟩)) none none none).run P W = .ok (.slice (some ⟨b, o, none⟩) N N) W := by
  cases hq : P.info? e with
  | none => simp [hq] at hsz
  | some i =>
    simp [Instr.sliceAt, Instr.sliceBounds, Instr.sureAddr, Sem.run_bind, run_underlying hu W, Result.andThen, sizeOf, typeInfo, hq, Addr.add]

set_option maxRecDepth 100000 in
theorem parts_any (sb so m c : Nat) (hm : 48 ≤ m) (hm2 : m ≤ 2000) (hc : m ≤ c) (w : World) :
    Calls Tryd.prog 14 #[.slice (some ⟨sb, so, none⟩) m c] w fun x w' => ∃ o, o ≤ so + 16 ∧ (0 < m - 48 → o = so + 16) ∧ x = .returned (.tuple #[.slice (some ⟨sb, so, none⟩) 16 16, .slice (some ⟨sb, o, none⟩) (m - 48) (m - 48), .slice (some ⟨sb, so + (m - 32), none⟩) 32 32]) ∧ w' = w.drew := by
  have e1 : IntKind.i64.wrap ((m : Int) - 32) = (m : Int) - 32 := IntWalk.i64_in _ (by omega)
  have k1 := fun (W : World) => head3_run (P := Tryd.prog) 25 5 Tryd.underlying25 (by kernel_rfl) sb so m c 16 16 (by omega) (by omega) 16 16 .i64 .i64 W rfl rfl
  obtain ⟨o, ho, hA, k2⟩ := cut3_run (P := Tryd.prog) 25 5 Tryd.underlying25 (by kernel_rfl) sb so m c 16 (m - 32) (m - 32) (by omega) (by omega) (by omega)
  obtain ⟨o3, _, hB, k3⟩ := cut3_run (P := Tryd.prog) 25 5 Tryd.underlying25 (by kernel_rfl) sb so m c (m - 32) m m (by omega) (by omega) (by omega)
  obtain rfl := hB (by omega)
  have k2' := fun (W : World) => k2 16 ((m : Int) - 32) ((m : Int) - 32) .i64 .i64 .i64 W (by omega) (by omega) (by omega)
  have k3' := fun (W : World) => k3 ((m : Int) - 32) (m : Int) (m : Int) .i64 .i64 .i64 W (by omega) (by omega) (by omega)
  rw [show m - 32 - 16 = m - 48 by omega] at k2' hA
  rw [show m - (m - 32) = 32 by omega] at k3'
  have HA := Lib.hid hA
  clear hA hB k2 k3
  go_enter Tryd.func14, Tryd.ntmps14
  go_wp2
  refine region_still (by kernel_rfl) (by kernel_rfl) ?_
  repeat still_step
  refine wpStill_nil ?_
  go_wp2
  go_ret3
  exact ⟨o, ho, HA.out, rfl, rfl⟩
end Go.Proofs.YtfjoflpidmjkbaaDoor.Seal
