/-
  'b[lo:]' and 'b[:m]' of a slice whose elements are one cell each, of none too.
-/
import Derived.Test.YtpnkcacmmjmehaaDoorAid
namespace Go.Proofs.YtpnkcacmmjmehaaDoor.Aid
open Go Go.RowKit

/-- 'b[lo:]'. -/
theorem from_run {P : Program} (t e : TypeId) (hu : P.underlying t = some (.slice e)) (hsz : (P.info? e).map (·.size) = some 1) (sb so M c lo : Nat) (h2 : lo ≤ M) (h3 : M ≤ c) :
    ∃ o : Nat, (lo < M → o = so + lo) ∧ ∀ (l : Int) (kd : IntKind) (W : World), l = (lo : Int) → (Instr.sliceAt t (.slice (some ⟨sb, so, none⟩) M c) (some (.int kd l)) none none).run P W = .ok (.slice (some ⟨sb, o, none⟩) (M - lo) (c - lo)) W := by
  refine ⟨if c = lo then so else so + lo, fun h => by rw [if_neg (by omega)], fun l kd W hl => ?_⟩
  subst hl
  cases hq : P.info? e with
  | none => simp [hq] at hsz
  | some i =>
    have hs : i.size = 1 := by simpa [hq] using hsz
    by_cases hck : c = lo
    · subst hck
      obtain rfl : M = c := by omega
      simp [Instr.sliceAt, Instr.slice, Instr.sliceBounds, Instr.sliceBound, asIntOf, Sem.run_bind, run_underlying hu W, Result.andThen, sizeOf, typeInfo, hq]
    · simp [Instr.sliceAt, Instr.slice, Instr.sliceBounds, Instr.sliceBound, asIntOf, Sem.run_bind, run_underlying hu W, Result.andThen, sizeOf, typeInfo, hq, hs, Addr.add_mid, hck, h2]
/-- 'b[lo:]', and where it begins. -/
theorem from_at {P : Program} (t e : TypeId) (hu : P.underlying t = some (.slice e)) (hsz : (P.info? e).map (·.size) = some 1) (sb so M c lo : Nat) (h2 : lo ≤ M) :
    ∀ (l : Int) (kd : IntKind) (W : World), l = (lo : Int) → (Instr.sliceAt t (.slice (some ⟨sb, so, none⟩) M c) (some (.int kd l)) none none).run P W = .ok (.slice (some ⟨sb, if c = lo then so else so + lo, none⟩) (M - lo) (c - lo)) W := by
  intro l kd W hl
  subst hl
  cases hq : P.info? e with
  | none => simp [hq] at hsz
  | some i =>
    have hs : i.size = 1 := by simpa [hq] using hsz
    by_cases hck : c = lo
    · simp [Instr.sliceAt, Instr.slice, Instr.sliceBounds, Instr.sliceBound, asIntOf, Sem.run_bind, run_underlying hu W, Result.andThen, sizeOf, typeInfo, hq, hck, h2]
    · simp [Instr.sliceAt, Instr.slice, Instr.sliceBounds, Instr.sliceBound, asIntOf, Sem.run_bind, run_underlying hu W, Result.andThen, sizeOf, typeInfo, hq, hs, Addr.add_mid, hck, h2]
/-- 'b[lo:hi]', hi as far as the capacity goes. -/
theorem midc_at {P : Program} (t e : TypeId) (hu : P.underlying t = some (.slice e)) (hsz : (P.info? e).map (·.size) = some 1) (sb so M c lo hi : Nat) (h1 : lo ≤ hi) (h2 : hi ≤ c) (h3 : lo < c) :
    ∀ (l h : Int) (kd kd' : IntKind) (W : World), l = (lo : Int) → h = (hi : Int) → (Instr.sliceAt t (.slice (some ⟨sb, so, none⟩) M c) (some (.int kd l)) (some (.int kd' h)) none).run P W = .ok (.slice (some ⟨sb, so + lo, none⟩) (hi - lo) (c - lo)) W := by
  intro l h kd kd' W hl hh
  subst hl hh
  cases hq : P.info? e with
  | none => simp [hq] at hsz
  | some i =>
    have hs : i.size = 1 := by simpa [hq] using hsz
    simp [Instr.sliceAt, Instr.slice, Instr.sliceBounds, Instr.sliceBound, asIntOf, Sem.run_bind, run_underlying hu W, Result.andThen, sizeOf, typeInfo, hq, hs, Addr.add_mid, show ¬ c = lo by omega, h1, h2]
/-- 'b[lo:hi:mx]' is there. -/
theorem full_run {P : Program} (t e : TypeId) (hu : P.underlying t = some (.slice e)) (hsz : (P.info? e).map (·.size) = some 1) (A : Option Addr) (M c lo hi mx : Nat) (h1 : lo ≤ hi) (h2 : hi ≤ mx) (h3 : mx ≤ c) :
    ∃ v, ∀ (l h x : Int) (k1 k2 k3 : IntKind) (W : World), l = (lo : Int) → h = (hi : Int) → x = (mx : Int) → (Instr.sliceAt t (.slice A M c) (some (.int k1 l)) (some (.int k2 h)) (some (.int k3 x))).run P W = .ok v W := by
  cases hq : P.info? e with
  | none => simp [hq] at hsz
  | some i =>
    refine ⟨.slice (if mx = lo then A else A.map (·.add (lo * i.size))) (hi - lo) (mx - lo), fun l h x k1 k2 k3 W hl hh hx => ?_⟩
    subst hl hh hx
    simp [Instr.sliceAt, Instr.slice, Instr.sliceBounds, Instr.sliceBound, asIntOf, Sem.run_bind, run_underlying hu W, Result.andThen, sizeOf, typeInfo, hq, h1, h2, h3]
/-- 'b[:m]'. -/
theorem upto_run {P : Program} (t e : TypeId) (hu : P.underlying t = some (.slice e)) (hsz : (P.info? e).map (·.size) = some 1) (sb so M c m : Nat) (h2 : m ≤ M) (h3 : M ≤ c) :
    ∀ (l : Int) (kd : IntKind) (W : World), l = (m : Int) → (Instr.sliceAt t (.slice (some ⟨sb, so, none⟩) M c) none (some (.int kd l)) none).run P W = .ok (.slice (some ⟨sb, so, none⟩) m c) W := by
  intro l kd W hl
  subst hl
  cases hq : P.info? e with
  | none => simp [hq] at hsz
  | some i =>
    have hs : i.size = 1 := by simpa [hq] using hsz
    by_cases hc0 : c = 0
    · subst hc0
      obtain rfl : m = 0 := by omega
      simp [Instr.sliceAt, Instr.slice, Instr.sliceBounds, Instr.sliceBound, asIntOf, Sem.run_bind, run_underlying hu W, Result.andThen, sizeOf, typeInfo, hq]
    · simp [Instr.sliceAt, Instr.slice, Instr.sliceBounds, Instr.sliceBound, asIntOf, Sem.run_bind, run_underlying hu W, Result.andThen, sizeOf, typeInfo, hq, Addr.add_mid, hc0, show m ≤ c by omega]
end Go.Proofs.YtpnkcacmmjmehaaDoor.Aid
