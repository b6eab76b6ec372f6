/-
  'b[:m]' of whatever slice of bytes.
-/
import Derived.Test.YthacldkmjpjgiaaStoreHeld
import Derived.Test.YthacldkmjpjgiaaBytes
namespace Go.Proofs.Ythacldkmjpjgiaa.Store
open Go Go.RowKit Go.Proofs.Ythacldkmjpjgiaa.Aid Go.Proofs.Ythacldkmjpjgiaa.Cache

theorem cut_any (A : Option Addr) (M c m : Nat) (h2 : m ≤ M) (h3 : M ≤ c) : ∃ A' : Option Addr, (∀ sb so, A = some ⟨sb, so, none⟩ → A' = A) ∧
    ∀ (kd : IntKind) (W : World), (Instr.sliceAt 33 (.slice A M c) none (some (.int kd (m : Int))) none).run Try.prog W = .ok (.slice A' m c) W := by
  have hu := Try.underlying33
  have hsz : (Try.prog.info? 5).map (·.size) = some 1 := by kernel_rfl
  cases hq : Try.prog.info? 5 with
  | none => simp [hq] at hsz
  | some i =>
    have hs : i.size = 1 := by simpa [hq] using hsz
    refine ⟨if c = 0 then A else A.map (·.add 0), fun sb so hA => ?_, fun kd W => ?_⟩
    · subst hA
      by_cases hc : c = 0
      · rw [if_pos hc]
      · rw [if_neg hc]; simp [Addr.add_mid]
    · by_cases hc : c = 0
      · subst hc
        obtain rfl : M = 0 := by omega
        obtain rfl : m = 0 := by omega
        simp [Instr.sliceAt, Instr.slice, Instr.sliceBounds, Instr.sliceBound, asIntOf, Sem.run_bind, run_underlying hu W, Result.andThen, sizeOf, typeInfo, hq]
      · simp [Instr.sliceAt, Instr.slice, Instr.sliceBounds, Instr.sliceBound, asIntOf, Sem.run_bind, run_underlying hu W, Result.andThen, sizeOf, typeInfo, hq, hc, show m ≤ c by omega]
theorem BytesIn.cut {W : World} {P : Nat → Prop} {n k : Nat} {e : Nat → BitVec 8} {A : Option Addr} {c : Nat} (h : BytesIn W P n e (.slice A n c)) (hk : k ≤ n) : ∃ A' : Option Addr, BytesIn W P k e (.slice A' k c) ∧
    ∀ (kd : IntKind) (W' : World), (Instr.sliceAt 33 (.slice A n c) none (some (.int kd (k : Int))) none).run Try.prog W' = .ok (.slice A' k c) W' := by
  obtain ⟨A0, c0, he, hc, hr⟩ := h
  simp only [Value.slice.injEq, true_and] at he
  obtain ⟨rfl, rfl⟩ := he
  obtain ⟨A', hA, hrun⟩ := cut_any A n c k hk hc
  refine ⟨A', ⟨A', c, rfl, Nat.le_trans hk hc, fun h0 => ?_⟩, hrun⟩
  obtain ⟨sb, so, rfl, hP, hj⟩ := hr (by omega)
  exact ⟨sb, so, hA sb so rfl, hP, fun j hjk => hj j (by omega)⟩
end Go.Proofs.Ythacldkmjpjgiaa.Store
