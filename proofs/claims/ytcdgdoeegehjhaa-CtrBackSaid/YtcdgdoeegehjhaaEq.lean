/-
  '==' between two arrays of numbers that are the same.
-/
import Derived.Test.YtcdgdoeegehjhaaAid
namespace Go.Proofs.Ytcdgdoeegehjhaa.Aid
open Go Go.RowKit
variable {P : Program}

theorem run_equalIn_int (d : Nat) {t : TypeId} {k : IntKind} (h : P.underlying t = some (.int k)) (n : Int) (w : World) : (Op.equalIn (d + 1) t (.int k n) (.int k n)).run P w = .ok true w := by
  simp [Op.equalIn, Sem.run_bind, run_underlying h w, Result.andThen]
theorem run_part_int {t : TypeId} {k : IntKind} (h : P.underlying t = some (.int k)) (cs : Array Value) (o : Nat) (v : Value) (hv : cs[o]? = some v) (w : World) : (part t cs o).run P w = .ok v w := by
  have hagg : (isAgg t).run P w = .ok false w := by
    unfold isAgg
    rw [Sem.run_bind, run_underlying h w]
    rfl
  simp [part, Sem.run_bind, hagg, Result.andThen, hv]
theorem run_equalIn_same (d : Nat) {ty len elem : TypeId} {k : IntKind} (hu : P.underlying ty = some (.array len elem)) (he : P.underlying elem = some (.int k)) (hsz : (P.info? elem).map (·.size) = some 1)
    (X : Array Value) (hX : ∀ i, i < len → ∃ n, X[i]? = some (.int k n)) (w : World) : (Op.equalIn (d + 2) ty (.agg X) (.agg X)).run P w = .ok true w := by
  cases hq : P.info? elem with
  | none => simp [hq] at hsz
  | some t =>
    have hs : t.size = 1 := by simpa [hq] using hsz
    have hS : (sizeOf elem).run P w = .ok 1 w := by simp [sizeOf, typeInfo, hq, hs]
    rw [show d + 2 = (d + 1) + 1 from rfl, Op.equalIn]
    simp only [Sem.run_bind, run_underlying hu w, Result.andThen_ok, hS, Nat.mul_one]
    rw [Std.Legacy.Range.forIn_eq_forIn_range']
    simp only [Std.Legacy.Range.size, Nat.sub_zero, Nat.add_sub_cancel, Nat.div_one]
    have key : ∀ (l : List Nat), (∀ i ∈ l, i < len) → (forIn l ((none, ()) : Option Bool × Unit) (fun i (_ : Option Bool × Unit) => (do
        let a ← part elem X i
        let b ← part elem X i
        let r ← Op.equalIn (d + 1) elem a b
        if (!r) = true then pure (ForInStep.done (some false, ())) else pure (ForInStep.yield (none, ())) : Sem (ForInStep (Option Bool × Unit))))).run P w = .ok (none, ()) w := by
      intro l
      induction l with
      | nil => intro _; simp
      | cons i l ih =>
        intro hl
        obtain ⟨n, hn⟩ := hX i (hl i (by simp))
        simp only [List.forIn_cons, Sem.run_bind, run_part_int he X i _ hn w, Result.andThen_ok, run_equalIn_int d he n w, Bool.not_true, Bool.false_eq_true, if_false, Sem.run_pure]
        exact ih (fun j hj => hl j (by simp [hj]))
    have := key (List.range' 0 len 1) (fun i hi => by simp at hi; omega)
    rw [this]
    rfl
/-- 'x == x', 'x != x'. -/
theorem run_eql_same {ty len elem : TypeId} {k : IntKind} (hu : P.underlying ty = some (.array len elem)) (he : P.underlying elem = some (.int k)) (hsz : (P.info? elem).map (·.size) = some 1)
    (X : Array Value) (hX : ∀ i, i < len → ∃ n, X[i]? = some (.int k n)) (w : World) : (binOp .eql ty (.agg X) (.agg X)).run P w = .ok (.bool true) w := by
  simp only [binOp]
  simp [Op.equal, Op.maxDepth, run_equalIn_same 9998 hu he hsz X hX w]
theorem run_neq_same {ty len elem : TypeId} {k : IntKind} (hu : P.underlying ty = some (.array len elem)) (he : P.underlying elem = some (.int k)) (hsz : (P.info? elem).map (·.size) = some 1)
    (X : Array Value) (hX : ∀ i, i < len → ∃ n, X[i]? = some (.int k n)) (w : World) : (binOp .neq ty (.agg X) (.agg X)).run P w = .ok (.bool false) w := by
  simp only [binOp]
  simp [Op.equal, Op.maxDepth, run_equalIn_same 9998 hu he hsz X hX w]
end Go.Proofs.Ytcdgdoeegehjhaa.Aid
