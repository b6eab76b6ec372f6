/-
  '==' between any two arrays of bytes; between two arrays of arrays of bytes that are the same.
-/
import Derived.Test.YtpnkcacmmjmehaaDoorFirst
namespace Go.Proofs.YtpnkcacmmjmehaaDoor.Aid
open Go Go.RowKit
variable {P : Program}

theorem run_equalIn_byte (d : Nat) {t : TypeId} (h : P.underlying t = some (.int .u8)) (x y : BitVec 8) (w : World) : (Op.equalIn (d + 1) t (.int .u8 (x.toNat : Int)) (.int .u8 (y.toNat : Int))).run P w = .ok (decide (x = y)) w := by
  have hd : decide ((x.toNat : Int) = (y.toNat : Int)) = decide (x = y) := by
    by_cases hxy : x = y
    · subst hxy; simp
    · have : ¬ (x.toNat : Int) = (y.toNat : Int) := fun e => hxy (BitVec.eq_of_toNat_eq (by omega))
      rw [decide_eq_false this, decide_eq_false hxy]
  simp [Op.equalIn, Sem.run_bind, run_underlying h w, Result.andThen]
  exact hd
/-- The first n bytes are the same. -/
def sameUpto (e f : Nat → BitVec 8) (n : Nat) : Bool := decide (∀ i, i < n → e i = f i)
theorem run_equalIn_bytes (d : Nat) {ty len elem : TypeId} (hu : P.underlying ty = some (.array len elem)) (he : P.underlying elem = some (.int .u8)) (hsz : (P.info? elem).map (·.size) = some 1)
    (X Y : Array Value) (e f : Nat → BitVec 8) (hX : ∀ i, i < len → X[i]? = some (.int .u8 ((e i).toNat : Int))) (hY : ∀ i, i < len → Y[i]? = some (.int .u8 ((f i).toNat : Int))) (w : World) : (Op.equalIn (d + 2) ty (.agg X) (.agg Y)).run P w = .ok (sameUpto e f len) w := by
  cases hq : P.info? elem with
  | none => simp [hq] at hsz
  | some t =>
    have hs : t.size = 1 := by simpa [hq] using hsz
    have hS : (sizeOf elem).run P w = .ok 1 w := by simp [sizeOf, typeInfo, hq, hs]
    rw [show d + 2 = (d + 1) + 1 from rfl, Op.equalIn]
    simp only [Sem.run_bind, run_underlying hu w, Result.andThen_ok, hS, Nat.mul_one]
    rw [Std.Legacy.Range.forIn_eq_forIn_range']
    simp only [Std.Legacy.Range.size, Nat.sub_zero, Nat.add_sub_cancel, Nat.div_one]
    have key : ∀ (l : List Nat), (∀ i ∈ l, i < len) → (forIn l ((none, ()) : Option Bool × Unit) (fun i (_ : Option Bool × Unit) => (do
        let a ← part elem X i
        let b ← part elem Y i
        let r ← Op.equalIn (d + 1) elem a b
        if (!r) = true then pure (ForInStep.done (some false, ())) else pure (ForInStep.yield (none, ())) : Sem (ForInStep (Option Bool × Unit))))).run P w = .ok (if ∀ i ∈ l, e i = f i then (none, ()) else (some false, ())) w := by
      intro l
      induction l with
      | nil => intro _; simp
      | cons i l ih =>
        intro hl
        have hi := hl i (by simp)
        simp only [List.forIn_cons, Sem.run_bind, run_part_int he X i _ (hX i hi) w, run_part_int he Y i _ (hY i hi) w, Result.andThen_ok, run_equalIn_byte d he (e i) (f i) w]
        by_cases h : e i = f i
        · simp only [h, decide_true, Bool.not_true, Bool.false_eq_true, if_false, Sem.run_pure, Result.andThen_ok, List.mem_cons, forall_eq_or_imp, true_and]
          exact ih (fun j hj => hl j (by simp [hj]))
        · simp [h]
    have := key (List.range' 0 len 1) (fun i hi => by simp at hi; omega)
    rw [this]
    unfold sameUpto
    by_cases h : ∀ i, i < len → e i = f i
    · rw [if_pos (fun i hi => h i (by simp at hi; omega)), decide_eq_true h]; rfl
    · rw [if_neg (fun h' => h (fun i hi => h' i (by simp; omega))), decide_eq_false h]; rfl
/-- 'x == y' between any two arrays of bytes. -/
theorem run_eql_bytes {ty len elem : TypeId} (hu : P.underlying ty = some (.array len elem)) (he : P.underlying elem = some (.int .u8)) (hsz : (P.info? elem).map (·.size) = some 1)
    (X Y : Array Value) (e f : Nat → BitVec 8) (hX : ∀ i, i < len → X[i]? = some (.int .u8 ((e i).toNat : Int))) (hY : ∀ i, i < len → Y[i]? = some (.int .u8 ((f i).toNat : Int))) (w : World) : (binOp .eql ty (.agg X) (.agg Y)).run P w = .ok (.bool (sameUpto e f len)) w := by
  simp only [binOp]
  simp [Op.equal, Op.maxDepth, run_equalIn_bytes 9998 hu he hsz X Y e f hX hY w]
/-- 'x == x', x an array of arrays of bytes. -/
theorem run_equalIn_rows (d : Nat) {ty row elem : TypeId} {len n : Nat} (hu : P.underlying ty = some (.array len row)) (hr : P.underlying row = some (.array n elem)) (he : P.underlying elem = some (.int .u8)) (hsz : (P.info? elem).map (·.size) = some 1) (hrs : (P.info? row).map (·.size) = some n)
    (X : Array Value) (e : Nat → BitVec 8) (hs : X.size = len * n) (hX : ∀ i, i < len * n → X[i]? = some (.int .u8 ((e i).toNat : Int))) (w : World) : (Op.equalIn (d + 3) ty (.agg X) (.agg X)).run P w = .ok true w := by
  cases hq : P.info? row with
  | none => simp [hq] at hrs
  | some t =>
    have hts : t.size = n := by simpa [hq] using hrs
    have hS : (sizeOf row).run P w = .ok n w := by simp [sizeOf, typeInfo, hq, hts]
    have hagg : (isAgg row).run P w = .ok true w := by
      unfold isAgg
      rw [Sem.run_bind, run_underlying hr w]
      rfl
    have hpart : ∀ i, (part row X (i * n)).run P w = .ok (.agg (X.extract (i * n) (i * n + n))) w := fun i => by
      simp [part, Sem.run_bind, hagg, hS, Result.andThen]
    have heq : ∀ i, i < len → (Op.equalIn (d + 2) row (.agg (X.extract (i * n) (i * n + n))) (.agg (X.extract (i * n) (i * n + n)))).run P w = .ok true w := fun i hi => by
      refine run_equalIn_same d hr he hsz _ (fun j hj => ⟨((e (i * n + j)).toNat : Int), ?_⟩) w
      · have hle : i * n + n ≤ len * n := by rw [← Nat.succ_mul]; exact Nat.mul_le_mul_right n hi
        have hmin : min (i * n + n) X.size = i * n + n := Nat.min_eq_left (by rw [hs]; exact hle)
        rw [Array.getElem?_extract, if_pos (by rw [hmin, Nat.add_sub_cancel_left]; exact hj)]
        exact hX _ (Nat.lt_of_lt_of_le (Nat.add_lt_add_left hj _) hle)
    rw [show d + 3 = (d + 2) + 1 from rfl, Op.equalIn]
    simp only [Sem.run_bind, run_underlying hu w, Result.andThen_ok, hS]
    rw [Std.Legacy.Range.forIn_eq_forIn_range']
    simp only [Std.Legacy.Range.size, Nat.sub_zero, Nat.add_sub_cancel, Nat.div_one]
    have key : ∀ (l : List Nat), (∀ i ∈ l, i < len) → (forIn l ((none, ()) : Option Bool × Unit) (fun i (_ : Option Bool × Unit) => (do
        let a ← part row X (i * n)
        let b ← part row X (i * n)
        let r ← Op.equalIn (d + 2) row a b
        if (!r) = true then pure (ForInStep.done (some false, ())) else pure (ForInStep.yield (none, ())) : Sem (ForInStep (Option Bool × Unit))))).run P w = .ok (none, ()) w := by
      intro l
      induction l with
      | nil => intro _; simp
      | cons i l ih =>
        intro hl
        simp only [List.forIn_cons, Sem.run_bind, hpart i, Result.andThen_ok, heq i (hl i (by simp)), Bool.not_true, Bool.false_eq_true, if_false, Sem.run_pure]
        exact ih (fun j hj => hl j (by simp [hj]))
    have := key (List.range' 0 len 1) (fun i hi => by simp at hi; omega)
    rw [this]
    rfl
theorem run_eql_rows {ty row elem : TypeId} {len n : Nat} (hu : P.underlying ty = some (.array len row)) (hr : P.underlying row = some (.array n elem)) (he : P.underlying elem = some (.int .u8)) (hsz : (P.info? elem).map (·.size) = some 1) (hrs : (P.info? row).map (·.size) = some n)
    (X : Array Value) (e : Nat → BitVec 8) (hs : X.size = len * n) (hX : ∀ i, i < len * n → X[i]? = some (.int .u8 ((e i).toNat : Int))) (w : World) : (binOp .eql ty (.agg X) (.agg X)).run P w = .ok (.bool true) w := by
  simp only [binOp]
  simp [Op.equal, Op.maxDepth, run_equalIn_rows 9997 hu hr he hsz hrs X e hs hX w]
end Go.Proofs.YtpnkcacmmjmehaaDoor.Aid
