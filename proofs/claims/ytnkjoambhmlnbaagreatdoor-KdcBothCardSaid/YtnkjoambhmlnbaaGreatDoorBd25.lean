/-
  Bytes, arrays of bytes and arrays of those as a law's arguments, as the walks take them. Any number of arrays of bytes, one behind the other, as a law's argument.
-/
import Derived.Test.YtnkjoambhmlnbaaGreatDoorBd01
import Derived.ProofKit
import Derived.OpenShut
import Derived.ChangeOld
import Derived.WideKeyPair
namespace Go.Proofs.YtnkjoambhmlnbaaGreatDoor.Aid
open Go Go.ChangeShapes Go.WideShapes Go.RowKit
section
variable {H : Type} {enc : TypeId × Value → H} {P : Program} {W : World} {base : Nat} {sp : Nat → Bool} {held : Bool}

theorem byte_wf {n : Int} (h : (Lit.int .u8 n).wf = true) : n = ((BitVec.ofInt 8 n).toNat : Int) := by
  have hb := bounds_u8 h
  rw [BitVec.toNat_ofInt]
  omega
/-- A byte that came in. -/
theorem byte_in {r : Reach} {b0 : Nat} {t : TypeId} {v : Value} {d : DataW H} {ps : List MemPlace} (ht : P.underlying t = some (.int .u8)) (hval : Value.okWide P W r b0 t v) (hd : DataW.Trod enc P W base sp held t v d ps) :
    ∃ x : BitVec 8, v = .int .u8 (x.toNat : Int) := by
  obtain ⟨n, rfl, -, -, hw⟩ := open_int ht hval hd
  exact ⟨BitVec.ofInt 8 n, by rw [← byte_wf hw]⟩
theorem mapM_some {α β : Type} (f : α → Option β) : ∀ (l : List α) (xs : List β), l.mapM f = some xs → ∀ a ∈ l, ∃ b, f a = some b
  | [], _, _, a, ha => by cases ha
  | x :: l, xs, h, a, ha => by
    rw [List.mapM_cons] at h
    simp only [bind, Option.bind_eq_some_iff, pure, Option.some.injEq] at h
    obtain ⟨y, hy, ys, hys, _⟩ := h
    rcases List.mem_cons.1 ha with rfl | ha
    · exact ⟨y, hy⟩
    · exact mapM_some f l ys hys a ha
theorem take_one {l : List Value} {i : Nat} {v : Value} (h : (l.drop i).take 1 = [v]) : l[i]? = some v := by
  have := congrArg (fun x => x[0]?) h
  simpa using this
/-- An array's pieces can be read, each. -/
theorem arr_pieces {t e : TypeId} {n fuel : Nat} {cs : List Value} {x : DataW H × List MemPlace} (hu : P.underlying t = some (.array n e)) (h : DataW.trod enc P W base sp held fuel t cs = some x) :
    cs.length = P.cellsOf t ∧ ∀ i, i < n → ∃ m y, DataW.trod enc P W base sp held m e ((cs.drop (i * P.cellsOf e)).take (P.cellsOf e)) = some y := by
  cases fuel with
  | zero => simp [DataW.trod] at h
  | succ m =>
    rw [DataW.trod_step] at h
    unfold DataW.trodStep at h
    simp only [hu] at h
    by_cases hl : cs.length = P.cellsOf t
    · rw [if_pos hl] at h
      simp only [Option.map_eq_some_iff] at h
      obtain ⟨ys, hy, _⟩ := h
      refine ⟨hl, fun i hi => ?_⟩
      obtain ⟨b, hb⟩ := mapM_some _ _ _ hy i (List.mem_range.2 hi)
      exact ⟨m, b, hb⟩
    · rw [if_neg hl] at h; cases h
theorem arr_list {t e : TypeId} {n fuel : Nat} {cs : List Value} {x : DataW H × List MemPlace} (hu : P.underlying t = some (.array n e)) (he : P.underlying e = some (.int .u8)) (hc : P.cellsOf e = 1) (hn : P.cellsOf t = n)
    (h : DataW.trod enc P W base sp held fuel t cs = some x) : cs.length = n ∧ ∀ i, i < n → cs[i]? = some (.int .u8 ((BitVec.ofInt 8 (match cs[i]? with | some (.int _ z) => z | _ => 0)).toNat : Int)) := by
  obtain ⟨hl, hp⟩ := arr_pieces hu h
  refine ⟨by rw [hl, hn], fun i hi => ?_⟩
  obtain ⟨m, y, hy⟩ := hp i hi
  rw [hc, Nat.mul_one] at hy
  obtain ⟨z, hz, _, hw⟩ := DataW.trod_int he hy
  have := take_one hz
  rw [this]
  show _ = some (Value.int .u8 ((BitVec.ofInt 8 z).toNat : Int))
  rw [← byte_wf hw]
def blkAt (cs : List Value) (i : Nat) : BitVec 8 := BitVec.ofInt 8 (match cs[i]? with | some (.int _ z) => z | _ => 0)
/-- An array of bytes that came in. -/
theorem arr_in {r : Reach} {b0 : Nat} {t e : TypeId} {n : Nat} {v : Value} {d : DataW H} {ps : List MemPlace} (hu : P.underlying t = some (.array n e)) (he : P.underlying e = some (.int .u8)) (hc : P.cellsOf e = 1) (hn : P.cellsOf t = n)
    (hval : Value.okWide P W r b0 t v) (hd : DataW.Trod enc P W base sp held t v d ps) : ∃ (X : Array Value) (f : Nat → BitVec 8), v = .agg X ∧ X.size = n ∧ ∀ i, i < n → X[i]? = some (.int .u8 ((f i).toNat : Int)) := by
  simp only [Value.okWide, hu] at hval
  obtain ⟨X, rfl, h2, _⟩ := hval
  obtain ⟨fuel, hf⟩ := hd
  obtain ⟨hl, hp⟩ := arr_list hu he hc hn hf
  refine ⟨X, blkAt X.toList, rfl, by rw [h2, hn], fun i hi => ?_⟩
  have := hp i hi
  simp only [Value.cells] at this
  rw [← Array.getElem?_toList]
  exact this
/-- Two arrays of bytes, one behind the other, that came in. -/
theorem two_in {r : Reach} {b0 : Nat} {t row e : TypeId} {n : Nat} {v : Value} {d : DataW H} {ps : List MemPlace} (hu : P.underlying t = some (.array 2 row)) (hr : P.underlying row = some (.array n e)) (he : P.underlying e = some (.int .u8)) (hc : P.cellsOf e = 1) (hn : P.cellsOf row = n) (ht : P.cellsOf t = 2 * n)
    (hval : Value.okWide P W r b0 t v) (hd : DataW.Trod enc P W base sp held t v d ps) : ∃ (X : Array Value) (f g : Nat → BitVec 8), v = .agg X ∧ X.size = 2 * n ∧ ∀ i, i < 2 * n → X[i]? = some (.int .u8 ((if i < n then f i else g (i - n)).toNat : Int)) := by
  simp only [Value.okWide, hu] at hval
  obtain ⟨X, rfl, h2, _⟩ := hval
  obtain ⟨fuel, hf⟩ := hd
  obtain ⟨hl, hp⟩ := arr_pieces hu hf
  simp only [Value.cells] at hl hp
  obtain ⟨m0, y0, h0⟩ := hp 0 (by omega)
  obtain ⟨m1, y1, h1⟩ := hp 1 (by omega)
  rw [hn] at h0 h1
  obtain ⟨l0, p0⟩ := arr_list hr he hc hn h0
  obtain ⟨l1, p1⟩ := arr_list hr he hc hn h1
  refine ⟨X, blkAt ((X.toList.drop (0 * n)).take n), blkAt ((X.toList.drop (1 * n)).take n), rfl, by rw [h2, ht], fun i hi => ?_⟩
  rw [← Array.getElem?_toList]
  by_cases hin : i < n
  · rw [if_pos hin]
    have := p0 i hin
    rw [List.getElem?_take_of_lt hin, List.getElem?_drop, Nat.zero_mul, Nat.zero_add] at this
    rw [this]
    unfold blkAt
    rw [List.getElem?_take_of_lt hin, List.getElem?_drop, Nat.zero_mul, Nat.zero_add]
  · rw [if_neg hin]
    have hi' : i - n < n := by omega
    have := p1 (i - n) hi'
    rw [List.getElem?_take_of_lt hi', List.getElem?_drop, Nat.one_mul, show n + (i - n) = i by omega] at this
    rw [this]
    unfold blkAt
    rw [List.getElem?_take_of_lt hi', List.getElem?_drop, Nat.one_mul, show n + (i - n) = i by omega]
end
end Go.Proofs.YtnkjoambhmlnbaaGreatDoor.Aid
namespace Go.Proofs.YtnkjoambhmlnbaaGreatDoor.Aid
open Go Go.ChangeShapes Go.WideShapes Go.RowKit
section
variable {H : Type} {enc : TypeId × Value → H} {P : Program} {W : World} {base : Nat} {sp : Nat → Bool} {held : Bool}
theorem many_in {r : Reach} {b0 : Nat} {t row e : TypeId} {k n : Nat} {v : Value} {d : DataW H} {ps : List MemPlace} (hu : P.underlying t = some (.array k row)) (hr : P.underlying row = some (.array n e)) (he : P.underlying e = some (.int .u8)) (hc : P.cellsOf e = 1) (hn : P.cellsOf row = n) (hpos : 0 < n) (ht : P.cellsOf t = k * n)
    (hval : Value.okWide P W r b0 t v) (hd : DataW.Trod enc P W base sp held t v d ps) : ∃ (X : Array Value) (f : Nat → BitVec 8), v = .agg X ∧ X.size = k * n ∧ ∀ i, i < k * n → X[i]? = some (.int .u8 ((f i).toNat : Int)) := by
  simp only [Value.okWide, hu] at hval
  obtain ⟨X, rfl, h2, _⟩ := hval
  obtain ⟨fuel, hf⟩ := hd
  obtain ⟨hl, hp⟩ := arr_pieces hu hf
  simp only [Value.cells] at hl hp
  refine ⟨X, blkAt X.toList, rfl, by rw [h2, ht], fun i hi => ?_⟩
  have hq : i / n < k := (Nat.div_lt_iff_lt_mul hpos).2 hi
  obtain ⟨m, y, hy⟩ := hp (i / n) hq
  rw [hn] at hy
  obtain ⟨_, p0⟩ := arr_list hr he hc hn hy
  have hm : i % n < n := Nat.mod_lt _ hpos
  have := p0 (i % n) hm
  rw [List.getElem?_take_of_lt hm, List.getElem?_drop, Nat.div_add_mod' i n] at this
  rw [← Array.getElem?_toList]
  exact this
end
end Go.Proofs.YtnkjoambhmlnbaaGreatDoor.Aid
