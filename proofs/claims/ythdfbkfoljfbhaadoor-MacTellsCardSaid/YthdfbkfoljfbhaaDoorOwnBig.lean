/-
  append of bytes to few bytes of the call's own, however many come in within the reach of what is read: it goes through; what it holds, where there are not too many.
-/
import Derived.Test.YthdfbkfoljfbhaaDoorOwn
namespace Go.Proofs.YthdfbkfoljfbhaaDoor.Aid
open Go Go.RowKit

theorem growBy_le (need B : Nat) (hB : need + (need + 768) / 4 ≤ B) : ∀ (r c : Nat), c ≤ B → Builtin.growBy need r c ≤ B
  | 0, _, h => h
  | r + 1, c, h => by
    unfold Builtin.growBy
    by_cases hc : c ≥ need
    · rw [if_pos hc]; exact h
    · rw [if_neg hc]
      exact growBy_le need B hB r _ (by omega)
theorem next_fits (need old : Nat) (h : old < need) (hn : need ≤ 140737488455328) : Builtin.nextslicecap need old ≤ 281474976710656 := by
  unfold Builtin.nextslicecap
  by_cases h1 : need > 2 * old
  · rw [if_pos h1]; omega
  · rw [if_neg h1]
    by_cases h2 : old < 256
    · rw [if_pos h2]; omega
    · rw [if_neg h2]
      exact growBy_le need _ (by omega) 4 old (by omega)

theorem run_append_big (w : World) (ty base n m : Nat) (e f : Nat → BitVec 8) (v : Value) (h : Own w base n e v) (ad : Addr) (c : Nat) (hc : ∀ j, j < m → w.cell? (ad.add j) = some (.int .u8 ((f j).toNat : Int)))
    (hm0 : 0 < m) (hn : n ≤ 100000) (hm : m ≤ 140737488351232) :
    ∃ v' w', (Builtin.append_ #[22, 22] ty #[v, .slice (some ad) m c]).run Tryd.prog w = .ok v' w' ∧ w.grownBy w' v.ownBlock := by
  obtain ⟨i, hi, hz⟩ := Option.map_eq_some_iff.1 info_u8
  simp only [Prod.mk.injEq] at hz
  obtain ⟨hz0, hsize, hby⟩ := hz
  have hl : ((List.range m).map fun j => Value.int .u8 ((f j).toNat : Int)).length = m * i.size := by simp [hsize]
  have hnews : ∀ j u, ((List.range m).map fun j => Value.int .u8 ((f j).toNat : Int))[j]? = some u → w.cell? (ad.add j) = some u := fun j u hu => by
    have hj : j < m := by have := (List.getElem?_eq_some_iff.1 hu).1; simpa using this
    rw [hc j hj, ← hu]
    simp [hj]
  rcases h.form with ⟨rfl, rfl⟩ | ⟨g, cap, cur, rfl, _, _, hcap, hh, hcur, hcells⟩
  · refine ⟨_, _, run_append_nil (P := Tryd.prog) w 22 ty 5 i _ Tryd.underlying22 hi hz0 ad m c _ hl hnews hm0 (by omega) (by rw [hby]; omega), ?_⟩
    exact ⟨rfl, rfl, rfl, by simp, fun k hk _ => Below.heap_alloc w.drew _ k hk⟩
  · by_cases hroom : n + m ≤ cap
    · refine ⟨_, _, run_append_room (P := Tryd.prog) w 22 ty 5 i Tryd.underlying22 hi g n cap cur hh ad m c _ hl hnews (fun u hu => ?_) hroom (by rw [hl, hsize]; omega), ?_⟩
      · obtain ⟨j, _, rfl⟩ := List.mem_map.1 hu
        rfl
      · exact ⟨rfl, rfl, rfl, by simp, fun k _ hk => setRow_other w g k _ (fun e => hk (by simp [Value.ownBlock, e]))⟩
    · refine ⟨_, _, run_append_grow (P := Tryd.prog) w 22 ty 5 i _ Tryd.underlying22 hi hz0 ⟨g, 0, none⟩ n cap ((List.range n).map fun j => Value.int .u8 ((e j).toNat : Int)) (by simp [hsize]) (fun j u hu => ?_) ad m c _ hl hnews (by omega) (by omega) (by rw [hby, Nat.mul_one]; exact next_fits _ _ (by omega) (by omega)), ?_⟩
      · have hj : j < n := by have := (List.getElem?_eq_some_iff.1 hu).1; simpa using this
        rw [Addr.add_mid, Nat.zero_add, cell_of_row w g j cur _ _ hh, hcells j hj, ← hu]
        simp [hj]
      · exact ⟨rfl, rfl, rfl, by simp, fun k hk _ => Below.heap_alloc w.drew _ k hk⟩

section
variable {w : World} {ops : Array Oper} {rest : List Oper} {op : Oper} {a : Act} {Q : Exit → Act → World → Prop}
/-- 'append(v, x...)', v few bytes of the call's own, x as many as can be read. -/
theorem append_big (hgd : op.guard = none) (s x : Operand) (ho : op.op = .call { callee := .builtin .append, args := #[s, x], argTypes := #[22, 22] })
    (base n : Nat) (e : Nat → BitVec 8) (v : Value) (hs : a.eval s = v) (hown : Own w base n e v) (g m : Nat) (f : Nat → BitVec 8) (u : Value) (hx : a.eval x = u) (hu : SliceOf w g m f u)
    (hn : n ≤ 100000) (hm : m ≤ 140737488351232) (hbase : base ≤ w.heap.size)
    (hK : ∀ v' w', (m ≤ 100000 → Own w' base (n + m) (cat e n f) v') → w.grownBy w' v.ownBlock → wpList Tryd.prog ops Q rest (a.put op.dst v') w') : wpList Tryd.prog ops Q (op :: rest) a w := by
  by_cases hsm : m ≤ 100000
  · exact append_bytes hgd s x ho base n e v hs hown g m f u hx hu (by omega) hbase (fun v' w' h1 h2 _ => hK v' w' (fun _ => h1) h2)
  · obtain ⟨A, c, rfl, hc, hr⟩ := hu
    obtain ⟨sb, so, rfl, _, hcell⟩ := hr (by omega)
    obtain ⟨v', w', hrun, hg⟩ := run_append_big w op.type base n m e f v hown ⟨sb, so, none⟩ c (fun j hj => by rw [Addr.add_mid]; exact hcell j hj) (by omega) hn hm
    refine wpList_plain hgd fun K hK' => ?_
    unfold Oper.wp
    simp [execOp, ho, resolve, invoke, builtin, hs, hx, hrun, Result.andThen]
    exact hK' _ _ (hK v' w' (fun h => absurd h hsm) hg)
end
end Go.Proofs.YthdfbkfoljfbhaaDoor.Aid
