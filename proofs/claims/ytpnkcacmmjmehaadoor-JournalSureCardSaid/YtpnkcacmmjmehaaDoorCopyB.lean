/-
  'c := make([]byte, n); copy(c, b)': as many bytes of the call's own.
-/
import Derived.Test.YtpnkcacmmjmehaaDoorMake
namespace Go.Proofs.YtpnkcacmmjmehaaDoor.Aid
open Go Go.RowKit

theorem row_of_own {w : World} {base n g : Nat} {f : Nat → BitVec 8} (h : Own w base n f (.slice (some ⟨g, 0, none⟩) n n)) : w.rowIs g 5 n (fun j => .int .u8 ((f j).toNat : Int)) ∧ base ≤ g := by
  rcases h.form with ⟨h0, _⟩ | ⟨g', cap, cur, h0, hb, _, _, hh, hs, hc⟩
  · cases h0
  · simp only [Value.slice.injEq, Option.some.injEq, Addr.mk.injEq, true_and, and_true] at h0
    obtain ⟨rfl, rfl⟩ := h0
    refine ⟨row_mk ?_, hb⟩
    rw [hh]
    congr 2
    exact eq_cellsOf hs (fun i hi => hc i hi)
section
variable {w : World} {ops : Array Oper} {rest : List Oper} {op : Oper} {a : Act} {Q : Exit → Act → World → Prop}
/-- 'copy(c, b)', c of the call's own and as long as b. -/
theorem copy_all (hgd : op.guard = none) (d s : Operand) (ho : op.op = .call { callee := .builtin .copy, args := #[d, s], argTypes := #[35, 35] })
    (base n g gs : Nat) (f e : Nat → BitVec 8) (h : Own w base n f (.slice (some ⟨g, 0, none⟩) n n)) (hd : a.eval d = .slice (some ⟨g, 0, none⟩) n n) (hn : n ≤ 1099511627776) (v : Value) (hs : a.eval s = v) (hv : SliceOf w gs n e v)
    (hK : ∀ w', Own w' base n e (.slice (some ⟨g, 0, none⟩) n n) → Only g w w' → wpList Tryd.prog ops Q rest (a.put op.dst (.int .i64 (n : Int))) w') : wpList Tryd.prog ops Q (op :: rest) a w := by
  obtain ⟨hr0, hb⟩ := row_of_own h
  obtain ⟨A, c, rfl, hc, hr⟩ := hv
  by_cases h0 : 0 < n
  · obtain ⟨sb, so, rfl, _, hcell⟩ := hr h0
    refine copy_row hgd d s _ _ ho 5 Tryd.underlying35 (by kernel_rfl) g 0 _ n _ hr0 n n hd (by omega) sb so n c hs (fun j => .int .u8 ((e j).toNat : Int)) hcell (fun _ _ => rfl) n (Nat.min_self n).symm ?_
    intro w' hr' ho'
    refine hK w' (own_of_row (hr'.congr (fun i hi => ?_)) hb hn) ho'
    rw [if_pos ⟨Nat.zero_le _, by omega⟩, Nat.sub_zero]
  · obtain rfl : n = 0 := by omega
    refine wpList_copy_nothing hgd d s _ _ ho 5 Tryd.underlying35 (by kernel_rfl) _ A 0 0 0 c hd hs (by rfl) ?_
    exact hK w (h.congr' (fun j hj => absurd hj (by omega))) ⟨rfl, rfl, rfl, rfl, fun _ _ => rfl⟩
end
end Go.Proofs.YtpnkcacmmjmehaaDoor.Aid
