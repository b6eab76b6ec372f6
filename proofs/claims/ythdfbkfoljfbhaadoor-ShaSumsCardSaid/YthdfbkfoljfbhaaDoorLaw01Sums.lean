/-
  The walk of bartizanlaw01.ShaSums: for every slice of bytes it returns true, and writes nothing that was there.
-/
import Derived.Test.YthdfbkfoljfbhaaDoorLaw01Awake
import Derived.Test.YthdfbkfoljfbhaaDoorRefSum
import Derived.Test.YthdfbkfoljfbhaaDoorEq
namespace Go.Proofs.YthdfbkfoljfbhaaDoor.Law01
open Go Go.RowKit Go.Proofs.YthdfbkfoljfbhaaDoor.Aid Go.Proofs.YthdfbkfoljfbhaaDoor.Sha

set_option maxRecDepth 100000 in
set_option maxHeartbeats 1000000 in
theorem sums_out (A : Option Addr) (len cap : Nat) (w : World) (hk : Consts w) (h1 : (400 : Int) < (len : Int)) :
    Calls Tryd.prog 3 #[.slice A len cap] w fun e w' => e = .returned (.bool true) ∧ Below w.heap.size w w' := by
  go_enter Tryd.func3, Tryd.ntmps3
  go_wp2_with fail
  refine (awake_any w hk).mono ?_
  rintro e w1 ⟨rfl, hb1⟩
  go_wp2
  go_ret
  exact ⟨rfl, hb1⟩

set_option maxRecDepth 100000 in
set_option maxHeartbeats 1000000 in
theorem sums_in (A : Option Addr) (len cap : Nat) (e : Nat → BitVec 8) (w : World) (hk : Consts w) (hs : SliceOf w w.heap.size len e (.slice A len cap)) (hl : len ≤ 400) :
    Calls Tryd.prog 3 #[.slice A len cap] w fun e w' => e = .returned (.bool true) ∧ Below w.heap.size w w' := by
  go_enter Tryd.func3, Tryd.ntmps3
  go_wp2_with fail
  refine (awake_any w hk).mono ?_
  rintro e0 w1 ⟨rfl, hb1⟩
  have hk1 := hk.below hb1 (Nat.le_refl _)
  have hs1 := slice_any (slice_below hs hb1) (Nat.le_refl w1.heap.size)
  have q1 : ¬ (400 : Int) < (len : Int) := by omega
  clear hs hk
  go_wp2_with fail
  refine (sum_any e len w1.heap.size _ w1 hk1 hs1 (by omega)).mono ?_
  rintro e0 w2 ⟨rfl, hb2⟩
  have hs2 := slice_any (slice_below hs1 hb2) (Nat.le_refl w2.heap.size)
  have heq : ∀ W, (binOp .eql 24 (.agg (byteCells 32 (digest e len))) (.agg (byteCells 32 (digest e len)))).run Tryd.prog W = .ok (.bool true) W := fun W =>
    run_eql_same Tryd.underlying24 Tryd.underlying5 (by kernel_rfl) _ (fun i hi => ⟨_, cellsOf_at 32 _ i hi⟩) W
  have href := refSum_any e A len cap w2 hs2 hl
  obtain ⟨Z, hZ⟩ : ∃ Z, Z = byteCells 32 (digest e len) := ⟨_, rfl⟩
  rw [← hZ] at heq href ⊢
  have hb12 := hb1.trans (hb2.mono hb1.size)
  clear hs1 hs2 hk1 hb1 hb2 hZ
  have Href := Lib.hid href
  clear href
  go_wp2_with fail
  refine Href.out.mono ?_
  rintro e0 w3 ⟨rfl, hb3⟩
  go_wp2
  go_ret
  exact ⟨rfl, hb12.trans (hb3.mono hb12.size)⟩

/-- THE WALK, for every slice of bytes. -/
theorem sums_any (A : Option Addr) (len cap : Nat) (e : Nat → BitVec 8) (w : World) (hk : Consts w) (hs : SliceOf w w.heap.size len e (.slice A len cap)) :
    Calls Tryd.prog 3 #[.slice A len cap] w fun e w' => e = .returned (.bool true) ∧ Below w.heap.size w w' := by
  by_cases h : (400 : Int) < (len : Int)
  · exact sums_out A len cap w hk h
  · exact sums_in A len cap e w hk hs (by omega)
end Go.Proofs.YthdfbkfoljfbhaaDoor.Law01
