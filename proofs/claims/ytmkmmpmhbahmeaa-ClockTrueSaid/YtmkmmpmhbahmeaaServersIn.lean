/-
  A slice of servers as a law's argument: nine cells each.
-/
import Derived.Test.YtmkmmpmhbahmeaaSpansIn
namespace Go.Proofs.Ytmkmmpmhbahmeaa.Clock
open Go Go.Joins Go.ChangeShapes Go.WideShapes Go.ChangeAt Go.RowKit Go.Deep Go.Proofs.Ytmkmmpmhbahmeaa.Aid Go.Proofs.Ytmkmmpmhbahmeaa.Sweep

structure Srv where
  early : Int
  late : Int
  lies : Bool
  lo : Int
  hi : Int
  to : Int
  back : Int
  pto : Int
  pback : Int
instance : Inhabited Srv := ⟨⟨0, 0, false, 0, 0, 0, 0, 0, 0⟩⟩
def Srv.vals (x : Srv) : List Value := [.int .i64 x.early, .int .i64 x.late, .bool x.lies, .int .i64 x.lo, .int .i64 x.hi, .int .i64 x.to, .int .i64 x.back, .int .i64 x.pto, .int .i64 x.pback]
/-- The slice v holds n servers, X's; they lie below block B. -/
def SrvsAt (W : World) (B n : Nat) (X : Nat → Srv) (v : Value) : Prop :=
  ∃ (A : Option Addr) (c : Nat), v = .slice A n c ∧ (1 ≤ n → ∃ b o, A = some ⟨b, o, none⟩ ∧ b < B ∧ ∀ i, i < n → ∀ j u, (X i).vals[j]? = some u → W.cell? ⟨b, o + i * 9 + j, none⟩ = some u)
section
variable {H : Type} {enc : TypeId × Value → H} {P : Program} {W : World} {base : Nat} {sp : Nat → Bool} {held : Bool}
theorem one_int {t : TypeId} {k : IntKind} {fuel : Nat} {cs : List Value} {x : DataW H × List MemPlace} (ht : P.underlying t = some (.int k)) (h : DataW.trod enc P W base sp held fuel t cs = some x) : ∃ u : Int, cs = [.int k u] := by
  obtain ⟨u, hu, -, -⟩ := DataW.trod_int ht h
  exact ⟨u, hu⟩
end
theorem srv_cells {H : Type} {enc : TypeId × Value → H} {W : World} {base : Nat} {sp : Nat → Bool} {held : Bool} {fuel : Nat} {cs : List Value} {x : DataW H × List MemPlace} (h : DataW.trod enc Try.prog W base sp held fuel 46 cs = some x) : ∃ X : Srv, cs = X.vals := by
  obtain ⟨xs, n, _, _, hl, hlen, hf⟩ := DataW.trod_struct Try.underlying46 h
  rw [show Try.prog.cellsOf 46 = 9 by kernel_rfl] at hl
  have k1 : Try.prog.cellsOf 2 = 1 := by kernel_rfl
  have k2 : Try.prog.cellsOf 4 = 1 := by kernel_rfl
  have k3 : Try.prog.cellsOf 23 = 2 := by kernel_rfl
  match xs, hlen with
  | [y0, y1, y2, y3, y4, y5, y6, y7], _ =>
    match cs, hl with
    | [c0, c1, c2, c3, c4, c5, c6, c7, c8], _ =>
      obtain ⟨u0, hu0⟩ := one_int Try.underlying2 (show DataW.trod enc Try.prog W base sp held n 2 [c0] = some y0 from by simpa [k1] using hf 0 _ rfl)
      obtain ⟨u1, hu1⟩ := one_int Try.underlying2 (show DataW.trod enc Try.prog W base sp held n 2 [c1] = some y1 from by simpa [k1] using hf 1 _ rfl)
      obtain ⟨u5, hu5⟩ := one_int Try.underlying2 (show DataW.trod enc Try.prog W base sp held n 2 [c5] = some y4 from by simpa [k1] using hf 4 _ rfl)
      obtain ⟨u6, hu6⟩ := one_int Try.underlying2 (show DataW.trod enc Try.prog W base sp held n 2 [c6] = some y5 from by simpa [k1] using hf 5 _ rfl)
      obtain ⟨u7, hu7⟩ := one_int Try.underlying2 (show DataW.trod enc Try.prog W base sp held n 2 [c7] = some y6 from by simpa [k1] using hf 6 _ rfl)
      obtain ⟨u8, hu8⟩ := one_int Try.underlying2 (show DataW.trod enc Try.prog W base sp held n 2 [c8] = some y7 from by simpa [k1] using hf 7 _ rfl)
      obtain ⟨b2, hb2, -⟩ := DataW.trod_bool Try.underlying4 (show DataW.trod enc Try.prog W base sp held n 4 [c2] = some y2 from by simpa [k2] using hf 2 _ rfl)
      obtain ⟨u3, u4, hu3⟩ := two_cells Try.underlying23 (by kernel_rfl) k3 Try.underlying2 Try.underlying2 (show DataW.trod enc Try.prog W base sp held n 23 [c3, c4] = some y3 from by simpa [k3] using hf 3 _ rfl)
      simp at hu0 hu1 hb2 hu3 hu5 hu6 hu7 hu8
      obtain ⟨rfl, rfl⟩ := hu3
      subst hu0 hu1 hb2 hu5 hu6 hu7 hu8
      exact ⟨⟨u0, u1, b2, u3, u4, u5, u6, u7, u8⟩, rfl⟩
theorem srvs_in {H : Type} {enc : TypeId × Value → H} {W : World} {a : Option Addr} {len cap : Nat} {d : DataW H} {p : List MemPlace}
    (h : DataW.Trod enc Try.prog W 0 (fun _ => true) true 44 (.slice a len cap) d p) : ∃ X, SrvsAt W W.heap.size len X (.slice a len cap) := by
  obtain ⟨fuel, hf⟩ := h
  rcases open_slice Try.underlying44 hf with ⟨hcs, _⟩ | ⟨x, l, c, m, n, D, Pl, hcs, _, hl, _, hm, _, hi⟩
  · simp [Value.cells] at hcs
    obtain ⟨rfl, rfl, rfl⟩ := hcs
    exact ⟨fun _ => ⟨0, 0, false, 0, 0, 0, 0, 0, 0⟩, none, 0, rfl, fun h => by omega⟩
  · simp [Value.cells] at hcs
    obtain ⟨rfl, rfl, rfl⟩ := hcs
    have hC : Try.prog.cellsOf 46 = 9 := by kernel_rfl
    have key : ∀ i, i < len → ∃ X : Srv, ∀ j u, X.vals[j]? = some u → W.cell? (x.add (i * 9 + j)) = some u := fun i hlt => by
      obtain ⟨cs', h1, h2⟩ := hi i (by simp at hm; omega)
      rw [hC] at h1
      obtain ⟨X, rfl⟩ := srv_cells h2
      obtain ⟨_, _, hat⟩ := World.cells?_some h1
      refine ⟨X, fun j u hj => ?_⟩
      have hj9 : j < 9 := (List.getElem?_eq_some_iff.1 hj).1
      have a0 := hat j hj9
      rw [add_add] at a0
      rw [a0]
      exact hj
    obtain ⟨X, hX⟩ := choose_lt (α := Srv) (p := fun i X => ∀ j u, X.vals[j]? = some u → W.cell? (x.add (i * 9 + j)) = some u) key
    refine ⟨X, some x, cap, rfl, fun hm1 => ?_⟩
    have h0 := hX 0 (by omega) 0 _ rfl
    obtain ⟨b, o, q⟩ := x
    have hsp : q = none := by
      cases q with
      | none => rfl
      | some y =>
        simp [Addr.add, World.cell?] at h0
        split at h0 <;> cases h0
    subst hsp
    refine ⟨b, o, rfl, ?_, fun i hi j u hj => ?_⟩
    · have := block_lt_of_cell h0
      simp [Addr.add] at this
      omega
    · have hc := hX i hi j u hj
      rw [Addr.add_mid, ← Nat.add_assoc] at hc
      exact hc
end Go.Proofs.Ytmkmmpmhbahmeaa.Clock
