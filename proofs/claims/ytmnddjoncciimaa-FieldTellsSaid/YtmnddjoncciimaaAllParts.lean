/-
  What bartizanref01.All does with them: one behind the other, as long as there are not too many.
-/
import Derived.Test.YtmnddjoncciimaaOwn
import Derived.WalkSmall
namespace Go.Proofs.Ytmnddjoncciimaa.Law01
open Go Go.RowKit Go.Proofs.Ytmnddjoncciimaa.Aid

/-- The result of All: so many lists, one behind the other. -/
def AllPost (len : Nat) (m : Nat → Nat) (e : Nat → Nat → BitVec 8) (w : World) (x : Ending) (w' : World) : Prop :=
  ∃ (k : Nat) (v : Value), k ≤ len ∧ x = .returned (.tuple #[v, .int .i64 ((off m k + k : Nat) : Int)]) ∧ (off m k + k < 100000 → Own w' w.heap.size (off m k) (catAll m e k) v) ∧ (k = len ∨ 100000 ≤ off m k + k) ∧ Below w.heap.size w w'

set_option maxRecDepth 100000 in
set_option maxHeartbeats 1000000 in
theorem all_any (len : Nat) (m : Nat → Nat) (e : Nat → Nat → BitVec 8) (v : Value) (w : World) (hp : PartsOf w len m e v) (hm : ∀ i, i < len → m i ≤ 140737488351232) :
    Calls Try.prog 7 #[v] w (AllPost len m e w) := by
  obtain ⟨A, c, rfl, hr⟩ := hp
  go_enter Try.func7, Try.ntmps7
  go_wp2
  go_loopw [4, 5, 6] (fun o n i wr => ∃ k N : Nat, k ≤ len ∧ i = .int .i64 k ∧ n = .int .i64 (N : Int) ∧ Hid (N = off m k + k) ∧ Hid (N < 100000 → Own wr w.heap.size (off m k) (catAll m e k) o) ∧ Below w.heap.size w wr) (fun _ _ i _ => len - (intOf i).toNat)
  case atStart => exact ⟨0, 0, by omega, rfl, rfl, rfl, (fun _ => World.ownsRow_nil _ _ _ _), Below.refl _ _⟩
  case round =>
    obtain ⟨k, N, hk, rfl, rfl, HN, Hown, hb⟩ := hrel
    obtain ⟨v0b, hv0⟩ : ∃ x, Hid (u4.ownBlock = x) := ⟨_, rfl⟩
    by_cases hlt : k < len
    · by_cases hn : N < 100000
      · obtain ⟨sb, so, rfl, hc⟩ := hr (by omega)
        obtain ⟨u, hu, hs⟩ := hc k hlt
        obtain ⟨A', c', rfl, hcap, hs'⟩ := hs
        have cu0 := Lib.hid hu
        have cu := (hb.cell (p := ⟨sb, so + k, none⟩) (block_lt_of_cell hu)).trans hu
        have hsl : SliceOf wr w.heap.size (m k) (e k) (.slice A' (m k) c') := SliceOf.keep ⟨A', c', rfl, hcap, hs'⟩ (fun b hlt _ => hb.block b hlt)
        have hown := Hown.out hn
        have hmk := hm k hlt
        have hofk : off m k ≤ 100000 := by have := HN.out; omega
        have e1 : IntKind.i64.wrap ((N : Int) + (m k : Int)) = (N : Int) + (m k : Int) := IntWalk.i64_in _ (by omega)
        have e2 : IntKind.i64.wrap ((N : Int) + (m k : Int) + 1) = (N : Int) + (m k : Int) + 1 := IntWalk.i64_in _ (by omega)
        have e3 : IntKind.i64.wrap ((k : Int) + 1) = (k : Int) + 1 := IntWalk.i64_in _ (by have := HN.out; omega)
        have Hmk := Lib.hid hmk
        have Hofk := Lib.hid hofk
        clear hmk hofk
        have q0 : (0 : Int) ≤ (k : Int) := by omega
        have q1 : (k : Int) < (len : Int) := by omega
        have q2 : decide ((N : Int) < 100000) = true := by simp; omega
        have Hn := Lib.hid hn
        clear hn
        clear hr hc hu hs'
        have hne : v0b ≠ some sb := fun e1 => by
          have h1 := (hown.lt (hv0.out.trans e1)).1
          have h2 := block_lt_of_cell cu0.out
          simp at h2
          omega
        go_wp2_with (at_builtin
                     refine append_big (by rfl) (.tmp 17) (.tmp 21) (by rfl) w.heap.size (off m k) (catAll m e k) _ (by rfl) hown w.heap.size (m k) (e k) _ (by rfl) hsl Hofk.out Hmk.out hb.size ?_
                     intro v2 w2 hown2 hg2
                     have cu2 : w2.cell? ⟨sb, so + k, none⟩ = _ := hg2.cell cu (by rw [hv0.out]; exact fun e1 => hne e1.symm))
        go_roundw
        case rel =>
          refine ⟨k + 1, N + m k + 1, by omega, by go_num, by go_num, ?_, (fun h => hown2 (by omega)), hb.grown hg2 hb.size (fun b hb' => (hown.lt hb').1)⟩
          show N + m k + 1 = off m k + m k + (k + 1)
          have := HN.out
          omega
        case measure => simp [intOf]; omega
      · have q2 : decide ((N : Int) < 100000) = false := by simp; omega
        have Hn := Lib.hid hn
        clear hn
        go_wp2
        go_ret2
        exact ⟨k, u4, hk, by rw [← HN.out]; rfl, (fun h => Hown.out (by have := HN.out; omega)), .inr (by have := HN.out; have := Hn.out; omega), hb⟩
    · go_wp2
      go_ret2
      exact ⟨k, u4, hk, by rw [← HN.out]; rfl, (fun h => Hown.out (by have := HN.out; omega)), .inl (by omega), hb⟩
end Go.Proofs.Ytmnddjoncciimaa.Law01
