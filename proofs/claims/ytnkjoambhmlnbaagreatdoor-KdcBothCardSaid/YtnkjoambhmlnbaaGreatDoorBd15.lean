/-
  Pure facts for RefPut. What field.Put does.
-/
import Derived.Test.YtnkjoambhmlnbaaGreatDoorBd07
import Derived.Test.YtnkjoambhmlnbaaGreatDoorBd08
import Derived.Test.YtnkjoambhmlnbaaGreatDoorBd13
import Derived.Deep.DeepCutAuto
namespace Go.Proofs.YtnkjoambhmlnbaaGreatDoor.Field
open Go Go.RowKit Go.Proofs.YtnkjoambhmlnbaaGreatDoor.Aid Go.Proofs.YtnkjoambhmlnbaaGreatDoor.Law01
def two (a b : BitVec 8) (j : Nat) : BitVec 8 := if j = 0 then a else b
theorem slice_two (w : World) (g : Nat) (hg : g ≠ w.heap.size) (x y : BitVec 8) (a b : Int) (ha : a = (x.toNat : Int)) (hb : b = (y.toNat : Int)) : SliceOf (w.alloc (.cells #[.int .u8 a, .int .u8 b] 5)) g 2 (two x y) (.slice (some ⟨w.heap.size, 0, none⟩) 2 2) := by
  refine ⟨_, 2, rfl, Nat.le_refl _, fun _ => ⟨w.heap.size, 0, rfl, fun e => hg e.symm, fun j hj => ?_⟩⟩
  have hr := row_new w #[.int .u8 a, .int .u8 b] 5 2 (fun j => .int .u8 ((two x y j).toNat : Int)) rfl (fun i hi => by
    match i, hi with
    | 0, _ => rw [ha]; rfl
    | 1, _ => rw [hb]; rfl)
  rw [Nat.zero_add]
  exact hr.cell hj
theorem enc_next (m : Nat → Nat) (e : Nat → Nat → BitVec 8) (k j : Nat) : cat (cat (encB m e k) (encN m k) (two (bt (m k / 256)) (bt (m k % 256)))) (encN m k + 2) (e k) j = encB m e (k + 1) j := by
  show _ = cat (encB m e k) (encN m k) (fr m e k) j
  unfold cat
  by_cases h1 : j < encN m k
  · rw [if_pos (by omega), if_pos h1, if_pos h1]
  · rw [if_neg h1]
    unfold fr frame two
    by_cases h2 : j < encN m k + 2
    · rw [if_pos h2, if_neg h1]
      by_cases h3 : j - encN m k = 0
      · rw [if_pos h3, if_pos h3]
      · rw [if_neg h3, if_neg h3, if_pos (by omega)]
    · rw [if_neg h2, show j - (encN m k + 2) = j - encN m k - 2 by omega, if_neg (show ¬ j - encN m k = 0 by omega), if_neg (show ¬ j - encN m k = 1 by omega), if_neg h1]
theorem u8_in (z : Int) (h : 0 ≤ z ∧ z < 256) : IntKind.u8.wrap z = z := by
  unfold IntKind.wrap
  simp [IntKind.bits, IntKind.signed]
  omega
end Go.Proofs.YtnkjoambhmlnbaaGreatDoor.Field
namespace Go.Proofs.YtnkjoambhmlnbaaGreatDoor.Field
open Go Go.RowKit Go.Proofs.YtnkjoambhmlnbaaGreatDoor.Aid Go.Proofs.YtnkjoambhmlnbaaGreatDoor.Law01

set_option maxRecDepth 100000 in
set_option maxHeartbeats 1000000 in
theorem put_own (len : Nat) (m : Nat → Nat) (e : Nat → Nat → BitVec 8) (v : Value) (w : World) (hp : PartsOf w len m e v) (hm : off m len + len ≤ 100000) :
    Calls Tryz.prog 24 #[v] w fun x w' => ∃ r, x = .returned (.tuple #[r, .int .i64 (putC len m)]) ∧ Own w' w.heap.size (putN len m) (encB m e len) r ∧ Below w.heap.size w w' := by
  obtain ⟨A, c, rfl, hr⟩ := hp
  have HR := Lib.hid hr
  clear hr
  by_cases h20 : 20 < len
  · have h20' : (20 : Int) < (len : Int) := by omega
    have e1 : putC len m = 7 := by unfold putC; rw [putB_many h20]; rfl
    have e2 : putN len m = 0 := by unfold putN; rw [putB_many h20]; rfl
    rw [e1, e2]
    clear e1 e2
    go_enter Tryz.func24, Tryz.ntmps24
    go_wp2
    go_ret2
    exact ⟨_, rfl, World.ownsRow_nil _ _ _ _, Below.refl _ _⟩
  have h20' : ¬ (20 : Int) < (len : Int) := by omega
  go_enter Tryz.func24, Tryz.ntmps24
  go_wp2
  go_loopw [4, 12] (fun out i wr => ∃ k : Nat, k ≤ len ∧ i = .int .i64 (k : Int) ∧ Hid (∀ i, i < k → m i ≤ 500) ∧ Hid (Own wr w.heap.size (encN m k) (encB m e k) out) ∧ Hid (Below w.heap.size w wr)) (fun _ i _ => len - (intOf i).toNat)
  case atStart => exact ⟨0, by omega, rfl, fun j hj => by omega, World.ownsRow_nil _ _ _ _, Below.refl _ _⟩
  case round =>
    obtain ⟨k, hk, rfl, hle, ho, hb⟩ := hrel
    by_cases hlt : k < len
    · obtain ⟨sb, so, rfl, hc⟩ := HR.out (by omega)
      obtain ⟨y, hy, hs⟩ := hc k hlt
      obtain ⟨A', c', rfl, hcap, hs'⟩ := hs
      have cu := (hb.out.cell (p := ⟨sb, so + k, none⟩) (block_lt_of_cell hy)).trans hy
      have q0 : (0 : Int) ≤ (k : Int) := by omega
      have q1 : (k : Int) < (len : Int) := by omega
      by_cases h500 : 500 < m k
      · have h500' : (500 : Int) < (m k : Int) := by omega
        have e1 : putC len m = 7 := by unfold putC; rw [putB_long k hlt h500]; rfl
        have e2 : putN len m = 0 := by unfold putN; rw [putB_long k hlt h500]; rfl
        have E1 := Lib.hid e1
        have E2 := Lib.hid e2
        clear hc HR e1 e2 hs' ho hle
        go_wp2
        go_ret2
        exact ⟨_, by rw [E1.out]; rfl, by rw [E2.out]; exact World.ownsRow_nil _ _ _ _, hb.out⟩
      · have h500' : ¬ (500 : Int) < (m k : Int) := by omega
        have HSL : Hid (SliceOf w w.heap.size (m k) (e k) (.slice A' (m k) c')) := ⟨A', c', rfl, hcap, hs'⟩
        have HY := Lib.hid hy
        have hoff := off_mono m (show k + 1 ≤ len from hlt)
        have hoff' : off m k + m k ≤ off m len := hoff
        have hbd := off_m2 m k
        have hN : encN m k ≤ 100040 := by unfold encN; rw [hbd]; omega
        have e1 : IntKind.u8.wrap ((m k : Int) / 256) = (m k : Int) / 256 := u8_in _ (by omega)
        have e2 : IntKind.u8.wrap (m k : Int) = (m k : Int) % 256 := by unfold IntKind.wrap; simp [IntKind.bits, IntKind.signed]
        have hsb := block_lt_of_cell hy
        have HN := Lib.hid hN
        clear hc HR hs' hoff hoff' hbd hN
        have HO1 : Hid (Own (wr.alloc (.cells #[.int .u8 ((m k : Int) / 256), .int .u8 ((m k : Int) % 256)] 5)) w.heap.size (encN m k) (encB m e k) u4) := ho.out.below ((Below.refl _ _).alloc (Nat.le_refl _) _)
        have HS1 : Hid (Below w.heap.size w (wr.alloc (.cells #[.int .u8 ((m k : Int) / 256), .int .u8 ((m k : Int) % 256)] 5))) := hb.out.alloc hb.out.size _
        have HT : Hid (SliceOf (wr.alloc (.cells #[.int .u8 ((m k : Int) / 256), .int .u8 ((m k : Int) % 256)] 5)) (wr.heap.size + 1) 2 (two (bt (m k / 256)) (bt (m k % 256))) (.slice (some ⟨wr.heap.size, 0, none⟩) 2 2)) := slice_two wr _ (by omega) _ _ _ _ (by rw [bt_toNat (by omega)]; omega) (by rw [bt_toNat (by omega)]; omega)
        have HL1 := Lib.hid HS1.out.size
        clear ho hb
        go_wp2_with (first
          | (at_builtin
             refine append_bytes (by rfl) (.tmp 19) (.tmp 27) (by rfl) w.heap.size (encN m k) (encB m e k) _ (by rfl) HO1.out (wr.heap.size + 1) 2 _ _ (by rfl) HT.out (by have := HN.out; omega) HL1.out ?_
             intro v4 w4 hown4 hg4 _
             have hS4 : Below w.heap.size w w4 := HS1.out.grown hg4 HS1.out.size (fun b hb' => (HO1.out.lt hb').1)
             have HO4 := Lib.hid hown4
             have HS4 := Lib.hid hS4
             have HL4 := Lib.hid hS4.size
             have HP4 := Lib.hid (slice_below HSL.out hS4)
             clear hown4 hg4 hS4 HT HO1 HS1 HL1)
          | (at_builtin
             refine append_bytes (by rfl) (.tmp 29) (.tmp 30) (by rfl) w.heap.size (encN m k + 2) (cat (encB m e k) (encN m k) (two (bt (m k / 256)) (bt (m k % 256)))) _ (by rfl) HO4.out w.heap.size (m k) (e k) _ (by rfl) HP4.out (by have := HN.out; omega) HL4.out ?_
             intro v5 w5 hown5 hg5 _
             have hS5 : Below w.heap.size w w5 := HS4.out.grown hg5 HS4.out.size (fun b hb' => (HO4.out.lt hb').1)
             have HO5 : Hid (Own w5 w.heap.size (encN m (k + 1)) (encB m e (k + 1)) v5) := by
               have h0 : encN m (k + 1) = encN m k + 2 + m k := by show encN m k + (m k + 2) = _; omega
               rw [h0]
               exact Own.congr' hown5 (fun j _ => enc_next m e k j)
             have HS5 := Lib.hid hS5
             have HLE : Hid (∀ i, i < k + 1 → m i ≤ 500) := fun i hi => by
               by_cases h : i = k
               · subst h; omega
               · exact hle.out i (by omega)
             clear hown5 hg5 hS5 HO4 HS4 HL4 HP4))
        exact ⟨⟨k + 1, by omega, congrArg (Value.int .i64) (by omega), HLE, HO5, HS5⟩, by simp [intOf]; omega⟩
    · obtain rfl : k = len := by omega
      have hpb := putB_of (len := k) (m := m) (by omega) hle.out
      have E1 : Hid (putC k m = 0) := Lib.hid (by unfold putC; rw [hpb]; rfl)
      have E2 : Hid (putN k m = encN m k) := Lib.hid (by unfold putN; rw [hpb]; rfl)
      clear HR hle hpb
      go_wp2
      go_ret2
      exact ⟨_, by rw [E1.out]; rfl, by rw [E2.out]; exact ho.out, hb.out⟩
end Go.Proofs.YtnkjoambhmlnbaaGreatDoor.Field
