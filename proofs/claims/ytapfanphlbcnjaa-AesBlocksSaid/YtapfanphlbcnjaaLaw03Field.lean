/-
  The walk of bartizanlaw03.AesField: for any three bytes it returns true, and writes nothing that was there.
-/
import Derived.Test.YtapfanphlbcnjaaLaw03Awake
namespace Go.Proofs.Ytapfanphlbcnjaa.Law03
open Go Go.RowKit Go.Proofs.Ytapfanphlbcnjaa.Aid Go.Proofs.Ytapfanphlbcnjaa.Aes

theorem byte_eq (x y : BitVec 8) : (((x.toNat : Int) == (y.toNat : Int)) = true) ↔ x = y := by
  constructor
  · intro h
    have h1 : (x.toNat : Int) = (y.toNat : Int) := by simpa using h
    exact BitVec.eq_of_toNat_eq (by omega)
  · rintro rfl; simp
theorem byte_ne (x y : BitVec 8) (h : x ≠ y) : ((x.toNat : Int) == (y.toNat : Int)) = false := by
  rw [Bool.eq_false_iff]
  exact fun e => h ((byte_eq x y).1 e)

set_option maxRecDepth 100000 in
set_option maxHeartbeats 2000000 in
theorem field_any {R : World → Prop} (C : AesHas R) (a b c : BitVec 8) (w : World) (hR : R w) :
    Calls Try.prog 5 #[.int .u8 (a.toNat : Int), .int .u8 (b.toNat : Int), .int .u8 (c.toNat : Int)] w fun e w' => e = .returned (.bool true) ∧ Below w.heap.size w w' := by
  obtain ⟨d, hd⟩ : ∃ d, d = b ^^^ c := ⟨_, rfl⟩
  have hx1 : bits .xor .u8 (b.toNat : Int) (c.toNat : Int) = (d.toNat : Int) := by rw [xor8, hd]
  have hx2 : bits .xor .u8 ((times a b).toNat : Int) ((times a c).toNat : Int) = ((times a d).toNat : Int) := by rw [xor8, hd, times_add_right]
  clear hd
  go_enter Try.func5, Try.ntmps5
  go_wp2_with fail
  refine (awake_any C w hR).mono ?_
  rintro x w1 ⟨rfl, l1⟩
  go_wp2_with fail
  refine (C.times a b w1 (C.keep _ _ hR l1)).mono ?_
  rintro x w2 ⟨rfl, b2⟩
  have l2 := l1.trans (b2.mono l1.size)
  clear b2
  go_wp2_with fail
  refine (C.times b a w2 (C.keep _ _ hR l2)).mono ?_
  rw [times_comm b a]
  rintro x w3 ⟨rfl, b3⟩
  have l3 := l2.trans (b3.mono l2.size)
  clear b3
  go_wp2_with fail
  refine (C.times a d w3 (C.keep _ _ hR l3)).mono ?_
  rintro x w4 ⟨rfl, b4⟩
  have l4 := l3.trans (b4.mono l3.size)
  clear b4
  go_wp2_with fail
  refine (C.times a b w4 (C.keep _ _ hR l4)).mono ?_
  rintro x w5 ⟨rfl, b5⟩
  have l5 := l4.trans (b5.mono l4.size)
  clear b5
  go_wp2_with fail
  refine (C.times a c w5 (C.keep _ _ hR l5)).mono ?_
  rintro x w6 ⟨rfl, b6⟩
  have l6 := l5.trans (b6.mono l5.size)
  clear b6
  go_wp2_with fail
  refine (C.times a b w6 (C.keep _ _ hR l6)).mono ?_
  rintro x w7 ⟨rfl, b7⟩
  have l7 := l6.trans (b7.mono l6.size)
  clear b7
  go_wp2_with fail
  refine (C.times (times a b) c w7 (C.keep _ _ hR l7)).mono ?_
  rintro x w8 ⟨rfl, b8⟩
  have l8 := l7.trans (b8.mono l7.size)
  clear b8
  go_wp2_with fail
  refine (C.times b c w8 (C.keep _ _ hR l8)).mono ?_
  rintro x w9 ⟨rfl, b9⟩
  have l9 := l8.trans (b9.mono l8.size)
  clear b9
  go_wp2_with fail
  refine (C.times a (times b c) w9 (C.keep _ _ hR l9)).mono ?_
  rw [← times_assoc a b c]
  rintro x w10 ⟨rfl, b10⟩
  have l10 := l9.trans (b10.mono l9.size)
  clear b10
  go_wp2_with fail
  refine (C.times 1 a w10 (C.keep _ _ hR l10)).mono ?_
  rw [times_one]
  rintro x w11 ⟨rfl, b11⟩
  have l11 := l10.trans (b11.mono l10.size)
  clear b11
  go_wp2_with fail
  refine (C.box a w11 (C.keep _ _ hR l11)).mono ?_
  rintro x w12 ⟨rfl, b12⟩
  have l12 := l11.trans (b12.mono l11.size)
  clear b12
  go_wp2_with fail
  refine (C.box b w12 (C.keep _ _ hR l12)).mono ?_
  rintro x w13 ⟨rfl, b13⟩
  have l13 := l12.trans (b13.mono l12.size)
  clear b13
  by_cases hab : a = b
  · subst hab
    go_wp2
    go_ret
    exact ⟨rfl, l13⟩
  · have e1 := byte_ne a b hab
    have e2 := byte_ne (box a) (box b) (fun h => hab (box_inj h))
    clear hab
    go_wp2
    go_ret
    exact ⟨rfl, l13⟩
end Go.Proofs.Ytapfanphlbcnjaa.Law03
