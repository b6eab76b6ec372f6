/-
  What the document's Drop does.
-/
import Derived.Test.YtmoepcobhapghaaRefOut
namespace Go.Proofs.Ytmoepcobhapghaa.Cache
open Go Go.RowKit Go.Proofs.Ytmoepcobhapghaa.Aid

section
variable {α β : Type} [DecidableEq α]
theorem at_cons (x : α) (c : List α) (k : α) : atN (x :: c) k = if x = k then 0 else atN c k + 1 := by
  unfold atN
  rw [List.findIdx_cons]
  by_cases h : x = k
  · rw [decide_eq_true h, if_pos h]; rfl
  · rw [decide_eq_false h, if_neg h]; rfl
theorem drop_none {l : List (α × β)} {k : α} (h : hasK (keysL l) k = false) : dropL l k = l := by
  unfold dropL
  refine List.filter_eq_self.2 fun p hp => ?_
  refine decide_eq_true fun e => ?_
  unfold hasK keysL at h
  exact absurd (List.mem_map.2 ⟨p, hp, e⟩) (of_decide_eq_false h)
theorem not_has_of_nodup {x : α} {c : List α} (h : (x :: c).Nodup) : hasK c x = false := by
  unfold hasK
  exact decide_eq_false (List.nodup_cons.1 h).1
theorem drop_erase : ∀ (l : List (α × β)) (k : α), (keysL l).Nodup → hasK (keysL l) k = true → dropL l k = l.eraseIdx (atN (keysL l) k)
  | [], k, _, h => by simp [hasK, keysL] at h
  | p :: l, k, hn, h => by
    have hk : keysL (p :: l) = p.1 :: keysL l := rfl
    rw [hk] at hn h ⊢
    rw [at_cons]
    by_cases e : p.1 = k
    · rw [if_pos e, List.eraseIdx_cons_zero]
      have h2 := drop_none (l := l) (k := k) (by rw [← e]; exact not_has_of_nodup hn)
      unfold dropL at h2 ⊢
      rw [List.filter_cons, if_neg (by simp [e]), h2]
    · rw [if_neg e, List.eraseIdx_cons_succ, ← drop_erase l k (List.nodup_cons.1 hn).2 (by
        unfold hasK at h ⊢
        have := of_decide_eq_true h
        rw [List.mem_cons] at this
        rcases this with h1 | h1
        · exact absurd h1.symm e
        · exact decide_eq_true h1)]
      unfold dropL
      rw [List.filter_cons, if_pos (by simp [e])]
end
theorem at_lt {l : List (Int × ByteArray)} {k : Int} (h : hasK (keysL l) k = true) : atN (keysL l) k < l.length := by
  rw [at_has] at h
  have := of_decide_eq_true h
  rwa [keys_len] at this
set_option maxRecDepth 100000 in
theorem refDrop_any {B g : Nat} {Kv Vv : Value} {m : Nat} {l : List (Int × ByteArray)} (k : Int) (w : World) (h : RefTab w B g Kv Vv m l) :
    Calls Try.prog 12 #[.pointer (some ⟨g, 0, none⟩), .int .i64 k] w fun x w' => x = .returned (.bool (hasK (keysL l) k)) ∧ ∃ Kv' Vv', RefTab w' B g Kv' Vv' m (dropL l k) ∧ Leaves (fun b => refF g Kv Vv b) w w' ∧ ∀ b, refF g Kv' Vv' b → refF g Kv Vv b ∨ w.heap.size ≤ b := by
  have HA := Lib.hid (refAt_any k w h)
  have H := Lib.hid h
  cases hk : hasK (keysL l) k with
  | false =>
    have e1 : atI l k = -1 := by unfold atI; rw [hk]; rfl
    rw [e1] at HA
    have e2 := Lib.hid (drop_none hk)
    clear h hk e1
    go_enter Try.func12, Try.ntmps12
    go_wp2_with (go_at_call 14; refine HA.out.mono ?_; rintro _ w1 ⟨rfl, rfl⟩)
    go_ret
    exact ⟨rfl, Kv, Vv, by rw [e2.out]; exact H.out, Leaves.refl _ _, fun b hb => .inl hb⟩
  | true =>
    have hlt := at_lt hk
    have e1 : atI l k = (atN (keysL l) k : Int) := by unfold atI; rw [hk]; rfl
    rw [e1] at HA
    have e2 := Lib.hid (drop_erase l k h.nodup hk)
    have HO := Lib.hid (refOut_any (atN (keysL l) k) w h hlt)
    generalize atN (keysL l) k = i at *
    have q0 : (0 : Int) ≤ (i : Int) := by omega
    clear h hk e1 hlt
    go_enter Try.func12, Try.ntmps12
    go_wp2_with (first
      | (go_at_call 14; refine HA.out.mono ?_; rintro _ w1 ⟨rfl, rfl⟩)
      | (go_at_call 25; refine HO.out.mono ?_; rintro _ w2 ⟨rfl, Kv', Vv', h1, h2, h3⟩
         have H1 := Lib.hid h1
         have H2 := Lib.hid h2
         have H3 := Lib.hid h3
         clear h1 h2 h3))
    go_ret
    exact ⟨rfl, Kv', Vv', by rw [e2.out]; exact H1.out, H2.out.mono (fun x _ hx => .inl hx), fun b hb => (H3.out b hb).imp (fun e => .inl e) id⟩
end Go.Proofs.Ytmoepcobhapghaa.Cache
