/-
  What the document's Put does.
-/
import Derived.Test.YtmoepcobhapghaaRefDrop11
import Derived.Deep.DeepCutAuto
namespace Go.Proofs.Ytmoepcobhapghaa.Cache
open Go Go.RowKit Go.Proofs.Ytmoepcobhapghaa.Aid

theorem put_yes {α β : Type} [DecidableEq α] {m : Nat} {l : List (α × β)} {k : α} {v : β} (h : hasK (keysL l) k = true) : putL m l k v = setL l k v := by unfold putL; rw [if_pos h]
theorem put_no {α β : Type} [DecidableEq α] {m : Nat} {l : List (α × β)} {k : α} {v : β} (h : hasK (keysL l) k = false) : putL m l k v = roomK m l ++ [(k, v)] := by unfold putL; rw [h]; rfl
theorem ints_set (l : List (Int × ByteArray)) (k : Int) (v : ByteArray) : ints (setL l k v) = ints l := by
  have : ∀ l : List (Int × ByteArray), ints l = (keysL l).map (Value.int .i64) := fun l => by unfold ints keysL; rw [List.map_map]; rfl
  rw [this, this, keys_set]
theorem set_none {l : List (Int × ByteArray)} {k : Int} {v : ByteArray} (h : hasK (keysL l) k = false) : setL l k v = l := by
  unfold setL
  conv => rhs; rw [← List.map_id l]
  refine List.map_congr_left fun p hp => ?_
  have : p.1 ≠ k := fun e => by
    unfold hasK keysL at h
    exact absurd (List.mem_map.2 ⟨p, hp, e⟩) (of_decide_eq_false h)
  rw [if_neg this]
  rfl
theorem strs_set : ∀ (l : List (Int × ByteArray)) (k : Int) (v : ByteArray), (keysL l).Nodup → strs (setL l k v) = (strs l).set (atN (keysL l) k) (.string v)
  | [], _, _, _ => rfl
  | p :: l, k, v, hn => by
    have hk : keysL (p :: l) = p.1 :: keysL l := rfl
    rw [hk] at hn ⊢
    rw [at_cons]
    have hs : setL (p :: l) k v = (if p.1 = k then (k, v) else p) :: setL l k v := rfl
    rw [hs]
    by_cases e : p.1 = k
    · rw [if_pos e, if_pos e, set_none (by rw [← e]; exact not_has_of_nodup hn)]
      rfl
    · rw [if_neg e, if_neg e]
      show Value.string p.2 :: strs (setL l k v) = (Value.string p.2 :: strs l).set (atN (keysL l) k + 1) (.string v)
      rw [List.set_cons_succ, strs_set l k v (List.nodup_cons.1 hn).2]
theorem RefTab.store {W : World} {B g gv : Nat} {Kv : Value} {m n c : Nat} {l : List (Int × ByteArray)} (h : RefTab W B g Kv (.slice (some ⟨gv, 0, none⟩) n c) m l) (k : Int) (v : ByteArray) (hn : n = l.length) :
    RefTab (W.setCell ⟨gv, atN (keysL l) k, none⟩ (.string v)) B g Kv (.slice (some ⟨gv, 0, none⟩) n c) m (setL l k v) := by
  have hb : ∀ b, b ≠ gv → (W.setCell ⟨gv, atN (keysL l) k, none⟩ (.string v)).heap[b]? = W.heap[b]? := fun b hb => heap_setCell_other _ _ _ _ (by simpa using hb)
  have hv := h.vals
  unfold OwnV at hv
  rw [strs_len, ← hn] at hv
  have h2 := (World.ownsRow.stored hv (atN (keysL l) k) (.string v)).1
  rw [← strs_set l k v h.nodup] at h2
  refine ⟨h.row.of_block (hb g (fun e => h.vg (by rw [e]; rfl))), ?_, ?_, h.gB, h.kg, h.vg, h.kv, by rw [keys_set]; exact h.nodup, by unfold setL; rw [List.length_map]; exact h.len, h.most⟩
  · rw [ints_set]
    exact h.keys.keep (fun b hbb => hb b (fun e => h.kv b hbb (by rw [e]; rfl)))
  · unfold OwnV
    rw [show (strs (setL l k v)).length = n by rw [strs_len, hn]; unfold setL; exact List.length_map _]
    exact h2
set_option maxRecDepth 100000 in
set_option maxHeartbeats 2000000 in
theorem refPut_has {B g : Nat} {Kv Vv : Value} {m : Nat} {l : List (Int × ByteArray)} (k : Int) (v : ByteArray) (w : World) (h : RefTab w B g Kv Vv m l) (hk : hasK (keysL l) k = true) :
    Calls Try.prog 10 #[.pointer (some ⟨g, 0, none⟩), .int .i64 k, .string v] w fun x w' => x = .returned (.tuple #[.int .i64 0, .bool false]) ∧ RefTab w' B g Kv Vv m (setL l k v) ∧ Leaves (fun b => refF g Kv Vv b) w w' := by
  have HA := Lib.hid (refAt_any k w h)
  have hlt := at_lt hk
  have e1 : atI l k = (atN (keysL l) k : Int) := by unfold atI; rw [hk]; rfl
  rw [e1] at HA
  obtain ⟨A, c, hv, hcap, hc⟩ := h.vals.shape
  rw [strs_len] at hv hcap hc
  obtain ⟨gv, rfl, hk1, hk2, hk3, hk4⟩ := hc (by omega)
  have c2 := h.row.cell (i := 2) (by omega)
  rw [show tabF m Kv Vv 2 = Vv from rfl, hv] at c2
  have d0 := hk4 (atN (keysL l) k) _ (strs_at hlt)
  have hl := h.len
  have hm := h.most.2
  have hos := h.vals
  unfold OwnV at hos
  rw [strs_len, hv] at hos
  have f0 := World.ownsRow.frozenAt hos (atN (keysL l) k)
  subst hv
  have H := Lib.hid (h.store k v rfl)
  have HL : Hid (Leaves (fun b => refF g Kv (.slice (some ⟨gv, 0, none⟩) l.length c) b) w (w.setCell ⟨gv, atN (keysL l) k, none⟩ (.string v))) := Lib.hid ((leaves_set (Below.refl _ w)).mono (fun x _ hx => .inr (.inr (by rw [hx]; rfl))))
  have q1' : (atN (keysL l) k : Int) < (l.length : Int) := by omega
  generalize l[atN (keysL l) k].2 = z at *
  generalize l.length = n at *
  generalize atN (keysL l) k = i at *
  have q0 : (0 : Int) ≤ (i : Int) := by omega
  have q1 : (i : Int) < (n : Int) := q1'
  clear h hk e1 hlt hos hk4 hc q1'
  go_enter Try.func10, Try.ntmps10
  go_wp2_with (go_at_call 14; refine HA.out.mono ?_; rintro _ w1 ⟨rfl, rfl⟩)
  go_ret2
  exact ⟨rfl, H.out, HL.out⟩
end Go.Proofs.Ytmoepcobhapghaa.Cache
