/-
  What the document's Put does with a key that is not there.
-/
import Derived.Test.YtmoepcobhapghaaRefPut11
namespace Go.Proofs.Ytmoepcobhapghaa.Cache
open Go Go.RowKit Go.Proofs.Ytmoepcobhapghaa.Aid

theorem room_full {m : Nat} {l : List (Int × ByteArray)} (h : l.length = m) : roomK m l = l.eraseIdx 0 := by
  unfold roomK
  rw [if_pos h]
  cases l <;> rfl
theorem room_free {γ : Type} {m : Nat} {l : List γ} (h : ¬ l.length = m) : roomK m l = l := by unfold roomK; rw [if_neg h]
theorem room_nodup {l : List (Int × ByteArray)} {m : Nat} {k : Int} (hn : (keysL l).Nodup) (h : hasK (keysL l) k = false) (v : ByteArray) : (keysL (roomK m l ++ [(k, v)])).Nodup := by
  have e : keysL (roomK m l ++ [(k, v)]) = roomK m (keysL l) ++ [k] := by
    rw [← keys_room]
    exact List.map_append
  rw [e]
  have hr : (roomK m (keysL l)).Nodup := by
    unfold roomK
    split
    · exact hn.sublist (List.tail_sublist _)
    · exact hn
  refine List.nodup_append.2 ⟨hr, by simp, fun a ha b hb hab => ?_⟩
  simp at hb
  subst hb hab
  unfold hasK at h
  exact absurd (room_sub ha) (of_decide_eq_false h)
/-- The table while it is written: what holds of its memory alone. -/
structure RefRaw (W : World) (B g : Nat) (Kv Vv : Value) (m : Nat) (xs ys : List Value) : Prop where
  row : W.rowIs g 44 3 (tabF m Kv Vv)
  keys : OwnV W B 3 Kv xs
  vals : OwnV W B 9 Vv ys
  gB : B ≤ g
  kg : Kv.ownBlock ≠ some g
  vg : Vv.ownBlock ≠ some g
  kv : ∀ b, Kv.ownBlock = some b → Vv.ownBlock ≠ some b
section
variable {W W' W2 : World} {B g : Nat} {Kv Vv v2 : Value} {m : Nat} {xs ys zs : List Value}
theorem RefTab.raw {l : List (Int × ByteArray)} (h : RefTab W B g Kv Vv m l) : RefRaw W B g Kv Vv m (ints l) (strs l) := ⟨h.row, h.keys, h.vals, h.gB, h.kg, h.vg, h.kv⟩
theorem RefRaw.tab {l : List (Int × ByteArray)} (h : RefRaw W B g Kv Vv m (ints l) (strs l)) (hn : (keysL l).Nodup) (hl : l.length ≤ m) (hm : 1 ≤ m ∧ m ≤ 1000) : RefTab W B g Kv Vv m l := ⟨h.row, h.keys, h.vals, h.gB, h.kg, h.vg, h.kv, hn, hl, hm⟩
theorem RefRaw.below (h : RefRaw W B g Kv Vv m xs ys) (hb : Below W.heap.size W W') : RefRaw W' B g Kv Vv m xs ys :=
  ⟨h.row.of_block (hb.block g (World.rowIs.lt h.row)), h.keys.below hb, h.vals.below hb, h.gB, h.kg, h.vg, h.kv⟩
theorem OwnV.kept {w w' : World} {base : Nat} {e : TypeId} {v : Value} {row : Option Nat} (h : OwnV w base e v xs) (hg : w.grownBy w' row) (hne : ∀ b, v.ownBlock = some b → row ≠ some b) : OwnV w' base e v xs :=
  h.keep (fun b hb => hg.block b (h.lt b hb).2 (fun e => hne b hb e.symm))
theorem row_kept {w w' : World} {t n : Nat} {f : Nat → Value} {row : Option Nat} (h : w.rowIs g t n f) (hg : w.grownBy w' row) (hne : row ≠ some g) : w'.rowIs g t n f :=
  h.of_block (hg.block g (World.rowIs.lt h) (fun e => hne e.symm))
theorem leaves_grown_set {F : Nat → Prop} {j : Nat} {u : Value} {row : Option Nat} (hg : W.grownBy W2 row) (h1 : ∀ b, row = some b → F b) (h2 : F g) : Leaves F W (W2.setCell ⟨g, j, none⟩ u) :=
  ⟨by simpa [World.setCell] using hg.os, by simpa [World.setCell] using hg.tape, by simpa [World.setCell] using hg.output, by have := hg.size; simpa [World.setCell] using this,
    fun b hb hn => (heap_setCell_other _ _ _ _ (by intro e; simp at e; exact hn (e ▸ h2))).trans (hg.block b hb (fun e => hn (h1 b e.symm)))⟩
theorem RefRaw.push1 (h : RefRaw W B g Kv Vv m xs ys) (ho : OwnV W2 B 3 v2 zs) (hg : W.grownBy W2 Kv.ownBlock) (hat : v2.ownBlock = Kv.ownBlock ∨ v2.ownBlock = some W.heap.size) :
    RefRaw (W2.setCell ⟨g, 1, none⟩ v2) B g v2 Vv m zs ys ∧ Leaves (refF g Kv Vv) W (W2.setCell ⟨g, 1, none⟩ v2) ∧ W2.cell? ⟨g, 1, none⟩ = some Kv ∧ W2.frozen? ⟨g, 1, none⟩ = false := by
  have hr := row_kept h.row hg h.kg
  have hgl := World.rowIs.lt h.row
  have hv2 : v2.ownBlock ≠ some g := fun e => by
    rcases hat with h1 | h1
    · exact h.kg (h1 ▸ e)
    · rw [h1] at e; simp at e; omega
  have hvv : ∀ b, v2.ownBlock = some b → Vv.ownBlock ≠ some b := fun b hb hb' => by
    rcases hat with h1 | h1
    · exact h.kv b (h1 ▸ hb) hb'
    · rw [h1] at hb; simp at hb; have := (h.vals.lt b hb').2; omega
  have oth : ∀ b, b ≠ g → (W2.setCell ⟨g, 1, none⟩ v2).heap[b]? = W2.heap[b]? := fun b hb => heap_setCell_other _ _ _ _ (by simpa using hb)
  refine ⟨⟨(hr.set 1 v2).congr (fun j hj => tab_set1 m _ _ _ j hj), ho.keep (fun b hb => oth b (fun e => hv2 (e ▸ hb))), (h.vals.kept hg (fun b hb hk => h.kv b hk hb)).keep (fun b hb => oth b (fun e => h.vg (e ▸ hb))), h.gB, hv2, h.vg, hvv⟩, leaves_grown_set hg (fun b hb => .inr (.inl hb)) (.inl rfl), hr.cell (i := 1) (by omega), hr.frozen 1⟩
theorem RefRaw.push2 (h : RefRaw W B g Kv Vv m xs ys) (ho : OwnV W2 B 9 v2 zs) (hg : W.grownBy W2 Vv.ownBlock) (hat : v2.ownBlock = Vv.ownBlock ∨ v2.ownBlock = some W.heap.size) :
    RefRaw (W2.setCell ⟨g, 2, none⟩ v2) B g Kv v2 m xs zs ∧ Leaves (refF g Kv Vv) W (W2.setCell ⟨g, 2, none⟩ v2) ∧ W2.cell? ⟨g, 2, none⟩ = some Vv ∧ W2.frozen? ⟨g, 2, none⟩ = false := by
  have hr := row_kept h.row hg h.vg
  have hgl := World.rowIs.lt h.row
  have hv2 : v2.ownBlock ≠ some g := fun e => by
    rcases hat with h1 | h1
    · exact h.vg (h1 ▸ e)
    · rw [h1] at e; simp at e; omega
  have hvv : ∀ b, Kv.ownBlock = some b → v2.ownBlock ≠ some b := fun b hb hb' => by
    rcases hat with h1 | h1
    · exact h.kv b hb (h1 ▸ hb')
    · rw [h1] at hb'; simp at hb'; have := (h.keys.lt b hb).2; omega
  have oth : ∀ b, b ≠ g → (W2.setCell ⟨g, 2, none⟩ v2).heap[b]? = W2.heap[b]? := fun b hb => heap_setCell_other _ _ _ _ (by simpa using hb)
  refine ⟨⟨(hr.set 2 v2).congr (fun j hj => tab_set2 m _ _ _ j hj), (h.keys.kept hg (fun b hb hk => h.kv b hb hk)).keep (fun b hb => oth b (fun e => h.kg (e ▸ hb))), ho.keep (fun b hb => oth b (fun e => hv2 (e ▸ hb))), h.gB, h.kg, hv2, hvv⟩, leaves_grown_set hg (fun b hb => .inr (.inr hb)) (.inl rfl), hr.cell (i := 2) (by omega), hr.frozen 2⟩
end
theorem head_key {l : List (Int × ByteArray)} (h : 0 < l.length) : (keysL l).headD 0 = l[0].1 := by
  cases l with
  | nil => simp at h
  | cons p l => rfl
set_option maxRecDepth 100000 in
set_option maxHeartbeats 2000000 in
theorem refPut_no {B g : Nat} {Kv Vv : Value} {m : Nat} {l : List (Int × ByteArray)} (k : Int) (v : ByteArray) (w : World) (h : RefTab w B g Kv Vv m l) (hk : hasK (keysL l) k = false) :
    Calls Try.prog 10 #[.pointer (some ⟨g, 0, none⟩), .int .i64 k, .string v] w fun x w' => x = .returned (.tuple #[.int .i64 (goneK 0 m (keysL l) k), .bool (goneB m (keysL l) k)]) ∧
      ∃ Kv' Vv', RefTab w' B g Kv' Vv' m (roomK m l ++ [(k, v)]) ∧ Leaves (fun b => refF g Kv Vv b) w w' ∧ ∀ b, refF g Kv' Vv' b → refF g Kv Vv b ∨ w.heap.size ≤ b := by
  have HA := Lib.hid (refAt_any k w h)
  have e1 : atI l k = -1 := by unfold atI; rw [hk]; rfl
  rw [e1] at HA
  have H := Lib.hid h
  have HK := Lib.hid hk
  have hl := h.len
  have hm := h.most
  obtain ⟨A, c, hv, hcap, hc⟩ := h.keys.shape
  rw [ints_len] at hv hcap hc
  have HC := Lib.hid hc
  have c0 := h.row.cell (i := 0) (by omega)
  have c1 := h.row.cell (i := 1) (by omega)
  rw [show tabF m Kv Vv 0 = .int .i64 (m : Int) from rfl] at c0
  rw [show tabF m Kv Vv 1 = Kv from rfl, hv] at c1
  obtain ⟨n, hn⟩ : ∃ n, n = l.length := ⟨_, rfl⟩
  rw [← hn] at hv hcap hl c1
  have HN := Lib.hid hn
  clear h hk e1 hn hc
  go_enter Try.func10, Try.ntmps10
  go_wp2_with (go_at_call 14; refine HA.out.mono ?_; rintro _ w1 ⟨rfl, rfl⟩)
  refine region_still (by kernel_rfl) (by kernel_rfl) ?_
  repeat still_step
  refine wpStill_nil ?_
  go_upto_if 32 with fail
  go_cut [9, 10] (fun z b wx => z = .int .i64 (goneK 0 m (keysL l) k) ∧ b = .bool (goneB m (keysL l) k) ∧ ∃ Kv' Vv', Hid (RefTab wx B g Kv' Vv' m (roomK m l)) ∧ Hid (Leaves (fun b => refF g Kv Vv b) w wx) ∧ Hid (∀ b, refF g Kv' Vv' b → refF g Kv Vv b ∨ w.heap.size ≤ b))
  case first =>
    by_cases hfull : n = m
    · have hf : ((n : Int) == (m : Int)) = true := by simp [hfull]
      obtain ⟨gk, rfl, hk1, hk2, hk3, hk4⟩ := HC.out (by have := HN.out; omega)
      have hl0 : 0 < l.length := by have := HN.out; omega
      have d0 := hk4 0 _ (ints_at hl0)
      have q1 : (0 : Int) < (n : Int) := by omega
      have hgo : goneB m (keysL l) k = true := by unfold goneB; rw [HK.out, keys_len, ← HN.out, hfull]; simp
      have E1 : Hid (goneK 0 m (keysL l) k = l[0].1) := Lib.hid ((gone_head hgo).trans (head_key hl0))
      have E2 := Lib.hid hgo
      have HO := Lib.hid (refOut_any 0 w.drew (H.out.below (Below.refl _ _).drew) hl0)
      have E3 : Hid (roomK m l = l.eraseIdx 0) := Lib.hid (room_full (by rw [← HN.out, hfull]))
      clear hk4 HC hgo hk1 hk2 hk3
      generalize l[0].1 = z at *
      go_wp2_with (go_at_call 25; refine HO.out.mono ?_; rintro _ w2 ⟨rfl, Kv', Vv', h1, h2, h3⟩
                   have H1 := Lib.hid h1
                   have H2 := Lib.hid h2
                   have H3 := Lib.hid h3
                   clear h1 h2 h3)
      go_meet
      exact ⟨by rw [E1.out], by rw [E2.out], Kv', Vv', by rw [E3.out]; exact H1, Lib.hid ((Leaves.refl _ w).drew.trans H2.out (fun x hx _ => (Or.inl hx : refF g _ _ x))), fun b hb => (H3.out b hb).imp (fun e => .inl e) id⟩
    · have hf : ((n : Int) == (m : Int)) = false := by simp; omega
      have hgo : goneB m (keysL l) k = false := by unfold goneB; rw [HK.out, keys_len, ← HN.out]; simp [hfull]
      have E1 : Hid (goneK 0 m (keysL l) k = 0) := Lib.hid (gone_not hgo)
      have E2 := Lib.hid hgo
      have E3 : Hid (roomK m l = l) := Lib.hid (room_free (by rw [← HN.out]; exact hfull))
      clear HC hgo
      go_wp2
      go_meet
      exact ⟨by rw [E1.out], by rw [E2.out], Kv, Vv, by rw [E3.out]; exact H.out.below (Below.refl _ _).drew, (Leaves.refl _ _).drew, fun b hb => .inl hb⟩
  case rest =>
    clear HC c0 c1 hcap hv
    obtain ⟨rfl, rfl, Kv', Vv', h1, h2, h3⟩ := hcut
    have hlen1 : (roomK m l).length + 1 ≤ m := len_room m l (by have := HN.out; omega) hm.1
    have hn2 := room_nodup (m := m) H.out.nodup HK.out v
    have hb1 : Below wc.heap.size wc (wc.alloc (.cells #[.int .i64 k] 3)) := (Below.refl _ _).alloc (Nat.le_refl _) _
    have HR1 := Lib.hid (h1.out.raw.below hb1)
    have HL1 : Hid (Leaves (fun b => refF g Kv Vv b) w (wc.alloc (.cells #[.int .i64 k] 3))) := Lib.hid (h2.out.trans (Leaves.of_below hb1) (fun _ hx _ => hx))
    have HS1 : Hid (B ≤ (wc.alloc (.cells #[.int .i64 k] 3)).heap.size) := Lib.hid (by have := h1.out.gB; have := World.rowIs.lt h1.out.row; have := hb1.size; omega)
    have HC1 : Hid (∀ (j : Nat) (u : Value), [Value.int .i64 k][j]? = some u → (wc.alloc (.cells #[.int .i64 k] 3)).cell? ⟨wc.heap.size, 0 + j, none⟩ = some u) := fun j u hj => by
      match j, hj with
      | 0, hj => rw [World.cell?_alloc_new]; exact hj
    obtain ⟨A1, z1, hv1, -, -⟩ := HR1.out.keys.shape
    generalize hx1 : (ints (roomK m l)).length = n1 at hv1
    have HX1 : Hid (n1 + 1 ≤ m) := Lib.hid (by rw [← hx1, ints_len]; exact hlen1)
    subst hv1
    have d1 := h1.out.row.cell (i := 1) (by omega)
    rw [show tabF m (.slice A1 n1 z1) Vv' 1 = .slice A1 n1 z1 from rfl] at d1
    have HXL : Hid ((ints (roomK m l)).length + 1 ≤ 1000000) := Lib.hid (by have := HX1.out; omega)
    have HG : Hid (∀ b, refF g (.slice A1 n1 z1) Vv' b → refF g Kv Vv b ∨ w.heap.size ≤ b) := h3
    have HW : Hid (w.heap.size ≤ wc.heap.size) := h2.out.size
    clear h1 h2 h3 hb1 hx1 hlen1
    go_upto_region 12 with (at_builtin; refine append_vals (by rfl) (.tmp 45) (.tmp 47) 40 (by rfl) B 3 _ _ Try.underlying40 info_int (by rfl) (by omega) (ints (roomK m l)) _ (by rfl) HR1.out.keys wc.heap.size 0 1 1 [.int .i64 k] (by rfl) rfl HC1.out (fun u hu => by simp at hu; rw [hu]; rfl) HXL.out HS1.out ?_; intro v2 W2 hown2 hg2 hat2; obtain ⟨A2, z2, hv2, -, -⟩ := hown2.shape; generalize (ints (roomK m l) ++ [Value.int .i64 k]).length = n2 at hv2; subst hv2; obtain ⟨p1, p2, p3, p4⟩ := HR1.out.push1 hown2 hg2 hat2; have P1 := Lib.hid p1; have P2 := Lib.hid p2; have hk2 := Lib.hid hat2; have hs2 := Lib.hid hg2.size; clear p1 p2 hown2 hg2 hat2 HC1)
    clear p3 p4 d1
    generalize W2.setCell ⟨g, 1, none⟩ (.slice A2 n2 z2) = W3 at *
    have HL3 : Hid (Leaves (fun b => refF g Kv Vv b) w W3) := Lib.hid (HL1.out.trans P2.out (fun x hx hlt => (HG.out x hx).resolve_right (by omega)))
    have HG3 : Hid (∀ b, refF g (.slice A2 n2 z2) Vv' b → refF g Kv Vv b ∨ w.heap.size ≤ b) := Lib.hid (fun b hb => by
      rcases hb with hb | hb | hb
      · exact HG.out b (.inl hb)
      · rcases hk2.out with e | e
        · exact HG.out b (.inr (.inl (e ▸ hb)))
        · rw [e] at hb
          simp at hb
          have := HW.out
          exact .inr (by omega)
      · exact HG.out b (.inr (.inr hb)))
    clear HL1 HG HS1 HR1 P2 hk2 hs2
    obtain ⟨A3, z3, hv3, -, -⟩ := P1.out.vals.shape
    generalize hx3 : (strs (roomK m l)).length = n3 at hv3
    have HX3 : Hid ((strs (roomK m l)).length + 1 ≤ 1000000) := Lib.hid (by have := HXL.out; rw [ints_len] at this; rw [strs_len]; exact this)
    subst hv3
    have hb3 : Below W3.heap.size W3 (W3.alloc (.cells #[.string v] 9)) := (Below.refl _ _).alloc (Nat.le_refl _) _
    have HR3 := Lib.hid (P1.out.below hb3)
    have HL4 : Hid (Leaves (fun b => refF g Kv Vv b) w (W3.alloc (.cells #[.string v] 9))) := Lib.hid (HL3.out.trans (Leaves.of_below hb3) (fun _ hx _ => hx))
    have HS3 : Hid (B ≤ (W3.alloc (.cells #[.string v] 9)).heap.size) := Lib.hid (by have := P1.out.gB; have := World.rowIs.lt P1.out.row; have := hb3.size; omega)
    have HC3 : Hid (∀ (j : Nat) (u : Value), [Value.string v][j]? = some u → (W3.alloc (.cells #[.string v] 9)).cell? ⟨W3.heap.size, 0 + j, none⟩ = some u) := fun j u hj => by
      match j, hj with
      | 0, hj => rw [World.cell?_alloc_new]; exact hj
    have d3 := P1.out.row.cell (i := 2) (by omega)
    rw [show tabF m (.slice A2 n2 z2) (.slice A3 n3 z3) 2 = .slice A3 n3 z3 from rfl] at d3
    have HW3 : Hid (w.heap.size ≤ W3.heap.size) := HL3.out.size
    clear hb3 HL3 P1 hx3
    go_upto_region 13 with (at_builtin; refine append_vals (by rfl) (.tmp 55) (.tmp 57) 42 (by rfl) B 9 _ _ Try.underlying42 info_str (by rfl) (by omega) (strs (roomK m l)) _ (by rfl) HR3.out.vals W3.heap.size 0 1 1 [.string v] (by rfl) rfl HC3.out (fun u hu => by simp at hu; rw [hu]; rfl) HX3.out HS3.out ?_; intro v4 W4 hown4 hg4 hat4; obtain ⟨A4, z4, hv4, -, -⟩ := hown4.shape; generalize (strs (roomK m l) ++ [Value.string v]).length = n4 at hv4; subst hv4; obtain ⟨p1, p2, p3, p4⟩ := HR3.out.push2 hown4 hg4 hat4; have P1 := Lib.hid p1; have P2 := Lib.hid p2; have hk4 := Lib.hid hat4; clear p1 p2 hown4 hg4 hat4 HC3)
    clear p3 p4 d3
    generalize W4.setCell ⟨g, 2, none⟩ (.slice A4 n4 z4) = W5 at *
    have HL5 : Hid (Leaves (fun b => refF g Kv Vv b) w W5) := Lib.hid (HL4.out.trans P2.out (fun x hx hlt => (HG3.out x hx).resolve_right (by omega)))
    have HG5 : Hid (∀ b, refF g (.slice A2 n2 z2) (.slice A4 n4 z4) b → refF g Kv Vv b ∨ w.heap.size ≤ b) := Lib.hid (fun b hb => by
      rcases hb with hb | hb | hb
      · exact HG3.out b (.inl hb)
      · exact HG3.out b (.inr (.inl hb))
      · rcases hk4.out with e | e
        · exact HG3.out b (.inr (.inr (e ▸ hb)))
        · rw [e] at hb
          simp at hb
          have := HW3.out
          exact .inr (by omega))
    have HT : Hid (RefTab W5 B g (.slice A2 n2 z2) (.slice A4 n4 z4) m (roomK m l ++ [(k, v)])) := Lib.hid (RefRaw.tab (by
      rw [show ints (roomK m l ++ [(k, v)]) = ints (roomK m l) ++ [.int .i64 k] from List.map_append, show strs (roomK m l ++ [(k, v)]) = strs (roomK m l) ++ [.string v] from List.map_append]
      exact P1.out) hn2 (by rw [List.length_append]; have := HX1.out; have := HN.out; have := len_room m l (by omega) hm.1; simpa using this) hm)
    clear HR3 HL4 HS3 HG3 P1 P2 hk4 HXL HX3 HW3 HW hn2
    go_wp2
    go_ret2
    exact ⟨rfl, _, _, HT.out, HL5.out, HG5.out⟩
theorem refPut_any {B g : Nat} {Kv Vv : Value} {m : Nat} {l : List (Int × ByteArray)} (k : Int) (v : ByteArray) (w : World) (h : RefTab w B g Kv Vv m l) :
    Calls Try.prog 10 #[.pointer (some ⟨g, 0, none⟩), .int .i64 k, .string v] w fun x w' => x = .returned (.tuple #[.int .i64 (goneK 0 m (keysL l) k), .bool (goneB m (keysL l) k)]) ∧
      ∃ Kv' Vv', RefTab w' B g Kv' Vv' m (putL m l k v) ∧ Leaves (fun b => refF g Kv Vv b) w w' ∧ ∀ b, refF g Kv' Vv' b → refF g Kv Vv b ∨ w.heap.size ≤ b := by
  cases hk : hasK (keysL l) k with
  | false =>
    rw [put_no hk]
    exact refPut_no k v w h hk
  | true =>
    have hg : goneB m (keysL l) k = false := by unfold goneB; rw [hk]; rfl
    rw [put_yes hk, gone_not hg, hg]
    exact (refPut_has k v w h hk).mono (fun x w' ⟨h1, h2, h3⟩ => ⟨h1, Kv, Vv, h2, h3, fun b hb => .inl hb⟩)
end Go.Proofs.Ytmoepcobhapghaa.Cache
