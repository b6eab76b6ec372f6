/-
  The document's store: where it lies; its New, power, Fuse, Sync.
-/
import Derived.Test.YthacldkmjpjgiaaStorePlain
import Derived.Test.YthacldkmjpjgiaaProg
import Derived.WalkSmall
import Derived.WalkMore
import Derived.OwnWalk
namespace Go.Proofs.Ythacldkmjpjgiaa.Store
open Go Go.RowKit Go.Proofs.Ythacldkmjpjgiaa.Aid Go.Proofs.Ythacldkmjpjgiaa.Cache

def stF (Bv : Value) (m : Nat) (s : St) (j : Nat) : Value := if j = 0 then Bv else if j = 1 then .int .i64 (s.sure : Int) else if j = 2 then .int .i64 (m : Int) else if j = 3 then .int .i64 s.burn else .bool s.down
theorem stF0 (Bv : Value) (m : Nat) (s : St) : stF Bv m s 0 = Bv := rfl
theorem stF1 (Bv : Value) (m : Nat) (s : St) : stF Bv m s 1 = .int .i64 (s.sure : Int) := rfl
theorem stF2 (Bv : Value) (m : Nat) (s : St) : stF Bv m s 2 = .int .i64 (m : Int) := rfl
theorem stF3 (Bv : Value) (m : Nat) (s : St) : stF Bv m s 3 = .int .i64 s.burn := rfl
theorem stF4 (Bv : Value) (m : Nat) (s : St) : stF Bv m s 4 = .bool s.down := rfl
structure RefStIn (W : World) (F : Nat → Prop) (g : Nat) (Bv : Value) (m : Nat) (s : St) : Prop where
  row : W.rowIs g 40 5 (stF Bv m s)
  fg : F g
  lt : ∀ b, F b → b < W.heap.size
  read : SliceOf W g s.n s.e Bv
  inF : ∀ b, Bv.ownBlock = some b → F b ∧ b ≠ g
  ok : s.ok m
  shape : (Bv = .slice none 0 0 ∧ s.n = 0) ∨ ∃ sb so c, Bv = .slice (some ⟨sb, so, none⟩) s.n c
def RefSt (W : World) (F : Nat → Prop) (v : Value) (m : Nat) (s : St) : Prop := ∃ g Bv, v = .pointer (some ⟨g, 0, none⟩) ∧ RefStIn W F g Bv m s
theorem slice_kept {W W' : World} {g g' n : Nat} {e : Nat → BitVec 8} {v : Value} (h : SliceOf W g n e v) (hk : ∀ b, v.ownBlock = some b → W'.heap[b]? = W.heap[b]?) (hg : ∀ b, v.ownBlock = some b → b ≠ g') : SliceOf W' g' n e v := by
  obtain ⟨A, c, rfl, hc, hr⟩ := h
  refine ⟨A, c, rfl, hc, fun h0 => ?_⟩
  obtain ⟨sb, so, rfl, hne, hj⟩ := hr h0
  refine ⟨sb, so, rfl, hg sb rfl, fun j hjn => ?_⟩
  rw [← hj j hjn]
  unfold World.cell?
  rw [hk sb rfl]
theorem RefStIn.kept {W W' : World} {F : Nat → Prop} {g : Nat} {Bv : Value} {m : Nat} {s : St} (h : RefStIn W F g Bv m s) (hk : ∀ b, F b → W'.heap[b]? = W.heap[b]?) : RefStIn W' F g Bv m s :=
  ⟨h.row.of_block (hk g h.fg), h.fg, fun b hb => by
    have h1 := hk b hb
    rw [Array.getElem?_eq_getElem (h.lt b hb)] at h1
    exact (Array.getElem?_eq_some_iff.1 h1).1, slice_kept h.read (fun b hb => hk b (h.inF b hb).1) (fun b hb => (h.inF b hb).2), h.inF, h.ok, h.shape⟩
theorem RefStIn.below {W W' : World} {F : Nat → Prop} {g : Nat} {Bv : Value} {m : Nat} {s : St} (h : RefStIn W F g Bv m s) (hb : Below W.heap.size W W') : RefStIn W' F g Bv m s := h.kept (fun b hf => hb.block b (h.lt b hf))
/-- A cell of it set. -/
theorem RefStIn.put {W : World} {F : Nat → Prop} {g : Nat} {Bv : Value} {m : Nat} {s s' : St} (h : RefStIn W F g Bv m s) (j : Nat) (u : Value) (hu : ∀ i, i < 5 → (if i = j then u else stF Bv m s i) = stF Bv m s' i) (hn : s'.n = s.n) (he : s'.e = s.e) (hok : s'.ok m) :
    RefStIn (W.setCell ⟨g, j, none⟩ u) F g Bv m s' ∧ Cache.Leaves F W (W.setCell ⟨g, j, none⟩ u) := by
  have oth : ∀ b, b ≠ g → (W.setCell ⟨g, j, none⟩ u).heap[b]? = W.heap[b]? := fun b hb => heap_setCell_other _ _ _ _ (by simpa using hb)
  have hsz : (W.setCell ⟨g, j, none⟩ u).heap.size = W.heap.size := by simp [World.setCell]
  refine ⟨⟨(h.row.set j u).congr (fun i hi => hu i hi), h.fg, fun b hb => by rw [hsz]; exact h.lt b hb, ?_, h.inF, hok, by rw [hn]; exact h.shape⟩, ⟨rfl, rfl, rfl, by rw [hsz]; exact Nat.le_refl _, fun b _ hn => oth b (fun e => hn (e ▸ h.fg))⟩⟩
  rw [hn, he]
  exact slice_kept h.read (fun b hb => oth b (h.inF b hb).2) (fun b hb => (h.inF b hb).2)
theorem newS_at (m : Nat) (i : Nat) (hi : i < 5) : (#[Value.slice none 0 0, .int .i64 0, .int .i64 (m : Int), .int .i64 (-1), .bool false] : Array Value)[i]? = some (stF (.slice none 0 0) m st0 i) := by
  match i, hi with
  | 0, _ => rfl
  | 1, _ => rfl
  | 2, _ => rfl
  | 3, _ => rfl
  | 4, _ => rfl
theorem refNew13_no (room : Int) (w : World) (h : ¬ (0 ≤ room ∧ room ≤ 1048576)) : Calls Try.prog 9 #[.int .i64 room] w fun x w' => x = .returned (.tuple #[.pointer none, .int .i64 1]) ∧ Below w.heap.size w w' := by
  by_cases h1 : room < 0
  · clear h
    go_enter Try.func9, Try.ntmps9
    go_wp2
    go_ret2
    exact ⟨rfl, Below.refl _ _⟩
  · have h2 : (1048576 : Int) < room := by omega
    clear h
    go_enter Try.func9, Try.ntmps9
    go_wp2
    go_ret2
    exact ⟨rfl, Below.refl _ _⟩
theorem refNew13_ok (room : Nat) (w : World) (h : room ≤ 1048576) : Calls Try.prog 9 #[.int .i64 (room : Int)] w fun x w' =>
    ∃ v F, x = .returned (.tuple #[v, .int .i64 0]) ∧ RefSt w' F v room st0 ∧ (∀ b, F b → w.heap.size ≤ b) ∧ Below w.heap.size w w' := by
  have h1 : ¬ (room : Int) < 0 := by omega
  have h2 : ¬ (1048576 : Int) < (room : Int) := by omega
  have hr : RefSt (w.alloc (.cells #[.slice none 0 0, .int .i64 0, .int .i64 (room : Int), .int .i64 (-1), .bool false] 40)) (fun b => b = w.heap.size) (.pointer (some ⟨w.heap.size, 0, none⟩)) room st0 :=
    ⟨w.heap.size, .slice none 0 0, rfl, row_new w _ _ 5 _ rfl (fun i hi => newS_at room i hi), rfl, fun b hb => by rw [hb]; simp, SliceOf.nil _ _ _, (fun b hb => by cases hb), ⟨Nat.le_refl _, Nat.zero_le _, h, by show (-1 : Int) ≤ -1; omega, by show (-1 : Int) ≤ _; omega⟩, .inl ⟨rfl, rfl⟩⟩
  have HR := Lib.hid hr
  have HB := Lib.hid ((Below.refl w.heap.size w).alloc (Nat.le_refl _) (.cells #[.slice none 0 0, .int .i64 0, .int .i64 (room : Int), .int .i64 (-1), .bool false] 40))
  clear h hr
  go_enter Try.func9, Try.ntmps9
  go_wp2
  go_ret2
  first
    | exact ⟨_, rfl, _, HR.out, fun b hb => Nat.le_of_eq hb.symm, HB.out⟩
    | exact ⟨_, _, rfl, HR.out, fun b hb => Nat.le_of_eq hb.symm, HB.out⟩
/-- What burning leaves, and what it answers. -/
theorem power_any {w : World} {F : Nat → Prop} {g : Nat} {Bv : Value} {m : Nat} {s : St} (h : RefStIn w F g Bv m s) :
    Calls Try.prog 29 #[.pointer (some ⟨g, 0, none⟩)] w fun e w' => e = .returned (.bool (power s)) ∧ RefStIn w' F g Bv m (burnS s) ∧ Cache.Leaves F w w' := by
  have c3 := h.row.cell (i := 3) (by omega)
  have c4 := h.row.cell (i := 4) (by omega)
  have f3 := h.row.frozen 3
  have f4 := h.row.frozen 4
  rw [stF3] at c3
  rw [stF4] at c4
  have hok := h.ok
  have H0 := Lib.hid h
  cases hd : s.down with
  | true =>
    rw [hd] at c4
    have hs : burnS s = { s with down := true } := by unfold burnS; rw [if_pos (.inl hd)]
    have hp : power s = false := by unfold power; rw [hd]; rfl
    have HP := Lib.hid (h.put 4 (.bool true) (s' := burnS s) (fun i hi => by rw [hs]; match i, hi with | 0, _ => rfl | 1, _ => rfl | 2, _ => rfl | 3, _ => rfl | 4, _ => rfl) (burn_n s).1 (burn_n s).2.1 (burn_ok h.ok))
    rw [hp]
    clear h hok hs hp
    go_enter Try.func29, Try.ntmps29
    go_wp2
    go_ret
    exact ⟨rfl, HP.out⟩
  | false =>
    rw [hd] at c4
    by_cases hb0 : s.burn = 0
    · have hs : burnS s = { s with down := true } := by unfold burnS; rw [if_pos (.inr hb0)]
      have hp : power s = false := by unfold power; rw [hd, hb0]; rfl
      have HP := Lib.hid (h.put 4 (.bool true) (s' := burnS s) (fun i hi => by rw [hs]; match i, hi with | 0, _ => rfl | 1, _ => rfl | 2, _ => rfl | 3, _ => rfl | 4, _ => rfl) (burn_n s).1 (burn_n s).2.1 (burn_ok h.ok))
      rw [hp]
      rw [hb0] at c3
      clear h hok hs hp
      go_enter Try.func29, Try.ntmps29
      go_wp2
      go_ret
      exact ⟨rfl, HP.out⟩
    · have hp : power s = true := by unfold power; rw [hd, decide_eq_false hb0]; rfl
      rw [hp]
      have q0 : (s.burn == 0) = false := by simp [hb0]
      by_cases hb1 : 0 < s.burn
      · have hs : burnS s = { s with burn := s.burn - 1 } := by unfold burnS; rw [if_neg (by rw [hd]; simp [hb0]), if_pos hb1]
        have HP := Lib.hid (h.put 3 (.int .i64 (s.burn - 1)) (s' := burnS s) (fun i hi => by rw [hs]; match i, hi with | 0, _ => rfl | 1, _ => rfl | 2, _ => rfl | 3, _ => rfl | 4, _ => rfl) (burn_n s).1 (burn_n s).2.1 (burn_ok h.ok))
        have hw : wrap64 (s.burn - 1) = s.burn - 1 := by unfold wrap64; have := hok.hi; omega
        clear h hok hs hp
        generalize s.burn = bu at *
        go_enter Try.func29, Try.ntmps29
        go_wp2
        rw [hw]
        go_ret
        exact ⟨rfl, HP.out⟩
      · have hs : burnS s = s := by unfold burnS; rw [if_neg (by rw [hd]; simp [hb0]), if_neg hb1]
        rw [hs]
        clear h hok hs hp
        generalize s.burn = bu at *
        go_enter Try.func29, Try.ntmps29
        go_wp2
        go_ret
        exact ⟨rfl, H0.out, Cache.Leaves.refl _ _⟩
end Go.Proofs.Ythacldkmjpjgiaa.Store
