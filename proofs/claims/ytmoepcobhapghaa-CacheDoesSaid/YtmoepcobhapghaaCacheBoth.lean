/-
  The program's table and the document's, side by side, and blocks X that neither touches.
-/
import Derived.Test.YtmoepcobhapghaaCacheHeld
import Derived.Test.YtmoepcobhapghaaRefPut11B
namespace Go.Proofs.Ytmoepcobhapghaa.Cache
open Go Go.RowKit Go.Proofs.Ytmoepcobhapghaa.Aid

structure Both (Rep : RepI) (w0 W : World) (X : Nat → Prop) (t : Value) (g : Nat) (Kv Vv : Value) (m : Nat) (lt lr : List (Int × ByteArray)) : Prop where
  held : Held Rep w0 W (fun b => refF g Kv Vv b ∨ X b) t m lt
  tab : RefTab W w0.heap.size g Kv Vv m lr
  off : ∀ b, X b → ¬ refF g Kv Vv b
section
variable {Rep : RepI} {w0 W W' : World} {X X' : Nat → Prop} {t : Value} {g : Nat} {Kv Vv Kv' Vv' : Value} {m : Nat} {lt lt' lr lr' : List (Int × ByteArray)}
theorem RefTab.heap (h : RefTab W w0.heap.size g Kv Vv m lr) (hk : ∀ b, refF g Kv Vv b → W'.heap[b]? = W.heap[b]?) : RefTab W' w0.heap.size g Kv Vv m lr :=
  ⟨h.row.of_block (hk g (.inl rfl)), h.keys.keep (fun b hb => hk b (.inr (.inl hb))), h.vals.keep (fun b hb => hk b (.inr (.inr hb))), h.gB, h.kg, h.vg, h.kv, h.nodup, h.len, h.most⟩
theorem Both.bel (h : Both Rep w0 W X t g Kv Vv m lt lr) : Below w0.heap.size w0 W := h.held.bel
/-- A call on the program's table. -/
theorem Both.prog (h : Both Rep w0 W X t g Kv Vv m lt lr) (h1 : Held Rep w0 W' (fun b => refF g Kv Vv b ∨ X b) t m lt') (h2 : Keep (fun b => refF g Kv Vv b ∨ X b) W W') : Both Rep w0 W' X t g Kv Vv m lt' lr ∧ Keep X W W' :=
  ⟨⟨h1, h.tab.heap (fun b hb => h2 b (.inl hb)), h.off⟩, fun b hb => h2 b (.inr hb)⟩
/-- A call on the document's. -/
theorem Both.ref (H : CacheHas Rep) (h : Both Rep w0 W X t g Kv Vv m lt lr) (h1 : RefTab W' w0.heap.size g Kv' Vv' m lr') (h2 : Leaves (fun b => refF g Kv Vv b) W W') (h3 : ∀ b, refF g Kv' Vv' b → refF g Kv Vv b ∨ W.heap.size ≤ b) : Both Rep w0 W' X t g Kv' Vv' m lt lr' ∧ Keep X W W' := by
  obtain ⟨F, h4⟩ := h.held
  have hX : ∀ b, X b → W'.heap[b]? = W.heap[b]? := fun b hb => h2.block b (h4.old b (.inr hb)) (h.off b hb)
  refine ⟨⟨⟨F, H.tab.keep h4.rep (fun b hb => h2.block b (h4.lt b hb) (fun hr => h4.apart b hb (.inl hr))), fun b hb => Nat.lt_of_lt_of_le (h4.lt b hb) h2.size, h4.ge, fun b hb hk => ?_, h4.bel.trans (h2.below h4.bel.size (fun b hb => (h.tab.lt b hb).1)), fun b hk => ?_⟩, h1, fun b hb hr => ?_⟩, hX⟩
  · rcases hk with hk | hk
    · rcases h3 b hk with h5 | h5
      · exact h4.apart b hb (.inl h5)
      · have := h4.lt b hb; omega
    · exact h4.apart b hb (.inr hk)
  · rcases hk with hk | hk
    · exact (h1.lt b hk).2
    · exact Nat.lt_of_lt_of_le (h4.old b (.inr hk)) h2.size
  · rcases h3 b hr with h5 | h5
    · exact h.off b hb h5
    · have := h4.old b (.inr hb); omega
/-- What makes memory alone; blocks more that are kept. -/
theorem Both.below (H : CacheHas Rep) (h : Both Rep w0 W X t g Kv Vv m lt lr) (hb : Below W.heap.size W W') (hX : ∀ b, X' b → X b ∨ (W.heap.size ≤ b ∧ b < W'.heap.size)) : Both Rep w0 W' X' t g Kv Vv m lt lr := by
  refine ⟨H.tab.more h.held hb (fun b hk => ?_), h.tab.below hb, fun b hx hr => ?_⟩
  · rcases hk with hk | hk
    · exact .inl (.inl hk)
    · exact (hX b hk).imp (fun h => .inr h) id
  · rcases hX b hx with h5 | h5
    · exact h.off b h5 hr
    · have := (h.tab.lt b hr).2; omega
theorem Both.less (h : Both Rep w0 W X t g Kv Vv m lt lr) (hX : ∀ b, X' b → X b) : Both Rep w0 W X' t g Kv Vv m lt lr :=
  ⟨h.held.less (fun b hk => hk.imp id (hX b)), h.tab, fun b hx => h.off b (hX b hx)⟩
/-- Both are new. -/
theorem Both.start (H : CacheHas Rep) (h : Held Rep w0 W (fun _ => False) t m []) (h1 : RefTab W' w0.heap.size W.heap.size (.slice none 0 0) (.slice none 0 0) m []) (h2 : Below W.heap.size W W') : Both Rep w0 W' (fun _ => False) t W.heap.size (.slice none 0 0) (.slice none 0 0) m [] [] := by
  refine ⟨H.tab.more h h2 (fun b hk => ?_), h1, fun b hb => hb.elim⟩
  rcases hk with hk | hk
  · rcases hk with rfl | hk | hk
    · exact .inr ⟨Nat.le_refl _, (h1.lt _ (.inl rfl)).2⟩
    · cases hk
    · cases hk
  · exact hk.elim
end
section
variable {Rep : RepI} {w0 W : World} {X : Nat → Prop} {t : Value} {g : Nat} {Kv Vv : Value} {m : Nat} {lt lr : List (Int × ByteArray)}
theorem ints_get {l : List (Int × ByteArray)} {i : Nat} (h : i < (ints l).length) : (ints l)[i]? = some (.int .i64 ((keysL l).getD i 0)) := by
  rw [ints_len] at h
  rw [ints_at h, List.getD_eq_getElem?_getD]
  unfold keysL
  rw [List.getElem?_map, List.getElem?_eq_getElem h]
  rfl
/-- The document's keys, as they are read. -/
theorem Both.read (h : Both Rep w0 W X t g Kv Vv m lt lr) : ∃ A c, Kv = .slice A lr.length c ∧ W.cell? ⟨g, 1, none⟩ = some Kv ∧ ListAt W Kv lr.length (fun i => .int .i64 ((keysL lr).getD i 0)) := by
  obtain ⟨A, c, hv, _, _⟩ := h.tab.keys.shape
  rw [ints_len] at hv
  have := h.tab.keys.list (fun i => .int .i64 ((keysL lr).getD i 0)) (fun i hi => ints_get hi)
  rw [ints_len] at this
  exact ⟨A, c, hv, h.tab.row.cell (i := 1) (by omega), this⟩
theorem Both.readL (h : Both Rep w0 W X t g Kv Vv m lt lr) : ListAt W Kv lr.length (fun i => .int .i64 ((keysL lr).getD i 0)) := by
  obtain ⟨_, _, _, _, h1⟩ := h.read
  exact h1
theorem Both.readV (h : Both Rep w0 W X t g Kv Vv m lt lr) : ∃ A c, Vv = .slice A lr.length c ∧ W.cell? ⟨g, 2, none⟩ = some Vv ∧ (1 ≤ lr.length → ∃ gv, A = some ⟨gv, 0, none⟩ ∧ ∀ i u, (strs lr)[i]? = some u → W.cell? ⟨gv, i, none⟩ = some u) := by
  obtain ⟨A, c, hv, _, hr⟩ := h.tab.vals.shape
  rw [strs_len] at hv hr
  refine ⟨A, c, hv, h.tab.row.cell (i := 2) (by omega), fun h1 => ?_⟩
  obtain ⟨gv, hA, _, _, _, hc⟩ := hr h1
  exact ⟨gv, hA, hc⟩
theorem Both.putT (H : CacheHas Rep) (h : Both Rep w0 W X t g Kv Vv m lt lr) (k : Int) (x : ByteArray) (hk : okI k) : Calls Try.prog 9 #[t, .int .i64 k, .string x] W fun e W' => e = .returned (.tuple #[.int .i64 (goneK 0 m (keysL lt) k), .bool (goneB m (keysL lt) k)]) ∧ Both Rep w0 W' X t g Kv Vv m (putL m lt k x) lr ∧ Keep X W W' :=
  (H.tab.putH h.held k x hk).mono (fun _ _ ⟨h1, h2, h3⟩ => ⟨h1, h.prog h2 h3⟩)
theorem Both.dropT (H : CacheHas Rep) (h : Both Rep w0 W X t g Kv Vv m lt lr) (k : Int) (hk : okI k) : Calls Try.prog 11 #[t, .int .i64 k] W fun e W' => e = .returned (.bool (hasK (keysL lt) k)) ∧ Both Rep w0 W' X t g Kv Vv m (dropL lt k) lr ∧ Keep X W W' :=
  (H.tab.dropH h.held k hk).mono (fun _ _ ⟨h1, h2, h3⟩ => ⟨h1, h.prog h2 h3⟩)
theorem Both.getT (H : CacheHas Rep) (h : Both Rep w0 W X t g Kv Vv m lt lr) (k : Int) (hk : okI k) : Calls Try.prog 13 #[t, .int .i64 k] W fun e W' => e = .returned (.tuple #[.string ((getL lt k).getD ByteArray.empty), .bool (hasK (keysL lt) k)]) ∧ Both Rep w0 W' X t g Kv Vv m lt lr ∧ Keep X W W' :=
  (H.tab.getH h.held k hk).mono (fun _ _ ⟨h1, h2, h3⟩ => ⟨h1, h.prog h2 h3⟩)
theorem Both.lenT (H : CacheHas Rep) (h : Both Rep w0 W X t g Kv Vv m lt lr) : Calls Try.prog 17 #[t] W fun e W' => e = .returned (.int .i64 (lt.length : Int)) ∧ Both Rep w0 W' X t g Kv Vv m lt lr ∧ Keep X W W' :=
  (H.tab.lenH h.held).mono (fun _ _ ⟨h1, h2, h3⟩ => ⟨h1, h.prog h2 h3⟩)
theorem Both.keysT (H : CacheHas Rep) (h : Both Rep w0 W X t g Kv Vv m lt lr) : Calls Try.prog 16 #[t] W fun e W' => ∃ A c, e = .returned (.slice A lt.length c) ∧ Both Rep w0 W' X t g Kv Vv m lt lr ∧ Keep X W W' ∧ ListAt W' (.slice A lt.length c) lt.length (fun i => .int .i64 ((keysL lt).getD i 0)) :=
  (H.keysH h.held).mono (fun _ W' ⟨A, c, h1, h2, _, h3, h4⟩ => ⟨A, c, h1, (h.prog (h3.less (fun _ hb => .inr hb)) h2).1, (h.prog (h3.less (fun _ hb => .inr hb)) h2).2, h4 W' (fun _ _ => rfl)⟩)
theorem Both.putR (H : CacheHas Rep) (h : Both Rep w0 W X t g Kv Vv m lt lr) (k : Int) (x : ByteArray) : Calls Try.prog 10 #[.pointer (some ⟨g, 0, none⟩), .int .i64 k, .string x] W fun e W' => e = .returned (.tuple #[.int .i64 (goneK 0 m (keysL lr) k), .bool (goneB m (keysL lr) k)]) ∧ ∃ Kv' Vv', Both Rep w0 W' X t g Kv' Vv' m lt (putL m lr k x) ∧ Keep X W W' :=
  (refPut_any k x W h.tab).mono (fun _ _ ⟨h1, Kv', Vv', h2, h3, h4⟩ => ⟨h1, Kv', Vv', h.ref H h2 h3 h4⟩)
theorem Both.dropR (H : CacheHas Rep) (h : Both Rep w0 W X t g Kv Vv m lt lr) (k : Int) : Calls Try.prog 12 #[.pointer (some ⟨g, 0, none⟩), .int .i64 k] W fun e W' => e = .returned (.bool (hasK (keysL lr) k)) ∧ ∃ Kv' Vv', Both Rep w0 W' X t g Kv' Vv' m lt (dropL lr k) ∧ Keep X W W' :=
  (refDrop_any k W h.tab).mono (fun _ _ ⟨h1, Kv', Vv', h2, h3, h4⟩ => ⟨h1, Kv', Vv', h.ref H h2 h3 h4⟩)
theorem Both.atR (h : Both Rep w0 W X t g Kv Vv m lt lr) (k : Int) : Calls Try.prog 14 #[.pointer (some ⟨g, 0, none⟩), .int .i64 k] W fun e W' => e = .returned (.int .i64 (atI lr k)) ∧ W = W' := refAt_any k W h.tab
end
end Go.Proofs.Ytmoepcobhapghaa.Cache
