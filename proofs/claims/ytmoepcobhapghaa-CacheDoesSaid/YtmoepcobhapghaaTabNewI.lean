/-
  What New makes of the program's table of ints; the whole as one bundle.
-/
import Derived.Test.YtmoepcobhapghaaTabPutI
import Derived.Test.YtmoepcobhapghaaClnI
namespace Go.Proofs.Ytmoepcobhapghaa.Cache
open Go Go.RowKit Go.Proofs.Ytmoepcobhapghaa.Aid

set_option maxRecDepth 100000 in
set_option maxHeartbeats 1000000 in
theorem new_noI (most : Int) (w : World) (h : ¬ (1 ≤ most ∧ most ≤ 1000)) : Calls Try.prog 7 #[.int .i64 most] w fun x w' => x = .returned (.tuple #[.pointer none, .int .i64 1]) ∧ Below w.heap.size w w' := by
  by_cases h1 : most < 1
  · clear h
    go_enter Try.func7, Try.ntmps7
    go_wp2
    go_ret2
    exact ⟨rfl, Below.refl _ _⟩
  · have h2 : most > 1000 := by omega
    clear h
    go_enter Try.func7, Try.ntmps7
    go_wp2
    go_ret2
    exact ⟨rfl, Below.refl _ _⟩
set_option maxRecDepth 100000 in
set_option maxHeartbeats 1000000 in
theorem new_okI (m : Nat) (w : World) (h : 1 ≤ m ∧ m ≤ 1000) : Calls Try.prog 7 #[.int .i64 (m : Int)] w fun x w' => ∃ v F, x = .returned (.tuple #[v, .int .i64 0]) ∧ RepOwnI w' F v m [] ∧ (∀ b, F b → w.heap.size ≤ b) ∧ Below w.heap.size w w' := by
  have h1 : ¬ (m : Int) < 1 := by omega
  have h2 : ¬ (m : Int) > 1000 := by omega
  have HM := Lib.hid h
  have hmk : ∀ w : World, (Instr.makeMap 57 none).run Try.prog w = .ok (.map (some w.heap.size)) (w.alloc (.map #[] 0)) := fun _ => rfl
  have hsz : (w.alloc (.map #[] 0)).heap.size = w.heap.size + 1 := by simp
  have hrow : ((w.alloc (.map #[] 0)).alloc (.cells #[.int .i64 (m : Int), .map (some w.heap.size), .slice none 0 0] 59)).rowIs (w.heap.size + 1) 59 3 (tabQI m w.heap.size (.slice none 0 0)) := by
    have := (w.alloc (.map #[] 0)).rowIs_alloc #[.int .i64 (m : Int), .map (some w.heap.size), .slice none 0 0] 59 (tabQI m w.heap.size (.slice none 0 0)) (fun i hi => by
      simp at hi
      rcases (show i = 0 ∨ i = 1 ∨ i = 2 by omega) with rfl | rfl | rfl <;> rfl)
    rwa [hsz] at this
  have hmap : MapFn Try.prog 3 okI (Lit.int .i64) ((w.alloc (.map #[] 0)).alloc (.cells #[.int .i64 (m : Int), .map (some w.heap.size), .slice none 0 0] 59)) w.heap.size (fun k => (getL ([] : List (Int × ByteArray)) k).map Value.string) 0 :=
    (MapFn.made w).keep (Below.heap_alloc _ _ _ (by omega))
  have hbel : Below w.heap.size w ((w.alloc (.map #[] 0)).alloc (.cells #[.int .i64 (m : Int), .map (some w.heap.size), .slice none 0 0] 59)) := ((Below.refl _ _).alloc (Nat.le_refl _) _).alloc (by omega) _
  have HR : Hid (RepInI ((w.alloc (.map #[] 0)).alloc (.cells #[.int .i64 (m : Int), .map (some w.heap.size), .slice none 0 0] 59)) (fpT (w.heap.size + 1) w.heap.size (.slice none 0 0)) (.pointer (some ⟨w.heap.size + 1, 0, none⟩)) m [] (w.heap.size + 1) w.heap.size (.slice none 0 0)) := Lib.hid
    { ptr := rfl
      foot := fun _ => Iff.rfl
      row := hrow
      keys := OwnQ.nil _ _ _
      map := hmap
      ok := fun k hk => by cases hk
      nodup := List.nodup_nil
      len := by have := h.1; simp
      most := h
      gb := by omega
      kg := by intro e; cases e
      kb := by intro e; cases e }
  have HB := Lib.hid hbel
  clear h hrow hmap hbel hsz HM
  go_enter Try.func7, Try.ntmps7
  go_wp2
  go_ret2
  refine ⟨_, rfl, _, ⟨_, _, _, HR.out⟩, fun y hy => ?_, HB.out⟩
  rcases hy with e | e | e
  · omega
  · omega
  · cases e
theorem tabI : TabHas okI (Value.int .i64) Value.string (0 : Int) ByteArray.empty 7 9 13 11 17 RepOwnI where
  keep := fun h hk => by
    obtain ⟨g, b, Kv, h⟩ := h
    exact ⟨g, b, Kv, h.keep hk⟩
  lt := fun h => by
    obtain ⟨g, b, Kv, h⟩ := h
    exact h.lt
  ptr := fun h => by
    obtain ⟨g, b, Kv, h⟩ := h
    exact ⟨_, h.ptr⟩
  new_no := fun most w h => new_noI most w h
  new_ok := fun m w h => new_okI m w h
  put := fun k x hk h => by
    obtain ⟨g, b, Kv, h⟩ := h
    exact put_inI k x hk h
  get := fun k hk h => by
    obtain ⟨g, b, Kv, h⟩ := h
    exact (get_inI k hk h).mono (fun e w' ⟨h1, h2⟩ => ⟨h1, h.moved h2⟩)
  drop := fun k hk h => by
    obtain ⟨g, b, Kv, h⟩ := h
    exact drop_inI k hk h
  len := fun h => by
    obtain ⟨g, b, Kv, h⟩ := h
    exact (len_inI h).mono (fun e w' ⟨h1, h2⟩ => ⟨h1, by rw [h2]; exact h.moved (Below.refl _ _)⟩)
set_option maxRecDepth 100000 in
set_option maxHeartbeats 1000000 in
theorem keys_inI {w : World} {F : Nat → Prop} {v : Value} {m : Nat} {l : List (Int × ByteArray)} {g b : Nat} {Kv : Value} (h : RepInI w F v m l g b Kv) :
    Calls Try.prog 16 #[v] w fun e w' => ∃ r F', e = .returned r ∧ RepOwnI w' F' v m l ∧ Leaves F w w' ∧ (∀ b, F' b → F b ∨ w.heap.size ≤ b) ∧ NewList w w' F' r ((keysL l).map (Value.int .i64)) := by
  obtain rfl := h.ptr
  have hn : l.length ≤ 1000 := Nat.le_trans h.len h.most.2
  have c2 := h.row.cell (i := 2) (by omega)
  rw [show tabQI m b Kv 2 = Kv from rfl] at c2
  have HN : Hid (((keysL l).map (Value.int .i64)).length ≤ 1000000) := Lib.hid (by rw [List.length_map, keys_len]; omega)
  have H := Lib.hid h
  clear h hn
  go_enter Try.func16, Try.ntmps16
  go_wp2_with (go_at_call 27; refine (cloneI 0 _ Kv _ H.out.keys (oneCellI _) HN.out).mono ?_)
  rintro e w1 ⟨r, rfl, hown, hb⟩
  have HO := Lib.hid hown
  have HB := Lib.hid hb
  clear hown hb c2
  go_wp2
  go_ret
  refine ⟨_, F, rfl, ⟨g, b, Kv, H.out.below HB.out⟩, Leaves.of_below HB.out, fun _ h => .inl h, ?_⟩
  obtain ⟨A, c, hv, hc, hsh⟩ := HO.out.shape
  refine ⟨A, c, hv, hc, fun h0 => ?_⟩
  obtain ⟨gk, o, e, hge, _, _, hcell, _⟩ := hsh (by omega)
  exact ⟨gk, o, e, hge, fun hF => by have := H.out.lt gk hF; omega, hcell⟩
theorem cacheOwn : CacheHas RepOwnI := ⟨tabI, fun h => by
  obtain ⟨g, b, Kv, h⟩ := h
  exact keys_inI h⟩
end Go.Proofs.Ytmoepcobhapghaa.Cache
