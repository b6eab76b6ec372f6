/-
  What New makes of the program's table of strings; the whole as one bundle.
-/
import Derived.Test.YtmoepcobhapghaaTabPutS
namespace Go.Proofs.Ytmoepcobhapghaa.Cache
open Go Go.RowKit Go.Proofs.Ytmoepcobhapghaa.Aid

set_option maxRecDepth 100000 in
set_option maxHeartbeats 1000000 in
theorem new_noS (most : Int) (w : World) (h : ¬ (1 ≤ most ∧ most ≤ 1000)) : Calls Try.prog 18 #[.int .i64 most] w fun x w' => x = .returned (.tuple #[.pointer none, .int .i64 1]) ∧ Below w.heap.size w w' := by
  by_cases h1 : most < 1
  · clear h
    go_enter Try.func18, Try.ntmps18
    go_wp2
    go_ret2
    exact ⟨rfl, Below.refl _ _⟩
  · have h2 : most > 1000 := by omega
    clear h
    go_enter Try.func18, Try.ntmps18
    go_wp2
    go_ret2
    exact ⟨rfl, Below.refl _ _⟩
set_option maxRecDepth 100000 in
set_option maxHeartbeats 1000000 in
theorem new_okS (m : Nat) (w : World) (h : 1 ≤ m ∧ m ≤ 1000) : Calls Try.prog 18 #[.int .i64 (m : Int)] w fun x w' => ∃ v F, x = .returned (.tuple #[v, .int .i64 0]) ∧ RepOwnS w' F v m [] ∧ (∀ b, F b → w.heap.size ≤ b) ∧ Below w.heap.size w w' := by
  have h1 : ¬ (m : Int) < 1 := by omega
  have h2 : ¬ (m : Int) > 1000 := by omega
  have HM := Lib.hid h
  have hmk : ∀ w : World, (Instr.makeMap 63 none).run Try.prog w = .ok (.map (some w.heap.size)) (w.alloc (.map #[] 0)) := fun _ => rfl
  have hsz : (w.alloc (.map #[] 0)).heap.size = w.heap.size + 1 := by simp
  have hrow : ((w.alloc (.map #[] 0)).alloc (.cells #[.int .i64 (m : Int), .map (some w.heap.size), .slice none 0 0] 65)).rowIs (w.heap.size + 1) 65 3 (tabQS m w.heap.size (.slice none 0 0)) := by
    have := (w.alloc (.map #[] 0)).rowIs_alloc #[.int .i64 (m : Int), .map (some w.heap.size), .slice none 0 0] 65 (tabQS m w.heap.size (.slice none 0 0)) (fun i hi => by
      simp at hi
      rcases (show i = 0 ∨ i = 1 ∨ i = 2 by omega) with rfl | rfl | rfl <;> rfl)
    rwa [hsz] at this
  have hmap : MapFn Try.prog 9 okS ((fun s : ByteArray => Lit.string s.data.toList)) ((w.alloc (.map #[] 0)).alloc (.cells #[.int .i64 (m : Int), .map (some w.heap.size), .slice none 0 0] 65)) w.heap.size (fun k => (getL ([] : List (ByteArray × (Int × Int))) k).map spanV) 0 :=
    (MapFn.made w).keep (Below.heap_alloc _ _ _ (by omega))
  have hbel : Below w.heap.size w ((w.alloc (.map #[] 0)).alloc (.cells #[.int .i64 (m : Int), .map (some w.heap.size), .slice none 0 0] 65)) := ((Below.refl _ _).alloc (Nat.le_refl _) _).alloc (by omega) _
  have HR : Hid (RepInS ((w.alloc (.map #[] 0)).alloc (.cells #[.int .i64 (m : Int), .map (some w.heap.size), .slice none 0 0] 65)) (fpT (w.heap.size + 1) w.heap.size (.slice none 0 0)) (.pointer (some ⟨w.heap.size + 1, 0, none⟩)) m [] (w.heap.size + 1) w.heap.size (.slice none 0 0)) := Lib.hid
    { ptr := rfl
      foot := fun _ => Iff.rfl
      row := hrow
      keys := OwnQ.nil _ _ _
      map := hmap
      ok := fun k hk => by cases hk
      nodup := List.nodup_nil
      len := by have := h.1; simp
      most := h
      gb := by omega
      kg := by intro e; cases e
      kb := by intro e; cases e }
  have HB := Lib.hid hbel
  clear h hrow hmap hbel hsz HM
  go_enter Try.func18, Try.ntmps18
  go_wp2
  go_ret2
  refine ⟨_, rfl, _, ⟨_, _, _, HR.out⟩, fun y hy => ?_, HB.out⟩
  rcases hy with e | e | e
  · omega
  · omega
  · cases e
theorem tabS : TabHas okS (Value.string) spanV ByteArray.empty ((0 : Int), (0 : Int)) 18 20 21 19 22 RepOwnS where
  keep := fun h hk => by
    obtain ⟨g, b, Kv, h⟩ := h
    exact ⟨g, b, Kv, h.keep hk⟩
  lt := fun h => by
    obtain ⟨g, b, Kv, h⟩ := h
    exact h.lt
  ptr := fun h => by
    obtain ⟨g, b, Kv, h⟩ := h
    exact ⟨_, h.ptr⟩
  new_no := fun most w h => new_noS most w h
  new_ok := fun m w h => new_okS m w h
  put := fun k x hk h => by
    obtain ⟨g, b, Kv, h⟩ := h
    exact put_inS k x hk h
  get := fun k hk h => by
    obtain ⟨g, b, Kv, h⟩ := h
    exact (get_inS k hk h).mono (fun e w' ⟨h1, h2⟩ => ⟨h1, h.moved h2⟩)
  drop := fun k hk h => by
    obtain ⟨g, b, Kv, h⟩ := h
    exact drop_inS k hk h
  len := fun h => by
    obtain ⟨g, b, Kv, h⟩ := h
    exact (len_inS h).mono (fun e w' ⟨h1, h2⟩ => ⟨h1, by rw [h2]; exact h.moved (Below.refl _ _)⟩)
theorem kindsOwn : KindsHas RepOwnS := ⟨tabS⟩
end Go.Proofs.Ytmoepcobhapghaa.Cache
