/-
  What lies where in the program's table of ints; what the functions that only read it do, and New.
-/
import Derived.Test.YtmoepcobhapghaaCacheHas
import Derived.Test.YtmoepcobhapghaaCacheTwo
import Derived.Test.YtmoepcobhapghaaMapFn
import Derived.Test.YtmoepcobhapghaaOwnQ
import Derived.Test.YtmoepcobhapghaaCutL
import Derived.Test.YtmoepcobhapghaaEqSelfI
namespace Go.Proofs.Ytmoepcobhapghaa.Cache
open Go Go.RowKit Go.Proofs.Ytmoepcobhapghaa.Aid

def tabQI (m : Nat) (b : Nat) (Kv : Value) (j : Nat) : Value := if j = 0 then .int .i64 (m : Int) else if j = 1 then .map (some b) else Kv
structure RepInI (W : World) (F : Nat → Prop) (v : Value) (m : Nat) (l : List (Int × ByteArray)) (g b : Nat) (Kv : Value) : Prop where
  ptr : v = .pointer (some ⟨g, 0, none⟩)
  foot : ∀ x, F x ↔ x = g ∨ x = b ∨ Kv.ownBlock = some x
  row : W.rowIs g 59 3 (tabQI m b Kv)
  keys : OwnQ W 0 3 Kv ((keysL l).map (Value.int .i64))
  map : MapFn Try.prog 3 okI (Lit.int .i64) W b (fun k => (getL l k).map Value.string) l.length
  ok : ∀ k, k ∈ keysL l → okI k
  nodup : (keysL l).Nodup
  len : l.length ≤ m
  most : 1 ≤ m ∧ m ≤ 1000
  gb : g ≠ b
  kg : Kv.ownBlock ≠ some g
  kb : Kv.ownBlock ≠ some b
def RepOwnI : RepI := fun W F v m l => ∃ g b Kv, RepInI W F v m l g b Kv
section
variable {W W' : World} {F : Nat → Prop} {v : Value} {m : Nat} {l : List (Int × ByteArray)} {g b : Nat} {Kv : Value}
theorem RepInI.keep (h : RepInI W F v m l g b Kv) (hk : ∀ x, F x → W'.heap[x]? = W.heap[x]?) : RepInI W' F v m l g b Kv :=
  { h with
    row := h.row.of_block (hk g ((h.foot g).2 (.inl rfl)))
    keys := h.keys.keep (fun x hx => hk x ((h.foot x).2 (.inr (.inr hx))))
    map := h.map.keep (hk b ((h.foot b).2 (.inr (.inl rfl)))) }
theorem RepInI.lt (h : RepInI W F v m l g b Kv) : ∀ x, F x → x < W.heap.size := fun x hx => by
  rcases (h.foot x).1 hx with e | e | e
  · rw [e]; exact h.row.lt
  · rw [e]; exact h.map.lt
  · exact (h.keys.lt x e).2
theorem RepInI.below (h : RepInI W F v m l g b Kv) (hb : Below W.heap.size W W') : RepInI W' F v m l g b Kv := h.keep (fun x hx => hb.block x (h.lt x hx))
theorem RepInI.moved (h : RepInI W F v m l g b Kv) (hb : Below W.heap.size W W') : Moved RepOwnI F W W' v m l := ⟨F, ⟨g, b, Kv, h.below hb⟩, Leaves.of_below hb, fun _ hx => .inl hx⟩
theorem keyIsI : KeyIs Try.prog 3 okI (Value.int .i64) (Lit.int .i64) :=
  key_int Try.underlying3
theorem zeroVI (w : World) : (zeroValue 9).run Try.prog w = .ok (.string ByteArray.empty) w := by kernel_rfl
theorem mapLenI (xs : List Int) : (xs.map (Value.int .i64)).length = xs.length := List.length_map _
theorem oneCellI (xs : List Int) : ∀ u ∈ xs.map (Value.int .i64), u.oneCell' = true := fun u hu => by
  obtain ⟨k, _, rfl⟩ := List.mem_map.1 hu
  rfl
theorem map_atI {w : World} (k : Int) (h : RepInI w F v m l g b Kv) : ∃ f : Int → Option Value, (f = fun k => (getL l k).map Value.string) ∧ MapFn Try.prog 3 okI (Lit.int .i64) w b f l.length ∧
    (f k).getD (.string ByteArray.empty) = Value.string ((getL l k).getD ByteArray.empty) ∧ (f k).isSome = hasK (keysL l) k :=
  ⟨_, rfl, h.map, by cases getL l k <;> rfl, by rw [Option.isSome_map]; exact get_some⟩
set_option maxHeartbeats 1000000 in
theorem get_inI {w : World} (k : Int) (hk : okI k) (h : RepInI w F v m l g b Kv) :
    Calls Try.prog 13 #[v, Value.int .i64 k] w fun e w' => e = .returned (.tuple #[Value.string ((getL l k).getD ByteArray.empty), .bool (hasK (keysL l) k)]) ∧ Below w.heap.size w w' := by
  obtain rfl := h.ptr
  have H := Lib.hid h
  have HK := Lib.hid hk
  obtain ⟨u, hu⟩ : ∃ u, u = (getL l k).getD ByteArray.empty := ⟨_, rfl⟩
  obtain ⟨t, ht⟩ : ∃ t, t = hasK (keysL l) k := ⟨_, rfl⟩
  rw [← hu, ← ht]
  have HM : Hid (∀ w1, Below w.heap.size w w1 → ∃ f : Int → Option Value, MapFn Try.prog 3 okI (Lit.int .i64) w1 b f l.length ∧
      (f k).getD (.string ByteArray.empty) = Value.string u ∧ (f k).isSome = t) := Lib.hid (fun w1 hb => by
    obtain ⟨f, _, h1, h2, h3⟩ := map_atI k (h.below hb)
    exact ⟨f, h1, by rw [h2, hu], by rw [h3, ht]⟩)
  clear h hk hu ht
  go_enter Try.func13, Try.ntmps13
  go_wp2_with (go_at_call 24; refine (eqselfI k _).mono ?_)
  rintro e w1 ⟨rfl, hb1⟩
  have hb := hb1
  have c1 := (H.out.below hb).row.cell (i := 1) (by omega)
  rw [show tabQI m b Kv 1 = .map (some b) from rfl] at c1
  obtain ⟨f, hm, hf1, hf2⟩ := HM.out w1 hb
  have H1 := Lib.hid hm
  have HB := Lib.hid hb
  have HF1 := Lib.hid hf1
  have HF2 := Lib.hid hf2
  clear hb hb1 hm hf1 hf2 H HM
  go_wp2_with (at_lookup; refine map_look (by rfl) (.tmp 17) (.tmp 18) 57 (by rfl) keyIsI Try.underlying57 (zeroVI _) H1.out (by rfl) k HK.out (by rfl) ?_; rw [HF1.out, HF2.out])
  go_ret2
  exact ⟨rfl, HB.out⟩
theorem len_inI {w : World} (h : RepInI w F v m l g b Kv) : Calls Try.prog 17 #[v] w fun e w' => e = .returned (.int .i64 (l.length : Int)) ∧ w' = w := by
  obtain rfl := h.ptr
  have hl : ((keysL l).map (Value.int .i64)).length = l.length := by rw [List.length_map, keys_len]
  obtain ⟨A, c, hv, _, _⟩ := h.keys.shape
  rw [hl] at hv
  have c1 := h.row.cell (i := 2) (by omega)
  rw [show tabQI m b Kv 2 = Kv from rfl, hv] at c1
  clear hv h hl
  go_enter Try.func17, Try.ntmps17
  go_wp2
  go_ret
  exact ⟨rfl, rfl⟩
end
end Go.Proofs.Ytmoepcobhapghaa.Cache
