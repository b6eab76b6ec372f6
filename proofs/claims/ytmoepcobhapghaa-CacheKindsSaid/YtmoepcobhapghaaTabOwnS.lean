/-
  What lies where in the program's table of strings; what the functions that only read it do, and New.
-/
import Derived.Test.YtmoepcobhapghaaCacheHas
import Derived.Test.YtmoepcobhapghaaCacheTwo
import Derived.Test.YtmoepcobhapghaaMapFn
import Derived.Test.YtmoepcobhapghaaOwnQ
import Derived.Test.YtmoepcobhapghaaCutL
import Derived.Test.YtmoepcobhapghaaEqSelfS
namespace Go.Proofs.Ytmoepcobhapghaa.Cache
open Go Go.RowKit Go.Proofs.Ytmoepcobhapghaa.Aid

def tabQS (m : Nat) (b : Nat) (Kv : Value) (j : Nat) : Value := if j = 0 then .int .i64 (m : Int) else if j = 1 then .map (some b) else Kv
structure RepInS (W : World) (F : Nat → Prop) (v : Value) (m : Nat) (l : List (ByteArray × (Int × Int))) (g b : Nat) (Kv : Value) : Prop where
  ptr : v = .pointer (some ⟨g, 0, none⟩)
  foot : ∀ x, F x ↔ x = g ∨ x = b ∨ Kv.ownBlock = some x
  row : W.rowIs g 65 3 (tabQS m b Kv)
  keys : OwnQ W 0 9 Kv ((keysL l).map (Value.string))
  map : MapFn Try.prog 9 okS ((fun s : ByteArray => Lit.string s.data.toList)) W b (fun k => (getL l k).map spanV) l.length
  ok : ∀ k, k ∈ keysL l → okS k
  nodup : (keysL l).Nodup
  len : l.length ≤ m
  most : 1 ≤ m ∧ m ≤ 1000
  gb : g ≠ b
  kg : Kv.ownBlock ≠ some g
  kb : Kv.ownBlock ≠ some b
def RepOwnS : RepS := fun W F v m l => ∃ g b Kv, RepInS W F v m l g b Kv
section
variable {W W' : World} {F : Nat → Prop} {v : Value} {m : Nat} {l : List (ByteArray × (Int × Int))} {g b : Nat} {Kv : Value}
theorem RepInS.keep (h : RepInS W F v m l g b Kv) (hk : ∀ x, F x → W'.heap[x]? = W.heap[x]?) : RepInS W' F v m l g b Kv :=
  { h with
    row := h.row.of_block (hk g ((h.foot g).2 (.inl rfl)))
    keys := h.keys.keep (fun x hx => hk x ((h.foot x).2 (.inr (.inr hx))))
    map := h.map.keep (hk b ((h.foot b).2 (.inr (.inl rfl)))) }
theorem RepInS.lt (h : RepInS W F v m l g b Kv) : ∀ x, F x → x < W.heap.size := fun x hx => by
  rcases (h.foot x).1 hx with e | e | e
  · rw [e]; exact h.row.lt
  · rw [e]; exact h.map.lt
  · exact (h.keys.lt x e).2
theorem RepInS.below (h : RepInS W F v m l g b Kv) (hb : Below W.heap.size W W') : RepInS W' F v m l g b Kv := h.keep (fun x hx => hb.block x (h.lt x hx))
theorem RepInS.moved (h : RepInS W F v m l g b Kv) (hb : Below W.heap.size W W') : Moved RepOwnS F W W' v m l := ⟨F, ⟨g, b, Kv, h.below hb⟩, Leaves.of_below hb, fun _ hx => .inl hx⟩
theorem keyIsS : KeyIs Try.prog 9 okS (Value.string) ((fun s : ByteArray => Lit.string s.data.toList)) :=
  key_str Try.underlying9 (by simp [maxLen])
theorem zeroVS (w : World) : (zeroValue 51).run Try.prog w = .ok (.agg #[.int .i64 0, .int .i64 0]) w := by kernel_rfl
theorem mapLenS (xs : List ByteArray) : (xs.map (Value.string)).length = xs.length := List.length_map _
theorem oneCellS (xs : List ByteArray) : ∀ u ∈ xs.map (Value.string), u.oneCell' = true := fun u hu => by
  obtain ⟨k, _, rfl⟩ := List.mem_map.1 hu
  rfl
theorem map_atS {w : World} (k : ByteArray) (h : RepInS w F v m l g b Kv) : ∃ f : ByteArray → Option Value, (f = fun k => (getL l k).map spanV) ∧ MapFn Try.prog 9 okS ((fun s : ByteArray => Lit.string s.data.toList)) w b f l.length ∧
    (f k).getD (.agg #[.int .i64 0, .int .i64 0]) = spanV ((getL l k).getD ((0 : Int), (0 : Int))) ∧ (f k).isSome = hasK (keysL l) k :=
  ⟨_, rfl, h.map, by cases getL l k <;> rfl, by rw [Option.isSome_map]; exact get_some⟩
set_option maxHeartbeats 1000000 in
theorem get_inS {w : World} (k : ByteArray) (hk : okS k) (h : RepInS w F v m l g b Kv) :
    Calls Try.prog 21 #[v, Value.string k] w fun e w' => e = .returned (.tuple #[spanV ((getL l k).getD ((0 : Int), (0 : Int))), .bool (hasK (keysL l) k)]) ∧ Below w.heap.size w w' := by
  obtain rfl := h.ptr
  have H := Lib.hid h
  have HK := Lib.hid hk
  obtain ⟨u1, hu1⟩ : ∃ u1, u1 = ((getL l k).getD ((0 : Int), (0 : Int))).1 := ⟨_, rfl⟩
  obtain ⟨u2, hu2⟩ : ∃ u2, u2 = ((getL l k).getD ((0 : Int), (0 : Int))).2 := ⟨_, rfl⟩
  have hv : spanV ((getL l k).getD ((0 : Int), (0 : Int))) = .agg #[.int .i64 u1, .int .i64 u2] := by rw [hu1, hu2]; rfl
  obtain ⟨t, ht⟩ : ∃ t, t = hasK (keysL l) k := ⟨_, rfl⟩
  rw [hv, ← ht]
  have HM : Hid (∀ w1, Below w.heap.size w w1 → ∃ f : ByteArray → Option Value, MapFn Try.prog 9 okS ((fun s : ByteArray => Lit.string s.data.toList)) w1 b f l.length ∧
      (f k).getD (.agg #[.int .i64 0, .int .i64 0]) = .agg #[.int .i64 u1, .int .i64 u2] ∧ (f k).isSome = t) := Lib.hid (fun w1 hb => by
    obtain ⟨f, _, h1, h2, h3⟩ := map_atS k (h.below hb)
    exact ⟨f, h1, by rw [h2, hv], by rw [h3, ht]⟩)
  have hb0 : Below w.heap.size w (w.alloc (.cells #[.int .i64 0, .int .i64 0] 51)) := (Below.refl _ _).alloc (Nat.le_refl _) _
  have hr0 : (w.alloc (.cells #[.int .i64 0, .int .i64 0] 51)).rowIs w.heap.size 51 2 (fun _ => .int .i64 0) := w.rowIs_alloc _ _ _ (fun i hi => by
    simp at hi
    rcases (show i = 0 ∨ i = 1 by omega) with rfl | rfl <;> rfl)
  have HB0 := Lib.hid hb0
  have HR0 := Lib.hid hr0
  clear h hk hu1 hu2 hv ht hb0 hr0
  go_enter Try.func21, Try.ntmps21
  go_wp2_with (go_at_call 30; refine (eqselfS k _).mono ?_)
  rintro e w1 ⟨rfl, hb1⟩
  have hb : Below w.heap.size w w1 := HB0.out.trans (hb1.mono HB0.out.size)
  have hr1 := HR0.out.of_block (hb1.block _ HR0.out.lt)
  have hr2 := hr1.alloc (.cells #[.int .i64 u1, .int .i64 u2] 51)
  have q0 := hr2.cell (i := 0) (by omega)
  have q1 := hr2.cell (i := 1) (by omega)
  have z0 := hr2.frozen 0
  have z1 := hr2.frozen 1
  have HR2 := Lib.hid hr2
  have HB1 : Hid (w.heap.size < w1.heap.size) := Lib.hid hr1.lt
  clear hr1 hr2 HR0 HB0
  have c1 := (H.out.below hb).row.cell (i := 1) (by omega)
  rw [show tabQS m b Kv 1 = .map (some b) from rfl] at c1
  obtain ⟨f, hm, hf1, hf2⟩ := HM.out w1 hb
  have H1 := Lib.hid hm
  have HB := Lib.hid hb
  have HF1 := Lib.hid hf1
  have HF2 := Lib.hid hf2
  clear hb hb1 hm hf1 hf2 H HM
  go_wp2_with (at_lookup; refine map_look (by rfl) (.tmp 17) (.tmp 18) 63 (by rfl) keyIsS Try.underlying63 (zeroVS _) H1.out (by rfl) k HK.out (by rfl) ?_; rw [HF1.out, HF2.out])
  have hr3 := (HR2.out.set 0 (.int .i64 u1)).set 1 (.int .i64 u2)
  have p0 := hr3.cell (i := 0) (by omega)
  have p1 := hr3.cell (i := 1) (by omega)
  simp only [Nat.zero_ne_one, if_false, if_true, show (1 : Nat) ≠ 0 from by omega] at p0 p1
  refine bodyPost_ret (v := .tuple #[.agg #[.int .i64 u1, .int .i64 u2], .bool t]) (by simp [results, Try.results21, go_sem, p0, p1]) rfl ⟨rfl, ?_⟩
  exact ((HB.out.alloc HB.out.size _).setCell (Nat.le_refl _) _).setCell (Nat.le_refl _) _
theorem len_inS {w : World} (h : RepInS w F v m l g b Kv) : Calls Try.prog 22 #[v] w fun e w' => e = .returned (.int .i64 (l.length : Int)) ∧ w' = w := by
  obtain rfl := h.ptr
  have hl : ((keysL l).map (Value.string)).length = l.length := by rw [List.length_map, keys_len]
  obtain ⟨A, c, hv, _, _⟩ := h.keys.shape
  rw [hl] at hv
  have c1 := h.row.cell (i := 2) (by omega)
  rw [show tabQS m b Kv 2 = Kv from rfl, hv] at c1
  clear hv h hl
  go_enter Try.func22, Try.ntmps22
  go_wp2
  go_ret
  exact ⟨rfl, rfl⟩
end
end Go.Proofs.Ytmoepcobhapghaa.Cache
