/-
  A table while a law goes on: it stands for a list, lies in memory that is newer than the law's beginning, and apart from the blocks K, which no call on it touches.
-/
import Derived.Test.YtmoepcobhapghaaCacheHas
namespace Go.Proofs.Ytmoepcobhapghaa.Cache
open Go Go.RowKit Go.Proofs.Ytmoepcobhapghaa.Aid

section
variable {α β : Type} [DecidableEq α] {ok : α → Prop} {kv : α → Value} {vv : β → Value} {kz : α} {vz : β} {fNew fPut fGet fDrop fLen : FuncId} {Rep : World → (Nat → Prop) → Value → Nat → List (α × β) → Prop} {w0 W : World} {K : Nat → Prop} {v : Value} {m : Nat} {l : List (α × β)}
theorem TabHas.mv (H : TabHas ok kv vv kz vz fNew fPut fGet fDrop fLen Rep) {W W' : World} {F : Nat → Prop} {l' : List (α × β)} (h : HeldIn Rep w0 W K F v m l) (hm : Moved Rep F W W' v m l') : Held Rep w0 W' K v m l' ∧ Keep K W W' := h.move H.lt hm
theorem TabHas.more (H : TabHas ok kv vv kz vz fNew fPut fGet fDrop fLen Rep) {W W' : World} {K' : Nat → Prop} (h : Held Rep w0 W K v m l) (hb : Below W.heap.size W W') (hK : ∀ b, K' b → K b ∨ (W.heap.size ≤ b ∧ b < W'.heap.size)) : Held Rep w0 W' K' v m l := h.more H.keep hb hK
theorem TabHas.newH (H : TabHas ok kv vv kz vz fNew fPut fGet fDrop fLen Rep) (m : Nat) (hm : 1 ≤ m ∧ m ≤ 1000) (w0 W : World) (hb : Below w0.heap.size w0 W) : Calls Try.prog fNew #[.int .i64 (m : Int)] W fun x W' => ∃ p, x = .returned (.tuple #[.pointer (some p), .int .i64 0]) ∧ Held Rep w0 W' (fun _ => False) (.pointer (some p)) m [] ∧ Below W.heap.size W W' :=
  (H.new_ok m W hm).mono (fun x W' ⟨v, F, h1, h2, h3, h4⟩ => by
    obtain ⟨p, rfl⟩ := H.ptr h2
    exact ⟨p, h1, ⟨F, h2, H.lt h2, fun b hf => Nat.le_trans hb.size (h3 b hf), fun _ _ h => h, hb.trans (h4.mono hb.size), fun _ h => h.elim⟩, h4⟩)
theorem TabHas.putH (H : TabHas ok kv vv kz vz fNew fPut fGet fDrop fLen Rep) (h : Held Rep w0 W K v m l) (k : α) (x : β) (hk : ok k) : Calls Try.prog fPut #[v, kv k, vv x] W fun e W' => e = .returned (.tuple #[kv (goneK kz m (keysL l) k), .bool (goneB m (keysL l) k)]) ∧ Held Rep w0 W' K v m (putL m l k x) ∧ Keep K W W' := by
  obtain ⟨F, h⟩ := h
  exact (H.put k x hk h.rep).mono (fun e W' ⟨h1, h2⟩ => ⟨h1, H.mv h h2⟩)
theorem TabHas.getH (H : TabHas ok kv vv kz vz fNew fPut fGet fDrop fLen Rep) (h : Held Rep w0 W K v m l) (k : α) (hk : ok k) : Calls Try.prog fGet #[v, kv k] W fun e W' => e = .returned (.tuple #[vv ((getL l k).getD vz), .bool (hasK (keysL l) k)]) ∧ Held Rep w0 W' K v m l ∧ Keep K W W' := by
  obtain ⟨F, h⟩ := h
  exact (H.get k hk h.rep).mono (fun e W' ⟨h1, h2⟩ => ⟨h1, H.mv h h2⟩)
theorem TabHas.dropH (H : TabHas ok kv vv kz vz fNew fPut fGet fDrop fLen Rep) (h : Held Rep w0 W K v m l) (k : α) (hk : ok k) : Calls Try.prog fDrop #[v, kv k] W fun e W' => e = .returned (.bool (hasK (keysL l) k)) ∧ Held Rep w0 W' K v m (dropL l k) ∧ Keep K W W' := by
  obtain ⟨F, h⟩ := h
  exact (H.drop k hk h.rep).mono (fun e W' ⟨h1, h2⟩ => ⟨h1, H.mv h h2⟩)
theorem TabHas.lenH (H : TabHas ok kv vv kz vz fNew fPut fGet fDrop fLen Rep) (h : Held Rep w0 W K v m l) : Calls Try.prog fLen #[v] W fun e W' => e = .returned (.int .i64 (l.length : Int)) ∧ Held Rep w0 W' K v m l ∧ Keep K W W' := by
  obtain ⟨F, h⟩ := h
  exact (H.len h.rep).mono (fun e W' ⟨h1, h2⟩ => ⟨h1, H.mv h h2⟩)
end
theorem ListAt.keep {W W' : World} {v : Value} {n : Nat} {f : Nat → Value} (h : ListAt W v n f) (hk : ∀ b, v.ownBlock = some b → W'.heap[b]? = W.heap[b]?) : ListAt W' v n f := by
  obtain ⟨A, c, rfl, hc, hr⟩ := h
  refine ⟨A, c, rfl, hc, fun h0 => ?_⟩
  obtain ⟨g, o, rfl, hi⟩ := hr h0
  exact ⟨g, o, rfl, fun i hin => by
    rw [← hi i hin]
    unfold World.cell?
    rw [hk g rfl]⟩
/-- What Keys hands back: the keys, in memory that no later call touches. -/
theorem CacheHas.keysH {Rep : RepI} (H : CacheHas Rep) {w0 W : World} {K : Nat → Prop} {v : Value} {m : Nat} {l : List (Int × ByteArray)} (h : Held Rep w0 W K v m l) :
    Calls Try.prog 16 #[v] W fun e W' => ∃ A c, e = .returned (.slice A l.length c) ∧ Keep K W W' ∧
      ∃ (r : Nat → Prop), Held Rep w0 W' (fun b => r b ∨ K b) v m l ∧ (∀ W2, (∀ b, r b → W2.heap[b]? = W'.heap[b]?) → ListAt W2 (.slice A l.length c) l.length (fun i => .int .i64 ((keysL l).getD i 0))) := by
  obtain ⟨F, h⟩ := h
  refine (H.keys h.rep).mono ?_
  rintro e W' ⟨r, F', h1, h2, h3, h4, A, c, h5, h6, h7⟩
  rw [List.length_map, keys_len] at h5 h6 h7
  subst h5
  have hsz := h3.size
  have hkeep : Keep K W W' := fun b hb => h3.block b (h.old b hb) (fun hF => h.apart b hF hb)
  have hge : ∀ b, F' b → w0.heap.size ≤ b := fun b hb => by
    rcases h4 b hb with h8 | h8
    · exact h.ge b h8
    · exact Nat.le_trans h.bel.size h8
  have hap : ∀ b, F' b → ¬ K b := fun b hb hK => by
    rcases h4 b hb with h8 | h8
    · exact h.apart b h8 hK
    · have := h.old b hK; omega
  have hbel : Below w0.heap.size w0 W' := h.bel.trans (h3.below h.bel.size h.ge)
  by_cases h0 : 0 < l.length
  · obtain ⟨g, o, rfl, hg1, hg2, hg3⟩ := h7 h0
    have hat : ∀ i, i < l.length → W'.cell? ⟨g, o + i, none⟩ = some (.int .i64 ((keysL l).getD i 0)) := fun i hi => hg3 i _ (by
      have hi2 : i < (keysL l).length := by rw [keys_len]; exact hi
      rw [List.getElem?_map, List.getD_eq_getElem?_getD, List.getElem?_eq_getElem hi2]
      rfl)
    have hglt : g < W'.heap.size := block_lt_of_cell (hat 0 h0)
    refine ⟨_, c, h1, hkeep, fun b => b = g, ⟨F', h2, H.tab.lt h2, hge, fun b hb hK => ?_, hbel, fun b hb => ?_⟩, fun W2 hW2 => ⟨_, c, rfl, h6, fun _ => ⟨g, o, rfl, fun i hi => ?_⟩⟩⟩
    · rcases hK with rfl | hK
      · exact hg2 hb
      · exact hap b hb hK
    · rcases hb with rfl | hb
      · exact hglt
      · exact Nat.lt_of_lt_of_le (h.old b hb) hsz
    · rw [← hat i hi]
      unfold World.cell?
      rw [hW2 g rfl]
  · refine ⟨A, c, h1, hkeep, fun _ => False, ⟨F', h2, H.tab.lt h2, hge, fun b hb hK => hap b hb (hK.resolve_left id), hbel, fun b hb => Nat.lt_of_lt_of_le (h.old b (hb.resolve_left id)) hsz⟩, fun W2 _ => ⟨A, c, rfl, h6, fun h9 => absurd h9 h0⟩⟩
end Go.Proofs.Ytmoepcobhapghaa.Cache
