/-
  What the document's Send does.
-/
import Derived.Test.YtefghgoeppfpfaaOwnL
import Derived.Test.YtefghgoeppfpfaaOwn
import Derived.Test.YtefghgoeppfpfaaMixLast
namespace Go.Proofs.Ytefghgoeppfpfaa.Net
open Go Go.RowKit Go.Proofs.Ytefghgoeppfpfaa.Aid Go.Proofs.Ytefghgoeppfpfaa.Cache

/-- Letters as the cells of a row. -/
structure Cells3 (W : World) (F : Nat → Prop) (l : List Lt) (ys : List Value) : Prop where
  len : ys.length = l.length * 3
  at_ : ∀ i x, l[i]? = some x → ys[i * 3]? = some (.string x.f) ∧ ys[i * 3 + 1]? = some (.string x.t) ∧ ∃ bv, ys[i * 3 + 2]? = some bv ∧ SliceOf W W.heap.size x.n x.e bv ∧ (∀ b, bv.ownBlock = some b → F b ∧ b < W.heap.size) ∧ x.n ≤ 2000
  one : ∀ u, u ∈ ys → u.oneCell' = true
theorem Cells3.keep {W W' : World} {F F' : Nat → Prop} {l : List Lt} {ys : List Value} (h : Cells3 W F l ys) (hk : ∀ b, F b → b < W.heap.size → W'.heap[b]? = W.heap[b]?) (hs : W.heap.size ≤ W'.heap.size) (hF : ∀ b, F b → b < W.heap.size → F' b) : Cells3 W' F' l ys := by
  refine ⟨h.len, fun i x hx => ?_, h.one⟩
  obtain ⟨h1, h2, bv, h3, ⟨A, c, hv, hc, hr⟩, h5, h6⟩ := h.at_ i x hx
  subst hv
  refine ⟨h1, h2, _, h3, ⟨A, c, rfl, hc, fun h0 => ?_⟩, fun b hb => ⟨hF b (h5 b hb).1 (h5 b hb).2, Nat.lt_of_lt_of_le (h5 b hb).2 hs⟩, h6⟩
  obtain ⟨sb, so, rfl, hne, hj⟩ := hr h0
  have hsb := h5 sb rfl
  refine ⟨sb, so, rfl, by omega, fun j hjn => ?_⟩
  rw [← hj j hjn]
  unfold World.cell?
  rw [hk sb hsb.1 hsb.2]
/-- The cells of letters that lie in a slice. -/
theorem LettersAt.cells {W : World} {F : Nat → Prop} {v : Value} {l : List Lt} (h : LettersAt W F v l) : ∃ A c ys, v = .slice A l.length c ∧ l.length ≤ c ∧ Cells3 W F l ys ∧ (0 < l.length → ∃ g o, A = some ⟨g, o, none⟩ ∧ g < W.heap.size ∧ ∀ j u, ys[j]? = some u → W.cell? ⟨g, o + j, none⟩ = some u) := by
  obtain ⟨A, c, rfl, hc, hr⟩ := h
  by_cases h0 : 0 < l.length
  · obtain ⟨g, o, rfl, hg, hi⟩ := hr h0
    refine ⟨_, c, (List.range (l.length * 3)).map (fun j => (W.cell? ⟨g, o + j, none⟩).getD undef), rfl, hc, ⟨by simp, fun i x hx => ?_, fun u hu => ?_⟩, fun _ => ⟨g, o, rfl, ?_, fun j u hj => ?_⟩⟩
    · have hil := (List.getElem?_eq_some_iff.1 hx).1
      obtain ⟨h1, h2, bv, h3, h4⟩ := hi i x hx
      have e : ∀ k, k < 3 → ((List.range (l.length * 3)).map (fun j => (W.cell? ⟨g, o + j, none⟩).getD undef))[i * 3 + k]? = some ((W.cell? ⟨g, o + (i * 3 + k), none⟩).getD undef) := fun k hk => by
        rw [List.getElem?_map, List.getElem?_range (by omega)]; rfl
      refine ⟨?_, ?_, bv, ?_, h4⟩
      · have := e 0 (by omega); rw [Nat.add_zero] at this; rw [this, h1]; rfl
      · rw [e 1 (by omega), ← Nat.add_assoc, h2]; rfl
      · rw [e 2 (by omega), ← Nat.add_assoc, h3]; rfl
    · obtain ⟨j, hj, rfl⟩ := List.mem_map.1 hu
      have hj' := List.mem_range.1 hj
      have hx : l[j / 3]? = some l[j / 3] := List.getElem?_eq_getElem (by omega)
      obtain ⟨h1, h2, bv, h3, h4, _⟩ := hi (j / 3) _ hx
      obtain ⟨A, c, rfl, _⟩ := h4
      rcases (show j = j / 3 * 3 ∨ j = j / 3 * 3 + 1 ∨ j = j / 3 * 3 + 2 by omega) with e | e | e
      · rw [show o + j = o + j / 3 * 3 by omega, h1]; rfl
      · rw [show o + j = o + j / 3 * 3 + 1 by omega, h2]; rfl
      · rw [show o + j = o + j / 3 * 3 + 2 by omega, h3]; rfl
    · exact block_lt_of_cell (hi 0 _ (List.getElem?_eq_getElem h0)).1
    · have hj' := (List.getElem?_eq_some_iff.1 hj).1
      simp at hj'
      rw [List.getElem?_map, List.getElem?_range hj'] at hj
      simp only [Option.map_some, Option.some.injEq] at hj
      have hx : l[j / 3]? = some l[j / 3] := List.getElem?_eq_getElem (by omega)
      obtain ⟨h1, h2, bv, h3, _⟩ := hi (j / 3) _ hx
      rcases (show j = j / 3 * 3 ∨ j = j / 3 * 3 + 1 ∨ j = j / 3 * 3 + 2 by omega) with e | e | e
      · rw [show o + j = o + j / 3 * 3 by omega, h1] at hj ⊢; exact congrArg some hj
      · rw [show o + j = o + j / 3 * 3 + 1 by omega, h2] at hj ⊢; exact congrArg some hj
      · rw [show o + j = o + j / 3 * 3 + 2 by omega, h3] at hj ⊢; exact congrArg some hj
  · obtain rfl : l = [] := List.eq_nil_of_length_eq_zero (by omega)
    exact ⟨A, c, [], rfl, hc, ⟨rfl, fun i x hx => by simp at hx, fun u hu => by simp at hu⟩, fun h => absurd h h0⟩
/-- And back: a row of the call's own that holds them. -/
theorem Cells3.letters {W : World} {F : Nat → Prop} {l : List Lt} {ys : List Value} {v : Value} {base : Nat} (h : Cells3 W F l ys) (ho : OwnL W base l.length v ys) (hF : ∀ b, v.ownBlock = some b → F b) : LettersAt W F v l := by
  obtain ⟨A, c, rfl, hc, hr⟩ := ho.shape
  refine ⟨A, c, rfl, hc, fun h0 => ?_⟩
  obtain ⟨g, rfl, _, _, hg, hcell⟩ := hr h0
  refine ⟨g, 0, rfl, hF g hg, fun i x hx => ?_⟩
  obtain ⟨h1, h2, bv, h3, h4⟩ := h.at_ i x hx
  exact ⟨by rw [Nat.zero_add]; exact hcell _ _ h1, by rw [Nat.zero_add]; exact hcell _ _ h2, bv, by rw [Nat.zero_add]; exact hcell _ _ h3, h4⟩
theorem Cells3.snoc {W : World} {F : Nat → Prop} {l : List Lt} {ys : List Value} (h : Cells3 W F l ys) (x : Lt) (bv : Value) (hs : SliceOf W W.heap.size x.n x.e bv) (hb : ∀ b, bv.ownBlock = some b → F b ∧ b < W.heap.size) (hn : x.n ≤ 2000) : Cells3 W F (l ++ [x]) (ys ++ [.string x.f, .string x.t, bv]) := by
  refine ⟨by simp [h.len]; omega, fun i y hy => ?_, fun u hu => ?_⟩
  · by_cases hi : i < l.length
    · rw [List.getElem?_append_left hi] at hy
      obtain ⟨h1, h2, bv', h3, h4⟩ := h.at_ i y hy
      have hl := h.len
      exact ⟨by rw [List.getElem?_append_left (by omega)]; exact h1, by rw [List.getElem?_append_left (by omega)]; exact h2, bv', by rw [List.getElem?_append_left (by omega)]; exact h3, h4⟩
    · have hil := (List.getElem?_eq_some_iff.1 hy).1
      simp at hil
      obtain rfl : i = l.length := by omega
      rw [List.getElem?_append_right (Nat.le_refl _), Nat.sub_self] at hy
      simp at hy
      subst hy
      have hl := h.len
      refine ⟨?_, ?_, bv, ?_, hs, hb, hn⟩
      · rw [List.getElem?_append_right (by omega), show l.length * 3 - ys.length = 0 by omega]; rfl
      · rw [List.getElem?_append_right (by omega), show l.length * 3 + 1 - ys.length = 1 by omega]; rfl
      · rw [List.getElem?_append_right (by omega), show l.length * 3 + 2 - ys.length = 2 by omega]; rfl
  · rcases List.mem_append.1 hu with hu | hu
    · exact h.one u hu
    · obtain ⟨A, c, rfl, _⟩ := hs
      simp at hu
      rcases hu with rfl | rfl | rfl <;> rfl
theorem send_done {w W1 WS : World} {F : Nat → Prop} {g room n c x_c c32 : Nat} {A A29 A32 : Option Addr} {l : List Lt} {x : Lt} {ys : List Value} (hn : n = l.length) (h1 : RefNetIn W1 F g (.slice A l.length c) room l) (hc : Cells3 W1 (fun b => F b ∧ b ≠ g) l ys)
    (hb1 : Below w.heap.size w W1) (hbS : Below W1.heap.size W1 WS) (rowS : WS.rowIs g 49 2 (netF room (.slice A l.length c))) (ol : OwnL WS W1.heap.size (n + 1) (.slice A32 (n + 1) c32) (ys ++ [.string x.f, .string x.t, .slice A29 x.n x_c])) (ob : Own WS W1.heap.size x.n x.e (.slice A29 x.n x_c))
    (hx : x.n ≤ 2000) (hlen : n + 1 ≤ room) (hgW : g < W1.heap.size) :
    ∃ F', RefNet (WS.setCell ⟨g, 1, none⟩ (.slice A32 (n + 1) c32)) F' (.pointer (some ⟨g, 0, none⟩)) room (l ++ [x]) ∧ Cache.Leaves F w (WS.setCell ⟨g, 1, none⟩ (.slice A32 (n + 1) c32)) ∧ ∀ b, F' b → F b ∨ w.heap.size ≤ b := by
  have oth : ∀ b, b ≠ g → (WS.setCell ⟨g, 1, none⟩ (.slice A32 (n + 1) c32)).heap[b]? = WS.heap[b]? := fun b hb => heap_setCell_other _ _ _ _ (by simpa using hb)
  have hsz : (WS.setCell ⟨g, 1, none⟩ (.slice A32 (n + 1) c32)).heap.size = WS.heap.size := by simp [World.setCell]
  have hwS : W1.heap.size ≤ WS.heap.size := hbS.size
  have hw1 : w.heap.size ≤ W1.heap.size := hb1.size
  have olT : OwnL (WS.setCell ⟨g, 1, none⟩ (.slice A32 (n + 1) c32)) W1.heap.size (n + 1) (.slice A32 (n + 1) c32) (ys ++ [.string x.f, .string x.t, .slice A29 x.n x_c]) := ol.keep (fun b hb => oth b (by have := (ol.lt b hb).1; omega))
  have obT : Own (WS.setCell ⟨g, 1, none⟩ (.slice A32 (n + 1) c32)) W1.heap.size x.n x.e (.slice A29 x.n x_c) := ob.keep (fun b hb => oth b (by have := (ob.lt hb).1; omega))
  have cT : Cells3 (WS.setCell ⟨g, 1, none⟩ (.slice A32 (n + 1) c32)) (fun b => (F b ∨ (W1.heap.size ≤ b ∧ b < WS.heap.size)) ∧ b ≠ g) l ys := hc.keep (fun b hb hlt => (oth b hb.2).trans (hbS.block b hlt)) (by rw [hsz]; exact hwS) (fun b hb _ => ⟨.inl hb.1, hb.2⟩)
  have c2 := cT.snoc x (.slice A29 x.n x_c) (obT.slice (.inr (Nat.le_refl _))) (fun b hb => by
    have h3 := ob.lt hb
    exact ⟨⟨.inr h3, by omega⟩, by rw [hsz]; exact h3.2⟩) hx
  refine ⟨fun b => F b ∨ (W1.heap.size ≤ b ∧ b < WS.heap.size), ⟨g, .slice A32 (n + 1) c32, rfl, ⟨(rowS.set 1 (.slice A32 (n + 1) c32)).congr (fun j hj => ?_), .inl h1.fg, fun b hb => ?_, ?_, by simp; omega, h1.most⟩⟩, ?_, fun b hb => ?_⟩
  · match j, hj with
    | 0, _ => rfl
    | 1, _ => rfl
  · rw [hsz]
    rcases hb with hb | hb
    · have := h1.lt b hb; omega
    · exact hb.2
  · refine c2.letters (base := W1.heap.size) ?_ (fun b hb => ?_)
    · rw [show (l ++ [x]).length = n + 1 by simp [hn]]
      exact olT
    · have h3 := ol.lt b hb
      exact ⟨.inr h3, by omega⟩
  · have hb := hb1.trans (hbS.mono hw1)
    exact (leaves_set hb).mono (fun b _ e => by rw [e]; exact h1.fg)
  · rcases hb with hb | hb
    · exact .inl hb
    · exact .inr (by omega)
set_option maxRecDepth 100000 in
set_option maxHeartbeats 4000000 in
theorem refSend12_any {w : World} {F : Nat → Prop} {v : Value} {room : Nat} {l : List Lt} (x : Lt) (bv : Value) (h : RefNet w F v room l) (hs : SliceOf w w.heap.size x.n x.e bv) (hx : x.n ≤ 2000) :
    Calls Try.prog 11 #[v, ltV x bv] w fun e w' => e = .returned (.int .i64 (sendC room l)) ∧ ∃ F', RefNet w' F' v room (sendL room l x) ∧ Cache.Leaves F w w' ∧ ∀ b, F' b → F b ∨ w.heap.size ≤ b := by
  obtain ⟨g, Lv, rfl, h⟩ := h
  obtain ⟨bA, bc, rfl, hbc, hbr⟩ := hs
  unfold ltV
  have hb1 : Below w.heap.size w (w.alloc (.cells #[.string x.f, .string x.t, .slice bA x.n bc] 39)) := (Below.refl _ _).alloc (Nat.le_refl _) _
  have RP := row_new w #[.string x.f, .string x.t, .slice bA x.n bc] 39 3 (letF x.f x.t (.slice bA x.n bc)) rfl (let_at _ _ _)
  have R1 : RefNetIn (w.alloc (.cells #[.string x.f, .string x.t, .slice bA x.n bc] 39)) F g Lv room l := h.keep (fun b hb => hb1.block b (h.lt b hb)) hb1.size
  have HS1 : Hid (SliceOf (w.alloc (.cells #[.string x.f, .string x.t, .slice bA x.n bc] 39)) w.heap.size x.n x.e (.slice bA x.n bc)) := slice_below ⟨bA, bc, rfl, hbc, hbr⟩ hb1
  have hl := h.len
  have hm := h.most
  obtain ⟨A, c, ys, rfl, hc, hC, hcell⟩ := R1.letters.cells
  have c0 := R1.row.cell (i := 0) (by omega)
  have c1 := R1.row.cell (i := 1) (by omega)
  rw [show netF room (.slice A l.length c) 0 = .int .i64 (room : Int) from rfl] at c0
  rw [show netF room (.slice A l.length c) 1 = .slice A l.length c from rfl] at c1
  obtain ⟨n, hn⟩ : ∃ n, n = l.length := ⟨_, rfl⟩
  rw [← hn] at c1 hc hl hcell
  have HN := Lib.hid hn
  have HR1 := Lib.hid R1
  have HRP := Lib.hid RP
  have HC := Lib.hid hC
  have HCE := Lib.hid hcell
  have HB1 := Lib.hid hb1
  have HH := Lib.hid h
  clear h hbr RP R1 hC hcell hn hb1
  by_cases hfull : room ≤ n
  · have qf : (room : Int) ≤ (n : Int) := by omega
    have e1 : sendC room l = 7 := by unfold sendC; rw [if_neg (by have := HN.out; omega)]
    have e2 : sendL room l x = l := by unfold sendL; rw [if_neg (by have := HN.out; omega)]
    rw [e1, e2]
    clear e1 e2
    go_enter Try.func11, Try.ntmps11
    go_wp2_with fail
    refine region_still (by kernel_rfl) (by kernel_rfl) ?_
    repeat still_step
    refine wpStill_nil ?_
    have HE : Hid (RefNetIn (w.alloc (.cells #[.string x.f, .string x.t, .slice bA x.n bc] 39)).drew F g (.slice A l.length c) room l) := Lib.hid (HR1.out.keep (fun _ _ => rfl) (Nat.le_refl _))
    have HLV : Hid (Cache.Leaves F w (w.alloc (.cells #[.string x.f, .string x.t, .slice bA x.n bc] 39)).drew) := Lib.hid (Cache.Leaves.of_below HB1.out).drew
    go_wp2
    go_ret
    exact ⟨rfl, F, ⟨g, _, rfl, HE.out⟩, HLV.out, fun _ h => .inl h⟩
  · have qf : ¬ (room : Int) ≤ (n : Int) := by omega
    have e1 : sendC room l = 0 := by unfold sendC; rw [if_pos (by have := HN.out; omega)]
    have e2 : sendL room l x = l ++ [x] := by unfold sendL; rw [if_pos (by have := HN.out; omega)]
    rw [e1, e2]
    clear e1 e2
    go_enter Try.func11, Try.ntmps11
    go_wp2_with fail
    refine region_still (by kernel_rfl) (by kernel_rfl) ?_
    repeat still_step
    refine wpStill_nil ?_
    go_wp2_with fail
    have hgW : g < (w.alloc (.cells #[.string x.f, .string x.t, .slice bA x.n bc] 39)).heap.size := HR1.out.lt g HR1.out.fg
    have hpW : w.heap.size < (w.alloc (.cells #[.string x.f, .string x.t, .slice bA x.n bc] 39)).heap.size := by simp
    have d1 := Lib.hid c1
    clear c0 c1
    generalize hW : w.alloc (.cells #[.string x.f, .string x.t, .slice bA x.n bc] 39) = W1 at *
    have HW1 : Hid (W1.heap.size = w.heap.size + 1) := Lib.hid (by rw [← hW]; simp)
    clear hW
    refine region_e (fun W => Below W1.heap.size W1 W) 20 21 (by kernel_rfl) rfl ?_
    generalize hW : W1.drew.drew = W2 at *
    have hW' : ∀ b : Nat, W2.heap[b]? = W1.heap[b]? := fun b => by rw [← hW]; rfl
    have hs2 : W2.heap.size = W1.heap.size := by rw [← hW]; rfl
    have HC2 := Lib.hid (HC.out.keep (W' := W2) (F' := fun b => F b ∧ b ≠ g) (fun b _ _ => hW' b) (Nat.le_of_eq hs2.symm) (fun _ h _ => h))
    have HR2 := Lib.hid (HR1.out.keep (W' := W2) (fun b _ => hW' b) (Nat.le_of_eq hs2.symm))
    have HL2 : Hid (Cache.Leaves F w W2) := Lib.hid (by rw [← hW]; exact (Cache.Leaves.of_below HB1.out).drew.drew)
    have hRP2 := HRP.out.of_block (w' := W2) (hW' _)
    have hS2 : Below W1.heap.size W1 W2 := by rw [← hW]; exact (Below.refl _ _).drew.drew
    have p0 := HRP.out.cell (i := 0) (by omega)
    have p1 := HRP.out.cell (i := 1) (by omega)
    have p2 := HRP.out.cell (i := 2) (by omega)
    simp only [let0, let1, let2] at p0 p1 p2
    have P0 := Lib.hid p0
    have P1 := Lib.hid p1
    have P2 := Lib.hid p2
    clear p0 p1 p2 hW hs2 hW'
    refine e_take 0 rfl (by kernel_rfl) (by rfl) _ (fun W hW => by go_simp; rfl) hS2 ?_
    simp only [Act.put, List.setIfInBounds_toArray, List.set_cons_zero, List.set_cons_succ]
    refine e_take 2 rfl (by kernel_rfl) (by rfl) _ (fun W hW => by go_simp; rfl) hS2 ?_
    simp only [Act.put, List.setIfInBounds_toArray, List.set_cons_zero, List.set_cons_succ]
    refine e_take 3 rfl (by kernel_rfl) (by rfl) _ (fun W hW => by go_simp; rfl) hS2 ?_
    simp only [Act.put, List.setIfInBounds_toArray, List.set_cons_zero, List.set_cons_succ]
    refine e_take 4 rfl (by kernel_rfl) (by rfl) _ (fun W hW => by go_simp; rfl) hS2 ?_
    simp only [Act.put, List.setIfInBounds_toArray, List.set_cons_zero, List.set_cons_succ]
    refine e_take 5 rfl (by kernel_rfl) (by rfl) _ (fun W hW => by have cu := (hW.cell (p := ⟨g, 1, none⟩) hgW).trans d1.out; go_simp; rfl) hS2 ?_
    simp only [Act.put, List.setIfInBounds_toArray, List.set_cons_zero, List.set_cons_succ]
    refine e_take 7 rfl (by kernel_rfl) (by rfl) _ (fun W hW => by go_simp; rfl) hS2 ?_
    simp only [Act.put, List.setIfInBounds_toArray, List.set_cons_zero, List.set_cons_succ]
    refine e_take 8 rfl (by kernel_rfl) (by rfl) _ (fun W hW => by have cu := (hW.cell (p := ⟨w.heap.size, 0, none⟩) hpW).trans P0.out; go_simp; rfl) hS2 ?_
    simp only [Act.put, List.setIfInBounds_toArray, List.set_cons_zero, List.set_cons_succ]
    refine e_take 9 rfl (by kernel_rfl) (by rfl) _ (fun W hW => by go_simp; rfl) hS2 ?_
    simp only [Act.put, List.setIfInBounds_toArray, List.set_cons_zero, List.set_cons_succ]
    refine e_take 10 rfl (by kernel_rfl) (by rfl) _ (fun W hW => by have cu := (hW.cell (p := ⟨w.heap.size, 1, none⟩) hpW).trans P1.out; go_simp; rfl) hS2 ?_
    simp only [Act.put, List.setIfInBounds_toArray, List.set_cons_zero, List.set_cons_succ]
    refine e_take 12 rfl (by kernel_rfl) (by rfl) _ (fun W hW => by go_simp; rfl) hS2 ?_
    simp only [Act.put, List.setIfInBounds_toArray, List.set_cons_zero, List.set_cons_succ]
    refine e_take 13 rfl (by kernel_rfl) (by rfl) _ (fun W hW => by have cu := (hW.cell (p := ⟨w.heap.size, 2, none⟩) hpW).trans P2.out; go_simp; rfl) hS2 ?_
    simp only [Act.put, List.setIfInBounds_toArray, List.set_cons_zero, List.set_cons_succ]
    refine e_two 1 11 rfl rfl (by kernel_rfl) ?_ ?_
    · skip
      have OLa : OwnL (W2.alloc (.cells #[] 39)) W1.heap.size 0 (.slice (some ⟨W2.heap.size, 0, none⟩) 0 0) [] := (OwnL.empty W2).lower hS2.size
      have HBa : Below W1.heap.size W1 (W2.alloc (.cells #[] 39)) := hS2.alloc hS2.size _
      go_wp2_with fail
      refine m_on HBa ?_
      generalize W2.alloc (.cells #[] 39) = Wa at *
      generalize W2.heap.size = k16 at *
      refine e_two 6 11 rfl rfl (by kernel_rfl) ?_ ?_
      · skip
        have hsrc : 0 < n → ∃ g o, A = some ⟨g, o, none⟩ ∧ ∀ j u, ys[j]? = some u → Wa.cell? ⟨g, o + j, none⟩ = some u := fun h0 => by
          obtain ⟨gg, oo, hA, hgg, hcc⟩ := HCE.out h0
          exact ⟨gg, oo, hA, fun j u hj => (HBa.cell (p := ⟨gg, oo + j, none⟩) hgg).trans (hcc j u hj)⟩
        have OLH := Lib.hid OLa
        have HSRC := Lib.hid hsrc
        have HBH := Lib.hid HBa
        clear OLa hsrc HBa 
        go_wp2_with (at_builtin; refine append_lets (by rfl) (.tmp 16) (.tmp 20) (by rfl) W1.heap.size 0 [] _ (by rfl) OLH.out A n c ys (by rfl) (by rw [HN.out]; exact HC.out.len) HSRC.out HC.out.one (by omega) HBH.out.size ?_; intro v21 W6 hown6 hg6 hat6)
        have HB6 : Below W1.heap.size W1 W6 := HBH.out.grown hg6 HBH.out.size (fun b hb => (OLH.out.lt b hb).1)
        have OL6 : OwnL W6 W1.heap.size n v21 ys := by have := hown6; rw [Nat.zero_add, List.nil_append] at this; exact this
        clear hown6 hg6 hat6
        refine m_on HB6 ?_
        refine e_go 11 rfl (by kernel_rfl) ?_
        have OBb : Own (W6.alloc (.cells #[] 5)) W1.heap.size 0 (fun _ => 0) (.slice (some ⟨W6.heap.size, 0, none⟩) 0 0) := own_base (own_empty8 W6 (fun _ => 0)) HB6.size
        have HBb : Below W1.heap.size W1 (W6.alloc (.cells #[] 5)) := HB6.alloc HB6.size _
        have OL14 : OwnL (W6.alloc (.cells #[] 5)) W1.heap.size n v21 ys := OL6.below ((Below.refl _ _).alloc (Nat.le_refl _) _)
        have AP14 : ∀ b, v21.ownBlock = some b → (Value.slice (some ⟨W6.heap.size, 0, none⟩) 0 0).ownBlock ≠ some b := fun b hb he => by
          have := (OL6.lt b hb).2
          simp [Value.ownBlock] at he
          omega
        clear OL6
        go_wp2_with fail
        refine m_on HBb ?_
        generalize W6.alloc (.cells #[] 5) = Wb at *
        generalize W6.heap.size = k26 at *
        have OB14 := OBb
        have HB14 := HBb
        clear OBb
        have HS14 := Lib.hid (slice_below HS1.out HB14)
        have OB14H := Lib.hid OB14
        have OL14H := Lib.hid OL14
        have HB14H := Lib.hid HB14
        have AP14H := Lib.hid AP14
        clear OB14 OL14 HB14 AP14
        refine e_go 14 rfl (by kernel_rfl) ?_
        go_wp2_with (at_builtin; refine append_bytes (by rfl) (.tmp 26) (.tmp 28) (by rfl) W1.heap.size 0 (fun _ => 0) _ (by rfl) OB14H.out w.heap.size x.n x.e _ (by rfl) HS14.out (by omega) HB14H.out.size ?_; intro v29 W9 hown9 hg9 hat9)
        have HB9 : Below W1.heap.size W1 W9 := HB14H.out.grown hg9 HB14H.out.size (fun b hb => (OB14H.out.lt hb).1)
        have OB9 : Own W9 W1.heap.size x.n x.e v29 := by have := Own.congr' hown9 (e' := x.e) (fun j _ => by unfold cat; rw [if_neg (by omega)]; rfl); rw [Nat.zero_add] at this; exact this
        have OL9 : OwnL W9 W1.heap.size n v21 ys := OL14H.out.keep (fun b hb => hg9.block b (OL14H.out.lt b hb).2 (fun e => AP14H.out b hb e.symm))
        have AP9 : ∀ b, v29.ownBlock = some b → v21.ownBlock ≠ some b := fun b hb hv => by
          rcases hat9 with e | e
          · exact AP14H.out b hv (e ▸ hb)
          · rw [e] at hb; simp at hb; have := (OL14H.out.lt b hv).2; omega
        obtain ⟨A29, c29, hv29, -, -⟩ := own_shape OB9
        subst hv29
        clear hown9 hg9 hat9 OB14H OL14H HB14H AP14H HS14
        refine m_on HB9 ?_
        refine e_take 15 rfl (by kernel_rfl) (by rfl) _ (fun W hW => by go_simp; rfl) HB9 ?_
        simp only [Act.put, List.setIfInBounds_toArray, List.set_cons_zero, List.set_cons_succ]
        have hbR : Below W9.heap.size W9 (W9.alloc (.cells #[.string x.f, .string x.t, .slice A29 x.n c29] 39)) := (Below.refl _ _).alloc (Nat.le_refl _) _
        have HBR := Lib.hid (HB9.alloc HB9.size (.cells #[.string x.f, .string x.t, .slice A29 x.n c29] 39))
        have OBR := Lib.hid (OB9.below hbR)
        have OLR := Lib.hid (OL9.below hbR)
        have RR := row_new W9 #[.string x.f, .string x.t, .slice A29 x.n c29] 39 3 (letF x.f x.t (.slice A29 x.n c29)) rfl (let_at _ _ _)
        have HNW : Hid (∀ j u, [Value.string x.f, .string x.t, .slice A29 x.n c29][j]? = some u → (W9.alloc (.cells #[.string x.f, .string x.t, .slice A29 x.n c29] 39)).cell? ⟨W9.heap.size, 0 + j, none⟩ = some u) := Lib.hid (fun j u hj => by
          rw [Nat.zero_add]
          match j, hj with
          | 0, hj => exact (RR.cell (i := 0) (by omega)).trans hj
          | 1, hj => exact (RR.cell (i := 1) (by omega)).trans hj
          | 2, hj => exact (RR.cell (i := 2) (by omega)).trans hj)
        have AP9H := Lib.hid AP9
        clear OB9 OL9 AP9 RR hbR
        refine e_go 16 rfl (by kernel_rfl) ?_
        go_wp2_with fail
        refine m_on HBR.out ?_
        generalize W9.alloc (.cells #[.string x.f, .string x.t, .slice A29 x.n c29] 39) = WR at *
        generalize W9.heap.size = g9 at *
        refine e_go 17 rfl (by kernel_rfl) ?_
        go_wp2_with (at_builtin; refine append_lets (by rfl) (.tmp 21) (.tmp 31) (by rfl) W1.heap.size n ys _ (by rfl) OLR.out (some ⟨g9, 0, none⟩) 1 1 [.string x.f, .string x.t, .slice A29 x.n c29] (by rfl) rfl (fun _ => ⟨g9, 0, rfl, HNW.out⟩) (fun u hu => by simp at hu; rcases hu with rfl | rfl | rfl <;> rfl) (by omega) HBR.out.size ?_; intro v32 WS hownS hgS hatS)
        have HBS : Below W1.heap.size W1 WS := HBR.out.grown hgS HBR.out.size (fun b hb => (OLR.out.lt b hb).1)
        have OBS : Own WS W1.heap.size x.n x.e (.slice A29 x.n c29) := OBR.out.keep (fun b hb => hgS.block b (OBR.out.lt hb).2 (fun e => AP9H.out b hb e.symm))
        obtain ⟨A32, c32, hv32, -, -⟩ := hownS.shape
        subst hv32
        have OLS := Lib.hid hownS
        have OBSH := Lib.hid OBS
        have HBSH := Lib.hid HBS
        clear hownS hgS hatS OBS HBR OBR OLR HNW AP9H
        refine m_on HBS ?_
        refine e_go 18 rfl (by kernel_rfl) ?_
        go_wp2_with fail
        refine m_on HBS ?_
        refine e_go 19 rfl (by kernel_rfl) ?_
        go_wp2_with fail
        refine m_on HBS ?_
        have rowS := HR1.out.row.of_block (HBS.block g hgW)
        have c9 : WS.cell? ⟨g, 1, none⟩ = some (.slice A n c) := (HBS.cell (p := ⟨g, 1, none⟩) hgW).trans d1.out
        have f9 := rowS.frozen 1
        have HT := Lib.hid (send_done HN.out HR1.out HC.out HB1.out HBS rowS OLS.out OBSH.out hx (by omega) hgW)
        clear HBS rowS
        refine e_last rfl (by kernel_rfl) ?_
        go_wp2_with fail
        refine NoPanic.normal ?_
        generalize WS.setCell ⟨g, 1, none⟩ (.slice A32 (n + 1) c32) = WT at *
        go_wp2
        go_ret
        exact ⟨rfl, HT.out⟩
      · skip
        have OBb : Own (Wa.alloc (.cells #[] 5)) W1.heap.size 0 (fun _ => 0) (.slice (some ⟨Wa.heap.size, 0, none⟩) 0 0) := own_base (own_empty8 Wa (fun _ => 0)) HBa.size
        have HBb : Below W1.heap.size W1 (Wa.alloc (.cells #[] 5)) := HBa.alloc HBa.size _
        have OLa2 : OwnL (Wa.alloc (.cells #[] 5)) W1.heap.size 0 (.slice (some ⟨k16, 0, none⟩) 0 0) [] := OLa.below ((Below.refl _ _).alloc (Nat.le_refl _) _)
        have hk : k16 < Wa.heap.size := (OLa.lt _ rfl).2
        clear OLa
        go_wp2_with fail
        refine m_on HBb ?_
        generalize Wa.alloc (.cells #[] 5) = Wb at *
        generalize Wa.heap.size = k26 at *
        have OBX := Lib.hid OBb
        clear OBb
        refine e_go 6 rfl (by kernel_rfl) ?_
        have hsrc : 0 < n → ∃ g o, A = some ⟨g, o, none⟩ ∧ ∀ j u, ys[j]? = some u → Wb.cell? ⟨g, o + j, none⟩ = some u := fun h0 => by
          obtain ⟨gg, oo, hA, hgg, hcc⟩ := HCE.out h0
          exact ⟨gg, oo, hA, fun j u hj => (HBb.cell (p := ⟨gg, oo + j, none⟩) hgg).trans (hcc j u hj)⟩
        have OLH := Lib.hid OLa2
        have HSRC := Lib.hid hsrc
        have HBH := Lib.hid HBb
        clear OLa2 hsrc HBb 
        go_wp2_with (at_builtin; refine append_lets (by rfl) (.tmp 16) (.tmp 20) (by rfl) W1.heap.size 0 [] _ (by rfl) OLH.out A n c ys (by rfl) (by rw [HN.out]; exact HC.out.len) HSRC.out HC.out.one (by omega) HBH.out.size ?_; intro v21 W6 hown6 hg6 hat6)
        have HB6 : Below W1.heap.size W1 W6 := HBH.out.grown hg6 HBH.out.size (fun b hb => (OLH.out.lt b hb).1)
        have OL6 : OwnL W6 W1.heap.size n v21 ys := by have := hown6; rw [Nat.zero_add, List.nil_append] at this; exact this
        have OB6 : Own W6 W1.heap.size 0 (fun _ => 0) (.slice (some ⟨k26, 0, none⟩) 0 0) := OBX.out.keep (fun b hb => hg6.block b (OBX.out.lt hb).2 (fun e => by simp [Value.ownBlock] at hb e; omega))
        have AP14 : ∀ b, v21.ownBlock = some b → (Value.slice (some ⟨k26, 0, none⟩) 0 0).ownBlock ≠ some b := fun b hb he => by
          have hb2 := (OBX.out.lt he).2
          rcases hat6 with e | e
          · rw [e] at hb; simp [Value.ownBlock] at hb he; omega
          · rw [e] at hb; simp [Value.ownBlock] at hb he; omega
        clear OBX hown6 hg6 hat6
        refine m_on HB6 ?_
        have HB14 := HB6
        have OB14 := OB6
        have OL14 := OL6
        clear OB6 OL6
        have HS14 := Lib.hid (slice_below HS1.out HB14)
        have OB14H := Lib.hid OB14
        have OL14H := Lib.hid OL14
        have HB14H := Lib.hid HB14
        have AP14H := Lib.hid AP14
        clear OB14 OL14 HB14 AP14
        refine e_go 14 rfl (by kernel_rfl) ?_
        go_wp2_with (at_builtin; refine append_bytes (by rfl) (.tmp 26) (.tmp 28) (by rfl) W1.heap.size 0 (fun _ => 0) _ (by rfl) OB14H.out w.heap.size x.n x.e _ (by rfl) HS14.out (by omega) HB14H.out.size ?_; intro v29 W9 hown9 hg9 hat9)
        have HB9 : Below W1.heap.size W1 W9 := HB14H.out.grown hg9 HB14H.out.size (fun b hb => (OB14H.out.lt hb).1)
        have OB9 : Own W9 W1.heap.size x.n x.e v29 := by have := Own.congr' hown9 (e' := x.e) (fun j _ => by unfold cat; rw [if_neg (by omega)]; rfl); rw [Nat.zero_add] at this; exact this
        have OL9 : OwnL W9 W1.heap.size n v21 ys := OL14H.out.keep (fun b hb => hg9.block b (OL14H.out.lt b hb).2 (fun e => AP14H.out b hb e.symm))
        have AP9 : ∀ b, v29.ownBlock = some b → v21.ownBlock ≠ some b := fun b hb hv => by
          rcases hat9 with e | e
          · exact AP14H.out b hv (e ▸ hb)
          · rw [e] at hb; simp at hb; have := (OL14H.out.lt b hv).2; omega
        obtain ⟨A29, c29, hv29, -, -⟩ := own_shape OB9
        subst hv29
        clear hown9 hg9 hat9 OB14H OL14H HB14H AP14H HS14
        refine m_on HB9 ?_
        refine e_take 15 rfl (by kernel_rfl) (by rfl) _ (fun W hW => by go_simp; rfl) HB9 ?_
        simp only [Act.put, List.setIfInBounds_toArray, List.set_cons_zero, List.set_cons_succ]
        have hbR : Below W9.heap.size W9 (W9.alloc (.cells #[.string x.f, .string x.t, .slice A29 x.n c29] 39)) := (Below.refl _ _).alloc (Nat.le_refl _) _
        have HBR := Lib.hid (HB9.alloc HB9.size (.cells #[.string x.f, .string x.t, .slice A29 x.n c29] 39))
        have OBR := Lib.hid (OB9.below hbR)
        have OLR := Lib.hid (OL9.below hbR)
        have RR := row_new W9 #[.string x.f, .string x.t, .slice A29 x.n c29] 39 3 (letF x.f x.t (.slice A29 x.n c29)) rfl (let_at _ _ _)
        have HNW : Hid (∀ j u, [Value.string x.f, .string x.t, .slice A29 x.n c29][j]? = some u → (W9.alloc (.cells #[.string x.f, .string x.t, .slice A29 x.n c29] 39)).cell? ⟨W9.heap.size, 0 + j, none⟩ = some u) := Lib.hid (fun j u hj => by
          rw [Nat.zero_add]
          match j, hj with
          | 0, hj => exact (RR.cell (i := 0) (by omega)).trans hj
          | 1, hj => exact (RR.cell (i := 1) (by omega)).trans hj
          | 2, hj => exact (RR.cell (i := 2) (by omega)).trans hj)
        have AP9H := Lib.hid AP9
        clear OB9 OL9 AP9 RR hbR
        refine e_go 16 rfl (by kernel_rfl) ?_
        go_wp2_with fail
        refine m_on HBR.out ?_
        generalize W9.alloc (.cells #[.string x.f, .string x.t, .slice A29 x.n c29] 39) = WR at *
        generalize W9.heap.size = g9 at *
        refine e_go 17 rfl (by kernel_rfl) ?_
        go_wp2_with (at_builtin; refine append_lets (by rfl) (.tmp 21) (.tmp 31) (by rfl) W1.heap.size n ys _ (by rfl) OLR.out (some ⟨g9, 0, none⟩) 1 1 [.string x.f, .string x.t, .slice A29 x.n c29] (by rfl) rfl (fun _ => ⟨g9, 0, rfl, HNW.out⟩) (fun u hu => by simp at hu; rcases hu with rfl | rfl | rfl <;> rfl) (by omega) HBR.out.size ?_; intro v32 WS hownS hgS hatS)
        have HBS : Below W1.heap.size W1 WS := HBR.out.grown hgS HBR.out.size (fun b hb => (OLR.out.lt b hb).1)
        have OBS : Own WS W1.heap.size x.n x.e (.slice A29 x.n c29) := OBR.out.keep (fun b hb => hgS.block b (OBR.out.lt hb).2 (fun e => AP9H.out b hb e.symm))
        obtain ⟨A32, c32, hv32, -, -⟩ := hownS.shape
        subst hv32
        have OLS := Lib.hid hownS
        have OBSH := Lib.hid OBS
        have HBSH := Lib.hid HBS
        clear hownS hgS hatS OBS HBR OBR OLR HNW AP9H
        refine m_on HBS ?_
        refine e_go 18 rfl (by kernel_rfl) ?_
        go_wp2_with fail
        refine m_on HBS ?_
        refine e_go 19 rfl (by kernel_rfl) ?_
        go_wp2_with fail
        refine m_on HBS ?_
        have rowS := HR1.out.row.of_block (HBS.block g hgW)
        have c9 : WS.cell? ⟨g, 1, none⟩ = some (.slice A n c) := (HBS.cell (p := ⟨g, 1, none⟩) hgW).trans d1.out
        have f9 := rowS.frozen 1
        have HT := Lib.hid (send_done HN.out HR1.out HC.out HB1.out HBS rowS OLS.out OBSH.out hx (by omega) hgW)
        clear HBS rowS
        refine e_last rfl (by kernel_rfl) ?_
        go_wp2_with fail
        refine NoPanic.normal ?_
        generalize WS.setCell ⟨g, 1, none⟩ (.slice A32 (n + 1) c32) = WT at *
        go_wp2
        go_ret
        exact ⟨rfl, HT.out⟩
    · skip
      have OBb : Own (W2.alloc (.cells #[] 5)) W1.heap.size 0 (fun _ => 0) (.slice (some ⟨W2.heap.size, 0, none⟩) 0 0) := own_base (own_empty8 W2 (fun _ => 0)) hS2.size
      have HBb : Below W1.heap.size W1 (W2.alloc (.cells #[] 5)) := hS2.alloc hS2.size _
      go_wp2_with fail
      refine m_on HBb ?_
      generalize W2.alloc (.cells #[] 5) = Wb at *
      generalize W2.heap.size = k26 at *
      refine e_go 1 rfl (by kernel_rfl) ?_
      have OLa : OwnL (Wb.alloc (.cells #[] 39)) W1.heap.size 0 (.slice (some ⟨Wb.heap.size, 0, none⟩) 0 0) [] := (OwnL.empty Wb).lower HBb.size
      have HBa : Below W1.heap.size W1 (Wb.alloc (.cells #[] 39)) := HBb.alloc HBb.size _
      have OBb2 : Own (Wb.alloc (.cells #[] 39)) W1.heap.size 0 (fun _ => 0) (.slice (some ⟨k26, 0, none⟩) 0 0) := OBb.below ((Below.refl _ _).alloc (Nat.le_refl _) _)
      have hk : k26 < Wb.heap.size := (OBb.lt rfl).2
      clear OBb
      go_wp2_with fail
      refine m_on HBa ?_
      generalize Wb.alloc (.cells #[] 39) = Wa at *
      generalize Wb.heap.size = k16 at *
      have OBX := Lib.hid OBb2
      clear OBb2
      refine e_go 6 rfl (by kernel_rfl) ?_
      have hsrc : 0 < n → ∃ g o, A = some ⟨g, o, none⟩ ∧ ∀ j u, ys[j]? = some u → Wa.cell? ⟨g, o + j, none⟩ = some u := fun h0 => by
        obtain ⟨gg, oo, hA, hgg, hcc⟩ := HCE.out h0
        exact ⟨gg, oo, hA, fun j u hj => (HBa.cell (p := ⟨gg, oo + j, none⟩) hgg).trans (hcc j u hj)⟩
      have OLH := Lib.hid OLa
      have HSRC := Lib.hid hsrc
      have HBH := Lib.hid HBa
      clear OLa hsrc HBa 
      go_wp2_with (at_builtin; refine append_lets (by rfl) (.tmp 16) (.tmp 20) (by rfl) W1.heap.size 0 [] _ (by rfl) OLH.out A n c ys (by rfl) (by rw [HN.out]; exact HC.out.len) HSRC.out HC.out.one (by omega) HBH.out.size ?_; intro v21 W6 hown6 hg6 hat6)
      have HB6 : Below W1.heap.size W1 W6 := HBH.out.grown hg6 HBH.out.size (fun b hb => (OLH.out.lt b hb).1)
      have OL6 : OwnL W6 W1.heap.size n v21 ys := by have := hown6; rw [Nat.zero_add, List.nil_append] at this; exact this
      have OB6 : Own W6 W1.heap.size 0 (fun _ => 0) (.slice (some ⟨k26, 0, none⟩) 0 0) := OBX.out.keep (fun b hb => hg6.block b (OBX.out.lt hb).2 (fun e => by simp [Value.ownBlock] at hb e; omega))
      have AP14 : ∀ b, v21.ownBlock = some b → (Value.slice (some ⟨k26, 0, none⟩) 0 0).ownBlock ≠ some b := fun b hb he => by
        have hb2 := (OBX.out.lt he).2
        rcases hat6 with e | e
        · rw [e] at hb; simp [Value.ownBlock] at hb he; omega
        · rw [e] at hb; simp [Value.ownBlock] at hb he; omega
      clear OBX hown6 hg6 hat6
      refine m_on HB6 ?_
      have HB14 := HB6
      have OB14 := OB6
      have OL14 := OL6
      clear OB6 OL6
      have HS14 := Lib.hid (slice_below HS1.out HB14)
      have OB14H := Lib.hid OB14
      have OL14H := Lib.hid OL14
      have HB14H := Lib.hid HB14
      have AP14H := Lib.hid AP14
      clear OB14 OL14 HB14 AP14
      refine e_go 14 rfl (by kernel_rfl) ?_
      go_wp2_with (at_builtin; refine append_bytes (by rfl) (.tmp 26) (.tmp 28) (by rfl) W1.heap.size 0 (fun _ => 0) _ (by rfl) OB14H.out w.heap.size x.n x.e _ (by rfl) HS14.out (by omega) HB14H.out.size ?_; intro v29 W9 hown9 hg9 hat9)
      have HB9 : Below W1.heap.size W1 W9 := HB14H.out.grown hg9 HB14H.out.size (fun b hb => (OB14H.out.lt hb).1)
      have OB9 : Own W9 W1.heap.size x.n x.e v29 := by have := Own.congr' hown9 (e' := x.e) (fun j _ => by unfold cat; rw [if_neg (by omega)]; rfl); rw [Nat.zero_add] at this; exact this
      have OL9 : OwnL W9 W1.heap.size n v21 ys := OL14H.out.keep (fun b hb => hg9.block b (OL14H.out.lt b hb).2 (fun e => AP14H.out b hb e.symm))
      have AP9 : ∀ b, v29.ownBlock = some b → v21.ownBlock ≠ some b := fun b hb hv => by
        rcases hat9 with e | e
        · exact AP14H.out b hv (e ▸ hb)
        · rw [e] at hb; simp at hb; have := (OL14H.out.lt b hv).2; omega
      obtain ⟨A29, c29, hv29, -, -⟩ := own_shape OB9
      subst hv29
      clear hown9 hg9 hat9 OB14H OL14H HB14H AP14H HS14
      refine m_on HB9 ?_
      refine e_take 15 rfl (by kernel_rfl) (by rfl) _ (fun W hW => by go_simp; rfl) HB9 ?_
      simp only [Act.put, List.setIfInBounds_toArray, List.set_cons_zero, List.set_cons_succ]
      have hbR : Below W9.heap.size W9 (W9.alloc (.cells #[.string x.f, .string x.t, .slice A29 x.n c29] 39)) := (Below.refl _ _).alloc (Nat.le_refl _) _
      have HBR := Lib.hid (HB9.alloc HB9.size (.cells #[.string x.f, .string x.t, .slice A29 x.n c29] 39))
      have OBR := Lib.hid (OB9.below hbR)
      have OLR := Lib.hid (OL9.below hbR)
      have RR := row_new W9 #[.string x.f, .string x.t, .slice A29 x.n c29] 39 3 (letF x.f x.t (.slice A29 x.n c29)) rfl (let_at _ _ _)
      have HNW : Hid (∀ j u, [Value.string x.f, .string x.t, .slice A29 x.n c29][j]? = some u → (W9.alloc (.cells #[.string x.f, .string x.t, .slice A29 x.n c29] 39)).cell? ⟨W9.heap.size, 0 + j, none⟩ = some u) := Lib.hid (fun j u hj => by
        rw [Nat.zero_add]
        match j, hj with
        | 0, hj => exact (RR.cell (i := 0) (by omega)).trans hj
        | 1, hj => exact (RR.cell (i := 1) (by omega)).trans hj
        | 2, hj => exact (RR.cell (i := 2) (by omega)).trans hj)
      have AP9H := Lib.hid AP9
      clear OB9 OL9 AP9 RR hbR
      refine e_go 16 rfl (by kernel_rfl) ?_
      go_wp2_with fail
      refine m_on HBR.out ?_
      generalize W9.alloc (.cells #[.string x.f, .string x.t, .slice A29 x.n c29] 39) = WR at *
      generalize W9.heap.size = g9 at *
      refine e_go 17 rfl (by kernel_rfl) ?_
      go_wp2_with (at_builtin; refine append_lets (by rfl) (.tmp 21) (.tmp 31) (by rfl) W1.heap.size n ys _ (by rfl) OLR.out (some ⟨g9, 0, none⟩) 1 1 [.string x.f, .string x.t, .slice A29 x.n c29] (by rfl) rfl (fun _ => ⟨g9, 0, rfl, HNW.out⟩) (fun u hu => by simp at hu; rcases hu with rfl | rfl | rfl <;> rfl) (by omega) HBR.out.size ?_; intro v32 WS hownS hgS hatS)
      have HBS : Below W1.heap.size W1 WS := HBR.out.grown hgS HBR.out.size (fun b hb => (OLR.out.lt b hb).1)
      have OBS : Own WS W1.heap.size x.n x.e (.slice A29 x.n c29) := OBR.out.keep (fun b hb => hgS.block b (OBR.out.lt hb).2 (fun e => AP9H.out b hb e.symm))
      obtain ⟨A32, c32, hv32, -, -⟩ := hownS.shape
      subst hv32
      have OLS := Lib.hid hownS
      have OBSH := Lib.hid OBS
      have HBSH := Lib.hid HBS
      clear hownS hgS hatS OBS HBR OBR OLR HNW AP9H
      refine m_on HBS ?_
      refine e_go 18 rfl (by kernel_rfl) ?_
      go_wp2_with fail
      refine m_on HBS ?_
      refine e_go 19 rfl (by kernel_rfl) ?_
      go_wp2_with fail
      refine m_on HBS ?_
      have rowS := HR1.out.row.of_block (HBS.block g hgW)
      have c9 : WS.cell? ⟨g, 1, none⟩ = some (.slice A n c) := (HBS.cell (p := ⟨g, 1, none⟩) hgW).trans d1.out
      have f9 := rowS.frozen 1
      have HT := Lib.hid (send_done HN.out HR1.out HC.out HB1.out HBS rowS OLS.out OBSH.out hx (by omega) hgW)
      clear HBS rowS
      refine e_last rfl (by kernel_rfl) ?_
      go_wp2_with fail
      refine NoPanic.normal ?_
      generalize WS.setCell ⟨g, 1, none⟩ (.slice A32 (n + 1) c32) = WT at *
      go_wp2
      go_ret
      exact ⟨rfl, HT.out⟩
end Go.Proofs.Ytefghgoeppfpfaa.Net
