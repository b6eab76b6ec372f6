/-
  What the document's Apply of an operation to a book does. What the document's Key does of a book. What the document's Ops does of a book: the operations that make it.
-/
import Derived.Test.YtebchoeeohmlaaaDoorBd20
import Derived.Test.YtebchoeeohmlaaaDoorBd28
import Derived.Test.YtebchoeeohmlaaaDoorBd49
import Derived.Test.YtebchoeeohmlaaaDoorBd09
import Derived.Test.YtebchoeeohmlaaaDoorBd06
import Derived.Test.YtebchoeeohmlaaaDoorBd08
namespace Go.Proofs.YtebchoeeohmlaaaDoor.Book
open Go Go.RowKit Go.Proofs.YtebchoeeohmlaaaDoor.Aid Go.Proofs.YtebchoeeohmlaaaDoor.Field

def entL (p : ByteArray × Wd) : List Value := (List.range 17).map (entF p)
def wdL (k : Wd) : List Value := (List.range 16).map (wordF k)
theorem entF_one (p : ByteArray × Wd) (j : Nat) : (entF p j).oneCell' = true := by
  unfold entF wordF
  split <;> rfl
theorem entL_ok (p : ByteArray × Wd) : (entL p).length = 17 ∧ ∀ q ∈ entL p, q.oneCell' = true := ⟨by simp [entL], fun q hq => by
  obtain ⟨j, _, rfl⟩ := List.mem_map.1 hq
  exact entF_one p j⟩
theorem wdL_ok (k : Wd) : (wdL k).length = 16 ∧ ∀ q ∈ wdL k, q.oneCell' = true := ⟨by simp [wdL], fun q hq => by
  obtain ⟨j, _, rfl⟩ := List.mem_map.1 hq
  rfl⟩
theorem map_getD {α β : Type} (f : α → β) (d : α) : ∀ l : List α, (List.range l.length).map (fun i => f (l.getD i d)) = l.map f := fun l => by
  apply List.ext_getElem?
  intro i
  by_cases hi : i < l.length
  · rw [List.getElem?_map, List.getElem?_range hi, List.getElem?_map, List.getElem?_eq_getElem hi]
    simp [List.getD_eq_getElem?_getD, hi]
  · rw [List.getElem?_eq_none (by simp; omega), List.getElem?_eq_none (by simp; omega)]
theorem rows_congr {W : World} {s n : Nat} {V V' : Nat → List Value} {v : Value} (h : RowsAt W s n V v) (hV : ∀ i, i < n → V i = V' i) : RowsAt W s n V' v := by
  obtain ⟨A, c, hv, hr⟩ := h
  refine ⟨A, c, hv, fun h1 => ?_⟩
  obtain ⟨b, o, hA, hlt, hc⟩ := hr h1
  exact ⟨b, o, hA, hlt, fun i hi j u hu => hc i hi j u (by rw [hV i hi]; exact hu)⟩
/-- A book whose slices are the call's own. -/
theorem own_book {W : World} {B B' : Nat} {t t' : TypeId} {b : Bk} {Lv Rv : Value} (hL : OwnE W B t 17 (b.L.map entL) Lv) (hR : OwnE W B' t' 16 (b.rev.map wdL) Rv) (hr : Reach b) : BookAt W b Lv Rv :=
  ⟨rows_congr (by have := hL.rows; rwa [List.length_map] at this) (fun i hi => by
    rw [List.getD_eq_getElem?_getD, List.getElem?_map, List.getElem?_eq_getElem hi]
    simp [entsL, entL, List.getD_eq_getElem?_getD, hi]), rows_congr (by have := hR.rows; rwa [List.length_map] at this) (fun i hi => by
    rw [List.getD_eq_getElem?_getD, List.getElem?_map, List.getElem?_eq_getElem hi]
    simp [revsL, wdL, List.getD_eq_getElem?_getD, hi]), hr, fun g hg => ⟨fun e => by have := (hL.lt g e).2; omega, fun e => by have := (hR.lt g e).2; omega⟩, fun A n c h => by
    rcases h with h | h
    · exact hL.cap h
    · exact hR.cap h⟩
def ApplyPost (b : Bk) (x : OpB) (Lv Rv : Value) (w : World) (y : Ending) (w' : World) : Prop :=
  ∃ Lv' Rv', y = .returned (.tuple #[bookV (applyB b x) Lv' Rv', .int .i64 (applyC b x)]) ∧ BookAt w' (applyB b x) Lv' Rv' ∧ Below w.heap.size w w' ∧ ∀ g, g < w.heap.size → Apart Lv Rv g → Apart Lv' Rv' g
/-- The three rows of the call: the book, the operation, what is handed back. -/
structure Rows3 (w W : World) (b : Bk) (x : OpB) (Lv Rv : Value) (g : Nat) : Prop where
  bk : W.rowIs g 41 19 (bookF b Lv Rv)
  op : W.rowIs (g + 1) 32 19 (opF x)
  out : W.rowIs (g + 2) 41 19 (bookF bk0 (.slice none 0 0) (.slice none 0 0))
  at_ : BookAt W b Lv Rv
  bel : Below w.heap.size w W
  ap : ∀ k, w.heap.size ≤ k → Apart Lv Rv k
theorem Rows3.err {w W W3 : World} {b : Bk} {x : OpB} {Lv Rv : Value} (h : Rows3 w W b x Lv Rv w.heap.size) (ho : Only (w.heap.size + 2) W W3) (c : Int) (hc : applyC b x = c) (h0 : c ≠ 0) : ApplyPost b x Lv Rv w (.returned (.tuple #[.agg (cellsOf 19 (bookF b Lv Rv)), .int .i64 c])) W3 := by
  have hb : applyB b x = b := apply_err (by rw [hc]; exact h0)
  unfold ApplyPost
  rw [hb, hc]
  exact ⟨Lv, Rv, rfl, h.at_.only (h.ap _ (by omega)) ho, ho.below h.bel (by omega), fun g _ hg => hg⟩
theorem Rows3.below {w W W' : World} {b : Bk} {x : OpB} {Lv Rv : Value} {g : Nat} (h : Rows3 w W b x Lv Rv g) (hb : Below W.heap.size W W') : Rows3 w W' b x Lv Rv g :=
  ⟨h.bk.of_block (hb.block _ (World.rowIs.lt h.bk)), h.op.of_block (hb.block _ (World.rowIs.lt h.op)), h.out.of_block (hb.block _ (World.rowIs.lt h.out)), h.at_.below hb, h.bel.trans (hb.mono h.bel.size), h.ap⟩
theorem Rows3.fin {w W W3 : World} {b b' : Bk} {x : OpB} {Lv Rv L' R' : Value} (h : Rows3 w W b x Lv Rv w.heap.size) (hb : applyB b x = b') (hc : applyC b x = 0) (hat : BookAt W b' L' R') (ha : ∀ g, g ≤ w.heap.size + 2 → Apart L' R' g) (ho : Only (w.heap.size + 2) W W3) :
    ApplyPost b x Lv Rv w (.returned (.tuple #[.agg (cellsOf 19 (bookF b' L' R')), .int .i64 0])) W3 := by
  unfold ApplyPost
  rw [hb, hc]
  exact ⟨L', R', rfl, hat.only (ha _ (Nat.le_refl _)) ho, ho.below h.bel (by omega), fun g hg _ => ha g (by omega)⟩
/-- Behind the copy: what is handed back lies in memory of the call's own. -/
structure Rows4 (w W : World) (b : Bk) (x : OpB) (Lv Rv Lo Ro : Value) (g7 : Nat) : Prop where
  r3 : Rows3 w W b x Lv Rv w.heap.size
  row : W.rowIs g7 41 19 (bookF b Lo Ro)
  o1 : OwnE W (w.heap.size + 3) 94 17 (b.L.map entL) Lo
  o2 : OwnE W (w.heap.size + 3) 26 16 (b.rev.map wdL) Ro
  g7 : w.heap.size + 3 ≤ g7
theorem Rows3.only {w W W' : World} {b : Bk} {x : OpB} {Lv Rv : Value} (h : Rows3 w W b x Lv Rv w.heap.size) {k : Nat} (hk : w.heap.size + 3 ≤ k) (ho : Only k W W') : Rows3 w W' b x Lv Rv w.heap.size :=
  ⟨h.bk.of_block (ho.block _ (by omega)), h.op.of_block (ho.block _ (by omega)), h.out.of_block (ho.block _ (by omega)), h.at_.only (h.ap k (by omega)) ho, ho.below h.bel (by omega), h.ap⟩
theorem own_apart {W W' : World} {B B' : Nat} {t t' : TypeId} {l l' : List (List Value)} {L R : Value} {s s' : Nat} (h1 : OwnE W B t s l L) (h2 : OwnE W' B' t' s' l' R) {m : Nat} (hB : m < B) (hB' : m < B') : ∀ g, g ≤ m → Apart L R g := fun g hg => ⟨fun e => by have := (h1.lt g e).1; omega, fun e => by have := (h2.lt g e).1; omega⟩
theorem Rows4.step {w W W' : World} {b b' : Bk} {x : OpB} {Lv Rv Lo Ro : Value} {g7 : Nat} (h : Rows4 w W b x Lv Rv Lo Ro g7) (ho : Only g7 W W') (hL : b'.L = b.L) (hR : b'.rev = b.rev) (hr : W'.rowIs g7 41 19 (bookF b' Lo Ro)) (hre : Reach b') :
    Rows3 w W' b x Lv Rv w.heap.size ∧ W'.rowIs g7 41 19 (bookF b' Lo Ro) ∧ BookAt W' b' Lo Ro ∧ ∀ g, g ≤ w.heap.size + 2 → Apart Lo Ro g := by
  have n1 := own_ne_row h.o1 h.row (by decide)
  have n2 := own_ne_row h.o2 h.row (by decide)
  have o1 := h.o1.keep (fun k hk => ho.block k (fun e => n1 (e ▸ hk)))
  have o2 := h.o2.keep (fun k hk => ho.block k (fun e => n2 (e ▸ hk)))
  exact ⟨h.r3.only h.g7 ho, hr, own_book (by rw [hL]; exact o1) (by rw [hR]; exact o2) hre, own_apart o1 o2 (by omega) (by omega)⟩
theorem only_cell (g j : Nat) (u : Value) (W : World) : Only g W (W.setCell ⟨g, j, none⟩ u) :=
  ⟨rfl, rfl, rfl, by simp [World.setCell], fun k hk => Below.heap_setCell W _ u k (by simpa using hk)⟩
theorem only_both {g : Nat} {a b c : World} (h : Only g a b) (k : Only g b c) : Only g a c :=
  ⟨k.os.trans h.os, k.tape.trans h.tape, k.output.trans h.output, k.size.trans h.size, fun x hx => (k.block x hx).trans (h.block x hx)⟩
theorem rows_grown {W W' : World} {s n : Nat} {V : Nat → List Value} {v : Value} {k : Option Nat} (h : RowsAt W s n V v) (hg : W.grownBy W' k) (hk : ∀ j, v.ownBlock = some j → some j ≠ k) : RowsAt W' s n V v := by
  obtain ⟨A, c, rfl, hr⟩ := h
  refine ⟨A, c, rfl, fun h1 => ?_⟩
  obtain ⟨b, o, rfl, hlt, hc⟩ := hr h1
  refine ⟨b, o, rfl, Nat.lt_of_lt_of_le hlt hg.size, fun i hi j u hu => ?_⟩
  have := hc i hi j u hu
  unfold World.cell? at this ⊢
  rw [hg.block b hlt (hk b rfl)]
  exact this
theorem own_grown {W W' : World} {B : Nat} {e : TypeId} {s : Nat} {L : List (List Value)} {v : Value} {k : Option Nat} (h : OwnE W B e s L v) (hg : W.grownBy W' k) (hk : ∀ j, v.ownBlock = some j → some j ≠ k) : OwnE W' B e s L v := h.keep (fun j hj => hg.block j (h.lt j hj).2 (hk j hj))
theorem Rows3.grown {w W W' : World} {b : Bk} {x : OpB} {Lv Rv : Value} (h : Rows3 w W b x Lv Rv w.heap.size) {k : Option Nat} (hk : ∀ j, k = some j → w.heap.size + 3 ≤ j) (hg : W.grownBy W' k) : Rows3 w W' b x Lv Rv w.heap.size := by
  have hb : ∀ j, j < w.heap.size + 3 → some j ≠ k := fun j hj e => by have := hk j e.symm; omega
  have l0 := World.rowIs.lt h.out
  refine ⟨h.bk.of_block (hg.block _ (World.rowIs.lt h.bk) (hb _ (by omega))), h.op.of_block (hg.block _ (World.rowIs.lt h.op) (hb _ (by omega))), h.out.of_block (hg.block _ l0 (hb _ (by omega))), ?_, ⟨hg.os.trans h.bel.os, hg.tape.trans h.bel.tape, hg.output.trans h.bel.output, Nat.le_trans h.bel.size hg.size, fun j hj => (hg.block j (Nat.lt_of_lt_of_le hj h.bel.size) (hb j (by omega))).trans (h.bel.block j hj)⟩, h.ap⟩
  have ha : ∀ j, (Lv.ownBlock = some j ∨ Rv.ownBlock = some j) → some j ≠ k := fun j hj e => by
    have h1 := hk j e.symm
    have h2 := h.ap j (by omega)
    rcases hj with hj | hj
    · exact h2.1 hj
    · exact h2.2 hj
  exact ⟨rows_grown h.at_.ents hg (fun j hj => ha j (.inl hj)), rows_grown h.at_.revs hg (fun j hj => ha j (.inr hj)), h.at_.reach, fun g hg' => h.at_.apart g (Nat.le_trans hg.size hg'), h.at_.cap⟩
/-- The key of an entry is another. -/
theorem own_key {W W' : World} {base g n c t : Nat} {L : List (ByteArray × Wd)} {k : Nat} {p : ByteArray × Wd} {key : Wd} {f : Nat → Value} (h : OwnE W base t 17 (L.map entL) (.slice (some ⟨g, 0, none⟩) n c)) (hp : L[k]? = some p)
    (hf : ∀ i r j u, (L.map entL)[i]? = some r → r[j]? = some u → f (i * 17 + j) = u) (hr : W'.rowIs g t (c * 17) (fun j => if k * 17 + 1 ≤ j ∧ j < k * 17 + 1 + 16 then wordF key (j - (k * 17 + 1)) else f j)) :
    OwnE W' base t 17 ((L.set k (p.1, key)).map entL) (.slice (some ⟨g, 0, none⟩) n c) := by
  obtain ⟨f', hr', hc, hm, hb, hn, _⟩ := h.toRow
  have hl : ((L.set k (p.1, key)).map entL).length = n := by rw [hn]; simp
  have := OwnE.ofRow (L := (L.set k (p.1, key)).map entL) hr (by rw [hl, hn]; exact hc) hm hb (fun r hr2 => by
    obtain ⟨q, _, rfl⟩ := List.mem_map.1 hr2
    exact (entL_ok q).1) (fun i r j u h1 h2 => by
    have hj : j < 17 := by
      have := (List.getElem?_eq_some_iff.1 h2).1
      rw [List.getElem?_map] at h1
      obtain ⟨q, _, rfl⟩ := Option.map_eq_some_iff.1 h1
      rw [(entL_ok q).1] at this
      exact this
    rw [List.getElem?_map, List.getElem?_set] at h1
    by_cases hik : k = i
    · subst hik
      have hk : k < L.length := (List.getElem?_eq_some_iff.1 hp).1
      rw [if_pos rfl, if_pos hk] at h1
      simp only [Option.map_some, Option.some.injEq] at h1
      subst h1
      unfold entL at h2
      rw [List.getElem?_map, List.getElem?_range hj] at h2
      simp only [Option.map_some, Option.some.injEq] at h2
      subst h2
      by_cases hj0 : j = 0
      · subst hj0
        rw [if_neg (by omega)]
        exact hf k (entL p) 0 _ (by rw [List.getElem?_map, hp]; rfl) (by unfold entL; rw [List.getElem?_map, List.getElem?_range (by omega)]; rfl)
      · rw [if_pos (by omega), show k * 17 + j - (k * 17 + 1) = j - 1 by omega]
        unfold entF
        rw [if_neg hj0]
    · rw [if_neg hik] at h1
      rw [if_neg (by omega)]
      exact hf i r j u (by rw [List.getElem?_map]; exact h1) h2)
  rw [hl] at this
  exact this
theorem Rows4.below {w W W' : World} {b : Bk} {x : OpB} {Lv Rv Lo Ro : Value} {g7 : Nat} (h : Rows4 w W b x Lv Rv Lo Ro g7) (hb : Below W.heap.size W W') : Rows4 w W' b x Lv Rv Lo Ro g7 :=
  ⟨h.r3.below hb, h.row.of_block (hb.block _ (World.rowIs.lt h.row)), h.o1.below hb, h.o2.below hb, h.g7⟩
/-- The entries are another slice. -/
theorem Rows4.growL {w W W' : World} {b b' : Bk} {x : OpB} {Lv Rv Lo Ro v' : Value} {g7 : Nat} (h : Rows4 w W b x Lv Rv Lo Ro g7) (hg : W.grownBy W' Lo.ownBlock) (ho : OwnE W' (w.heap.size + 3) 94 17 (b'.L.map entL) v') (hrev : b'.rev = b.rev) (hgen : b'.gen = b.gen) (hown : b'.own = b.own) (hre : Reach b') :
    W'.rowIs g7 41 19 (bookF b Lo Ro) ∧ Rows3 w (W'.setCell ⟨g7, 0, none⟩ v') b x Lv Rv w.heap.size ∧ (W'.setCell ⟨g7, 0, none⟩ v').rowIs g7 41 19 (bookF b' v' Ro) ∧ BookAt (W'.setCell ⟨g7, 0, none⟩ v') b' v' Ro ∧ ∀ g, g ≤ w.heap.size + 2 → Apart v' Ro g := by
  have n1 := own_ne_row h.o1 h.row (by decide)
  have r7 := h.row.of_block (hg.block g7 (World.rowIs.lt h.row) (fun e => n1 e.symm))
  have o2 := own_grown h.o2 hg (own_ne_own h.o1 h.o2 (by decide))
  have r3 := h.r3.grown (fun j hj => (h.o1.lt j hj).1) hg
  have ho' := only_cell g7 0 v' W'
  have m1 := own_ne_row ho r7 (by decide)
  have m2 := own_ne_row o2 r7 (by decide)
  have p1 := ho.keep (fun k hk => ho'.block k (fun e => m1 (e ▸ hk)))
  have p2 := o2.keep (fun k hk => ho'.block k (fun e => m2 (e ▸ hk)))
  refine ⟨r7, r3.only h.g7 ho', (r7.set 0 v').congr (fun j hj => ?_), own_book p1 (by rw [hrev]; exact p2) hre, own_apart p1 p2 (by omega) (by omega)⟩
  unfold bookF
  by_cases h0 : j = 0
  · rw [if_pos h0, if_pos h0]
  · rw [if_neg h0, if_neg h0, if_neg h0, hgen, hown]
theorem Rows4.same {w W W' : World} {b b' : Bk} {x : OpB} {Lv Rv Lo Ro : Value} {g7 : Nat} (h : Rows4 w W b x Lv Rv Lo Ro g7) (hg : W.grownBy W' Lo.ownBlock) (ho : OwnE W' (w.heap.size + 3) 94 17 (b'.L.map entL) Lo) (hrev : b'.rev = b.rev) (hgen : b'.gen = b.gen) (hown : b'.own = b.own) (hre : Reach b') :
    True ∧ Rows3 w W' b x Lv Rv w.heap.size ∧ W'.rowIs g7 41 19 (bookF b' Lo Ro) ∧ BookAt W' b' Lo Ro ∧ ∀ g, g ≤ w.heap.size + 2 → Apart Lo Ro g := by
  have n1 := own_ne_row h.o1 h.row (by decide)
  have r7 := h.row.of_block (hg.block g7 (World.rowIs.lt h.row) (fun e => n1 e.symm))
  have o2 := own_grown h.o2 hg (own_ne_own h.o1 h.o2 (by decide))
  have r3 := h.r3.grown (fun j hj => (h.o1.lt j hj).1) hg
  refine ⟨trivial, r3, r7.congr (fun j hj => ?_), own_book ho (by rw [hrev]; exact o2) hre, own_apart ho o2 (by omega) (by omega)⟩
  unfold bookF
  rw [hgen, hown]
theorem only_grown {g : Nat} {W W' : World} (h : Only g W W') : W.grownBy W' (some g) := ⟨h.os, h.tape, h.output, Nat.le_of_eq h.size.symm, fun j _ hj => h.block j (fun e => hj (by rw [e]))⟩
theorem rows_less (b : Bk) (As Bs : List (ByteArray × Wd)) (p : ByteArray × Wd) (h : b.L = As ++ p :: Bs) : (List.range As.length).map (entsL b) ++ (List.range (b.L.length - (As.length + 1))).map (fun i => entsL b (As.length + 1 + i)) = (As ++ Bs).map entL := by
  have hn : b.L.length - (As.length + 1) = Bs.length := by rw [h]; simp; omega
  rw [hn, List.map_append]
  congr 1
  · rw [← map_getD entL (nos, zw) As]
    refine List.map_congr_left (fun i hi => ?_)
    have hi' := List.mem_range.1 hi
    unfold entsL entL
    rw [h, List.getD_eq_getElem?_getD, List.getElem?_append_left hi', ← List.getD_eq_getElem?_getD]
  · rw [← map_getD entL (nos, zw) Bs]
    refine List.map_congr_left (fun i hi => ?_)
    unfold entsL entL
    rw [h, List.getD_eq_getElem?_getD, List.getElem?_append_right (by omega), show As.length + 1 + i - As.length = i + 1 by omega, List.getElem?_cons_succ, ← List.getD_eq_getElem?_getD]
theorem Rows4.growR {w W W' : World} {b b' : Bk} {x : OpB} {Lv Rv Lo Ro v' : Value} {g7 : Nat} (h : Rows4 w W b x Lv Rv Lo Ro g7) (hg : W.grownBy W' Ro.ownBlock) (ho : OwnE W' (w.heap.size + 3) 26 16 (b'.rev.map wdL) v') (hL : b'.L = b.L) (hgen : b'.gen = b.gen) (hown : b'.own = b.own) (hre : Reach b') :
    W'.rowIs g7 41 19 (bookF b Lo Ro) ∧ Rows3 w (W'.setCell ⟨g7, 1, none⟩ v') b x Lv Rv w.heap.size ∧ (W'.setCell ⟨g7, 1, none⟩ v').rowIs g7 41 19 (bookF b' Lo v') ∧ BookAt (W'.setCell ⟨g7, 1, none⟩ v') b' Lo v' ∧ ∀ g, g ≤ w.heap.size + 2 → Apart Lo v' g := by
  have n1 := own_ne_row h.o2 h.row (by decide)
  have r7 := h.row.of_block (hg.block g7 (World.rowIs.lt h.row) (fun e => n1 e.symm))
  have o1 := own_grown h.o1 hg (own_ne_own h.o2 h.o1 (by decide))
  have r3 := h.r3.grown (fun j hj => (h.o2.lt j hj).1) hg
  have ho' := only_cell g7 1 v' W'
  have m1 := own_ne_row o1 r7 (by decide)
  have m2 := own_ne_row ho r7 (by decide)
  have p1 := o1.keep (fun k hk => ho'.block k (fun e => m1 (e ▸ hk)))
  have p2 := ho.keep (fun k hk => ho'.block k (fun e => m2 (e ▸ hk)))
  refine ⟨r7, r3.only h.g7 ho', (r7.set 1 v').congr (fun j hj => ?_), own_book (by rw [hL]; exact p1) p2 hre, own_apart p1 p2 (by omega) (by omega)⟩
  unfold bookF
  by_cases h1 : j = 1
  · rw [if_pos h1, if_neg (by omega), if_pos h1]
  · rw [if_neg h1, if_neg h1, if_neg h1, hgen, hown]
def zE : Value := .agg #[.string ⟨#[]⟩, .int .u8 0, .int .u8 0, .int .u8 0, .int .u8 0, .int .u8 0, .int .u8 0, .int .u8 0, .int .u8 0, .int .u8 0, .int .u8 0, .int .u8 0, .int .u8 0, .int .u8 0, .int .u8 0, .int .u8 0, .int .u8 0]
def zW : Value := .agg #[.int .u8 0, .int .u8 0, .int .u8 0, .int .u8 0, .int .u8 0, .int .u8 0, .int .u8 0, .int .u8 0, .int .u8 0, .int .u8 0, .int .u8 0, .int .u8 0, .int .u8 0, .int .u8 0, .int .u8 0, .int .u8 0]
theorem infoE : (Tryd.prog.info? 94).map (fun i => (i.zero, i.size, i.bytes)) = some (some zE, 17, 32) := by kernel_rfl
theorem infoW : (Tryd.prog.info? 26).map (fun i => (i.zero, i.size, i.bytes)) = some (some zW, 16, 16) := by kernel_rfl
def postA (b : Bk) (AL AR : Option Addr) (cL cR g B : Nat) (i : Nat) (v : Value) (W : World) : Prop :=
  match i with
  | 0 => ∃ k, v = .slice (some ⟨k, 0, none⟩) 0 0 ∧ OwnE W B 94 17 [] v
  | 1 => v = .pointer (some ⟨g, 0, none⟩)
  | 2 => v = .slice AL b.L.length cL
  | 3 => OwnE W B 94 17 (b.L.map entL) v
  | 4 => ∃ k, v = .slice (some ⟨k, 0, none⟩) 0 0 ∧ OwnE W B 26 16 [] v
  | 5 => v = .pointer (some ⟨g, 1, none⟩)
  | 6 => v = .slice AR b.rev.length cR
  | 7 => OwnE W B 26 16 (b.rev.map wdL) v
  | 8 => v = .pointer (some ⟨g, 2, none⟩)
  | 9 => v = .int .i64 b.gen
  | 10 => v = .pointer (some ⟨g, 3, none⟩)
  | 11 => v = .agg (cellsOf 16 (wordF b.own))
  | 12 => ∃ Lo Ro, v = bookV b Lo Ro ∧ OwnE W B 94 17 (b.L.map entL) Lo ∧ OwnE W B 26 16 (b.rev.map wdL) Ro
  | 13 => ∃ k, v = .pointer (some ⟨k, 0, none⟩) ∧ W.rowIs k 41 19 (bookF bk0 (.slice none 0 0) (.slice none 0 0)) ∧ B ≤ k
  | _ => True
theorem postA_mono (b : Bk) (AL AR : Option Addr) (cL cR g B : Nat) : ∀ i v w w', Below w.heap.size w w' → postA b AL AR cL cR g B i v w → postA b AL AR cL cR g B i v w' := fun i v w w' hb h => by
  match i with
  | 0 => obtain ⟨k, hk, ho⟩ := h; exact ⟨k, hk, ho.below hb⟩
  | 1 => exact h
  | 2 => exact h
  | 3 => exact OwnE.below h hb
  | 4 => obtain ⟨k, hk, ho⟩ := h; exact ⟨k, hk, ho.below hb⟩
  | 5 => exact h
  | 6 => exact h
  | 7 => exact OwnE.below h hb
  | 8 => exact h
  | 9 => exact h
  | 10 => exact h
  | 11 => exact h
  | 12 => obtain ⟨Lo, Ro, hv, h1, h2⟩ := h; exact ⟨Lo, Ro, hv, h1.below hb, h2.below hb⟩
  | 13 => obtain ⟨k, hk, hr, hB⟩ := h; exact ⟨k, hk, hr.of_block (hb.block _ (World.rowIs.lt hr)), hB⟩
  | _ + 14 => trivial
set_option maxRecDepth 100000 in
set_option maxHeartbeats 8000000 in
theorem refApply15_any {w : World} {b : Bk} {Lv Rv : Value} (x : OpB) (h : BookAt w b Lv Rv) (hk : x.key.length = 16) (hs : x.name.size ≤ 9000000000000000000) : Calls Tryd.prog 15 #[bookV b Lv Rv, opV x] w (ApplyPost b x Lv Rv w) := by
  have HRT := Lib.hid (fun W => refRight15_any x hk hs W)
  have R3 : Hid (Rows3 w (((w.alloc (.cells (cellsOf 19 (bookF b Lv Rv)) 41)).alloc (.cells (cellsOf 19 (opF x)) 32)).alloc (.cells #[.slice none 0 0, .slice none 0 0, .int .i64 0, .int .u8 0, .int .u8 0, .int .u8 0, .int .u8 0, .int .u8 0, .int .u8 0, .int .u8 0, .int .u8 0, .int .u8 0, .int .u8 0, .int .u8 0, .int .u8 0, .int .u8 0, .int .u8 0, .int .u8 0, .int .u8 0] 41)) b x Lv Rv w.heap.size) := by
    have r1 := row_new w (cellsOf 19 (bookF b Lv Rv)) 41 19 _ (size_cellsOf _ _) (cellsOf_at _ _)
    have b1 : Below w.heap.size w (w.alloc (.cells (cellsOf 19 (bookF b Lv Rv)) 41)) := (Below.refl _ _).alloc (Nat.le_refl _) _
    have s1 : (w.alloc (.cells (cellsOf 19 (bookF b Lv Rv)) 41)).heap.size = w.heap.size + 1 := by simp
    generalize w.alloc (.cells (cellsOf 19 (bookF b Lv Rv)) 41) = w1 at *
    have r2 := row_new w1 (cellsOf 19 (opF x)) 32 19 _ (size_cellsOf _ _) (cellsOf_at _ _)
    have b2 : Below w1.heap.size w1 (w1.alloc (.cells (cellsOf 19 (opF x)) 32)) := (Below.refl _ _).alloc (Nat.le_refl _) _
    have s2 : (w1.alloc (.cells (cellsOf 19 (opF x)) 32)).heap.size = w.heap.size + 2 := by simp [s1]
    generalize w1.alloc (.cells (cellsOf 19 (opF x)) 32) = w2 at *
    have r3 := row_new w2 #[.slice none 0 0, .slice none 0 0, .int .i64 0, .int .u8 0, .int .u8 0, .int .u8 0, .int .u8 0, .int .u8 0, .int .u8 0, .int .u8 0, .int .u8 0, .int .u8 0, .int .u8 0, .int .u8 0, .int .u8 0, .int .u8 0, .int .u8 0, .int .u8 0, .int .u8 0] 41 19 _ rfl (zero19 _ rfl)
    have b3 : Below w2.heap.size w2 (w2.alloc (.cells #[.slice none 0 0, .slice none 0 0, .int .i64 0, .int .u8 0, .int .u8 0, .int .u8 0, .int .u8 0, .int .u8 0, .int .u8 0, .int .u8 0, .int .u8 0, .int .u8 0, .int .u8 0, .int .u8 0, .int .u8 0, .int .u8 0, .int .u8 0, .int .u8 0, .int .u8 0] 41)) := (Below.refl _ _).alloc (Nat.le_refl _) _
    rw [s1] at r2
    rw [s2] at r3
    have b23 := b2.trans (b3.mono b2.size)
    refine Lib.hid ⟨r1.of_block (b23.block _ (World.rowIs.lt r1)), r2.of_block (b3.block _ (World.rowIs.lt r2)), r3, (h.below b1).below b23, b1.trans (b23.mono b1.size), h.apart⟩
  unfold opV at HRT ⊢
  unfold bookV
  clear h
  go_enter Tryd.func15, Tryd.ntmps15
  go_upto_region 1 with fail
  generalize hCb : cellsOf 19 (bookF b Lv Rv) = Cb at *
  generalize hCx : cellsOf 19 (opF x) = Cx at *
  generalize ((w.alloc (.cells Cb 41)).alloc (.cells Cx 32)).alloc (.cells #[.slice none 0 0, .slice none 0 0, .int .i64 0, .int .u8 0, .int .u8 0, .int .u8 0, .int .u8 0, .int .u8 0, .int .u8 0, .int .u8 0, .int .u8 0, .int .u8 0, .int .u8 0, .int .u8 0, .int .u8 0, .int .u8 0, .int .u8 0, .int .u8 0, .int .u8 0] 41) = w1 at *
  go_wp2_with (refine load_whole_met (by rfl) 32 (.tmp 3) (by rfl) _ _ _ _ R3.out.op (by rfl) _ Tryd.underlying32 (by rfl) (by kernel_rfl) ?_; rw [hCx])
  refine (HRT.out w1).mono ?_
  rintro _ w2 ⟨rfl, hb2⟩
  have R4 := Lib.hid (R3.out.below hb2)
  clear hb2 HRT R3 hCb hCx
  cases hrb : rightB x with
  | false =>
    have HA : Hid (applyC b x = 3) := Lib.hid (by unfold applyC; rw [hrb, if_pos rfl])
    clear hrb
    go_wp2_with (first
      | (refine load_whole_met (by rfl) 41 (.tmp 2) (by rfl) _ _ _ _ R4.out.bk (by rfl) _ Tryd.underlying41 (by rfl) (by kernel_rfl) ?_)
      | (refine store_whole (by rfl) 41 (.tmp 4) (.tmp 11) (by rfl) (w.heap.size + 2) _ 19 _ (bookF b Lv Rv) R4.out.out (by rfl) _ (by rfl) (by kernel_rfl) (size_cellsOf _ _) (cellsOf_at _ _) (fun i _ => book_one R4.out.at_ i) ?_; intro w3 hr3 ho3))
    refine bodyPost_ret (results_row_tmp rfl _ (w.heap.size + 2) _ _ _ _ (by rfl) hr3 Tryd.underlying41 rfl (by kernel_rfl)) rfl ?_
    exact R4.out.err ho3 3 HA.out (by decide)
  | true =>
    have HRB := Lib.hid hrb
    have c1 := R4.out.op.cell (i := 1) (by omega)
    rw [show opF x 1 = .string x.name from rfl] at c1
    clear hrb
    go_upto_region 3 with fail
    go_wp2_with (refine load_whole_met (by rfl) 41 (.tmp 2) (by rfl) _ _ _ _ R4.out.bk (by rfl) _ Tryd.underlying41 (by rfl) (by kernel_rfl) ?_)
    have HAT := Lib.hid (refAt_any x.name R4.out.at_)
    unfold bookV at HAT
    refine HAT.out.mono ?_
    rintro _ w3 ⟨⟨r, rfl, hat⟩, hb3⟩
    have HR := Lib.hid hat
    have R5 := Lib.hid (R4.out.below hb3)
    clear hat hb3 R4 HAT c1
    obtain ⟨AL, cL, rfl, hEL⟩ := R5.out.at_.ents
    obtain ⟨AR, cR, rfl, hER⟩ := R5.out.at_.revs
    have HLN : Hid (b.L.length ≤ 50 ∧ b.rev.length ≤ 200) := Lib.hid ⟨R5.out.at_.reach.most, R5.out.at_.reach.revs⟩
    have HBA : Hid (∀ W, Below w3.drew.heap.size w3.drew W → W.cell? ⟨w.heap.size, 0, none⟩ = some (.slice AL b.L.length cL) ∧ W.cell? ⟨w.heap.size, 1, none⟩ = some (.slice AR b.rev.length cR) ∧ W.cell? ⟨w.heap.size, 2, none⟩ = some (.int .i64 b.gen) ∧ W.rowIs w.heap.size 41 19 (bookF b (.slice AL b.L.length cL) (.slice AR b.rev.length cR)) ∧ RowsAt W 17 b.L.length (entsL b) (.slice AL b.L.length cL) ∧ RowsAt W 16 b.rev.length (revsL b) (.slice AR b.rev.length cR)) := Lib.hid fun W hW => by
      have h1 := R5.out.below (undrew hW)
      exact ⟨h1.bk.cell (i := 0) (by omega), h1.bk.cell (i := 1) (by omega), h1.bk.cell (i := 2) (by omega), h1.bk, h1.at_.ents, h1.at_.revs⟩
    clear hEL hER
    go_upto_region 4 with fail
    refine region_inv_tail (postA b AL AR cL cR w.heap.size w3.heap.size) 14 (by kernel_rfl) (by kernel_rfl) (by kernel_rfl) rfl (postA_mono _ _ _ _ _ _ _) ?_ ?_
    · refine ⟨⟨⟨⟨⟨⟨⟨⟨⟨⟨⟨⟨⟨⟨trivial, ?_⟩, ?_⟩, ?_⟩, ?_⟩, ?_⟩, ?_⟩, ?_⟩, ?_⟩, ?_⟩, ?_⟩, ?_⟩, ?_⟩, ?_⟩, ?_⟩
      · refine ⟨_, rfl, fun xs W hW hd => ?_⟩
        clear hd
        have HE := Lib.hid (OwnE.empty W 94 17)
        have HSW := Lib.hid (undrew hW).size
        simp only [fillI, List.take, List.setIfInBounds_toArray, List.set_cons_zero, List.set_cons_succ, Nat.reduceAdd, Nat.zero_add]
        go_wp2_with fail
        refine ⟨_, by (simp only [upd, Nat.reduceEqDiff, reduceIte]; rfl), ?_, ?_⟩
        · exact ⟨_, rfl, HE.out.base_ HSW.out⟩
        · exact (Below.refl _ _).alloc (Nat.le_refl _) _
      · refine ⟨_, rfl, fun xs W hW hd => ?_⟩
        clear hd
        simp only [fillI, List.take, List.setIfInBounds_toArray, List.set_cons_zero, List.set_cons_succ, Nat.reduceAdd, Nat.zero_add]
        go_wp2_with fail
        refine ⟨_, by (simp only [upd, Nat.reduceEqDiff, reduceIte]; rfl), ?_, ?_⟩
        · rfl
        · exact Below.refl _ _
      · refine ⟨_, rfl, fun xs W hW hd => ?_⟩
        have h0 : xs 1 = .pointer (some ⟨w.heap.size, 0, none⟩) := hd 1 (by kernel_rfl)
        have cc := (HBA.out W hW).1
        clear hd
        rw [upd_self h0]
        simp only [fillI, List.take, List.setIfInBounds_toArray, List.set_cons_zero, List.set_cons_succ, Nat.reduceAdd, Nat.zero_add, upd, Nat.reduceEqDiff, reduceIte]
        go_wp2_with fail
        refine ⟨_, by (simp only [upd, Nat.reduceEqDiff, reduceIte]; rfl), ?_, ?_⟩
        · rfl
        · exact Below.refl _ _
      · refine ⟨_, rfl, fun xs W hW hd => ?_⟩
        obtain ⟨k, h0, ho⟩ : ∃ k, xs 0 = .slice (some ⟨k, 0, none⟩) 0 0 ∧ OwnE W w3.heap.size 94 17 [] (xs 0) := hd 0 (by kernel_rfl)
        have h2 : xs 2 = .slice AL b.L.length cL := hd 2 (by kernel_rfl)
        rw [h0] at ho
        have HO := Lib.hid ho
        have HU := Lib.hid (HBA.out W hW).2.2.2.2.1
        have HSW := Lib.hid (undrew hW).size
        have hlen := HLN.out.1
        clear hd ho
        rw [upd_self h0, upd_self h2]
        simp only [fillI, List.take, List.setIfInBounds_toArray, List.set_cons_zero, List.set_cons_succ, Nat.reduceAdd, Nat.zero_add, upd, Nat.reduceEqDiff, reduceIte]
        refine append_rows_new (by rfl) (.tmp 16) (.tmp 18) 39 (by rfl) w3.heap.size 94 17 32 zE Tryd.underlying39 infoE (by rfl) k (by rfl) HO.out b.L.length _ _ (by rfl) HU.out (fun i _ => by simp [entsL]) (by omega) (by omega) HSW.out ?_
        intro v' w' ho' hb'
        have HO' := Lib.hid ho'
        have HB' := Lib.hid hb'
        clear ho' hb'
        go_wp2_with fail
        refine ⟨_, by (simp only [upd, Nat.reduceEqDiff, reduceIte]; rfl), ?_, ?_⟩
        · have := HO'.out
          rwa [show (List.range b.L.length).map (entsL b) = b.L.map entL from map_getD entL _ _] at this
        · exact HB'.out
      · refine ⟨_, rfl, fun xs W hW hd => ?_⟩
        clear hd
        have HE := Lib.hid (OwnE.empty W 26 16)
        have HSW := Lib.hid (undrew hW).size
        simp only [fillI, List.take, List.setIfInBounds_toArray, List.set_cons_zero, List.set_cons_succ, Nat.reduceAdd, Nat.zero_add]
        go_wp2_with fail
        refine ⟨_, by (simp only [upd, Nat.reduceEqDiff, reduceIte]; rfl), ?_, ?_⟩
        · exact ⟨_, rfl, HE.out.base_ HSW.out⟩
        · exact (Below.refl _ _).alloc (Nat.le_refl _) _
      · refine ⟨_, rfl, fun xs W hW hd => ?_⟩
        clear hd
        simp only [fillI, List.take, List.setIfInBounds_toArray, List.set_cons_zero, List.set_cons_succ, Nat.reduceAdd, Nat.zero_add]
        go_wp2_with fail
        refine ⟨_, by (simp only [upd, Nat.reduceEqDiff, reduceIte]; rfl), ?_, ?_⟩
        · rfl
        · exact Below.refl _ _
      · refine ⟨_, rfl, fun xs W hW hd => ?_⟩
        have h0 : xs 5 = .pointer (some ⟨w.heap.size, 1, none⟩) := hd 5 (by kernel_rfl)
        have cc := (HBA.out W hW).2.1
        clear hd
        rw [upd_self h0]
        simp only [fillI, List.take, List.setIfInBounds_toArray, List.set_cons_zero, List.set_cons_succ, Nat.reduceAdd, Nat.zero_add, upd, Nat.reduceEqDiff, reduceIte]
        go_wp2_with fail
        refine ⟨_, by (simp only [upd, Nat.reduceEqDiff, reduceIte]; rfl), ?_, ?_⟩
        · rfl
        · exact Below.refl _ _
      · refine ⟨_, rfl, fun xs W hW hd => ?_⟩
        obtain ⟨k, h0, ho⟩ : ∃ k, xs 4 = .slice (some ⟨k, 0, none⟩) 0 0 ∧ OwnE W w3.heap.size 26 16 [] (xs 4) := hd 4 (by kernel_rfl)
        have h2 : xs 6 = .slice AR b.rev.length cR := hd 6 (by kernel_rfl)
        rw [h0] at ho
        have HO := Lib.hid ho
        have HU := Lib.hid (HBA.out W hW).2.2.2.2.2
        have HSW := Lib.hid (undrew hW).size
        have hlen := HLN.out.2
        clear hd ho
        rw [upd_self h0, upd_self h2]
        simp only [fillI, List.take, List.setIfInBounds_toArray, List.set_cons_zero, List.set_cons_succ, Nat.reduceAdd, Nat.zero_add, upd, Nat.reduceEqDiff, reduceIte]
        refine append_rows_new (by rfl) (.tmp 20) (.tmp 22) 36 (by rfl) w3.heap.size 26 16 16 zW Tryd.underlying36 infoW (by rfl) k (by rfl) HO.out b.rev.length _ _ (by rfl) HU.out (fun i _ => by simp [revsL]) (by omega) (by omega) HSW.out ?_
        intro v' w' ho' hb'
        have HO' := Lib.hid ho'
        have HB' := Lib.hid hb'
        clear ho' hb'
        go_wp2_with fail
        refine ⟨_, by (simp only [upd, Nat.reduceEqDiff, reduceIte]; rfl), ?_, ?_⟩
        · have := HO'.out
          rwa [show (List.range b.rev.length).map (revsL b) = b.rev.map wdL from map_getD wdL _ _] at this
        · exact HB'.out
      · refine ⟨_, rfl, fun xs W hW hd => ?_⟩
        clear hd
        simp only [fillI, List.take, List.setIfInBounds_toArray, List.set_cons_zero, List.set_cons_succ, Nat.reduceAdd, Nat.zero_add]
        go_wp2_with fail
        refine ⟨_, by (simp only [upd, Nat.reduceEqDiff, reduceIte]; rfl), ?_, ?_⟩
        · rfl
        · exact Below.refl _ _
      · refine ⟨_, rfl, fun xs W hW hd => ?_⟩
        have h0 : xs 8 = .pointer (some ⟨w.heap.size, 2, none⟩) := hd 8 (by kernel_rfl)
        have cc := (HBA.out W hW).2.2.1
        clear hd
        rw [upd_self h0]
        simp only [fillI, List.take, List.setIfInBounds_toArray, List.set_cons_zero, List.set_cons_succ, Nat.reduceAdd, Nat.zero_add, upd, Nat.reduceEqDiff, reduceIte]
        go_wp2_with fail
        refine ⟨_, by (simp only [upd, Nat.reduceEqDiff, reduceIte]; rfl), ?_, ?_⟩
        · rfl
        · exact Below.refl _ _
      · refine ⟨_, rfl, fun xs W hW hd => ?_⟩
        clear hd
        simp only [fillI, List.take, List.setIfInBounds_toArray, List.set_cons_zero, List.set_cons_succ, Nat.reduceAdd, Nat.zero_add]
        go_wp2_with fail
        refine ⟨_, by (simp only [upd, Nat.reduceEqDiff, reduceIte]; rfl), ?_, ?_⟩
        · rfl
        · exact Below.refl _ _
      · refine ⟨_, rfl, fun xs W hW hd => ?_⟩
        have h0 : xs 10 = .pointer (some ⟨w.heap.size, 3, none⟩) := hd 10 (by kernel_rfl)
        have HRW := Lib.hid (HBA.out W hW).2.2.2.1
        clear hd
        rw [upd_self h0]
        simp only [fillI, List.take, List.setIfInBounds_toArray, List.set_cons_zero, List.set_cons_succ, Nat.reduceAdd, Nat.zero_add, upd, Nat.reduceEqDiff, reduceIte]
        go_wp2_with (refine load_as (by rfl) 26 (.tmp 26) (by rfl) w.heap.size 3 _ 19 16 _ (cellsOf 16 (wordF b.own)) (own_cells _ _ _) HRW.out (by rfl) _ Tryd.underlying26 (by rfl) (by kernel_rfl) (by omega) ?_)
        refine ⟨_, by (simp only [upd, Nat.reduceEqDiff, reduceIte]; rfl), ?_, ?_⟩
        · rfl
        · exact Below.refl _ _
      · refine ⟨_, rfl, fun xs W hW hd => ?_⟩
        have h3 : OwnE W w3.heap.size 94 17 (b.L.map entL) (xs 3) := hd 3 (by kernel_rfl)
        have h7 : OwnE W w3.heap.size 26 16 (b.rev.map wdL) (xs 7) := hd 7 (by kernel_rfl)
        have h9 : xs 9 = .int .i64 b.gen := hd 9 (by kernel_rfl)
        have h11 : xs 11 = .agg (cellsOf 16 (wordF b.own)) := hd 11 (by kernel_rfl)
        have hl : cellsOf 16 (wordF b.own) = #[wordF b.own 0, wordF b.own 1, wordF b.own 2, wordF b.own 3, wordF b.own 4, wordF b.own 5, wordF b.own 6, wordF b.own 7, wordF b.own 8, wordF b.own 9, wordF b.own 10, wordF b.own 11, wordF b.own 12, wordF b.own 13, wordF b.own 14, wordF b.own 15] := rfl
        rw [hl] at h11
        obtain ⟨A3, c3, e3⟩ := h3.shape
        obtain ⟨A7, c7, e7⟩ := h7.shape
        rw [List.length_map] at e3 e7
        rw [e3] at h3
        rw [e7] at h7
        have H3 := Lib.hid h3
        have H7 := Lib.hid h7
        clear hd hl h3 h7
        rw [upd_self e3, upd_self e7, upd_self h9, upd_self h11]
        simp only [fillI, List.take, List.setIfInBounds_toArray, List.set_cons_zero, List.set_cons_succ, Nat.reduceAdd, Nat.zero_add, upd, Nat.reduceEqDiff, reduceIte]
        go_wp2_with fail
        refine ⟨_, by (simp only [upd, Nat.reduceEqDiff, reduceIte]; rfl), ?_, ?_⟩
        · exact ⟨_, _, rfl, H3.out, H7.out⟩
        · exact Below.refl _ _
      · refine ⟨_, rfl, fun xs W hW hd => ?_⟩
        clear hd
        have HZ19 := Lib.hid (row_new W #[.slice none 0 0, .slice none 0 0, .int .i64 0, .int .u8 0, .int .u8 0, .int .u8 0, .int .u8 0, .int .u8 0, .int .u8 0, .int .u8 0, .int .u8 0, .int .u8 0, .int .u8 0, .int .u8 0, .int .u8 0, .int .u8 0, .int .u8 0, .int .u8 0, .int .u8 0] 41 19 _ rfl (zero19 _ rfl))
        have HSW := Lib.hid (undrew hW).size
        simp only [fillI, List.take, List.setIfInBounds_toArray, List.set_cons_zero, List.set_cons_succ, Nat.reduceAdd, Nat.zero_add]
        go_wp2_with fail
        refine ⟨_, by (simp only [upd, Nat.reduceEqDiff, reduceIte]; rfl), ?_, ?_⟩
        · exact ⟨_, rfl, HZ19.out, HSW.out⟩
        · exact (Below.refl _ _).alloc (Nat.le_refl _) _
    · intro xs W hW hp
      obtain ⟨Lo, Ro, h12, ho1, ho2⟩ : ∃ Lo Ro, xs 12 = bookV b Lo Ro ∧ OwnE W w3.heap.size 94 17 (b.L.map entL) Lo ∧ OwnE W w3.heap.size 26 16 (b.rev.map wdL) Ro := hp 12 (by omega)
      obtain ⟨g7, h13, hr7, hg7⟩ : ∃ k, xs 13 = .pointer (some ⟨k, 0, none⟩) ∧ W.rowIs k 41 19 (bookF bk0 (.slice none 0 0) (.slice none 0 0)) ∧ w3.heap.size ≤ k := hp 13 (by omega)
      have R6 := Lib.hid (R5.out.below (undrew hW))
      have HB3 : Hid (w.heap.size + 2 < w3.heap.size) := Lib.hid (World.rowIs.lt R5.out.out)
      have HO1 := Lib.hid ho1
      have HO2 := Lib.hid ho2
      have HR7 := Lib.hid hr7
      have HG7 := Lib.hid hg7
      have HBO : Hid (BookAt W b Lo Ro) := Lib.hid (own_book ho1 ho2 R5.out.at_.reach)
      clear hp hW ho1 ho2 hr7 hg7 HBA R5
      unfold bookV at h12
      rw [upd_self h12, upd_self h13]
      simp only [fillI, List.take, List.setIfInBounds_toArray, List.set_cons_zero, List.set_cons_succ, Nat.reduceAdd, Nat.zero_add, upd, Nat.reduceEqDiff, reduceIte]
      clear h12 h13
      generalize xs 0 = y0 at *
      generalize xs 1 = y1 at *
      generalize xs 2 = y2 at *
      generalize xs 3 = y3 at *
      generalize xs 4 = y4 at *
      generalize xs 5 = y5 at *
      generalize xs 6 = y6 at *
      generalize xs 7 = y7 at *
      generalize xs 8 = y8 at *
      generalize xs 9 = y9 at *
      generalize xs 10 = y10 at *
      generalize xs 11 = y11 at *
      clear xs
      go_wp2_with (refine store_whole (by rfl) 41 (.tmp 7) (.tmp 28) (by rfl) g7 _ 19 _ (bookF b Lo Ro) HR7.out (by rfl) _ (by rfl) (by kernel_rfl) (size_cellsOf _ _) (cellsOf_at _ _) (fun i _ => book_one HBO.out i) ?_; intro w4 hr4 ho4)
      refine NoPanic.normal ?_
      have HX : Hid (Rows4 w w4 b x (.slice AL b.L.length cL) (.slice AR b.rev.length cR) Lo Ro g7) := Lib.hid (by
        have h1 := HB3.out
        have h2 := HG7.out
        have n1 := own_ne_row HO1.out HR7.out (by decide)
        have n2 := own_ne_row HO2.out HR7.out (by decide)
        exact ⟨R6.out.only (by omega) ho4, hr4, (HO1.out.keep (fun k hk => ho4.block k (fun e => n1 (e ▸ hk)))).base_ (by omega), (HO2.out.keep (fun k hk => ho4.block k (fun e => n2 (e ▸ hk)))).base_ (by omega), by omega⟩)
      clear hr4 ho4 HR7 HO1 HO2 HBO R6 HB3 HG7
      have ck := HX.out.r3.op.cell (i := 0) (by omega)
      rw [show opF x 0 = .int .i64 x.kind from rfl] at ck
      have hkind := right_kind HRB.out
      have HAC : Hid (applyC b x = if x.kind = 1 then (if hasN b.L x.name then 5 else if 50 ≤ b.L.length then 7 else 0) else if x.kind = 2 ∨ x.kind = 3 then (if hasN b.L x.name then 0 else 4) else if x.kind = 4 then (if x.key ∈ b.rev then 5 else if 200 ≤ b.rev.length then 7 else 0) else if x.gen ≤ b.gen then 5 else 0) := Lib.hid (by unfold applyC; rw [HRB.out]; rfl)
      have HKY := Lib.hid hk
      clear hk hs
      by_cases k5 : x.kind = 5
      · rw [k5] at ck
        have cg := HX.out.r3.op.cell (i := 18) (by omega)
        rw [show opF x 18 = .int .i64 x.gen from rfl] at cg
        have cb := HX.out.r3.bk.cell (i := 2) (by omega)
        rw [show bookF b (.slice AL b.L.length cL) (.slice AR b.rev.length cR) 2 = .int .i64 b.gen from rfl] at cb
        have HC5 : Hid (applyC b x = if x.gen ≤ b.gen then 5 else 0) := Lib.hid (by rw [HAC.out, k5]; rfl)
        by_cases hgen : x.gen ≤ b.gen
        · have HC : Hid (applyC b x = 5) := Lib.hid (by rw [HC5.out, if_pos hgen])
          clear HAC HC5 k5 hkind
          go_wp2_with (first
            | (refine load_whole_met (by rfl) 41 (.tmp 2) (by rfl) _ _ _ _ HX.out.r3.bk (by rfl) _ Tryd.underlying41 (by rfl) (by kernel_rfl) ?_)
            | (refine store_whole (by rfl) 41 (.tmp 4) (.tmp 106) (by rfl) (w.heap.size + 2) _ 19 _ (bookF b (.slice AL b.L.length cL) (.slice AR b.rev.length cR)) HX.out.r3.out (by rfl) _ (by rfl) (by kernel_rfl) (size_cellsOf _ _) (cellsOf_at _ _) (fun i _ => book_one HX.out.r3.at_ i) ?_; intro w5 hr5 ho5))
          refine bodyPost_ret (results_row_tmp rfl _ (w.heap.size + 2) _ _ _ _ (by rfl) hr5 Tryd.underlying41 rfl (by kernel_rfl)) rfl ?_
          exact HX.out.r3.err ho5 5 HC.out (by decide)
        · have HC : Hid (applyC b x = 0) := Lib.hid (by rw [HC5.out, if_neg hgen])
          have HB : Hid (applyB b x = { b with gen := x.gen, own := x.key }) := Lib.hid (by
            unfold applyB doneB
            rw [HC.out, if_pos rfl, k5]
            rfl)
          have HRE : Hid (Reach { b with gen := x.gen, own := x.key }) := Lib.hid (by rw [← HB.out]; exact reach_apply HX.out.r3.at_.reach x HKY.out)
          have c7 := HX.out.row.cell (i := 2) (by omega)
          rw [show bookF b Lo Ro 2 = .int .i64 b.gen from rfl] at c7
          have f7 := HX.out.row.frozen 2
          have HR5 := Lib.hid (HX.out.row.set 2 (.int .i64 x.gen))
          have HO5 := Lib.hid (only_cell g7 2 (.int .i64 x.gen) w4)
          have HP5 := Lib.hid (HX.out.r3.only HX.out.g7 HO5.out).op
          clear HAC HC5 k5 hkind
          go_upto_region 29 with fail
          clear c7 f7 cb cg ck
          generalize w4.setCell ⟨g7, 2, none⟩ (.int .i64 x.gen) = w45 at *
          go_upto_region 30 with (first
            | (refine load_as (by rfl) 26 (.tmp 110) (by rfl) (w.heap.size + 1) 2 _ 19 16 _ (cellsOf 16 (wordF x.key)) (op_key _) HP5.out (by rfl) _ Tryd.underlying26 (by rfl) (by kernel_rfl) (by omega) ?_)
            | (refine store_row (by rfl) 26 (.tmp 112) (.tmp 111) (by rfl) g7 3 _ 19 16 _ (wordF x.key) HR5.out (by rfl) _ (by rfl) (by kernel_rfl) (by omega) (size_cellsOf _ _) (cellsOf_at _ _) (fun _ _ => rfl) ?_; intro w5 hr5 ho5))
          have HX5 := Lib.hid (HX.out.step (b' := { b with gen := x.gen, own := x.key }) (only_both HO5.out ho5) rfl rfl (hr5.congr (fun j hj => by
            unfold bookF
            by_cases h3 : 3 ≤ j
            · rw [if_pos (by omega), if_neg (by omega), if_neg (by omega), if_neg (by omega)]
            · rw [if_neg (by omega)]
              by_cases h2 : j = 2
              · rw [if_pos h2, if_neg (by omega), if_neg (by omega), if_pos h2]
              · rw [if_neg h2]
                by_cases h0 : j = 0
                · rw [if_pos h0, if_pos h0]
                · rw [if_neg h0, if_neg h0, if_pos (by omega), if_pos (by omega)])) HRE.out)
          clear hr5 ho5 HR5 HO5 HP5
          go_wp2_with (first
            | (refine load_whole_met (by rfl) 41 (.tmp 7) (by rfl) _ _ _ _ HX5.out.2.1 (by rfl) _ Tryd.underlying41 (by rfl) (by kernel_rfl) ?_)
            | (refine store_whole (by rfl) 41 (.tmp 4) (.tmp 113) (by rfl) (w.heap.size + 2) _ 19 _ (bookF { b with gen := x.gen, own := x.key } Lo Ro) HX5.out.1.out (by rfl) _ (by rfl) (by kernel_rfl) (size_cellsOf _ _) (cellsOf_at _ _) (fun i _ => book_one HX5.out.2.2.1 i) ?_; intro w6 hr6 ho6))
          refine bodyPost_ret (results_row_tmp rfl _ (w.heap.size + 2) _ _ _ _ (by rfl) hr6 Tryd.underlying41 rfl (by kernel_rfl)) rfl ?_
          exact HX5.out.1.fin HB.out HC.out HX5.out.2.2.1 HX5.out.2.2.2 ho6
      · have hl : cellsOf 16 (wordF x.key) = #[wordF x.key 0, wordF x.key 1, wordF x.key 2, wordF x.key 3, wordF x.key 4, wordF x.key 5, wordF x.key 6, wordF x.key 7, wordF x.key 8, wordF x.key 9, wordF x.key 10, wordF x.key 11, wordF x.key 12, wordF x.key 13, wordF x.key 14, wordF x.key 15] := rfl
        have HLIT := Lib.hid ((op_key x).trans hl)
        clear hl
        by_cases k1 : x.kind = 1
        · rw [k1] at ck
          have HC1 : Hid (applyC b x = if hasN b.L x.name then 5 else if 50 ≤ b.L.length then 7 else 0) := Lib.hid (by rw [HAC.out, if_pos k1])
          have c0 := HX.out.r3.bk.cell (i := 0) (by omega)
          rw [show bookF b (.slice AL b.L.length cL) (.slice AR b.rev.length cR) 0 = .slice AL b.L.length cL from rfl] at c0
          cases hh : hasN b.L x.name with
          | true =>
            have HC : Hid (applyC b x = 5) := Lib.hid (by rw [HC1.out, hh]; rfl)
            obtain ⟨As, p, Bs, _, _, _, hr⟩ := at_yes HR.out hh
            have q0 : (0 : Int) ≤ r := by omega
            clear hr HAC HC1 k5 k1 hkind hh HLIT
            go_wp2_with (first
              | (refine load_whole_met (by rfl) 41 (.tmp 2) (by rfl) _ _ _ _ HX.out.r3.bk (by rfl) _ Tryd.underlying41 (by rfl) (by kernel_rfl) ?_)
              | (refine store_whole (by rfl) 41 (.tmp 4) (.tmp 35) (by rfl) (w.heap.size + 2) _ 19 _ (bookF b (.slice AL b.L.length cL) (.slice AR b.rev.length cR)) HX.out.r3.out (by rfl) _ (by rfl) (by kernel_rfl) (size_cellsOf _ _) (cellsOf_at _ _) (fun i _ => book_one HX.out.r3.at_ i) ?_; intro w5 hr5 ho5))
            refine bodyPost_ret (results_row_tmp rfl _ (w.heap.size + 2) _ _ _ _ (by rfl) hr5 Tryd.underlying41 rfl (by kernel_rfl)) rfl ?_
            exact HX.out.r3.err ho5 5 HC.out (by decide)
          | false =>
            have hr1 := at_no HR.out hh
            have q0 : r < 0 := by omega
            have q1 : ¬ (0 : Int) ≤ r := by omega
            clear hr1
            by_cases h50 : 50 ≤ b.L.length
            · have HC : Hid (applyC b x = 7) := Lib.hid (by rw [HC1.out, hh]; rw [if_neg (by decide), if_pos h50])
              have q2 : (50 : Int) ≤ (b.L.length : Int) := by omega
              clear HAC HC1 k5 k1 hkind hh HLIT
              go_wp2_with (first
                | (refine load_whole_met (by rfl) 41 (.tmp 2) (by rfl) _ _ _ _ HX.out.r3.bk (by rfl) _ Tryd.underlying41 (by rfl) (by kernel_rfl) ?_)
                | (refine store_whole (by rfl) 41 (.tmp 4) (.tmp 40) (by rfl) (w.heap.size + 2) _ 19 _ (bookF b (.slice AL b.L.length cL) (.slice AR b.rev.length cR)) HX.out.r3.out (by rfl) _ (by rfl) (by kernel_rfl) (size_cellsOf _ _) (cellsOf_at _ _) (fun i _ => book_one HX.out.r3.at_ i) ?_; intro w5 hr5 ho5))
              refine bodyPost_ret (results_row_tmp rfl _ (w.heap.size + 2) _ _ _ _ (by rfl) hr5 Tryd.underlying41 rfl (by kernel_rfl)) rfl ?_
              exact HX.out.r3.err ho5 7 HC.out (by decide)
            · have HC : Hid (applyC b x = 0) := Lib.hid (by rw [HC1.out, hh]; rw [if_neg (by decide), if_neg h50])
              have q2 : ¬ (50 : Int) ≤ (b.L.length : Int) := by omega
              have HB : Hid (applyB b x = { b with L := b.L ++ [(x.name, x.key)] }) := Lib.hid (by
                unfold applyB doneB
                rw [HC.out, if_pos rfl, if_pos k1])
              have HRE : Hid (Reach { b with L := b.L ++ [(x.name, x.key)] }) := Lib.hid (by rw [← HB.out]; exact reach_apply HX.out.r3.at_.reach x HKY.out)
              have c7 := HX.out.row.cell (i := 0) (by omega)
              rw [show bookF b Lo Ro 0 = Lo from rfl] at c7
              have cn := HX.out.r3.op.cell (i := 1) (by omega)
              rw [show opF x 1 = .string x.name from rfl] at cn
              obtain ⟨Ao, co, hos⟩ := HX.out.o1.shape
              rw [List.length_map] at hos
              subst hos
              clear HAC HC1 k5 k1 hkind hh
              go_upto_region 11 with fail
              clear c0 ck
              have HNEW : Hid (RowsAt (w4.alloc (.cells #[.string x.name, wordF x.key 0, wordF x.key 1, wordF x.key 2, wordF x.key 3, wordF x.key 4, wordF x.key 5, wordF x.key 6, wordF x.key 7, wordF x.key 8, wordF x.key 9, wordF x.key 10, wordF x.key 11, wordF x.key 12, wordF x.key 13, wordF x.key 14, wordF x.key 15] 94)) 17 1 (fun _ => entL (x.name, x.key)) (.slice (some ⟨w4.heap.size, 0, none⟩) 1 1)) := Lib.hid (row_one w4 _ 94 17 (entL (x.name, x.key)) rfl)
              have HAL : Hid (Below w4.heap.size w4 (w4.alloc (.cells #[.string x.name, wordF x.key 0, wordF x.key 1, wordF x.key 2, wordF x.key 3, wordF x.key 4, wordF x.key 5, wordF x.key 6, wordF x.key 7, wordF x.key 8, wordF x.key 9, wordF x.key 10, wordF x.key 11, wordF x.key 12, wordF x.key 13, wordF x.key 14, wordF x.key 15] 94))) := Lib.hid ((Below.refl _ _).alloc (Nat.le_refl _) _)
              have HOA := Lib.hid (HX.out.o1.below HAL.out)
              have HBS : Hid (w.heap.size + 3 ≤ (w4.alloc (.cells #[.string x.name, wordF x.key 0, wordF x.key 1, wordF x.key 2, wordF x.key 3, wordF x.key 4, wordF x.key 5, wordF x.key 6, wordF x.key 7, wordF x.key 8, wordF x.key 9, wordF x.key 10, wordF x.key 11, wordF x.key 12, wordF x.key 13, wordF x.key 14, wordF x.key 15] 94)).heap.size) := Lib.hid (by have := World.rowIs.lt HX.out.r3.out; have := HAL.out.size; omega)
              go_upto_region 30 with (first
                | (refine load_as (by rfl) 26 (.tmp 45) (by rfl) (w.heap.size + 1) 2 _ 19 16 _ _ HLIT.out HX.out.r3.op (by rfl) _ Tryd.underlying26 (by rfl) (by kernel_rfl) (by omega) ?_)
                | (at_builtin
                   refine append_rows (by rfl) (.tmp 42) (.tmp 48) 39 (by rfl) (w.heap.size + 3) 94 17 32 zE Tryd.underlying39 infoE (by rfl) (by omega) _ _ (by rfl) HOA.out 1 _ _ (by rfl) HNEW.out (fun i _ => entL_ok _) (by rw [List.length_map]; omega) (by omega) HBS.out ?_
                   intro v5 w5 ho5 hg5 hv5
                   have hgo := HX.out.growL (b' := { b with L := b.L ++ [(x.name, x.key)] }) (grown_both (below_grown HAL.out _) hg5) (by simpa using ho5) rfl rfl rfl HRE.out
                   have c75 := hgo.1.cell (i := 0) (by omega)
                   have f75 := hgo.1.frozen 0
                   have HX5 := Lib.hid hgo
                   obtain ⟨A5, cc5, hs5⟩ := ho5.shape
                   simp only [List.length_append, List.length_map, List.length_range] at hs5
                   clear hgo ho5 hg5 hv5 c7 cn HNEW HAL HOA HBS
                   subst hs5))
              clear c75 f75
              generalize w5.setCell ⟨g7, 0, none⟩ (.slice A5 (b.L.length + 1) cc5) = w56 at *
              generalize Value.slice A5 (b.L.length + 1) cc5 = L5 at *
              go_wp2_with (first
                | (refine load_whole_met (by rfl) 41 (.tmp 7) (by rfl) _ _ _ _ HX5.out.2.2.1 (by rfl) _ Tryd.underlying41 (by rfl) (by kernel_rfl) ?_)
                | (refine store_whole (by rfl) 41 (.tmp 4) (.tmp 113) (by rfl) (w.heap.size + 2) _ 19 _ (bookF { b with L := b.L ++ [(x.name, x.key)] } L5 Ro) HX5.out.2.1.out (by rfl) _ (by rfl) (by kernel_rfl) (size_cellsOf _ _) (cellsOf_at _ _) (fun i _ => book_one HX5.out.2.2.2.1 i) ?_; intro w6 hr6 ho6))
              refine bodyPost_ret (results_row_tmp rfl _ (w.heap.size + 2) _ _ _ _ (by rfl) hr6 Tryd.underlying41 rfl (by kernel_rfl)) rfl ?_
              exact HX5.out.2.1.fin HB.out HC.out HX5.out.2.2.2.1 HX5.out.2.2.2.2 ho6
        · by_cases k4 : x.kind = 4
          · rw [k4] at ck
            have HC4 : Hid (applyC b x = if x.key ∈ b.rev then 5 else if 200 ≤ b.rev.length then 7 else 0) := Lib.hid (by rw [HAC.out, if_neg k1, if_neg (by omega), if_pos k4])
            have HDD := Lib.hid (refDead_any x.key HX.out.r3.at_ HKY.out)
            unfold bookV wordV at HDD
            go_upto_region 20 with fail
            clear ck
            go_wp2_with (first
              | (refine load_whole_met (by rfl) 41 (.tmp 2) (by rfl) _ _ _ _ HX.out.r3.bk (by rfl) _ Tryd.underlying41 (by rfl) (by kernel_rfl) ?_)
              | (refine load_as (by rfl) 26 (.tmp 83) (by rfl) (w.heap.size + 1) 2 _ 19 16 _ _ (op_key x) HX.out.r3.op (by rfl) _ Tryd.underlying26 (by rfl) (by kernel_rfl) (by omega) ?_))
            refine HDD.out.mono ?_
            rintro _ w45 ⟨rfl, hb45⟩
            have HX6 := Lib.hid (HX.out.below hb45)
            clear hb45 HDD HX
            by_cases hmem : x.key ∈ b.rev
            · have HC : Hid (applyC b x = 5) := Lib.hid (by rw [HC4.out, if_pos hmem])
              rw [decide_eq_true hmem]
              clear HAC HC4 k5 k1 k4 hkind HLIT hmem
              go_wp2_with (first
                | (refine load_whole_met (by rfl) 41 (.tmp 2) (by rfl) _ _ _ _ HX6.out.r3.bk (by rfl) _ Tryd.underlying41 (by rfl) (by kernel_rfl) ?_)
                | (refine store_whole (by rfl) 41 (.tmp 4) (.tmp 86) (by rfl) (w.heap.size + 2) _ 19 _ (bookF b (.slice AL b.L.length cL) (.slice AR b.rev.length cR)) HX6.out.r3.out (by rfl) _ (by rfl) (by kernel_rfl) (size_cellsOf _ _) (cellsOf_at _ _) (fun i _ => book_one HX6.out.r3.at_ i) ?_; intro w7 hr7 ho7))
              refine bodyPost_ret (results_row_tmp rfl _ (w.heap.size + 2) _ _ _ _ (by rfl) hr7 Tryd.underlying41 rfl (by kernel_rfl)) rfl ?_
              exact HX6.out.r3.err ho7 5 HC.out (by decide)
            · rw [decide_eq_false hmem]
              have c1 := HX6.out.r3.bk.cell (i := 1) (by omega)
              rw [show bookF b (.slice AL b.L.length cL) (.slice AR b.rev.length cR) 1 = .slice AR b.rev.length cR from rfl] at c1
              by_cases h200 : 200 ≤ b.rev.length
              · have HC : Hid (applyC b x = 7) := Lib.hid (by rw [HC4.out, if_neg hmem, if_pos h200])
                have q2 : (200 : Int) ≤ (b.rev.length : Int) := by omega
                clear HAC HC4 k5 k1 k4 hkind HLIT hmem
                go_wp2_with (first
                  | (refine load_whole_met (by rfl) 41 (.tmp 2) (by rfl) _ _ _ _ HX6.out.r3.bk (by rfl) _ Tryd.underlying41 (by rfl) (by kernel_rfl) ?_)
                  | (refine store_whole (by rfl) 41 (.tmp 4) (.tmp 91) (by rfl) (w.heap.size + 2) _ 19 _ (bookF b (.slice AL b.L.length cL) (.slice AR b.rev.length cR)) HX6.out.r3.out (by rfl) _ (by rfl) (by kernel_rfl) (size_cellsOf _ _) (cellsOf_at _ _) (fun i _ => book_one HX6.out.r3.at_ i) ?_; intro w7 hr7 ho7))
                refine bodyPost_ret (results_row_tmp rfl _ (w.heap.size + 2) _ _ _ _ (by rfl) hr7 Tryd.underlying41 rfl (by kernel_rfl)) rfl ?_
                exact HX6.out.r3.err ho7 7 HC.out (by decide)
              · have HC : Hid (applyC b x = 0) := Lib.hid (by rw [HC4.out, if_neg hmem, if_neg h200])
                have q2 : ¬ (200 : Int) ≤ (b.rev.length : Int) := by omega
                have HB : Hid (applyB b x = { b with rev := b.rev ++ [x.key] }) := Lib.hid (by
                  unfold applyB doneB
                  rw [HC.out, if_pos rfl, if_neg k1, if_neg (by omega), if_neg (by omega), if_pos k4])
                have HRE : Hid (Reach { b with rev := b.rev ++ [x.key] }) := Lib.hid (by rw [← HB.out]; exact reach_apply HX6.out.r3.at_.reach x HKY.out)
                have c7 := HX6.out.row.cell (i := 1) (by omega)
                rw [show bookF b Lo Ro 1 = Ro from rfl] at c7
                obtain ⟨Ao, co, hos⟩ := HX6.out.o2.shape
                rw [List.length_map] at hos
                subst hos
                clear HAC HC4 k5 k1 k4 hkind hmem
                go_upto_region 24 with fail
                clear c1
                have HNEW : Hid (RowsAt (w45.alloc (.cells #[wordF x.key 0, wordF x.key 1, wordF x.key 2, wordF x.key 3, wordF x.key 4, wordF x.key 5, wordF x.key 6, wordF x.key 7, wordF x.key 8, wordF x.key 9, wordF x.key 10, wordF x.key 11, wordF x.key 12, wordF x.key 13, wordF x.key 14, wordF x.key 15] 26)) 16 1 (fun _ => wdL x.key) (.slice (some ⟨w45.heap.size, 0, none⟩) 1 1)) := Lib.hid (row_one w45 _ 26 16 (wdL x.key) rfl)
                have HAL : Hid (Below w45.heap.size w45 (w45.alloc (.cells #[wordF x.key 0, wordF x.key 1, wordF x.key 2, wordF x.key 3, wordF x.key 4, wordF x.key 5, wordF x.key 6, wordF x.key 7, wordF x.key 8, wordF x.key 9, wordF x.key 10, wordF x.key 11, wordF x.key 12, wordF x.key 13, wordF x.key 14, wordF x.key 15] 26))) := Lib.hid ((Below.refl _ _).alloc (Nat.le_refl _) _)
                have HOA := Lib.hid (HX6.out.o2.below HAL.out)
                have HBS : Hid (w.heap.size + 3 ≤ (w45.alloc (.cells #[wordF x.key 0, wordF x.key 1, wordF x.key 2, wordF x.key 3, wordF x.key 4, wordF x.key 5, wordF x.key 6, wordF x.key 7, wordF x.key 8, wordF x.key 9, wordF x.key 10, wordF x.key 11, wordF x.key 12, wordF x.key 13, wordF x.key 14, wordF x.key 15] 26)).heap.size) := Lib.hid (by have := World.rowIs.lt HX6.out.r3.out; have := HAL.out.size; omega)
                go_upto_region 30 with (first
                  | (refine load_as (by rfl) 26 (.tmp 94) (by rfl) (w.heap.size + 1) 2 _ 19 16 _ _ HLIT.out HX6.out.r3.op (by rfl) _ Tryd.underlying26 (by rfl) (by kernel_rfl) (by omega) ?_)
                  | (at_builtin
                     refine append_rows (by rfl) (.tmp 93) (.tmp 96) 36 (by rfl) (w.heap.size + 3) 26 16 16 zW Tryd.underlying36 infoW (by rfl) (by omega) _ _ (by rfl) HOA.out 1 _ _ (by rfl) HNEW.out (fun i _ => wdL_ok _) (by rw [List.length_map]; omega) (by omega) HBS.out ?_
                     intro v5 w5 ho5 hg5 hv5
                     have hgo := HX6.out.growR (b' := { b with rev := b.rev ++ [x.key] }) (grown_both (below_grown HAL.out _) hg5) (by simpa using ho5) rfl rfl rfl HRE.out
                     have c75 := hgo.1.cell (i := 1) (by omega)
                     have f75 := hgo.1.frozen 1
                     have HX5 := Lib.hid hgo
                     obtain ⟨A5, cc5, hs5⟩ := ho5.shape
                     simp only [List.length_append, List.length_map, List.length_range] at hs5
                     clear hgo ho5 hg5 hv5 c7 HNEW HAL HOA HBS
                     subst hs5))
                clear c75 f75
                generalize w5.setCell ⟨g7, 1, none⟩ (.slice A5 (b.rev.length + 1) cc5) = w56 at *
                generalize Value.slice A5 (b.rev.length + 1) cc5 = R5 at *
                go_wp2_with (first
                  | (refine load_whole_met (by rfl) 41 (.tmp 7) (by rfl) _ _ _ _ HX5.out.2.2.1 (by rfl) _ Tryd.underlying41 (by rfl) (by kernel_rfl) ?_)
                  | (refine store_whole (by rfl) 41 (.tmp 4) (.tmp 113) (by rfl) (w.heap.size + 2) _ 19 _ (bookF { b with rev := b.rev ++ [x.key] } Lo R5) HX5.out.2.1.out (by rfl) _ (by rfl) (by kernel_rfl) (size_cellsOf _ _) (cellsOf_at _ _) (fun i _ => book_one HX5.out.2.2.2.1 i) ?_; intro w6 hr6 ho6))
                refine bodyPost_ret (results_row_tmp rfl _ (w.heap.size + 2) _ _ _ _ (by rfl) hr6 Tryd.underlying41 rfl (by kernel_rfl)) rfl ?_
                exact HX5.out.2.1.fin HB.out HC.out HX5.out.2.2.2.1 HX5.out.2.2.2.2 ho6
          · have k23 : x.kind = 2 ∨ x.kind = 3 := by omega
            have HC23 : Hid (applyC b x = if hasN b.L x.name then 0 else 4) := Lib.hid (by rw [HAC.out, if_neg k1, if_pos k23])
            cases hh : hasN b.L x.name with
            | false =>
              have HC : Hid (applyC b x = 4) := Lib.hid (by rw [HC23.out, hh]; rfl)
              have hr1 := at_no HR.out hh
              have q0 : r < 0 := by omega
              clear hr1 HAC HC23 k5 k1 k4 hkind hh HLIT
              rcases k23 with k2 | k2
              · rw [k2] at ck
                clear k2
                go_wp2_with (first
                  | (refine load_whole_met (by rfl) 41 (.tmp 2) (by rfl) _ _ _ _ HX.out.r3.bk (by rfl) _ Tryd.underlying41 (by rfl) (by kernel_rfl) ?_)
                  | (refine store_whole (by rfl) 41 (.tmp 4) (.tmp 56) (by rfl) (w.heap.size + 2) _ 19 _ (bookF b (.slice AL b.L.length cL) (.slice AR b.rev.length cR)) HX.out.r3.out (by rfl) _ (by rfl) (by kernel_rfl) (size_cellsOf _ _) (cellsOf_at _ _) (fun i _ => book_one HX.out.r3.at_ i) ?_; intro w5 hr5 ho5))
                refine bodyPost_ret (results_row_tmp rfl _ (w.heap.size + 2) _ _ _ _ (by rfl) hr5 Tryd.underlying41 rfl (by kernel_rfl)) rfl ?_
                exact HX.out.r3.err ho5 4 HC.out (by decide)
              · rw [k2] at ck
                clear k2
                go_wp2_with (first
                  | (refine load_whole_met (by rfl) 41 (.tmp 2) (by rfl) _ _ _ _ HX.out.r3.bk (by rfl) _ Tryd.underlying41 (by rfl) (by kernel_rfl) ?_)
                  | (refine store_whole (by rfl) 41 (.tmp 4) (.tmp 56) (by rfl) (w.heap.size + 2) _ 19 _ (bookF b (.slice AL b.L.length cL) (.slice AR b.rev.length cR)) HX.out.r3.out (by rfl) _ (by rfl) (by kernel_rfl) (size_cellsOf _ _) (cellsOf_at _ _) (fun i _ => book_one HX.out.r3.at_ i) ?_; intro w5 hr5 ho5))
                refine bodyPost_ret (results_row_tmp rfl _ (w.heap.size + 2) _ _ _ _ (by rfl) hr5 Tryd.underlying41 rfl (by kernel_rfl)) rfl ?_
                exact HX.out.r3.err ho5 4 HC.out (by decide)
            | true =>
              have HC : Hid (applyC b x = 0) := Lib.hid (by rw [HC23.out, hh]; rfl)
              obtain ⟨As, p, Bs, hsp, hpn, hna, hr⟩ := at_yes HR.out hh
              have q0 : ¬ r < 0 := by omega
              have HNA := Lib.hid hna
              have HPN := Lib.hid hpn
              have HSP := Lib.hid hsp
              have HKL : Hid (As.length < b.L.length ∧ b.L[As.length]? = some p) := Lib.hid ⟨by rw [hsp]; simp, by rw [hsp]; simp⟩
              subst hr
              clear HR hna hpn hsp HAC HC23 k5 k1 k4 hkind hh
              rcases k23 with k2 | k3
              · rw [k2] at ck
                have HB : Hid (applyB b x = { b with L := As ++ Bs }) := Lib.hid (by
                  unfold applyB doneB
                  rw [HC.out, if_pos rfl, k2, if_neg (by omega), if_pos rfl, HSP.out, rm_at x.name p Bs HPN.out As HNA.out])
                have HRE : Hid (Reach { b with L := As ++ Bs }) := Lib.hid (by rw [← HB.out]; exact reach_apply HX.out.r3.at_.reach x HKY.out)
                obtain ⟨bA, oA, hAL, hbA, hcA⟩ := (by obtain ⟨A', c', he, hr'⟩ := HX.out.r3.at_.ents; simp only [Value.slice.injEq, true_and] at he; obtain ⟨rfl, rfl⟩ := he; exact hr' (by have := HKL.out.1; omega) : ∃ bA oA, AL = some ⟨bA, oA, none⟩ ∧ bA < w4.heap.size ∧ ∀ i, i < b.L.length → ∀ j u, (entsL b i)[j]? = some u → w4.cell? ⟨bA, oA + i * 17 + j, none⟩ = some u)
                subst hAL
                clear k2 hbA hcA
                have hkl := HKL.out.1
                have hcL : b.L.length ≤ cL := HX.out.r3.at_.cap _ _ _ (.inl rfl)
                have KH := fun W' => rows_head_run (P := Tryd.prog) 39 94 17 Tryd.underlying39 (by kernel_rfl) (some ⟨bA, oA, none⟩) (fun y hy => ⟨bA, oA, (Option.some.inj hy).symm⟩) b.L.length cL As.length (by omega) .i64 W'
                obtain ⟨A2, hA2, hcut⟩ := rows_cut_run (P := Tryd.prog) 39 94 17 Tryd.underlying39 (by kernel_rfl) bA oA b.L.length cL (As.length + 1) (by omega) hcL
                have KC := fun W' => hcut .i64 W'
                rw [show (((As.length + 1 : Nat) : Int)) = (As.length : Int) + 1 from by omega] at KC
                have hw1 : IntKind.i64.wrap ((As.length : Int) + 1) = (As.length : Int) + 1 := by rw [IntKind.wrap_i64]; have := HLN.out.1; omega
                have HR1 := Lib.hid (fun (W' : World) (hS : Below w4.heap.size w4 W') => (HX.out.r3.below hS).at_.ents.take (k := As.length) (by omega))
                have HR2 := Lib.hid (fun (W' : World) (hS : Below w4.heap.size w4 W') => (HX.out.r3.below hS).at_.ents.drop (k := As.length + 1) (by omega) A2 hA2)
                have HKH := Lib.hid KH
                have HKC := Lib.hid KC
                clear hcut hA2 KH KC
                go_upto_region 17 with fail
                clear ck
                refine region_mix_last (fun W' => Below w4.heap.size w4 W') 13 [(1, true), (2, true), (3, true), (4, true), (6, true), (7, true), (8, true), (9, true), (10, true), (0, false), (5, false), (11, false), (12, true)] (by kernel_rfl) (by rfl) (by kernel_rfl) (Below.refl _ _).drew ?_
                refine m_val rfl (by rfl) (.pointer (some ⟨w.heap.size, 0, none⟩)) (fun W' hS => by go_simp) ?_
                simp only [Act.put, List.setIfInBounds_toArray, List.set_cons_zero, List.set_cons_succ]
                refine m_val rfl (by rfl) (.slice (some ⟨bA, oA, none⟩) b.L.length cL) (fun W' hS => by have cc := (HX.out.r3.below hS).bk.cell (i := 0) (by omega); rw [show bookF b (.slice (some ⟨bA, oA, none⟩) b.L.length cL) (.slice AR b.rev.length cR) 0 = .slice (some ⟨bA, oA, none⟩) b.L.length cL from rfl] at cc; go_simp) ?_
                simp only [Act.put, List.setIfInBounds_toArray, List.set_cons_zero, List.set_cons_succ]
                refine m_val rfl (by rfl) (.int .i64 (As.length : Int)) (fun W' hS => by go_simp) ?_
                simp only [Act.put, List.setIfInBounds_toArray, List.set_cons_zero, List.set_cons_succ]
                refine m_val rfl (by rfl) (.slice (some ⟨bA, oA, none⟩) As.length cL) (fun W' hS => by have kh := HKH.out W'; go_simp) ?_
                simp only [Act.put, List.setIfInBounds_toArray, List.set_cons_zero, List.set_cons_succ]
                refine m_val rfl (by rfl) (.pointer (some ⟨w.heap.size, 0, none⟩)) (fun W' hS => by go_simp) ?_
                simp only [Act.put, List.setIfInBounds_toArray, List.set_cons_zero, List.set_cons_succ]
                refine m_val rfl (by rfl) (.slice (some ⟨bA, oA, none⟩) b.L.length cL) (fun W' hS => by have cc := (HX.out.r3.below hS).bk.cell (i := 0) (by omega); rw [show bookF b (.slice (some ⟨bA, oA, none⟩) b.L.length cL) (.slice AR b.rev.length cR) 0 = .slice (some ⟨bA, oA, none⟩) b.L.length cL from rfl] at cc; go_simp) ?_
                simp only [Act.put, List.setIfInBounds_toArray, List.set_cons_zero, List.set_cons_succ]
                refine m_val rfl (by rfl) (.int .i64 (As.length : Int)) (fun W' hS => by go_simp) ?_
                simp only [Act.put, List.setIfInBounds_toArray, List.set_cons_zero, List.set_cons_succ]
                refine m_val rfl (by rfl) (.int .i64 ((As.length : Int) + 1)) (fun W' hS => by go_simp) ?_
                simp only [Act.put, List.setIfInBounds_toArray, List.set_cons_zero, List.set_cons_succ]
                refine m_val rfl (by rfl) (.slice A2 (b.L.length - (As.length + 1)) (cL - (As.length + 1))) (fun W' hS => by have kc := HKC.out W'; go_simp) ?_
                simp only [Act.put, List.setIfInBounds_toArray, List.set_cons_zero, List.set_cons_succ]
                refine m_go rfl ?_
                go_wp2_with fail
                have HS1 : Hid (Below w4.heap.size w4 ((w4.alloc (.cells #[] 94)).drew)) := Lib.hid ((Below.refl _ _).alloc (Nat.le_refl _) _).drew
                have HE1 : Hid (OwnE ((w4.alloc (.cells #[] 94)).drew) w4.heap.size 94 17 [] (.slice (some ⟨w4.heap.size, 0, none⟩) 0 0)) := Lib.hid ((OwnE.empty w4 94 17).keep (fun _ _ => rfl))
                refine m_on HS1.out ?_
                generalize (w4.alloc (.cells #[] 94)).drew = w41 at *
                refine m_go rfl ?_
                refine append_rows_new (by rfl) (.tmp 60) (.tmp 64) 39 (by rfl) w4.heap.size 94 17 32 zE Tryd.underlying39 infoE (by rfl) w4.heap.size (by rfl) HE1.out As.length _ _ (by rfl) (HR1.out _ HS1.out) (fun i _ => by simp [entsL]) (by have := HLN.out.1; omega) (by omega) HS1.out.size ?_
                intro v2 w42 ho2 hb2
                have HS2 : Hid (Below w4.heap.size w4 w42) := Lib.hid (HS1.out.trans (hb2.mono HS1.out.size))
                have HO2 := Lib.hid ho2
                clear ho2 hb2 HE1 HR1
                refine m_on HS2.out ?_
                refine m_go rfl ?_
                refine append_rows (by rfl) (.tmp 65) (.tmp 70) 39 (by rfl) w4.heap.size 94 17 32 zE Tryd.underlying39 infoE (by rfl) (by omega) _ _ (by rfl) HO2.out (b.L.length - (As.length + 1)) _ _ (by rfl) (HR2.out _ HS2.out) (fun i _ => ⟨by simp [entsL], fun q hq => by obtain ⟨j, _, rfl⟩ := List.mem_map.1 hq; exact entF_one _ j⟩) (by have := HLN.out.1; simp; omega) (by omega) HS2.out.size ?_
                intro v3 w43 ho3 hg3 hv3
                have HS3 : Hid (Below w4.heap.size w4 w43) := Lib.hid (HS2.out.grown hg3 HS2.out.size (fun k hk => (HO2.out.lt k hk).1))
                have hLL : (List.range As.length).map (entsL b) ++ (List.range (b.L.length - (As.length + 1))).map (fun i => entsL b (As.length + 1 + i)) = (As ++ Bs).map entL := rows_less b As Bs p HSP.out
                rw [hLL] at ho3
                have HG : Hid (w.heap.size + 3 ≤ w4.heap.size) := Lib.hid (by have := World.rowIs.lt HX.out.r3.out; omega)
                have HXX := Lib.hid (HX.out.below HS3.out)
                have hgo := HXX.out.growL (b' := { b with L := As ++ Bs }) ⟨rfl, rfl, rfl, Nat.le_refl _, fun _ _ _ => rfl⟩ (ho3.base_ HG.out) rfl rfl rfl HRE.out
                have c75 := hgo.1.cell (i := 0) (by omega)
                have f75 := hgo.1.frozen 0
                have HX5 := Lib.hid hgo
                obtain ⟨A5, cc5, hs5⟩ := ho3.shape
                simp only [List.length_map, List.length_append] at hs5
                clear hgo ho3 hg3 hv3 hLL HO2 HR2 HS2 HS1
                subst hs5
                refine m_on HS3.out ?_
                refine m_val rfl (by rfl) (.pointer (some ⟨g7, 0, none⟩)) (fun W' hS => by go_simp) ?_
                simp only [Act.put, List.setIfInBounds_toArray, List.set_cons_zero, List.set_cons_succ]
                refine m_end ?_
                dsimp only
                go_wp2_with fail
                refine NoPanic.normal ?_
                clear c75 f75
                generalize w43.setCell ⟨g7, 0, none⟩ (.slice A5 (As.length + Bs.length) cc5) = w56 at *
                generalize Value.slice A5 (As.length + Bs.length) cc5 = L5 at *
                go_wp2_with (first
                  | (refine load_whole_met (by rfl) 41 (.tmp 7) (by rfl) _ _ _ _ HX5.out.2.2.1 (by rfl) _ Tryd.underlying41 (by rfl) (by kernel_rfl) ?_)
                  | (refine store_whole (by rfl) 41 (.tmp 4) (.tmp 113) (by rfl) (w.heap.size + 2) _ 19 _ (bookF { b with L := As ++ Bs } L5 Ro) HX5.out.2.1.out (by rfl) _ (by rfl) (by kernel_rfl) (size_cellsOf _ _) (cellsOf_at _ _) (fun i _ => book_one HX5.out.2.2.2.1 i) ?_; intro w6 hr6 ho6))
                refine bodyPost_ret (results_row_tmp rfl _ (w.heap.size + 2) _ _ _ _ (by rfl) hr6 Tryd.underlying41 rfl (by kernel_rfl)) rfl ?_
                exact HX5.out.2.1.fin HB.out HC.out HX5.out.2.2.2.1 HX5.out.2.2.2.2 ho6
              · rw [k3] at ck
                have HB : Hid (applyB b x = { b with L := b.L.set As.length (p.1, x.key) }) := Lib.hid (by
                  unfold applyB doneB
                  rw [HC.out, if_pos rfl, k3, if_neg (by omega), if_neg (by omega), if_pos rfl, HSP.out, re_at x.name x.key p Bs HPN.out As HNA.out]
                  simp)
                have HRE : Hid (Reach { b with L := b.L.set As.length (p.1, x.key) }) := Lib.hid (by rw [← HB.out]; exact reach_apply HX.out.r3.at_.reach x HKY.out)
                have c7 := HX.out.row.cell (i := 0) (by omega)
                rw [show bookF b Lo Ro 0 = Lo from rfl] at c7
                obtain ⟨gl, co, hos, hgl, _⟩ := World.ownsRow.form HX.out.o1.own (by have := HKL.out.1; simp; omega)
                rw [List.length_map] at hos
                subst hos
                clear k3
                go_upto_region 18 with fail
                obtain ⟨f, hfr, hcc, -, -, -, hff⟩ := HX.out.o1.toRow
                rw [List.length_map] at hcc
                have HFR := Lib.hid hfr
                have HFF := Lib.hid hff
                have hkl := HKL.out.1
                have q3 : (As.length : Int) < (b.L.length : Int) := by omega
                have q4 : (0 : Int) ≤ (As.length : Int) := by omega
                clear hfr hff ck
                go_upto_region 30 with (first
                  | (refine load_as (by rfl) 26 (.tmp 76) (by rfl) (w.heap.size + 1) 2 _ 19 16 _ _ (op_key x) HX.out.r3.op (by rfl) _ Tryd.underlying26 (by rfl) (by kernel_rfl) (by omega) ?_)
                  | (refine store_row (by rfl) 26 (.tmp 79) (.tmp 77) (by rfl) gl (As.length * 17 + 1) _ _ 16 _ (wordF x.key) HFR.out (by rfl) _ (by rfl) (by kernel_rfl) (by omega) (size_cellsOf _ _) (cellsOf_at _ _) (fun _ _ => rfl) ?_; intro w5 hr5 ho5))
                have HX5 := Lib.hid (HX.out.same (b' := { b with L := b.L.set As.length (p.1, x.key) }) (only_grown ho5) (own_key HX.out.o1 HKL.out.2 HFF.out hr5) rfl rfl rfl HRE.out)
                clear hr5 ho5 HFR HFF c7
                generalize Value.slice (some ⟨gl, 0, none⟩) b.L.length co = L5 at *
                go_wp2_with (first
                  | (refine load_whole_met (by rfl) 41 (.tmp 7) (by rfl) _ _ _ _ HX5.out.2.2.1 (by rfl) _ Tryd.underlying41 (by rfl) (by kernel_rfl) ?_)
                  | (refine store_whole (by rfl) 41 (.tmp 4) (.tmp 113) (by rfl) (w.heap.size + 2) _ 19 _ (bookF { b with L := b.L.set As.length (p.1, x.key) } L5 Ro) HX5.out.2.1.out (by rfl) _ (by rfl) (by kernel_rfl) (size_cellsOf _ _) (cellsOf_at _ _) (fun i _ => book_one HX5.out.2.2.2.1 i) ?_; intro w6 hr6 ho6))
                refine bodyPost_ret (results_row_tmp rfl _ (w.heap.size + 2) _ _ _ _ (by rfl) hr6 Tryd.underlying41 rfl (by kernel_rfl)) rfl ?_
                exact HX5.out.2.1.fin HB.out HC.out HX5.out.2.2.2.1 HX5.out.2.2.2.2 ho6
end Go.Proofs.YtebchoeeohmlaaaDoor.Book
namespace Go.Proofs.YtebchoeeohmlaaaDoor.Book
open Go Go.RowKit Go.Proofs.YtebchoeeohmlaaaDoor.Aid Go.Proofs.YtebchoeeohmlaaaDoor.Field

theorem ent_key {W : World} {b : Bk} {bA o k : Nat} {p : ByteArray × Wd} (hp : b.L[k]? = some p) (h : ∀ j u, (entsL b k)[j]? = some u → W.cell? ⟨bA, o + k * 17 + j, none⟩ = some u) : W.rangeAt bA (o + k * 17 + 1) ((List.range 16).map (wordF p.2)) := fun j u hu => by
  have hj : j < 16 := by have := (List.getElem?_eq_some_iff.1 hu).1; simpa using this
  rw [List.getElem?_map, List.getElem?_range hj] at hu
  simp only [Option.map_some, Option.some.injEq] at hu
  subst hu
  have := h (j + 1) (wordF p.2 j) (by
    unfold entsL
    rw [List.getElem?_map, List.getElem?_range (by omega), List.getD_eq_getElem?_getD, hp]
    rfl)
  rw [show o + k * 17 + 1 + j = o + k * 17 + (j + 1) by omega]
  exact this
theorem zero_wd : ∀ i, i < 16 → (#[.int .u8 0, .int .u8 0, .int .u8 0, .int .u8 0, .int .u8 0, .int .u8 0, .int .u8 0, .int .u8 0, .int .u8 0, .int .u8 0, .int .u8 0, .int .u8 0, .int .u8 0, .int .u8 0, .int .u8 0, .int .u8 0] : Array Value)[i]? = some (wordF zw i) := fun i hi => by
  rw [lit16z i hi]
  unfold wordF zw
  rw [List.getD_eq_getElem?_getD, List.getElem?_replicate, if_pos hi]
  rfl
set_option maxRecDepth 100000 in
set_option maxHeartbeats 2000000 in
theorem refKey15_any {w : World} {b : Bk} {Lv Rv : Value} (n : ByteArray) (h : BookAt w b Lv Rv) : Calls Tryd.prog 22 #[bookV b Lv Rv, .string n] w fun y w' => y = .returned (.tuple #[wordV (keyB n b.L), .bool (hasN b.L n)]) ∧ Below w.heap.size w w' := by
  have r1 := row_new w (cellsOf 19 (bookF b Lv Rv)) 41 19 _ (size_cellsOf _ _) (cellsOf_at _ _)
  have b1 : Below w.heap.size w (w.alloc (.cells (cellsOf 19 (bookF b Lv Rv)) 41)) := (Below.refl _ _).alloc (Nat.le_refl _) _
  have s1 : (w.alloc (.cells (cellsOf 19 (bookF b Lv Rv)) 41)).heap.size = w.heap.size + 1 := by simp
  have R2 : Hid (((w.alloc (.cells (cellsOf 19 (bookF b Lv Rv)) 41)).alloc (.cells #[.int .u8 0, .int .u8 0, .int .u8 0, .int .u8 0, .int .u8 0, .int .u8 0, .int .u8 0, .int .u8 0, .int .u8 0, .int .u8 0, .int .u8 0, .int .u8 0, .int .u8 0, .int .u8 0, .int .u8 0, .int .u8 0] 26)).rowIs w.heap.size 41 19 (bookF b Lv Rv) ∧ ((w.alloc (.cells (cellsOf 19 (bookF b Lv Rv)) 41)).alloc (.cells #[.int .u8 0, .int .u8 0, .int .u8 0, .int .u8 0, .int .u8 0, .int .u8 0, .int .u8 0, .int .u8 0, .int .u8 0, .int .u8 0, .int .u8 0, .int .u8 0, .int .u8 0, .int .u8 0, .int .u8 0, .int .u8 0] 26)).rowIs (w.heap.size + 1) 26 16 (wordF zw) ∧ BookAt ((w.alloc (.cells (cellsOf 19 (bookF b Lv Rv)) 41)).alloc (.cells #[.int .u8 0, .int .u8 0, .int .u8 0, .int .u8 0, .int .u8 0, .int .u8 0, .int .u8 0, .int .u8 0, .int .u8 0, .int .u8 0, .int .u8 0, .int .u8 0, .int .u8 0, .int .u8 0, .int .u8 0, .int .u8 0] 26)) b Lv Rv ∧ Below w.heap.size w ((w.alloc (.cells (cellsOf 19 (bookF b Lv Rv)) 41)).alloc (.cells #[.int .u8 0, .int .u8 0, .int .u8 0, .int .u8 0, .int .u8 0, .int .u8 0, .int .u8 0, .int .u8 0, .int .u8 0, .int .u8 0, .int .u8 0, .int .u8 0, .int .u8 0, .int .u8 0, .int .u8 0, .int .u8 0] 26))) := by
    generalize w.alloc (.cells (cellsOf 19 (bookF b Lv Rv)) 41) = w1 at *
    have r2 := row_new w1 #[.int .u8 0, .int .u8 0, .int .u8 0, .int .u8 0, .int .u8 0, .int .u8 0, .int .u8 0, .int .u8 0, .int .u8 0, .int .u8 0, .int .u8 0, .int .u8 0, .int .u8 0, .int .u8 0, .int .u8 0, .int .u8 0] 26 16 (wordF zw) rfl zero_wd
    have b2 : Below w1.heap.size w1 (w1.alloc (.cells #[.int .u8 0, .int .u8 0, .int .u8 0, .int .u8 0, .int .u8 0, .int .u8 0, .int .u8 0, .int .u8 0, .int .u8 0, .int .u8 0, .int .u8 0, .int .u8 0, .int .u8 0, .int .u8 0, .int .u8 0, .int .u8 0] 26)) := (Below.refl _ _).alloc (Nat.le_refl _) _
    rw [s1] at r2
    exact Lib.hid ⟨r1.of_block (b2.block _ (World.rowIs.lt r1)), r2, (h.below b1).below b2, b1.trans (b2.mono b1.size)⟩
  clear r1 b1 s1 h
  unfold bookV wordV
  go_enter Tryd.func22, Tryd.ntmps22
  go_upto_region 1 with fail
  generalize (w.alloc (.cells (cellsOf 19 (bookF b Lv Rv)) 41)).alloc (.cells #[.int .u8 0, .int .u8 0, .int .u8 0, .int .u8 0, .int .u8 0, .int .u8 0, .int .u8 0, .int .u8 0, .int .u8 0, .int .u8 0, .int .u8 0, .int .u8 0, .int .u8 0, .int .u8 0, .int .u8 0, .int .u8 0] 26) = w1 at *
  have HAT := Lib.hid (refAt_any n R2.out.2.2.1)
  unfold bookV at HAT
  go_wp2_with (refine load_whole_met (by rfl) 41 (.tmp 2) (by rfl) _ _ _ _ R2.out.1 (by rfl) _ Tryd.underlying41 (by rfl) (by kernel_rfl) ?_)
  refine HAT.out.mono ?_
  rintro _ w2 ⟨⟨r, rfl, hat⟩, hb2⟩
  have HR := Lib.hid hat
  have R3 : Hid (w2.rowIs w.heap.size 41 19 (bookF b Lv Rv) ∧ w2.rowIs (w.heap.size + 1) 26 16 (wordF zw) ∧ BookAt w2 b Lv Rv ∧ Below w.heap.size w w2) := Lib.hid ⟨R2.out.1.of_block (hb2.block _ (World.rowIs.lt R2.out.1)), R2.out.2.1.of_block (hb2.block _ (World.rowIs.lt R2.out.2.1)), R2.out.2.2.1.below hb2, R2.out.2.2.2.trans (hb2.mono R2.out.2.2.2.size)⟩
  clear hat hb2 HAT R2
  cases hh : hasN b.L n with
  | false =>
    have hr1 := at_no HR.out hh
    have q0 : r < 0 := by omega
    have HK : Hid (keyB n b.L = zw) := Lib.hid (key_no n b.L (hasG_no hh))
    have HH := Lib.hid hh
    clear hr1 hh
    go_wp2_with (refine store_whole (by rfl) 26 (.tmp 4) (.tmp 12) (by rfl) (w.heap.size + 1) _ 16 _ (wordF zw) R3.out.2.1 (by rfl) _ (by rfl) (by kernel_rfl) (by rfl) zero_wd (fun _ _ => rfl) ?_; intro w3 hr3 ho3)
    refine bodyPost_ret (results_row_tmp rfl _ (w.heap.size + 1) _ _ _ _ (by rfl) hr3 Tryd.underlying26 rfl (by kernel_rfl)) rfl ?_
    exact ⟨by rw [HK.out, HH.out]; rfl, ho3.below R3.out.2.2.2 (by omega)⟩
  | true =>
    obtain ⟨As, p, Bs, hsp, hpn, hna, hr⟩ := at_yes HR.out hh
    have HK : Hid (keyB n b.L = p.2) := Lib.hid (by rw [hsp]; exact key_at n p Bs hpn As hna)
    have HKL : Hid (As.length < b.L.length ∧ b.L[As.length]? = some p) := Lib.hid ⟨by rw [hsp]; simp, by rw [hsp]; simp⟩
    subst hr
    obtain ⟨AL, cL, rfl, hEL⟩ := R3.out.2.2.1.ents
    obtain ⟨bA, oA, rfl, hbA, hcA⟩ := hEL (by have := HKL.out.1; omega)
    have HCK := Lib.hid (ent_key HKL.out.2 (hcA As.length HKL.out.1))
    have q0 : ¬ (As.length : Int) < 0 := by omega
    have q1 : (0 : Int) ≤ (As.length : Int) := by omega
    have q2 : (As.length : Int) < (b.L.length : Int) := by have := HKL.out.1; omega
    have c0 := R3.out.1.cell (i := 0) (by omega)
    rw [show bookF b (.slice (some ⟨bA, oA, none⟩) b.L.length cL) Rv 0 = .slice (some ⟨bA, oA, none⟩) b.L.length cL from rfl] at c0
    have HH := Lib.hid hh
    clear hsp hpn hna HR hEL hcA hbA hh
    go_wp2_with (first
      | (refine wpList_load_mid (by rfl) 26 (.tmp 17) (by rfl) bA (oA + As.length * 17 + 1) (by rfl) _ _ HCK.out Tryd.underlying26 (by rfl) (by kernel_rfl) ?_)
      | (refine store_whole (by rfl) 26 (.tmp 4) (.tmp 18) (by rfl) (w.heap.size + 1) _ 16 _ (wordF p.2) R3.out.2.1 (by rfl) _ (by rfl) (by kernel_rfl) (by rfl) (cellsOf_at _ _) (fun _ _ => rfl) ?_; intro w3 hr3 ho3))
    refine bodyPost_ret (results_row_tmp rfl _ (w.heap.size + 1) _ _ _ _ (by rfl) hr3 Tryd.underlying26 rfl (by kernel_rfl)) rfl ?_
    exact ⟨by rw [HK.out, HH.out]; rfl, ho3.below R3.out.2.2.2 (by omega)⟩
end Go.Proofs.YtebchoeeohmlaaaDoor.Book
namespace Go.Proofs.YtebchoeeohmlaaaDoor.Book
open Go Go.RowKit Go.Proofs.YtebchoeeohmlaaaDoor.Aid Go.Proofs.YtebchoeeohmlaaaDoor.Field

theorem ox_ok (x : OpB) : (ox x).length = 19 ∧ ∀ q ∈ ox x, q.oneCell' = true := ⟨by simp [ox], fun q hq => by
  obtain ⟨j, _, rfl⟩ := List.mem_map.1 hq
  exact op_one x j⟩
theorem rows_in17 {W : World} {n c bA oA : Nat} {V : Nat → List Value} (h : RowsAt W 17 n V (.slice (some ⟨bA, oA, none⟩) n c)) (hn : 1 ≤ n) : ∀ i, i < n → ∀ j u, (V i)[j]? = some u → W.cell? ⟨bA, oA + i * 17 + j, none⟩ = some u := by
  obtain ⟨A', c', he, hr⟩ := h
  simp only [Value.slice.injEq, true_and] at he
  obtain ⟨rfl, rfl⟩ := he
  obtain ⟨b', o', hA, _, hc⟩ := hr hn
  simp only [Option.some.injEq, Addr.mk.injEq, and_true] at hA
  obtain ⟨rfl, rfl⟩ := hA
  exact hc
def addO (p : ByteArray × Wd) : OpB := ⟨1, p.1, p.2, 0⟩
def revO (k : Wd) : OpB := ⟨4, nos, k, 0⟩
def zO : Value := .agg #[.int .i64 0, .string ⟨#[]⟩, .int .u8 0, .int .u8 0, .int .u8 0, .int .u8 0, .int .u8 0, .int .u8 0, .int .u8 0, .int .u8 0, .int .u8 0, .int .u8 0, .int .u8 0, .int .u8 0, .int .u8 0, .int .u8 0, .int .u8 0, .int .u8 0, .int .i64 0]
theorem infoO : (Tryd.prog.info? 32).map (fun i => (i.zero, i.size, i.bytes)) = some (some zO, 19, 48) := by kernel_rfl
/-- What a step of the loops has: the book's row, the book, and the operations so far. -/
structure OpsSt (w W : World) (b : Bk) (Lv Rv : Value) (l : List OpB) (v : Value) : Prop where
  bk : W.rowIs w.heap.size 41 19 (bookF b Lv Rv)
  at_ : BookAt W b Lv Rv
  bel : Below w.heap.size w W
  own : OwnE W (w.heap.size + 1) 32 19 (l.map ox) v
  ap : ∀ k, w.heap.size ≤ k → Apart Lv Rv k
theorem OpsSt.grown {w W W' : World} {b : Bk} {Lv Rv v v' : Value} {l l' : List OpB} (h : OpsSt w W b Lv Rv l v) {k : Option Nat} (hk : ∀ j, k = some j → w.heap.size + 1 ≤ j) (hg : W.grownBy W' k) (ho : OwnE W' (w.heap.size + 1) 32 19 (l'.map ox) v') : OpsSt w W' b Lv Rv l' v' := by
  have hb : ∀ j, j < w.heap.size + 1 → some j ≠ k := fun j hj e => by have := hk j e.symm; omega
  have l0 := World.rowIs.lt h.bk
  have ha : ∀ j, (Lv.ownBlock = some j ∨ Rv.ownBlock = some j) → some j ≠ k := fun j hj e => by
    have h1 := hk j e.symm
    have h2 := h.ap j (by omega)
    rcases hj with hj | hj
    · exact h2.1 hj
    · exact h2.2 hj
  exact ⟨h.bk.of_block (hg.block _ l0 (hb _ (by omega))), ⟨rows_grown h.at_.ents hg (fun j hj => ha j (.inl hj)), rows_grown h.at_.revs hg (fun j hj => ha j (.inr hj)), h.at_.reach, fun g hg' => h.at_.apart g (Nat.le_trans hg.size hg'), h.at_.cap⟩, ⟨hg.os.trans h.bel.os, hg.tape.trans h.bel.tape, hg.output.trans h.bel.output, Nat.le_trans h.bel.size hg.size, fun j hj => (hg.block j (Nat.lt_of_lt_of_le hj h.bel.size) (hb j (by omega))).trans (h.bel.block j hj)⟩, ho, h.ap⟩
theorem OpsSt.below {w W W' : World} {b : Bk} {Lv Rv v : Value} {l : List OpB} (h : OpsSt w W b Lv Rv l v) (hb : Below W.heap.size W W') : OpsSt w W' b Lv Rv l v :=
  ⟨h.bk.of_block (hb.block _ (World.rowIs.lt h.bk)), h.at_.below hb, h.bel.trans (hb.mono h.bel.size), h.own.below hb, h.ap⟩
theorem ops_end {w W : World} {b : Bk} {Lv Rv v : Value} {l : List OpB} (h : OpsSt w W b Lv Rv l v) (hl : l = opsB b) : RowsAt W 19 (opsB b).length (fun i => ox ((opsB b).getD i ⟨0, nos, zw, 0⟩)) v ∧ Below w.heap.size w W := by
  subst hl
  refine ⟨?_, h.bel⟩
  have := h.own.rows
  rw [List.length_map] at this
  refine rows_congr this fun i hi => ?_
  rw [List.getD_eq_getElem?_getD, List.getD_eq_getElem?_getD, List.getElem?_map, List.getElem?_eq_getElem hi]
  rfl
set_option maxRecDepth 100000 in
set_option maxHeartbeats 2000000 in
theorem refOps15_any {w : World} {b : Bk} {Lv Rv : Value} (h : BookAt w b Lv Rv) : Calls Tryd.prog 20 #[bookV b Lv Rv] w fun y w' => ∃ v, y = .returned v ∧ RowsAt w' 19 (opsB b).length (fun i => ox ((opsB b).getD i ⟨0, nos, zw, 0⟩)) v ∧ Below w.heap.size w w' := by
  have r1 := row_new w (cellsOf 19 (bookF b Lv Rv)) 41 19 _ (size_cellsOf _ _) (cellsOf_at _ _)
  have b1 : Below w.heap.size w (w.alloc (.cells (cellsOf 19 (bookF b Lv Rv)) 41)) := (Below.refl _ _).alloc (Nat.le_refl _) _
  have S0 : Hid (OpsSt w (w.alloc (.cells (cellsOf 19 (bookF b Lv Rv)) 41)) b Lv Rv [] (.slice none 0 0)) := Lib.hid ⟨r1, h.below b1, b1, OwnE.nil _ _ _ _, h.apart⟩
  clear r1 b1 h
  unfold bookV
  obtain ⟨AL, cL, rfl, -⟩ := S0.out.at_.ents
  obtain ⟨AR, cR, rfl, -⟩ := S0.out.at_.revs
  have hm1 := S0.out.at_.reach.most
  have hm2 := S0.out.at_.reach.revs
  go_enter Tryd.func20, Tryd.ntmps20
  go_upto_region 1 with fail
  generalize w.alloc (.cells (cellsOf 19 (bookF b (.slice AL b.L.length cL) (.slice AR b.rev.length cR))) 41) = w1 at *
  go_wp2_with fail
  go_loopw [3, 4] (fun v iv wr => ∃ k : Nat, k ≤ b.L.length ∧ iv = .int .i64 (k : Int) ∧ (∃ A c, v = .slice A k c) ∧ Hid (OpsSt w wr b (.slice AL b.L.length cL) (.slice AR b.rev.length cR) ((b.L.take k).map addO) v)) (fun _ i _ => b.L.length - (intOf i).toNat)
  case atStart => exact ⟨0, by omega, rfl, ⟨_, _, rfl⟩, S0⟩
  case round =>
    obtain ⟨k, hk, rfl, ⟨Av, cv, rfl⟩, hst⟩ := hrel
    clear S0
    have c0 := hst.out.bk.cell (i := 0) (by omega)
    rw [show bookF b (.slice AL b.L.length cL) (.slice AR b.rev.length cR) 0 = .slice AL b.L.length cL from rfl] at c0
    by_cases hlt : k < b.L.length
    · have q1 : (k : Int) < (b.L.length : Int) := by omega
      have q0 : (0 : Int) ≤ (k : Int) := by omega
      go_upto_region 5 with fail
      obtain ⟨bA, oA, hAL, hbA, hcA⟩ := (by obtain ⟨A', c', he, hr'⟩ := hst.out.at_.ents; simp only [Value.slice.injEq, true_and] at he; obtain ⟨rfl, rfl⟩ := he; exact hr' (by omega) : ∃ bA oA, AL = some ⟨bA, oA, none⟩ ∧ bA < wr.heap.size ∧ ∀ i, i < b.L.length → ∀ j u, (entsL b i)[j]? = some u → wr.cell? ⟨bA, oA + i * 17 + j, none⟩ = some u)
      subst hAL
      have hget : b.L[k]? = some (b.L.getD k (nos, zw)) := by rw [List.getD_eq_getElem?_getD, List.getElem?_eq_getElem hlt]; rfl
      have HNM := Lib.hid (fun (W' : World) (hS : BookAt W' b (.slice (some ⟨bA, oA, none⟩) b.L.length cL) (.slice AR b.rev.length cR)) => show W'.cell? ⟨bA, oA + k * 17, none⟩ = some (.string (b.L.getD k (nos, zw)).1) from ent_name rfl (rows_in17 hS.ents (by omega)) k hlt)
      have HKEY := Lib.hid (fun (W' : World) (hS : BookAt W' b (.slice (some ⟨bA, oA, none⟩) b.L.length cL) (.slice AR b.rev.length cR)) => ent_key hget (rows_in17 hS.ents (by omega) k hlt))
      have HTK : Hid ((b.L.take (k + 1)).map addO = (b.L.take k).map addO ++ [addO (b.L.getD k (nos, zw))]) := Lib.hid (by rw [List.take_add_one, hget]; simp)
      have HLT := Lib.hid (show k + 1 ≤ b.L.length from hlt)
      clear hcA hbA hget hlt c0
      generalize b.L.getD k (nos, zw) = p at *
      refine region_mix_last (fun W' => W'.rowIs w.heap.size 41 19 (bookF b (.slice (some ⟨bA, oA, none⟩) b.L.length cL) (.slice AR b.rev.length cR)) ∧ BookAt W' b (.slice (some ⟨bA, oA, none⟩) b.L.length cL) (.slice AR b.rev.length cR)) 16 [(0, true), (1, true), (2, true), (3, true), (4, true), (5, true), (6, true), (7, true), (8, true), (9, true), (10, true), (11, true), (12, true), (13, true), (14, false), (15, false)] (by kernel_rfl) (by rfl) (by kernel_rfl) ⟨hst.out.bk, hst.out.at_.below (Below.refl _ _).drew⟩ ?_
      refine m_val rfl (by rfl) (.slice Av k cv) (fun W' hS => by go_simp) ?_
      simp only [Act.put, List.setIfInBounds_toArray, List.set_cons_zero, List.set_cons_succ]
      refine m_val rfl (by rfl) (.pointer (some ⟨w.heap.size, 0, none⟩)) (fun W' hS => by go_simp) ?_
      simp only [Act.put, List.setIfInBounds_toArray, List.set_cons_zero, List.set_cons_succ]
      refine m_val rfl (by rfl) (.slice (some ⟨bA, oA, none⟩) b.L.length cL) (fun W' hS => by have cc := hS.1.cell (i := 0) (by omega); rw [show bookF b (.slice (some ⟨bA, oA, none⟩) b.L.length cL) (.slice AR b.rev.length cR) 0 = .slice (some ⟨bA, oA, none⟩) b.L.length cL from rfl] at cc; go_simp) ?_
      simp only [Act.put, List.setIfInBounds_toArray, List.set_cons_zero, List.set_cons_succ]
      refine m_val rfl (by rfl) (.int .i64 (k : Int)) (fun W' hS => by go_simp) ?_
      simp only [Act.put, List.setIfInBounds_toArray, List.set_cons_zero, List.set_cons_succ]
      refine m_val rfl (by rfl) (.pointer (some ⟨bA, oA + k * 17, none⟩)) (fun W' hS => by go_simp) ?_
      simp only [Act.put, List.setIfInBounds_toArray, List.set_cons_zero, List.set_cons_succ]
      refine m_val rfl (by rfl) (.pointer (some ⟨bA, oA + k * 17, none⟩)) (fun W' hS => by go_simp) ?_
      simp only [Act.put, List.setIfInBounds_toArray, List.set_cons_zero, List.set_cons_succ]
      refine m_val rfl (by rfl) (.string p.1) (fun W' hS => by have cn := HNM.out W' hS.2; go_simp) ?_
      simp only [Act.put, List.setIfInBounds_toArray, List.set_cons_zero, List.set_cons_succ]
      refine m_val rfl (by rfl) (.pointer (some ⟨w.heap.size, 0, none⟩)) (fun W' hS => by go_simp) ?_
      simp only [Act.put, List.setIfInBounds_toArray, List.set_cons_zero, List.set_cons_succ]
      refine m_val rfl (by rfl) (.slice (some ⟨bA, oA, none⟩) b.L.length cL) (fun W' hS => by have cc := hS.1.cell (i := 0) (by omega); rw [show bookF b (.slice (some ⟨bA, oA, none⟩) b.L.length cL) (.slice AR b.rev.length cR) 0 = .slice (some ⟨bA, oA, none⟩) b.L.length cL from rfl] at cc; go_simp) ?_
      simp only [Act.put, List.setIfInBounds_toArray, List.set_cons_zero, List.set_cons_succ]
      refine m_val rfl (by rfl) (.int .i64 (k : Int)) (fun W' hS => by go_simp) ?_
      simp only [Act.put, List.setIfInBounds_toArray, List.set_cons_zero, List.set_cons_succ]
      refine m_val rfl (by rfl) (.pointer (some ⟨bA, oA + k * 17, none⟩)) (fun W' hS => by go_simp) ?_
      simp only [Act.put, List.setIfInBounds_toArray, List.set_cons_zero, List.set_cons_succ]
      refine m_val rfl (by rfl) (.pointer (some ⟨bA, oA + k * 17 + 1, none⟩)) (fun W' hS => by go_simp) ?_
      simp only [Act.put, List.setIfInBounds_toArray, List.set_cons_zero, List.set_cons_succ]
      refine m_range rfl (by rfl) 26 (.tmp 24) (by rfl) bA (oA + k * 17 + 1) 16 (wordF p.2) (fun W' hS => HKEY.out W' hS.2) (by rfl) _ Tryd.underlying26 (by rfl) (by kernel_rfl) ?_
      simp only [Act.put, List.setIfInBounds_toArray, List.set_cons_zero, List.set_cons_succ]
      rw [show cellsOf 16 (wordF p.2) = #[wordF p.2 0, wordF p.2 1, wordF p.2 2, wordF p.2 3, wordF p.2 4, wordF p.2 5, wordF p.2 6, wordF p.2 7, wordF p.2 8, wordF p.2 9, wordF p.2 10, wordF p.2 11, wordF p.2 12, wordF p.2 13, wordF p.2 14, wordF p.2 15] from rfl]
      refine m_val rfl (by rfl) (.agg #[.int .i64 1, .string p.1, wordF p.2 0, wordF p.2 1, wordF p.2 2, wordF p.2 3, wordF p.2 4, wordF p.2 5, wordF p.2 6, wordF p.2 7, wordF p.2 8, wordF p.2 9, wordF p.2 10, wordF p.2 11, wordF p.2 12, wordF p.2 13, wordF p.2 14, wordF p.2 15, .int .i64 0]) (fun W' hS => by go_simp) ?_
      simp only [Act.put, List.setIfInBounds_toArray, List.set_cons_zero, List.set_cons_succ]
      have HS1 : Hid (Below wr.heap.size wr (wr.alloc (.cells #[.int .i64 1, .string p.1, wordF p.2 0, wordF p.2 1, wordF p.2 2, wordF p.2 3, wordF p.2 4, wordF p.2 5, wordF p.2 6, wordF p.2 7, wordF p.2 8, wordF p.2 9, wordF p.2 10, wordF p.2 11, wordF p.2 12, wordF p.2 13, wordF p.2 14, wordF p.2 15, .int .i64 0] 32)).drew) := Lib.hid ((Below.refl _ _).alloc (Nat.le_refl _) _).drew
      have HR1 : Hid (RowsAt (wr.alloc (.cells #[.int .i64 1, .string p.1, wordF p.2 0, wordF p.2 1, wordF p.2 2, wordF p.2 3, wordF p.2 4, wordF p.2 5, wordF p.2 6, wordF p.2 7, wordF p.2 8, wordF p.2 9, wordF p.2 10, wordF p.2 11, wordF p.2 12, wordF p.2 13, wordF p.2 14, wordF p.2 15, .int .i64 0] 32)).drew 19 1 (fun _ => ox (addO p)) (.slice (some ⟨wr.heap.size, 0, none⟩) 1 1)) := Lib.hid (row_one wr _ 32 19 (ox (addO p)) rfl)
      refine m_go rfl ?_
      go_wp2_with fail
      have ST1 := Lib.hid (hst.out.below HS1.out)
      refine m_on ⟨ST1.out.bk, ST1.out.at_⟩ ?_
      generalize (wr.alloc (.cells #[.int .i64 1, .string p.1, wordF p.2 0, wordF p.2 1, wordF p.2 2, wordF p.2 3, wordF p.2 4, wordF p.2 5, wordF p.2 6, wordF p.2 7, wordF p.2 8, wordF p.2 9, wordF p.2 10, wordF p.2 11, wordF p.2 12, wordF p.2 13, wordF p.2 14, wordF p.2 15, .int .i64 0] 32)).drew = w41 at *
      refine m_go rfl ?_
      refine append_rows (by rfl) (.tmp 13) (.tmp 27) 56 (by rfl) (w.heap.size + 1) 32 19 48 zO Tryd.underlying56 infoO (by rfl) (by omega) _ _ (by rfl) ST1.out.own 1 _ _ (by rfl) HR1.out (fun i _ => ox_ok _) (by simp; omega) (by omega) (by have := World.rowIs.lt ST1.out.bk; omega) ?_
      intro v2 w42 ho2 hg2 hv2
      have ST2 := Lib.hid (ST1.out.grown (l' := (b.L.take k).map addO ++ [addO p]) (fun j hj => (ST1.out.own.lt j hj).1) hg2 (by simpa using ho2))
      obtain ⟨A5, c5, hs5⟩ := ho2.shape
      simp only [List.length_append, List.length_map, List.length_range, List.length_take] at hs5
      rw [Nat.min_eq_left (by have := HLT.out; omega)] at hs5
      clear ho2 hg2 hv2 ST1 HR1 HS1 hst
      subst hs5
      refine m_on ⟨ST2.out.bk, ST2.out.at_⟩ ?_
      refine m_end ?_
      dsimp only
      go_wp2_with fail
      refine NoPanic.normal ?_
      have hw : wrap64 ((k : Int) + 1) = ((k + 1 : Nat) : Int) := by unfold wrap64; have := HLT.out; omega
      go_wp2
      refine ⟨⟨k + 1, HLT.out, by rw [Int.natCast_add]; rfl, ⟨_, _, rfl⟩, Lib.hid (by rw [HTK.out]; exact ST2.out)⟩, ?_⟩
      have := HLT.out
      simp [intOf]
      omega
    · have q1 : ¬ (k : Int) < (b.L.length : Int) := by omega
      obtain rfl : k = b.L.length := by omega
      go_upto_region 6 with fail
      rw [List.take_length] at hst
      have S1 := Lib.hid hst.out
      clear hst c0 hk hlt q1
      go_wp2_with fail
      go_loopw [3, 5] (fun v iv wq => ∃ k : Nat, k ≤ b.rev.length ∧ iv = .int .i64 (k : Int) ∧ (∃ A c, v = .slice A (b.L.length + k) c) ∧ Hid (OpsSt w wq b (.slice AL b.L.length cL) (.slice AR b.rev.length cR) (b.L.map addO ++ (b.rev.take k).map revO) v)) (fun _ i _ => b.rev.length - (intOf i).toNat)
      case atStart => exact ⟨0, by omega, rfl, ⟨_, _, rfl⟩, Lib.hid (by simpa using S1.out)⟩
      case round =>
        obtain ⟨k, hk, rfl, ⟨Aw, cw, rfl⟩, hst⟩ := hrel
        clear S1
        have c1 := hst.out.bk.cell (i := 1) (by omega)
        rw [show bookF b (.slice AL b.L.length cL) (.slice AR b.rev.length cR) 1 = .slice AR b.rev.length cR from rfl] at c1
        by_cases hlt : k < b.rev.length
        · have q1 : (k : Int) < (b.rev.length : Int) := by omega
          have q0 : (0 : Int) ≤ (k : Int) := by omega
          have hget : b.rev[k]? = some (b.rev.getD k zw) := by rw [List.getD_eq_getElem?_getD, List.getElem?_eq_getElem hlt]; rfl
          obtain ⟨A', c', he, hr'⟩ := hst.out.at_.revs
          simp only [Value.slice.injEq, true_and] at he
          obtain ⟨rfl, rfl⟩ := he
          obtain ⟨bR, oR, rfl, _, hcR⟩ := hr' (by omega)
          have hky := rev_key rfl hcR k hlt
          have HTK : Hid ((b.rev.take (k + 1)).map revO = (b.rev.take k).map revO ++ [revO (b.rev.getD k zw)]) := Lib.hid (by rw [List.take_add_one, hget]; simp)
          have HLT := Lib.hid (show k + 1 ≤ b.rev.length from hlt)
          clear hcR hget hlt hr'
          generalize b.rev.getD k zw = q at *
          have HKY := Lib.hid hky
          clear hky
          go_upto_region 9 with fail
          have HAL : Hid (Below wr.heap.size wr (wr.alloc (.cells #[.int .i64 4, .string ⟨#[]⟩, wordF q 0, wordF q 1, wordF q 2, wordF q 3, wordF q 4, wordF q 5, wordF q 6, wordF q 7, wordF q 8, wordF q 9, wordF q 10, wordF q 11, wordF q 12, wordF q 13, wordF q 14, wordF q 15, .int .i64 0] 32))) := Lib.hid ((Below.refl _ _).alloc (Nat.le_refl _) _)
          have HR1 : Hid (RowsAt (wr.alloc (.cells #[.int .i64 4, .string ⟨#[]⟩, wordF q 0, wordF q 1, wordF q 2, wordF q 3, wordF q 4, wordF q 5, wordF q 6, wordF q 7, wordF q 8, wordF q 9, wordF q 10, wordF q 11, wordF q 12, wordF q 13, wordF q 14, wordF q 15, .int .i64 0] 32)) 19 1 (fun _ => ox (revO q)) (.slice (some ⟨wr.heap.size, 0, none⟩) 1 1)) := Lib.hid (row_one wr _ 32 19 (ox (revO q)) rfl)
          have ST1 := Lib.hid (hst.out.below HAL.out)
          go_wp2_with (first
            | (refine wpList_load_mid (by rfl) 26 (.tmp 40) (by rfl) bR (oR + k * 16) (by rfl) _ _ HKY.out Tryd.underlying26 (by rfl) (by kernel_rfl) ?_; rw [show ((List.range 16).map (wordF q)).toArray = #[wordF q 0, wordF q 1, wordF q 2, wordF q 3, wordF q 4, wordF q 5, wordF q 6, wordF q 7, wordF q 8, wordF q 9, wordF q 10, wordF q 11, wordF q 12, wordF q 13, wordF q 14, wordF q 15] from rfl])
            | (at_builtin
               refine append_rows (by rfl) (.tmp 36) (.tmp 43) 56 (by rfl) (w.heap.size + 1) 32 19 48 zO Tryd.underlying56 infoO (by rfl) (by omega) _ _ (by rfl) ST1.out.own 1 _ _ (by rfl) HR1.out (fun i _ => ox_ok _) (by simp; omega) (by omega) (by have := World.rowIs.lt ST1.out.bk; omega) ?_
               intro v2 w42 ho2 hg2 hv2
               have ST2 := Lib.hid (ST1.out.grown (l' := (b.L.map addO ++ (b.rev.take k).map revO) ++ [revO q]) (fun j hj => (ST1.out.own.lt j hj).1) hg2 (by simpa using ho2))
               obtain ⟨A5, c5, hs5⟩ := ho2.shape
               simp only [List.length_append, List.length_map, List.length_range, List.length_take] at hs5
               rw [Nat.min_eq_left (by have := HLT.out; omega)] at hs5
               clear ho2 hg2 hv2 ST1 HR1 HAL hst HKY c1
               subst hs5))
          refine ⟨⟨k + 1, HLT.out, by rw [Int.natCast_add]; rfl, ⟨_, _, by rw [Nat.add_assoc]⟩, Lib.hid (by rw [HTK.out, ← List.append_assoc]; exact ST2.out)⟩, ?_⟩
          have := HLT.out
          simp [intOf]
          omega
        · have q1 : ¬ (k : Int) < (b.rev.length : Int) := by omega
          obtain rfl : k = b.rev.length := by omega
          rw [List.take_length] at hst
          have S2 := Lib.hid hst.out
          clear hst hk hlt
          go_upto_region 10 with fail
          have c2 := S2.out.bk.cell (i := 2) (by omega)
          rw [show bookF b (.slice AL b.L.length cL) (.slice AR b.rev.length cR) 2 = .int .i64 b.gen from rfl] at c2
          by_cases hgen : 0 < b.gen
          · have HOPS : Hid (b.L.map addO ++ b.rev.map revO ++ [(⟨5, nos, b.own, b.gen⟩ : OpB)] = opsB b) := Lib.hid (by unfold opsB; rw [if_pos hgen, ← List.append_assoc]; rfl)
            go_upto_region 11 with fail
            have HAL : Hid (Below wr.heap.size wr (wr.alloc (.cells #[.int .i64 5, .string ⟨#[]⟩, wordF b.own 0, wordF b.own 1, wordF b.own 2, wordF b.own 3, wordF b.own 4, wordF b.own 5, wordF b.own 6, wordF b.own 7, wordF b.own 8, wordF b.own 9, wordF b.own 10, wordF b.own 11, wordF b.own 12, wordF b.own 13, wordF b.own 14, wordF b.own 15, .int .i64 b.gen] 32))) := Lib.hid ((Below.refl _ _).alloc (Nat.le_refl _) _)
            have HR1 : Hid (RowsAt (wr.alloc (.cells #[.int .i64 5, .string ⟨#[]⟩, wordF b.own 0, wordF b.own 1, wordF b.own 2, wordF b.own 3, wordF b.own 4, wordF b.own 5, wordF b.own 6, wordF b.own 7, wordF b.own 8, wordF b.own 9, wordF b.own 10, wordF b.own 11, wordF b.own 12, wordF b.own 13, wordF b.own 14, wordF b.own 15, .int .i64 b.gen] 32)) 19 1 (fun _ => ox ⟨5, nos, b.own, b.gen⟩) (.slice (some ⟨wr.heap.size, 0, none⟩) 1 1)) := Lib.hid (row_one wr _ 32 19 (ox ⟨5, nos, b.own, b.gen⟩) rfl)
            have ST1 := Lib.hid (S2.out.below HAL.out)
            go_wp2_with (first
              | (refine load_as (by rfl) 26 (.tmp 49) (by rfl) w.heap.size 3 _ 19 16 _ (cellsOf 16 (wordF b.own)) (own_cells _ _ _) S2.out.bk (by rfl) _ Tryd.underlying26 (by rfl) (by kernel_rfl) (by omega) ?_; rw [show cellsOf 16 (wordF b.own) = #[wordF b.own 0, wordF b.own 1, wordF b.own 2, wordF b.own 3, wordF b.own 4, wordF b.own 5, wordF b.own 6, wordF b.own 7, wordF b.own 8, wordF b.own 9, wordF b.own 10, wordF b.own 11, wordF b.own 12, wordF b.own 13, wordF b.own 14, wordF b.own 15] from rfl])
              | (at_builtin
                 refine append_rows (by rfl) (.tmp 48) (.tmp 54) 56 (by rfl) (w.heap.size + 1) 32 19 48 zO Tryd.underlying56 infoO (by rfl) (by omega) _ _ (by rfl) ST1.out.own 1 _ _ (by rfl) HR1.out (fun i _ => ox_ok _) (by simp; omega) (by omega) (by have := World.rowIs.lt ST1.out.bk; omega) ?_
                 intro v2 w42 ho2 hg2 hv2
                 have ST2 := Lib.hid (ST1.out.grown (l' := b.L.map addO ++ b.rev.map revO ++ [⟨5, nos, b.own, b.gen⟩]) (fun j hj => (ST1.out.own.lt j hj).1) hg2 (by simpa using ho2))
                 clear ho2 hg2 hv2 ST1 HR1 HAL S2 c2))
            exact bodyPost_ret (results_tmp rfl _ _ _) rfl ⟨_, rfl, ops_end ST2.out HOPS.out⟩
          · have HOPS : Hid (b.L.map addO ++ b.rev.map revO = opsB b) := Lib.hid (by unfold opsB; rw [if_neg hgen, List.append_nil]; rfl)
            go_wp2_with fail
            exact bodyPost_ret (results_tmp rfl _ _ _) rfl ⟨_, rfl, ops_end S2.out HOPS.out⟩
end Go.Proofs.YtebchoeeohmlaaaDoor.Book
