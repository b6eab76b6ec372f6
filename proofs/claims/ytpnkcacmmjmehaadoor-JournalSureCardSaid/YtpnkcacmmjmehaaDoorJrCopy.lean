/-
  The program's own journal: copyOfAll; records in memory of a footprint.
-/
import Derived.Test.YtpnkcacmmjmehaaDoorJrHead
import Derived.Test.YtpnkcacmmjmehaaDoorRefSame14
import Derived.Test.YtpnkcacmmjmehaaDoorWayL
namespace Go.Proofs.YtpnkcacmmjmehaaDoor.Jour
open Go Go.RowKit Go.Proofs.YtpnkcacmmjmehaaDoor.Aid Go.Proofs.YtpnkcacmmjmehaaDoor.Sha Go.Proofs.YtpnkcacmmjmehaaDoor.Cache Go.Proofs.YtpnkcacmmjmehaaDoor.Store

/-- Records in blocks of K; no record lies where the list lies. -/
def RecsOwn (W : World) (K : Nat → Prop) (L : List By) (V : Value) : Prop :=
  ∃ rs, OwnV W 0 35 V rs ∧ rs.length = L.length ∧ (∀ b, V.ownBlock = some b → K b) ∧ ∀ (i : Nat) (x : By) (u : Value), L[i]? = some x → rs[i]? = some u → BytesIn W (fun b => K b ∧ V.ownBlock ≠ some b) x.length (fnL x) u
theorem RecsOwn.keep {W W' : World} {K : Nat → Prop} {L : List By} {V : Value} (h : RecsOwn W K L V) (hk : ∀ b, b < W.heap.size → K b → W'.heap[b]? = W.heap[b]?) : RecsOwn W' K L V := by
  obtain ⟨rs, h1, h2, h3, h4⟩ := h
  exact ⟨rs, h1.keep (fun b hb => hk b (h1.lt b hb).2 (h3 b hb)), h2, h3, fun i x u hx hu => (h4 i x u hx hu).keep (fun b hlt hb => hk b hlt hb.1)⟩
theorem RecsOwn.less {W : World} {K K' : Nat → Prop} {L : List By} {V : Value} (h : RecsOwn W K L V) (hk : ∀ b, b < W.heap.size → K b → K' b) : RecsOwn W K' L V := by
  obtain ⟨rs, h1, h2, h3, h4⟩ := h
  exact ⟨rs, h1, h2, fun b hb => hk b (h1.lt b hb).2 (h3 b hb), fun i x u hx hu => (h4 i x u hx hu).less (fun b hlt hb => ⟨hk b hlt hb.1, hb.2⟩)⟩
theorem RecsOwn.parts {W : World} {K : Nat → Prop} {L : List By} {V : Value} (h : RecsOwn W K L V) : PartsP W K L V := by
  obtain ⟨rs, h1, h2, h3, h4⟩ := h
  exact parts_own h1 h2 (fun i x u hx hu => (h4 i x u hx hu).less (fun _ _ hb => hb.1)) (fun _ h => h) h3
theorem RecsOwn.nil (W : World) (K : Nat → Prop) : RecsOwn W K [] (.slice none 0 0) := ⟨[], OwnV.nil _ _ _, rfl, fun b hb => (by cases hb), fun i x u hx => (by simp at hx)⟩
theorem RecsOwn.shape {W : World} {K : Nat → Prop} {L : List By} {V : Value} (h : RecsOwn W K L V) : ∃ A c, V = .slice A L.length c := by
  obtain ⟨rs, h1, h2, _⟩ := h
  obtain ⟨A, c, hv, _⟩ := h1.shape
  exact ⟨A, c, by rw [hv, h2]⟩
/-- While copies are laid: k of them. -/
def CopySt (w W : World) (g : Nat) (M : List By) (k : Nat) : Prop :=
  ∃ f : Nat → Value, W.rowIs g 35 M.length f ∧ Below w.heap.size w W ∧ ∀ (j : Nat) (x : By), j < k → M[j]? = some x → BytesIn W (fun b => w.heap.size ≤ b ∧ b ≠ g) x.length (fnL x) (f j)
theorem CopySt.done {w W : World} {g : Nat} {M : List By} (h : CopySt w W g M M.length) (hg : w.heap.size ≤ g) (hm : M.length ≤ 100000) : RecsOwn W (fun b => w.heap.size ≤ b) M (.slice (some ⟨g, 0, none⟩) M.length M.length) := by
  obtain ⟨f, hr, hb, hx⟩ := h
  have hl : ((List.range M.length).map f).length = M.length := by simp
  have own : OwnV W 0 35 (.slice (some ⟨g, 0, none⟩) M.length M.length) ((List.range M.length).map f) := by
    refine ⟨by simp, .inr ⟨g, M.length, cellsOf M.length f, by simp, Nat.zero_le _, row_heap hr, by simp, by simp only [maxLen]; omega, by simp [size_cellsOf], ?_⟩⟩
    simp only [cellsOf, hl, Nat.mul_one]
    exact List.take_of_length_le (by simp)
  refine ⟨_, own, hl, fun b hb => ?_, fun i x u hix hu => ?_⟩
  · have : g = b := by simpa [Value.ownBlock] using hb
    rw [← this]; exact hg
  · have hi := (List.getElem?_eq_some_iff.1 hix).1
    rw [List.getElem?_map, List.getElem?_range hi] at hu
    simp only [Option.map_some, Option.some.injEq] at hu
    subst hu
    refine (hx i x hi hix).less (fun b _ hb => ⟨hb.1, fun h => hb.2 ?_⟩)
    have : g = b := by simpa [Value.ownBlock] using h
    exact this.symm
theorem CopySt.put {w W W1 : World} {g k : Nat} {M : List By} {u : Value} {x : By} (h : CopySt w W g M k) (hb : Below W.heap.size W W1) (hg : w.heap.size ≤ g) (hx : M[k]? = some x) (hu : BytesIn W1 (fun b => W.heap.size ≤ b) x.length (fnL x) u) (hw : g < W.heap.size) : CopySt w (W1.setCell ⟨g, k, none⟩ u) g M (k + 1) := by
  obtain ⟨f, hr, hb0, hf⟩ := h
  have oth : ∀ b, b ≠ g → (W1.setCell ⟨g, k, none⟩ u).heap[b]? = W1.heap[b]? := fun b hb => heap_setCell_other _ _ _ _ (by simpa using hb)
  have hsz : (W1.setCell ⟨g, k, none⟩ u).heap.size = W1.heap.size := by simp [World.setCell]
  have hsz0 := hb0.size
  have hsz1 := hb.size
  refine ⟨_, (hr.of_block (hb.block g hw)).set k u, ⟨hb.os.trans hb0.os, hb.tape.trans hb0.tape, hb.output.trans hb0.output, by rw [hsz]; omega, fun b hlt => (oth b (by omega)).trans ((hb.block b (by omega)).trans (hb0.block b hlt))⟩, fun j y hj hy => ?_⟩
  by_cases hjk : j = k
  · subst hjk
    rw [hx] at hy
    cases hy
    rw [if_pos rfl]
    exact (hu.keep (fun b _ hb => oth b (by omega))).less (fun b _ hb => ⟨by omega, by omega⟩)
  · rw [if_neg hjk]
    exact ((hf j y (by omega) hy).below hb).keep (fun b _ hb => oth b hb.2)
set_option maxRecDepth 100000 in
set_option maxHeartbeats 1000000 in
/-- copyOfAll: copies of all, in memory of their own. -/
theorem jcopyAll {w : World} {P : Nat → Prop} {M : List By} {v : Value} (hM : PartsP w P M v) (hl : M.length ≤ 100000) (hs : ∀ x ∈ M, x.length ≤ 1000000) :
    Calls Tryd.prog 19 #[v] w fun y w' => ∃ V, y = .returned V ∧ RecsOwn w' (fun b => w.heap.size ≤ b) M V ∧ Below w.heap.size w w' := by
  obtain ⟨i5, hi5, hz5⟩ := Option.map_eq_some_iff.1 (show (Tryd.prog.info? 35).map (fun i => (i.zero, i.size, i.bytes)) = some (some (.slice none 0 0), 1, 24) by kernel_rfl)
  simp only [Prod.mk.injEq] at hz5
  have HP := Lib.hid hM
  have HS := Lib.hid hs
  obtain ⟨A, c, rfl, -⟩ := hM
  have HL := Lib.hid hl
  clear hl hs
  go_enter Tryd.func19, Tryd.ntmps19
  go_wp2_with (refine wpList_make_row w (by rfl) (.tmp 7) (.tmp 7) 34 (by rfl) 35 i5 (.slice none 0 0) Tryd.underlying34 hi5 hz5.1 hz5.2.1 (by rfl) .i64 .i64 M.length (by rfl) (by rfl) (by rw [hz5.2.2]; have := HL.out; omega) (by have := HL.out; omega) ?_)
  have HC0 : Hid (CopySt w (w.alloc (.cells (madeCells #[.slice none 0 0] M.length) 35)) w.heap.size M 0) := Lib.hid ⟨fun _ => .slice none 0 0, row_new w _ _ M.length _ (by simp [madeCells]) (fun j hj => by simp [madeCells, hj, Nat.mod_one]), (Below.refl _ _).alloc (Nat.le_refl _) _, fun j x hj => by omega⟩
  have HG0 : Hid (w.heap.size < (w.alloc (.cells (madeCells #[.slice none 0 0] M.length) 35)).heap.size) := Lib.hid (by simp)
  generalize (w.alloc (.cells (madeCells #[.slice none 0 0] M.length) 35)) = W0 at *
  go_loopw [11] (fun iv wr => ∃ k : Nat, k ≤ M.length ∧ iv = .int .i64 (k : Int) ∧ Hid (CopySt w wr w.heap.size M k ∧ w.heap.size < wr.heap.size)) (fun i _ => M.length - (intOf i).toNat)
  case atStart => exact ⟨0, by omega, rfl, Lib.hid ⟨HC0.out, HG0.out⟩⟩
  case round =>
    clear HC0 HG0
    obtain ⟨k, hk, rfl, hC⟩ := hrel
    by_cases hlt : k < M.length
    · obtain ⟨sb, so, A', c', rfl, ca, hx⟩ := PartsP.at_ HP.out k hlt
      have HXk := Lib.hid (List.getElem?_eq_getElem hlt)
      have HXs := Lib.hid (HS.out _ (List.getElem_mem hlt))
      generalize M[k] = x at *
      have hbw : Below w.heap.size w wr := by obtain ⟨f, -, h, -⟩ := hC.out.1; exact h
      have ca' := (hbw.cell (p := ⟨sb, so + k, none⟩) (block_lt_of_cell ca)).trans ca
      have HX := Lib.hid (hx.below hbw)
      have q0 : (0 : Int) ≤ (k : Int) := by omega
      have q1 : (k : Int) < (M.length : Int) := by omega
      clear ca hx hbw
      go_wp2_with fail
      refine (jcopy HX.out.slice (by have := HXs.out; omega)).mono ?_
      rintro _ w1 ⟨g1, rfl, ho1, hb1⟩
      have HN := Lib.hid (hC.out.1.put (u := .slice (some ⟨g1, 0, none⟩) x.length x.length) hb1 (Nat.le_refl _) HXk.out (by
        obtain ⟨hr, hge⟩ := row_of_own ho1
        exact ⟨_, _, rfl, Nat.le_refl _, fun _ => ⟨g1, 0, rfl, hge, fun j hj => by rw [Nat.zero_add]; exact hr.cell hj⟩⟩) hC.out.2)
      have HG1 : Hid (w.heap.size < w1.heap.size) := Lib.hid (Nat.lt_of_lt_of_le hC.out.2 hb1.size)
      have HG2 : Hid (w.heap.size < (w1.setCell ⟨w.heap.size, k, none⟩ (.slice (some ⟨g1, 0, none⟩) x.length x.length)).heap.size) := Lib.hid (by rw [show (w1.setCell ⟨w.heap.size, k, none⟩ (.slice (some ⟨g1, 0, none⟩) x.length x.length)).heap.size = w1.heap.size by simp [World.setCell]]; exact HG1.out)
      obtain ⟨f, hr, -, -⟩ := hC.out.1
      have hr1 := hr.of_block (hb1.block _ hC.out.2)
      have d0 := hr1.cell hlt
      have f0 := hr1.frozen k
      have z1 : k < M.length := hlt
      have hw : wrap64 ((k : Int) + 1) = (k : Int) + 1 := by unfold wrap64; have := HL.out; omega
      clear hr hr1 ho1 hb1 ca' hC
      go_wp2
      rw [hw]
      exact ⟨⟨k + 1, by omega, congrArg (Value.int .i64) (by omega), Lib.hid ⟨HN.out, HG2.out⟩⟩, by show M.length - ((k : Int) + 1).toNat < M.length - (k : Int).toNat; omega⟩
    · obtain rfl : k = M.length := by omega
      have q1 : ¬ (M.length : Int) < (M.length : Int) := by omega
      have HE := Lib.hid (hC.out.1.done (Nat.le_refl _) HL.out)
      have HB : Hid (Below w.heap.size w wr) := Lib.hid (by obtain ⟨f, -, h, -⟩ := hC.out.1; exact h)
      clear hC
      go_wp2
      go_ret
      exact ⟨_, rfl, HE.out, HB.out⟩
end Go.Proofs.YtpnkcacmmjmehaaDoor.Jour
