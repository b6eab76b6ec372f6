/-
  Slices of bytes that a call hands back, its own: one, and a list of them, none of which shares a byte with another; a list that is made by append. A note's bytes, and the note of any bytes, as plain values: no bytes are those of two notes. A note's cells, as Read sets them; how long its fields are.
-/
import Derived.Test.YtnkjoambhmlnbaaGreatDoorBd08
import Derived.Test.YtnkjoambhmlnbaaGreatDoorBd07
import Derived.Test.YtnkjoambhmlnbaaGreatDoorBd09
import Derived.Test.YtnkjoambhmlnbaaGreatDoorBd10
import Derived.Deep.AppendLies
import Derived.Lib.ConvBytes
import Derived.Lib.SlBytesConst
namespace Go.Proofs.YtnkjoambhmlnbaaGreatDoor.Field
open Go Go.RowKit Go.Proofs.YtnkjoambhmlnbaaGreatDoor.Aid Go.Proofs.YtnkjoambhmlnbaaGreatDoor.Law01

/-- 'b[lo:hi]', of no bytes too. -/
theorem mid_run {P : Program} (t e : TypeId) (hu : P.underlying t = some (.slice e)) (hsz : (P.info? e).map (·.size) = some 1) (sb so M c lo m : Nat) (h2 : lo + m ≤ M) (h3 : M ≤ c) :
    ∃ o : Nat, (0 < m → o = so + lo) ∧ ∀ (l hi : Int) (kd kd' : IntKind) (W : World), l = (lo : Int) → hi = ((lo + m : Nat) : Int) → (Instr.sliceAt t (.slice (some ⟨sb, so, none⟩) M c) (some (.int kd l)) (some (.int kd' hi)) none).run P W = .ok (.slice (some ⟨sb, o, none⟩) m (c - lo)) W := by
  refine ⟨if c = lo then so else so + lo, fun h => by rw [if_neg (by omega)], fun l hi kd kd' W hl hh => ?_⟩
  subst hl hh
  cases hq : P.info? e with
  | none => simp [hq] at hsz
  | some i =>
    have hs : i.size = 1 := by simpa [hq] using hsz
    have e3 : ((lo : Int) + (m : Int)).toNat = lo + m := by omega
    have e5 : (lo : Int) + (m : Int) ≤ (c : Int) := by omega
    have e6 : lo + m - lo = m := by omega
    have e9 : (0 : Int) ≤ (lo : Int) + (m : Int) := by omega
    by_cases hck : c = lo
    · subst hck
      obtain rfl : m = 0 := by omega
      simp [Instr.sliceAt, Instr.slice, Instr.sliceBounds, Instr.sliceBound, asIntOf, Sem.run_bind, run_underlying hu W, Result.andThen, sizeOf, typeInfo, hq]
    · simp [Instr.sliceAt, Instr.slice, Instr.sliceBounds, Instr.sliceBound, asIntOf, Sem.run_bind, run_underlying hu W, Result.andThen, sizeOf, typeInfo, hq, hs, Addr.add_mid, hck, e3, e5, e6, e9]
/-- A list of k slices of bytes of the call's own, each in a block of its own. -/
structure OwnParts (W : World) (base k : Nat) (m : Nat → Nat) (E : Nat → Nat → BitVec 8) (R : Nat → Value) (v : Value) : Prop where
  row : W.ownsRow base 28 1 v k ((List.range k).map R)
  part : ∀ i, i < k → Own W base (m i) (E i) (R i)
  ne : ∀ i, i < k → ∀ b, (R i).ownBlock = some b → v.ownBlock ≠ some b
  apart : ∀ i j, i < j → j < k → ∀ b, (R i).ownBlock = some b → (R j).ownBlock ≠ some b
theorem OwnParts.nil (W : World) (base : Nat) (m : Nat → Nat) (E : Nat → Nat → BitVec 8) (R : Nat → Value) : OwnParts W base 0 m E R (.slice none 0 0) :=
  ⟨World.ownsRow_nil _ _ _ _, fun i hi => absurd hi (by omega), fun i hi => absurd hi (by omega), fun i j _ hj => absurd hj (by omega)⟩
theorem OwnParts.below {W W' : World} {base k : Nat} {m : Nat → Nat} {E : Nat → Nat → BitVec 8} {R : Nat → Value} {v : Value} (h : OwnParts W base k m E R v) (hb : Below W.heap.size W W') : OwnParts W' base k m E R v := by
  refine ⟨⟨h.row.1, ?_⟩, fun i hi => (h.part i hi).below hb, h.ne, h.apart⟩
  rcases h.row.2 with h0 | ⟨g, cap, cur, rfl, hg, hh, rest⟩
  · exact .inl h0
  · exact .inr ⟨g, cap, cur, rfl, hg, (hb.block g (World.ownsRow.lt h.row g rfl).2).trans hh, rest⟩
theorem OwnParts.shape {W : World} {base k : Nat} {m : Nat → Nat} {E : Nat → Nat → BitVec 8} {R : Nat → Value} {v : Value} (h : OwnParts W base k m E R v) : ∃ A cap, v = .slice A k cap := by
  rcases h.row.2 with ⟨hv, h0⟩ | ⟨g, cap, cur, hv, _⟩
  · exact ⟨none, 0, by rw [hv, h0]⟩
  · exact ⟨_, _, hv⟩
theorem OwnParts.parts {W : World} {base k : Nat} {m : Nat → Nat} {E : Nat → Nat → BitVec 8} {R : Nat → Value} {v : Value} (h : OwnParts W base k m E R v) : PartsOf W k m E v := by
  obtain ⟨A, cap, rfl⟩ := h.shape
  refine ⟨A, cap, rfl, fun hk => ?_⟩
  obtain ⟨g, cap', he, hb, hg⟩ := World.ownsRow.form h.row hk
  simp only [Value.slice.injEq, true_and] at he
  obtain ⟨rfl, rfl⟩ := he
  refine ⟨g, 0, rfl, fun i hi => ⟨R i, ?_, (h.part i hi).slice (.inr (Nat.le_refl _))⟩⟩
  rw [Nat.zero_add, World.ownsRow.cellAt h.row i (by omega)]
  simp [hi]
theorem info_u8s : (Tryz.prog.info? 28).map (fun i => (i.zero, i.size, i.bytes)) = some (some (.slice none 0 0), 1, 24) := by kernel_rfl
section
variable {w : World} {ops : Array Oper} {rest : List Oper} {op : Oper} {a : Act} {Q : Exit → Act → World → Prop}
/-- 'append(v, r)', v the call's own list, r one more slice of bytes, in a block that is newer. -/
theorem append_part (hgd : op.guard = none) (s x : Operand) (ho : op.op = .call { callee := .builtin .append, args := #[s, x], argTypes := #[41, 41] })
    (base k : Nat) (m : Nat → Nat) (E : Nat → Nat → BitVec 8) (R : Nat → Value) (v : Value) (hs : a.eval s = v) (h : OwnParts w base k m E R v) (hr : Own w base (m k) (E k) (R k)) (h1 : (R k).oneCell' = true)
    (hnew : ∀ b, (R k).ownBlock = some b → (∀ c, v.ownBlock = some c → c ≠ b) ∧ ∀ i, i < k → (R i).ownBlock ≠ some b) (sb c : Nat) (hx : a.eval x = .slice (some ⟨sb, 0, none⟩) 1 c) (hc : w.cell? ⟨sb, 0, none⟩ = some (R k)) (hk : k ≤ 1000000) (hbase : base ≤ w.heap.size)
    (hK : ∀ v' w', OwnParts w' base (k + 1) m E R v' → w.grownBy w' v.ownBlock → wpList Tryz.prog ops Q rest (a.put op.dst v') w') : wpList Tryz.prog ops Q (op :: rest) a w := by
  obtain ⟨i, hi, hz⟩ := Option.map_eq_some_iff.1 info_u8s
  simp only [Prod.mk.injEq] at hz
  refine wpList_append_own_at w hgd s x 41 ho base 28 i (.slice none 0 0) 1 24 Tryz.underlying41 hi hz.1 hz.2.1 hz.2.2 rfl (by omega) v k _ hs h.row ⟨sb, 0, none⟩ 1 c [R k] hx rfl ?_ ?_ (by simp only [maxLen]; omega) (by omega) hbase ?_
  · intro j u hu
    match j, hu with
    | 0, hu => simp at hu; rw [← hu]; exact hc
  · intro u hu
    simp at hu
    rw [hu]; exact h1
  · intro v' w' h2 h3 _ h4
    have hlt : ∀ i, i < k + 1 → ∀ b, (R i).ownBlock = some b → b < w.heap.size := fun i hi b hb => by
      by_cases e : i = k
      · subst e; exact (hr.lt hb).2
      · exact ((h.part i (by omega)).lt hb).2
    have hne : ∀ i, i < k + 1 → ∀ b, (R i).ownBlock = some b → v.ownBlock ≠ some b := fun i hi b hb => by
      by_cases e : i = k
      · subst e
        exact fun hv => (hnew b hb).1 b hv rfl
      · exact h.ne i (by omega) b hb
    refine hK v' w' ⟨?_, fun i hi => ?_, fun i hi b hb he => ?_, fun i j hij hj b hb he => ?_⟩ h3
    · rw [List.range_succ, List.map_append]
      exact h2
    · have ho' : Own w base (m i) (E i) (R i) := by
        by_cases e : i = k
        · subst e; exact hr
        · exact h.part i (by omega)
      exact ho'.keep (fun b hb => h3.block b (hlt i hi b hb) (fun e => hne i hi b hb e.symm))
    · rcases h4 with h4 | h4
      · exact hne i hi b hb (h4 ▸ he)
      · rw [h4] at he
        have := hlt i hi b hb
        simp at he
        omega
    · by_cases e : j = k
      · subst e
        exact (hnew b he).2 i hij hb
      · exact h.apart i j hij (by omega) b hb he
end
end Go.Proofs.YtnkjoambhmlnbaaGreatDoor.Field
namespace Go.Proofs.YtnkjoambhmlnbaaGreatDoor.Note
open Go Go.RowKit Go.Proofs.YtnkjoambhmlnbaaGreatDoor.Aid Go.Proofs.YtnkjoambhmlnbaaGreatDoor.Law01 Go.Proofs.YtnkjoambhmlnbaaGreatDoor.Field

/-- The field that a letter stands for. -/
def partM (N : NoteP) (c : Nat) : Nat := if c = 65 then N.a.size else if c = 66 then N.b.size else if c = 88 then 16 else if c = 89 then 16 else if c = 80 then N.pn else if c = 81 then N.qn else N.rn
def partE (N : NoteP) (c : Nat) : Nat → BitVec 8 := if c = 65 then strB N.a else if c = 66 then strB N.b else if c = 88 then N.x else if c = 89 then N.y else if c = 80 then N.p else if c = 81 then N.q else N.r
def letter (k : Int) (i : Nat) : Nat := (hasL k).getD i 0
def noteL (N : NoteP) : Nat := (hasL N.kind).length
def noteM (N : NoteP) (i : Nat) : Nat := partM N (letter N.kind i)
def noteE (N : NoteP) (i : Nat) : Nat → BitVec 8 := partE N (letter N.kind i)
def encSize (N : NoteP) : Nat := 1 + encN (noteM N) (noteL N)
def encByte (N : NoteP) : Nat → BitVec 8 := cat (fun _ => bt N.kind.toNat) 1 (encB (noteM N) (noteE N) (noteL N))
def put10N (N : NoteP) : Nat := if rightN N then encSize N else 0
def put10C (N : NoteP) : Int := if rightN N then 0 else 3
def seven (c : Nat) : Prop := c = 65 ∨ c = 66 ∨ c = 88 ∨ c = 89 ∨ c = 80 ∨ c = 81 ∨ c = 82
theorem table_seven : ∀ l ∈ table, ∀ x ∈ l, x ∈ [65, 66, 88, 89, 80, 81, 82] := by decide
theorem table_nodup : ∀ l ∈ table, l.Nodup := by decide
theorem hasL_of (P : List Nat → Prop) (h0 : P []) (h : ∀ l ∈ table, P l) (k : Int) : P (hasL k) := by
  unfold hasL
  split
  · exact h0
  · rw [List.getD_eq_getElem?_getD]
    cases h' : table[k.toNat]? with
    | none => exact h0
    | some l => exact h l (List.mem_of_getElem? h')
theorem hasL_seven (k : Int) : ∀ x ∈ hasL k, x ∈ [65, 66, 88, 89, 80, 81, 82] := hasL_of (fun l => ∀ x ∈ l, x ∈ [65, 66, 88, 89, 80, 81, 82]) (by simp) table_seven k
theorem hasL_nodup (k : Int) : (hasL k).Nodup := hasL_of (fun l => l.Nodup) List.nodup_nil table_nodup k
theorem letter_mem {k : Int} {i : Nat} (h : i < (hasL k).length) : letter k i ∈ hasL k := by
  unfold letter
  rw [List.getD_eq_getElem?_getD, List.getElem?_eq_getElem h]
  exact List.getElem_mem h
theorem letter_seven {k : Int} {i : Nat} (h : i < (hasL k).length) : seven (letter k i) := by
  have := hasL_seven k _ (letter_mem h)
  unfold seven
  simpa using this
theorem letter_inj {k : Int} {i j : Nat} (hi : i < (hasL k).length) (hj : j < (hasL k).length) (h : letter k i = letter k j) : i = j := by
  unfold letter at h
  rw [List.getD_eq_getElem?_getD, List.getD_eq_getElem?_getD, List.getElem?_eq_getElem hi, List.getElem?_eq_getElem hj] at h
  simp only [Option.getD_some] at h
  have hp := List.pairwise_iff_getElem.1 (hasL_nodup k)
  rcases Nat.lt_trichotomy i j with hlt | he | hlt
  · exact absurd h (hp i j hi hj hlt)
  · exact he
  · exact absurd h.symm (hp j i hj hi hlt)
theorem letter_of {k : Int} {c : Nat} (h : inL k c = true) : ∃ i, i < (hasL k).length ∧ letter k i = c := by
  obtain ⟨i, hi, he⟩ := List.mem_iff_getElem.1 (List.contains_iff_mem.1 h)
  exact ⟨i, hi, by unfold letter; rw [List.getD_eq_getElem?_getD, List.getElem?_eq_getElem hi]; exact he⟩
theorem in_letter {k : Int} {i : Nat} (h : i < (hasL k).length) : inL k (letter k i) = true := List.contains_iff_mem.2 (letter_mem h)

/-- What is not in a note's kind is empty or zero. -/
structure Clean (N : NoteP) : Prop where
  a : inL N.kind 65 = false → N.a.size = 0
  b : inL N.kind 66 = false → N.b.size = 0
  x : inL N.kind 88 = false → ∀ j, j < 16 → N.x j = 0
  y : inL N.kind 89 = false → ∀ j, j < 16 → N.y j = 0
  p : inL N.kind 80 = false → N.pn = 0
  q : inL N.kind 81 = false → N.qn = 0
  r : inL N.kind 82 = false → N.rn = 0
/-- The same in all fields. -/
structure Like (N M : NoteP) : Prop where
  kind : N.kind = M.kind
  a : N.a = M.a
  b : N.b = M.b
  x : ∀ j, j < 16 → N.x j = M.x j
  y : ∀ j, j < 16 → N.y j = M.y j
  pn : N.pn = M.pn
  p : ∀ j, j < N.pn → N.p j = M.p j
  qn : N.qn = M.qn
  q : ∀ j, j < N.qn → N.q j = M.q j
  rn : N.rn = M.rn
  r : ∀ j, j < N.rn → N.r j = M.r j
theorem Like.refl (N : NoteP) : Like N N := ⟨rfl, rfl, rfl, fun _ _ => rfl, fun _ _ => rfl, rfl, fun _ _ => rfl, rfl, fun _ _ => rfl, rfl, fun _ _ => rfl⟩
theorem Like.symm {N M : NoteP} (h : Like N M) : Like M N := ⟨h.kind.symm, h.a.symm, h.b.symm, fun j hj => (h.x j hj).symm, fun j hj => (h.y j hj).symm, h.pn.symm, fun j hj => (h.p j (h.pn ▸ hj)).symm, h.qn.symm, fun j hj => (h.q j (h.qn ▸ hj)).symm, h.rn.symm, fun j hj => (h.r j (h.rn ▸ hj)).symm⟩
theorem sameUpto_congr {e f e' f' : Nat → BitVec 8} {n : Nat} (h : ∀ j, j < n → e j = e' j) (h' : ∀ j, j < n → f j = f' j) : sameUpto e f n = sameUpto e' f' n :=
  decide_eq_decide.2 ⟨fun g i hi => by rw [← h i hi, ← h' i hi]; exact g i hi, fun g i hi => by rw [h i hi, h' i hi]; exact g i hi⟩
theorem Like.right {N M : NoteP} (h : Like N M) : rightN N = rightN M := by
  unfold rightN firstB wordsB blobsB smallB zeroB
  rw [h.kind, h.a, h.b, h.pn, h.qn, h.rn, sameUpto_congr h.x (fun _ _ => rfl), sameUpto_congr h.y (fun _ _ => rfl)]
theorem Like.partM {N M : NoteP} (h : Like N M) (c : Nat) : partM N c = partM M c := by
  unfold Note.partM
  rw [h.a, h.b, h.pn, h.qn, h.rn]
theorem Like.partE {N M : NoteP} (h : Like N M) (c : Nat) (hc : seven c) : ∀ j, j < Note.partM N c → Note.partE N c j = Note.partE M c j := by
  unfold Note.partM Note.partE
  rcases hc with rfl | rfl | rfl | rfl | rfl | rfl | rfl
  · intro j _; show strB N.a j = strB M.a j; rw [h.a]
  · intro j _; show strB N.b j = strB M.b j; rw [h.b]
  · intro j hj; exact h.x j hj
  · intro j hj; exact h.y j hj
  · intro j hj; exact h.p j hj
  · intro j hj; exact h.q j hj
  · intro j hj; exact h.r j hj
theorem like_of {N M : NoteP} (hk : N.kind = M.kind) (cn : Clean N) (cm : Clean M) (h : ∀ c, seven c → inL N.kind c = true → Note.partM N c = Note.partM M c ∧ ∀ j, j < Note.partM N c → Note.partE N c j = Note.partE M c j) : Like N M := by
  have str : ∀ s t : ByteArray, s.size = t.size → (∀ j, j < s.size → strB s j = strB t j) → s = t := fun s t h1 h2 => str_ext h1 h2
  have blob : ∀ c, seven c → (inL N.kind c = false → Note.partM N c = 0 ∧ Note.partM M c = 0) → Note.partM N c = Note.partM M c ∧ ∀ j, j < Note.partM N c → Note.partE N c j = Note.partE M c j := fun c hc h0 => by
    cases hi : inL N.kind c with
    | true => exact h c hc hi
    | false =>
      obtain ⟨e1, e2⟩ := h0 hi
      exact ⟨by rw [e1, e2], fun j hj => by rw [e1] at hj; omega⟩
  have kb : ∀ c, inL N.kind c = false → inL M.kind c = false := fun c hc => hk ▸ hc
  have ha := blob 65 (.inl rfl) (fun hi => ⟨cn.a hi, cm.a (kb 65 hi)⟩)
  have hb := blob 66 (.inr (.inl rfl)) (fun hi => ⟨cn.b hi, cm.b (kb 66 hi)⟩)
  have hp := blob 80 (by unfold seven; omega) (fun hi => ⟨cn.p hi, cm.p (kb 80 hi)⟩)
  have hq := blob 81 (by unfold seven; omega) (fun hi => ⟨cn.q hi, cm.q (kb 81 hi)⟩)
  have hr := blob 82 (by unfold seven; omega) (fun hi => ⟨cn.r hi, cm.r (kb 82 hi)⟩)
  refine ⟨hk, str _ _ ha.1 ha.2, str _ _ hb.1 hb.2, ?_, ?_, hp.1, hp.2, hq.1, hq.2, hr.1, hr.2⟩
  · cases hi : inL N.kind 88 with
    | true => exact (h 88 (by unfold seven; omega) hi).2
    | false => exact fun j hj => by rw [cn.x hi j hj, cm.x (kb 88 hi) j hj]
  · cases hi : inL N.kind 89 with
    | true => exact (h 89 (by unfold seven; omega) hi).2
    | false => exact fun j hj => by rw [cn.y hi j hj, cm.y (kb 89 hi) j hj]

/-- What a right note is. -/
theorem right_all {N : NoteP} (h : rightN N = true) : 0 < (hasL N.kind).length ∧ (inL N.kind 65 = decide (0 < N.a.size)) ∧ (inL N.kind 66 = decide (0 < N.b.size)) ∧ (0 < N.a.size → nameB N.a = true) ∧ (0 < N.b.size → nameB N.b = true) ∧
    (inL N.kind 88 = false → zeroB N.x = true) ∧ (inL N.kind 89 = false → zeroB N.y = true) ∧ (inL N.kind 80 = false → N.pn = 0) ∧ (inL N.kind 81 = false → N.qn = 0) ∧ (inL N.kind 82 = false → N.rn = 0) ∧ N.pn ≤ 500 ∧ N.qn ≤ 500 ∧ N.rn ≤ 500 := by
  unfold rightN firstB wordsB blobsB smallB at h
  generalize inL N.kind 65 = iA at *
  generalize inL N.kind 66 = iB at *
  generalize inL N.kind 88 = iX at *
  generalize inL N.kind 89 = iY at *
  generalize inL N.kind 80 = iP at *
  generalize inL N.kind 81 = iQ at *
  generalize inL N.kind 82 = iR at *
  generalize zeroB N.x = zX at *
  generalize zeroB N.y = zY at *
  generalize nameB N.a = mA at *
  generalize nameB N.b = mB at *
  simp only [Bool.and_eq_true, Bool.not_eq_true', Bool.or_eq_false_iff, Bool.and_eq_false_iff, bne_eq_false_iff_eq, decide_eq_true_eq, decide_eq_false_iff_not, Bool.not_eq_false', List.isEmpty_eq_false_iff] at h
  obtain ⟨⟨⟨⟨he, ⟨⟨hA, hB⟩, hC⟩, hD⟩, hX, hY⟩, ⟨hP, hQ⟩, hR⟩, ⟨h1, h2⟩, h3⟩ := h
  refine ⟨List.length_pos_iff.2 he, hA, hB, fun h0 => hC.resolve_left (fun h => h h0), fun h0 => hD.resolve_left (fun h => h h0), fun h0 => ?_, fun h0 => ?_, fun h0 => ?_, fun h0 => ?_, fun h0 => ?_, h1, h2, h3⟩
  · rcases hX with hX | hX
    · rw [h0] at hX; cases hX
    · exact hX
  · rcases hY with hY | hY
    · rw [h0] at hY; cases hY
    · exact hY
  · rcases hP with hP | hP
    · rw [h0] at hP; cases hP
    · omega
  · rcases hQ with hQ | hQ
    · rw [h0] at hQ; cases hQ
    · omega
  · rcases hR with hR | hR
    · rw [h0] at hR; cases hR
    · omega
theorem right_clean {N : NoteP} (h : rightN N = true) : Clean N := by
  obtain ⟨_, hA, hB, _, _, hX, hY, hP, hQ, hR, _⟩ := right_all h
  refine ⟨fun h0 => ?_, fun h0 => ?_, fun h0 => of_decide_eq_true (hX h0), fun h0 => of_decide_eq_true (hY h0), hP, hQ, hR⟩
  · rw [h0] at hA; have := of_decide_eq_false hA.symm; omega
  · rw [h0] at hB; have := of_decide_eq_false hB.symm; omega
theorem name_size {s : ByteArray} (h : nameB s = true) : s.size ≤ 20 := (of_decide_eq_true h).2.1
theorem right_parts {N : NoteP} (h : rightN N = true) (c : Nat) (hc : seven c) : partM N c ≤ 500 := by
  obtain ⟨_, _, _, ha, hb, _, _, _, _, _, hp, hq, hr⟩ := right_all h
  unfold partM
  rcases hc with rfl | rfl | rfl | rfl | rfl | rfl | rfl
  · show N.a.size ≤ 500
    by_cases h0 : 0 < N.a.size
    · have := name_size (ha h0); omega
    · omega
  · show N.b.size ≤ 500
    by_cases h0 : 0 < N.b.size
    · have := name_size (hb h0); omega
    · omega
  · show 16 ≤ 500; omega
  · show 16 ≤ 500; omega
  · exact hp
  · exact hq
  · exact hr
theorem right_put {N : NoteP} (h : rightN N = true) : putB (noteL N) (noteM N) = true :=
  putB_of (by have := has_len N.kind; unfold noteL; omega) (fun i hi => right_parts h _ (letter_seven hi))
theorem right_kind {N : NoteP} (h : rightN N = true) : 1 ≤ N.kind ∧ N.kind ≤ 16 := by
  have h0 := (right_all h).1
  unfold hasL at h0
  split at h0
  · simp at h0
  · omega
theorem off_le (m : Nat → Nat) (b : Nat) : ∀ n, (∀ i, i < n → m i ≤ b) → off m n ≤ n * b
  | 0, _ => Nat.zero_le _
  | n + 1, h => by
    have h1 := off_le m b n (fun i hi => h i (by omega))
    have h2 := h n (by omega)
    show off m n + m n ≤ (n + 1) * b
    rw [Nat.succ_mul]; omega
theorem right_off {N : NoteP} (h : rightN N = true) : off (noteM N) (noteL N) ≤ 2000 := by
  have h1 := off_le (noteM N) 500 (noteL N) (fun i hi => right_parts h _ (letter_seven hi))
  have h2 : noteL N ≤ 4 := has_len N.kind
  have : noteL N * 500 ≤ 4 * 500 := Nat.mul_le_mul_right 500 h2
  omega

theorem encN_congr {m m' : Nat → Nat} : ∀ (n : Nat), (∀ i, i < n → m i = m' i) → encN m n = encN m' n
  | 0, _ => rfl
  | n + 1, h => by
    show encN m n + (m n + 2) = encN m' n + (m' n + 2)
    rw [encN_congr n (fun i hi => h i (by omega)), h n (by omega)]
theorem encB_congr {m m' : Nat → Nat} {e e' : Nat → Nat → BitVec 8} : ∀ (n : Nat), (∀ i, i < n → m i = m' i ∧ ∀ j, j < m i → e i j = e' i j) → ∀ j, j < encN m n → encB m e n j = encB m' e' n j
  | 0, _, j, hj => absurd hj (Nat.not_lt_zero _)
  | n + 1, h, j, hj => by
    show cat (encB m e n) (encN m n) (fr m e n) j = cat (encB m' e' n) (encN m' n) (fr m' e' n) j
    have e1 := encN_congr n (fun i hi => (h i (by omega)).1)
    have hj' : j < encN m n + (m n + 2) := hj
    unfold cat
    rw [← e1]
    by_cases hlt : j < encN m n
    · rw [if_pos hlt, if_pos hlt]
      exact encB_congr n (fun i hi => h i (by omega)) j hlt
    · rw [if_neg hlt, if_neg hlt]
      unfold fr frame
      rw [← (h n (by omega)).1]
      by_cases h0 : j - encN m n = 0
      · rw [if_pos h0, if_pos h0]
      · rw [if_neg h0, if_neg h0]
        by_cases h1 : j - encN m n = 1
        · rw [if_pos h1, if_pos h1]
        · rw [if_neg h1, if_neg h1]
          exact (h n (by omega)).2 _ (by omega)
theorem Like.enc {N M : NoteP} (h : Like N M) : encSize N = encSize M ∧ ∀ j, j < encSize N → encByte N j = encByte M j := by
  have hl : noteL N = noteL M := by unfold noteL; rw [h.kind]
  have hp : ∀ i, i < noteL N → noteM N i = noteM M i ∧ ∀ j, j < noteM N i → noteE N i j = noteE M i j := fun i hi => by
    unfold noteM noteE
    rw [← h.kind]
    exact ⟨h.partM _, h.partE _ (letter_seven hi)⟩
  refine ⟨?_, fun j hj => ?_⟩
  · unfold encSize
    rw [← hl, encN_congr (noteL N) (fun i hi => (hp i hi).1)]
  · unfold encByte cat
    rw [h.kind, ← hl]
    by_cases h0 : j < 1
    · rw [if_pos h0, if_pos h0]
    · rw [if_neg h0, if_neg h0]
      exact encB_congr (noteL N) hp _ (by unfold encSize at hj; omega)

/-- One field more, as Read sets it. -/
def setL (c m : Nat) (f : Nat → BitVec 8) (N : NoteP) : NoteP :=
  if c = 65 then { N with a := strOf f m } else if c = 66 then { N with b := strOf f m } else if c = 88 then { N with x := wordE m f } else if c = 89 then { N with y := wordE m f } else if c = 80 then { N with pn := m, p := f } else if c = 81 then { N with qn := m, q := f } else { N with rn := m, r := f }
def blank (k : Int) : NoteP := ⟨k, ⟨#[]⟩, ⟨#[]⟩, fun _ => 0, fun _ => 0, 0, fun _ => 0, 0, fun _ => 0, 0, fun _ => 0⟩
def build (k : Int) (M : Nat → Nat) (F : Nat → Nat → BitVec 8) : Nat → NoteP
  | 0 => blank k
  | i + 1 => setL (letter k i) (M i) (F i) (build k M F i)
theorem setL_kind (c m : Nat) (f : Nat → BitVec 8) (N : NoteP) : (setL c m f N).kind = N.kind := by
  unfold setL
  repeat' split
  all_goals rfl
theorem build_kind (k : Int) (M : Nat → Nat) (F : Nat → Nat → BitVec 8) : ∀ i, (build k M F i).kind = k
  | 0 => rfl
  | i + 1 => (setL_kind _ _ _ _).trans (build_kind k M F i)
def isW (c : Nat) : Bool := decide (c = 88 ∨ c = 89)
theorem setL_same (c m : Nat) (f : Nat → BitVec 8) (N : NoteP) (hc : seven c) : partM (setL c m f N) c = (if isW c then 16 else m) ∧ ∀ j, j < partM (setL c m f N) c → partE (setL c m f N) c j = (if isW c then wordE m f j else f j) := by
  rcases hc with rfl | rfl | rfl | rfl | rfl | rfl | rfl
  · exact ⟨size_strOf f m, fun j hj => strB_strOf f m j (by have h := size_strOf f m; have hj' : j < (strOf f m).size := hj; omega)⟩
  · exact ⟨size_strOf f m, fun j hj => strB_strOf f m j (by have h := size_strOf f m; have hj' : j < (strOf f m).size := hj; omega)⟩
  · exact ⟨rfl, fun j _ => rfl⟩
  · exact ⟨rfl, fun j _ => rfl⟩
  · exact ⟨rfl, fun j _ => rfl⟩
  · exact ⟨rfl, fun j _ => rfl⟩
  · exact ⟨rfl, fun j _ => rfl⟩
theorem setL_other (c c' m : Nat) (f : Nat → BitVec 8) (N : NoteP) (hc : seven c) (hc' : seven c') (hne : c ≠ c') : partM (setL c m f N) c' = partM N c' ∧ partE (setL c m f N) c' = partE N c' := by
  rcases hc with rfl | rfl | rfl | rfl | rfl | rfl | rfl <;> rcases hc' with rfl | rfl | rfl | rfl | rfl | rfl | rfl <;> first | exact ⟨rfl, rfl⟩ | exact absurd rfl hne
/-- What a letter's field is, once it was set; and before. -/
theorem build_set (k : Int) (M : Nat → Nat) (F : Nat → Nat → BitVec 8) (j : Nat) : ∀ i, i ≤ (hasL k).length → j < i → partM (build k M F i) (letter k j) = (if isW (letter k j) then 16 else M j) ∧ ∀ q, q < partM (build k M F i) (letter k j) → partE (build k M F i) (letter k j) q = (if isW (letter k j) then wordE (M j) (F j) q else F j q)
  | 0, _, h => absurd h (Nat.not_lt_zero _)
  | i + 1, hi, hj => by
    by_cases e : j = i
    · subst e
      exact setL_same _ _ _ _ (letter_seven (by omega))
    · have ho := setL_other (letter k i) (letter k j) (M i) (F i) (build k M F i) (letter_seven (by omega)) (letter_seven (by omega)) (fun h => e (letter_inj (by omega) (by omega) h).symm)
      have ih := build_set k M F j i (by omega) (by omega)
      show partM (setL (letter k i) (M i) (F i) (build k M F i)) (letter k j) = _ ∧ ∀ q, q < partM (setL (letter k i) (M i) (F i) (build k M F i)) (letter k j) → partE (setL (letter k i) (M i) (F i) (build k M F i)) (letter k j) q = _
      rw [ho.1, ho.2]
      exact ih
theorem build_blank (k : Int) (M : Nat → Nat) (F : Nat → Nat → BitVec 8) (c : Nat) (hc : seven c) (h : inL k c = false) : ∀ i, i ≤ (hasL k).length → partM (build k M F i) c = partM (blank k) c ∧ partE (build k M F i) c = partE (blank k) c
  | 0, _ => ⟨rfl, rfl⟩
  | i + 1, hi => by
    have ho := setL_other (letter k i) c (M i) (F i) (build k M F i) (letter_seven (by omega)) hc (fun e => by
      have := in_letter (k := k) (i := i) (by omega)
      rw [e, h] at this
      cases this)
    have ih := build_blank k M F c hc h i (by omega)
    exact ⟨ho.1.trans ih.1, ho.2.trans ih.2⟩
theorem build_clean (k : Int) (M : Nat → Nat) (F : Nat → Nat → BitVec 8) : Clean (build k M F (hasL k).length) := by
  have hb := fun c hc h => build_blank k M F c hc h _ (Nat.le_refl _)
  have hk := build_kind k M F (hasL k).length
  refine ⟨fun h => ?_, fun h => ?_, fun h => ?_, fun h => ?_, fun h => ?_, fun h => ?_, fun h => ?_⟩ <;> rw [hk] at h
  · exact (hb 65 (by unfold seven; omega) h).1
  · exact (hb 66 (by unfold seven; omega) h).1
  · intro j _; exact congrFun (hb 88 (by unfold seven; omega) h).2 j
  · intro j _; exact congrFun (hb 89 (by unfold seven; omega) h).2 j
  · exact (hb 80 (by unfold seven; omega) h).1
  · exact (hb 81 (by unfold seven; omega) h).1
  · exact (hb 82 (by unfold seven; omega) h).1

theorem sp_congr {E F : Nat → BitVec 8} {n k : Nat} (hEF : ∀ j, j < n → E j = F j) (h : ∀ i, i < k → sp E i < n ∧ stepC E n (sp E i) i = 0) : ∀ i, i ≤ k → sp E i = sp F i
  | 0, _ => rfl
  | i + 1, hi => by
    have ih := sp_congr hEF h i (by omega)
    have hs := step_ok (h i (by omega)).2
    show sp E i + 2 + lenAt E (sp E i) = sp F i + 2 + lenAt F (sp F i)
    rw [← ih]
    unfold lenAt
    rw [hEF _ (by omega), hEF _ (by omega)]
theorem step_congr {E F : Nat → BitVec 8} {n : Nat} (hEF : ∀ j, j < n → E j = F j) (p k : Nat) : stepC E n p k = stepC F n p k := by
  unfold stepC
  by_cases h : n < p + 2
  · rw [if_pos h, if_pos h]
  · have : lenAt E p = lenAt F p := by unfold lenAt; rw [hEF _ (by omega), hEF _ (by omega)]
    rw [if_neg h, if_neg h, this]
theorem split_congr {E F : Nat → BitVec 8} {n k : Nat} {c : Int} (hEF : ∀ j, j < n → E j = F j) (h : SplitSpec E n k c) : SplitSpec F n k c := by
  have hs := sp_congr hEF h.1
  refine ⟨fun i hi => by rw [← hs i (by omega), ← step_congr hEF]; exact h.1 i hi, ?_⟩
  rw [← hs k (Nat.le_refl _), ← step_congr hEF]
  exact h.2
theorem field_congr {E F : Nat → BitVec 8} {n k : Nat} {c : Int} (hEF : ∀ j, j < n → E j = F j) (h : SplitSpec E n k c) (i : Nat) (hi : i < k) : fieldM E i = fieldM F i ∧ ∀ j, j < fieldM E i → fieldE E i j = fieldE F i j := by
  have hs := sp_congr hEF h.1 i (by omega)
  have hk := step_ok (h.1 i hi).2
  unfold fieldM fieldE
  rw [← hs]
  refine ⟨by unfold lenAt; rw [hEF _ (by omega), hEF _ (by omega)], fun j hj => hEF _ (by omega)⟩

/-- All bytes but the first. -/
def tail1 (E : Nat → BitVec 8) (j : Nat) : BitVec 8 := E (j + 1)
def IsEnc (E : Nat → BitVec 8) (n : Nat) (N : NoteP) : Prop := rightN N = true ∧ encSize N = n ∧ ∀ j, j < n → encByte N j = E j
/-- What Read does. -/
def ReadSpec (E : Nat → BitVec 8) (n : Nat) (N : NoteP) (c : Int) : Prop := (c = 0 ∧ IsEnc E n N) ∨ (c = 3 ∧ N = blank 0 ∧ ∀ M, ¬ IsEnc E n M)
/-- The kind that a byte says. -/
def kindOf (E : Nat → BitVec 8) : Int := ((E 0).toNat : Int)
theorem enc_kind {E : Nat → BitVec 8} {n : Nat} {N : NoteP} (h : IsEnc E n N) : 0 < n ∧ N.kind = kindOf E := by
  obtain ⟨hr, hs, he⟩ := h
  have h0 : 0 < n := by unfold encSize at hs; omega
  have hk := right_kind hr
  refine ⟨h0, ?_⟩
  unfold kindOf
  rw [← he 0 h0]
  show N.kind = ((bt N.kind.toNat).toNat : Int)
  rw [bt_toNat (by omega)]
  omega
/-- An encoding's fields are those of its note. -/
theorem enc_split {E : Nat → BitVec 8} {n : Nat} {N : NoteP} (h : IsEnc E n N) : SplitSpec (tail1 E) (n - 1) (noteL N) 0 ∧ ∀ i, i < noteL N → fieldM (tail1 E) i = noteM N i ∧ ∀ j, j < noteM N i → fieldE (tail1 E) i j = noteE N i j := by
  obtain ⟨hr, hs, he⟩ := h
  obtain ⟨h1, h2⟩ := split_put (noteE N) (right_put hr)
  have hn : encN (noteM N) (noteL N) = n - 1 := by unfold encSize at hs; omega
  rw [hn] at h1
  have hEF : ∀ j, j < n - 1 → encB (noteM N) (noteE N) (noteL N) j = tail1 E j := fun j hj => by
    unfold tail1
    rw [← he (j + 1) (by omega)]
    unfold encByte cat
    rw [if_neg (by omega), show j + 1 - 1 = j by omega]
  refine ⟨split_congr hEF h1, fun i hi => ?_⟩
  have hf := field_congr hEF h1 i hi
  have h3 := h2 i hi
  exact ⟨by rw [← hf.1]; exact h3.1, fun j hj => by rw [← hf.2 j (by rw [h3.1]; exact hj)]; exact h3.2 j hj⟩
def readN (E : Nat → BitVec 8) : NoteP := build (kindOf E) (fieldM (tail1 E)) (fieldE (tail1 E)) (hasL (kindOf E)).length
theorem readN_kind (E : Nat → BitVec 8) : (readN E).kind = kindOf E := build_kind _ _ _ _
/-- What is read is the note whose encoding it is, if there is one. -/
theorem read_like {E : Nat → BitVec 8} {n : Nat} {N : NoteP} (h : IsEnc E n N) : Like (readN E) N := by
  have hk := (enc_kind h).2
  have hs := (enc_split h).2
  unfold noteL noteM noteE at hs
  rw [hk] at hs
  refine like_of ((readN_kind E).trans hk.symm) (build_clean _ _ _) (right_clean h.1) (fun c hc hi => ?_)
  rw [readN_kind] at hi
  obtain ⟨i, hil, rfl⟩ := letter_of hi
  have hb := build_set (kindOf E) (fieldM (tail1 E)) (fieldE (tail1 E)) i _ (Nat.le_refl _) hil
  have hf := hs i hil
  change partM (readN E) _ = _ ∧ ∀ q, q < partM (readN E) _ → partE (readN E) _ q = _ at hb
  have hm : partM (readN E) (letter (kindOf E) i) = partM N (letter (kindOf E) i) := by
    rw [hb.1]
    cases hw : isW (letter (kindOf E) i) with
    | true =>
      have := of_decide_eq_true hw
      rcases this with e | e <;> rw [e] <;> rfl
    | false => exact hf.1
  refine ⟨hm, fun j hj => ?_⟩
  rw [hb.2 j hj]
  rw [hm] at hj
  cases hw : isW (letter (kindOf E) i) with
  | true =>
    have h16 : fieldM (tail1 E) i = 16 := by
      rw [hf.1]
      have := of_decide_eq_true hw
      rcases this with e | e <;> rw [e] <;> rfl
    show wordE _ _ j = _
    unfold wordE
    rw [if_pos h16]
    exact hf.2 j hj
  | false => exact hf.2 j hj
theorem isEnc_like {E : Nat → BitVec 8} {n : Nat} {N M : NoteP} (h : IsEnc E n N) (hl : Like M N) : IsEnc E n M := by
  obtain ⟨hr, hs, he⟩ := h
  obtain ⟨e1, e2⟩ := hl.enc
  exact ⟨hl.right.trans hr, e1.trans hs, fun j hj => by rw [e2 j (by omega)]; exact he j hj⟩
/-- It has an encoding just if what is read has it. -/
theorem none_of {E : Nat → BitVec 8} {n : Nat} (h : ¬ IsEnc E n (readN E)) (M : NoteP) : ¬ IsEnc E n M := fun hM => h (isEnc_like hM (read_like hM))
/-- No bytes are those of two notes. -/
theorem enc_one {E : Nat → BitVec 8} {n : Nat} {N M : NoteP} (hN : IsEnc E n N) (hM : IsEnc E n M) : Like N M := by
  have h1 := read_like hN
  have h2 := read_like hM
  refine ⟨h1.kind.symm.trans h2.kind, h1.a.symm.trans h2.a, h1.b.symm.trans h2.b, fun j hj => (h1.x j hj).symm.trans (h2.x j hj), fun j hj => (h1.y j hj).symm.trans (h2.y j hj), h1.pn.symm.trans h2.pn, fun j hj => ?_, h1.qn.symm.trans h2.qn, fun j hj => ?_, h1.rn.symm.trans h2.rn, fun j hj => ?_⟩
  · rw [← h1.pn] at hj; exact (h1.p j hj).symm.trans (h2.p j hj)
  · rw [← h1.qn] at hj; exact (h1.q j hj).symm.trans (h2.q j hj)
  · rw [← h1.rn] at hj; exact (h1.r j hj).symm.trans (h2.r j hj)
theorem read_one {E : Nat → BitVec 8} {n : Nat} {N M : NoteP} {c d : Int} (hN : ReadSpec E n N c) (hM : ReadSpec E n M d) : c = d ∧ Like N M := by
  rcases hN with ⟨rfl, hN⟩ | ⟨rfl, rfl, hN⟩ <;> rcases hM with ⟨rfl, hM⟩ | ⟨rfl, rfl, hM⟩
  · exact ⟨rfl, enc_one hN hM⟩
  · exact absurd hN (hM N)
  · exact absurd hM (hN M)
  · exact ⟨rfl, Like.refl _⟩

/-- Are two notes the same? -/
def sameN (N M : NoteP) : Bool := (N.kind == M.kind) && (N.a.toList == M.a.toList) && (N.b.toList == M.b.toList) && sameUpto N.x M.x 16 && sameUpto N.y M.y 16 && Mac.sameBytes N.pn M.pn N.p M.p && Mac.sameBytes N.qn M.qn N.q M.q && Mac.sameBytes N.rn M.rn N.r M.r
theorem Like.same {N M : NoteP} (h : Like N M) : sameN N M = true := by
  unfold sameN sameUpto
  rw [h.kind, h.a, h.b, decide_eq_true h.x, decide_eq_true h.y, ← h.pn, ← h.qn, ← h.rn, Mac.same_refl _ _ _ h.p, Mac.same_refl _ _ _ h.q, Mac.same_refl _ _ _ h.r]
  simp
theorem cell_x (N : NoteP) (P Q R : Value) (i : Nat) (hi : i < 16) : (cellsOf 16 (fun j => noteF N P Q R (3 + j)))[i]? = some (.int .u8 ((N.x i).toNat : Int)) := by
  rw [cellsOf_at 16 _ i hi]
  have h : noteF N P Q R (3 + i) = .int .u8 ((N.x i).toNat : Int) := by
    have e : 3 + i - 3 = i := by omega
    unfold noteF
    rw [if_neg (by omega), if_neg (by omega), if_neg (by omega), if_pos (by omega), e]
  rw [h]
theorem cell_y (N : NoteP) (P Q R : Value) (i : Nat) (hi : i < 16) : (cellsOf 16 (fun j => noteF N P Q R (19 + j)))[i]? = some (.int .u8 ((N.y i).toNat : Int)) := by
  rw [cellsOf_at 16 _ i hi]
  have h : noteF N P Q R (19 + i) = .int .u8 ((N.y i).toNat : Int) := by
    have e : 19 + i - 19 = i := by omega
    unfold noteF
    rw [if_neg (by omega), if_neg (by omega), if_neg (by omega), if_neg (by omega), if_pos (by omega), e]
  rw [h]
end Go.Proofs.YtnkjoambhmlnbaaGreatDoor.Note

namespace Go.Proofs.YtnkjoambhmlnbaaGreatDoor.Note
open Go Go.RowKit Go.Proofs.YtnkjoambhmlnbaaGreatDoor.Aid Go.Proofs.YtnkjoambhmlnbaaGreatDoor.Law01 Go.Proofs.YtnkjoambhmlnbaaGreatDoor.Field

theorem drewN_from {B : Nat} {w W : World} (h : Below B w W) : ∀ q, Below B w (W.drewN q)
  | 0 => h
  | q + 1 => (drewN_from h q).drew
/-- The three slices lie in blocks from base on. -/
structure NoteFrom (W : World) (base : Nat) (N : NoteP) (P Q R : Value) : Prop where
  p : ∀ g, (g < base ∨ W.heap.size ≤ g) → SliceOf W g N.pn N.p P
  q : ∀ g, (g < base ∨ W.heap.size ≤ g) → SliceOf W g N.qn N.q Q
  r : ∀ g, (g < base ∨ W.heap.size ≤ g) → SliceOf W g N.rn N.r R
theorem NoteFrom.blank (W : World) (base : Nat) (k : Int) : NoteFrom W base (blank k) (.slice none 0 0) (.slice none 0 0) (.slice none 0 0) :=
  ⟨fun _ _ => SliceOf.nil _ _ _, fun _ _ => SliceOf.nil _ _ _, fun _ _ => SliceOf.nil _ _ _⟩
theorem NoteFrom.at_ {W : World} {base : Nat} {N : NoteP} {P Q R : Value} (h : NoteFrom W base N P Q R) : NoteAt W N P Q R :=
  ⟨h.p _ (.inr (Nat.le_refl _)), h.q _ (.inr (Nat.le_refl _)), h.r _ (.inr (Nat.le_refl _))⟩
/-- They stay when a block below base is written. -/
theorem NoteFrom.only {W W1 W2 : World} {base g : Nat} {N : NoteP} {P Q R : Value} (h : NoteFrom W base N P Q R) (hb : Below W.heap.size W W1) (ho : Only g W1 W2) (hg : g < base) : NoteAt W2 N P Q R := by
  have key : ∀ (m : Nat) (f : Nat → BitVec 8) (v : Value), SliceOf W g m f v → SliceOf W2 W2.heap.size m f v := fun m f v hv => by
    have h1 := slice_below hv hb
    have h2 : SliceOf W2 g m f v := h1.keep (fun b _ hne => ho.block b hne)
    have h3 : W2.heap.size = W1.heap.size := ho.size
    obtain ⟨A, c, he, hc, hr⟩ := h2
    exact ⟨A, c, he, hc, fun h0 => by
      obtain ⟨sb, so, hA, _, hcell⟩ := hr h0
      have := block_lt_of_cell (hcell 0 h0)
      exact ⟨sb, so, hA, by simp at this; omega, hcell⟩⟩
  exact ⟨key _ _ _ (h.p g (.inl hg)), key _ _ _ (h.q g (.inl hg)), key _ _ _ (h.r g (.inl hg))⟩
theorem slice_both {W W2 : World} {g g2 m : Nat} {f : Nat → BitVec 8} {v : Value} (h1 : SliceOf W2 g m f v) (h2 : SliceOf W g2 m f v) : SliceOf W2 g2 m f v := by
  obtain ⟨A, c, he, hc, hr⟩ := h1
  obtain ⟨A', c', he', _, hr'⟩ := h2
  rw [he] at he'
  simp only [Value.slice.injEq, true_and] at he'
  obtain ⟨rfl, rfl⟩ := he'
  refine ⟨A, c, he, hc, fun h0 => ?_⟩
  obtain ⟨sb, so, hA, _, hcell⟩ := hr h0
  obtain ⟨sb', so', hA', hne, _⟩ := hr' h0
  rw [hA] at hA'
  simp only [Option.some.injEq, Addr.mk.injEq, and_true] at hA'
  obtain ⟨rfl, rfl⟩ := hA'
  exact ⟨sb, so, hA, hne, hcell⟩
theorem NoteFrom.only_from {W W1 W2 : World} {base base' g : Nat} {N : NoteP} {P Q R : Value} (h : NoteFrom W base N P Q R) (hb : Below W.heap.size W W1) (ho : Only g W1 W2) (hg : g < base) (hbb : base' ≤ base) : NoteFrom W2 base' N P Q R := by
  have key : ∀ (m : Nat) (f : Nat → BitVec 8) (v : Value), (∀ g, (g < base ∨ W.heap.size ≤ g) → SliceOf W g m f v) → ∀ g2, (g2 < base' ∨ W2.heap.size ≤ g2) → SliceOf W2 g2 m f v := fun m f v hv g2 hg2 => by
    have h2 : SliceOf W2 g m f v := (slice_below (hv g (.inl hg)) hb).keep (fun b _ hne => ho.block b hne)
    have h3 : W2.heap.size = W1.heap.size := ho.size
    have h4 := hb.size
    exact slice_both h2 (hv g2 (by omega))
  exact ⟨key _ _ _ h.p, key _ _ _ h.q, key _ _ _ h.r⟩
theorem noteF_one (N : NoteP) (P Q R : Value) (hp : P.oneCell' = true) (hq : Q.oneCell' = true) (hr : R.oneCell' = true) (i : Nat) : (noteF N P Q R i).oneCell' = true := by
  unfold noteF
  repeat' split
  all_goals first | rfl | assumption
theorem noteF_65 (N : NoteP) (P Q R : Value) (m : Nat) (f : Nat → BitVec 8) (j : Nat) : (if j = 1 then Value.string (strOf f m) else noteF N P Q R j) = noteF (setL 65 m f N) P Q R j := by
  show _ = noteF { N with a := strOf f m } P Q R j
  unfold noteF
  by_cases h0 : j = 0
  · subst h0; rfl
  · by_cases h1 : j = 1
    · subst h1; rfl
    · simp only [if_neg h0, if_neg h1]
theorem noteF_66 (N : NoteP) (P Q R : Value) (m : Nat) (f : Nat → BitVec 8) (j : Nat) : (if j = 2 then Value.string (strOf f m) else noteF N P Q R j) = noteF (setL 66 m f N) P Q R j := by
  show _ = noteF { N with b := strOf f m } P Q R j
  unfold noteF
  by_cases h0 : j = 2
  · subst h0; rfl
  · simp only [if_neg h0]
theorem noteF_80 (N : NoteP) (P Q R V : Value) (m : Nat) (f : Nat → BitVec 8) (j : Nat) : (if j = 35 then V else noteF N P Q R j) = noteF (setL 80 m f N) V Q R j := by
  show _ = noteF { N with pn := m, p := f } V Q R j
  unfold noteF
  by_cases h0 : j = 35
  · subst h0; rfl
  · simp only [if_neg h0]
theorem noteF_81 (N : NoteP) (P Q R V : Value) (m : Nat) (f : Nat → BitVec 8) (j : Nat) : (if j = 36 then V else noteF N P Q R j) = noteF (setL 81 m f N) P V R j := by
  show _ = noteF { N with qn := m, q := f } P V R j
  unfold noteF
  by_cases h0 : j = 36
  · subst h0; rfl
  · simp only [if_neg h0]
theorem noteF_82 (N : NoteP) (P Q R V : Value) (m : Nat) (f : Nat → BitVec 8) (j : Nat) (hj : j < 38) : (if j = 37 then V else noteF N P Q R j) = noteF (setL 82 m f N) P Q V j := by
  show _ = noteF { N with rn := m, r := f } P Q V j
  unfold noteF
  by_cases h0 : j = 37
  · subst h0; rfl
  · rw [if_neg h0]
    by_cases h1 : j < 35
    · have h35 : ¬ j = 35 := by omega
      have h36 : ¬ j = 36 := by omega
      by_cases h2 : j < 19
      · simp only [if_pos h2]
      · simp only [if_neg h2, if_pos h1]
    · by_cases h2 : j = 35
      · subst h2; rfl
      · obtain rfl : j = 36 := by omega
        rfl
theorem noteF_88 (N : NoteP) (P Q R : Value) (m : Nat) (f : Nat → BitVec 8) (j : Nat) : (if 3 ≤ j ∧ j < 3 + 16 then Value.int .u8 ((wordE m f (j - 3)).toNat : Int) else noteF N P Q R j) = noteF (setL 88 m f N) P Q R j := by
  show _ = noteF { N with x := wordE m f } P Q R j
  unfold noteF
  by_cases h0 : 3 ≤ j ∧ j < 3 + 16
  · rw [if_pos h0, if_neg (by omega), if_neg (by omega), if_neg (by omega), if_pos (by omega)]
  · rw [if_neg h0]
    by_cases h1 : j < 3
    · by_cases a : j = 0
      · simp only [if_pos a]
      · by_cases b : j = 1
        · simp only [if_neg a, if_pos b]
        · simp only [if_neg a, if_neg b, if_pos (show j = 2 by omega)]
    · have h2 : ¬ j < 19 := by omega
      simp only [if_neg h2]
theorem noteF_89 (N : NoteP) (P Q R : Value) (m : Nat) (f : Nat → BitVec 8) (j : Nat) : (if 19 ≤ j ∧ j < 19 + 16 then Value.int .u8 ((wordE m f (j - 19)).toNat : Int) else noteF N P Q R j) = noteF (setL 89 m f N) P Q R j := by
  show _ = noteF { N with y := wordE m f } P Q R j
  unfold noteF
  by_cases h0 : 19 ≤ j ∧ j < 19 + 16
  · rw [if_pos h0, if_neg (by omega), if_neg (by omega), if_neg (by omega), if_neg (by omega), if_pos (by omega)]
  · rw [if_neg h0]
    by_cases h1 : j < 19
    · simp only [if_pos h1]
    · have h2 : ¬ j < 35 := by omega
      simp only [if_neg h2]
/-- How long its fields are. -/
theorem setL_short (c m : Nat) (f : Nat → BitVec 8) (N : NoteP) (b : Nat) (hm : m ≤ b) (h : N.a.size ≤ b ∧ N.b.size ≤ b ∧ N.pn ≤ b ∧ N.qn ≤ b ∧ N.rn ≤ b) : (setL c m f N).a.size ≤ b ∧ (setL c m f N).b.size ≤ b ∧ (setL c m f N).pn ≤ b ∧ (setL c m f N).qn ≤ b ∧ (setL c m f N).rn ≤ b := by
  have hs := size_strOf f m
  unfold setL
  repeat' split
  · exact ⟨by show (strOf f m).size ≤ b; omega, h.2⟩
  · exact ⟨h.1, by show (strOf f m).size ≤ b; omega, h.2.2⟩
  · exact h
  · exact h
  · exact ⟨h.1, h.2.1, hm, h.2.2.2⟩
  · exact ⟨h.1, h.2.1, h.2.2.1, hm, h.2.2.2.2⟩
  · exact ⟨h.1, h.2.1, h.2.2.1, h.2.2.2.1, hm⟩
theorem build_short (k : Int) (M : Nat → Nat) (F : Nat → Nat → BitVec 8) (b : Nat) : ∀ i, (∀ j, j < i → M j ≤ b) → (build k M F i).a.size ≤ b ∧ (build k M F i).b.size ≤ b ∧ (build k M F i).pn ≤ b ∧ (build k M F i).qn ≤ b ∧ (build k M F i).rn ≤ b
  | 0, _ => ⟨Nat.zero_le _, Nat.zero_le _, Nat.zero_le _, Nat.zero_le _, Nat.zero_le _⟩
  | i + 1, h => setL_short _ _ _ _ b (h i (by omega)) (build_short k M F b i (fun j hj => h j (by omega)))
theorem sameTo_all (e f : Nat → BitVec 8) : ∀ n, Mac.sameTo e f n = true → ∀ j, j < n → e j = f j
  | 0, _, j, hj => absurd hj (Nat.not_lt_zero _)
  | n + 1, h, j, hj => by
    have h' : (Mac.sameTo e f n && (e n == f n)) = true := h
    rw [Bool.and_eq_true] at h'
    by_cases e1 : j = n
    · subst e1; exact eq_of_beq h'.2
    · exact sameTo_all e f n h'.1 j (by omega)
theorem same_all {m n : Nat} {e f : Nat → BitVec 8} (h : Mac.sameBytes m n e f = true) : m = n ∧ ∀ j, j < m → e j = f j := by
  unfold Mac.sameBytes at h
  rw [Bool.and_eq_true] at h
  exact ⟨of_decide_eq_true h.1, sameTo_all e f m h.2⟩
/-- The cells of a note that has its kind alone. -/
def zeroCells (k : Int) : Array Value := #[.int .i64 k, .string ⟨#[]⟩, .string ⟨#[]⟩, .int .u8 0, .int .u8 0, .int .u8 0, .int .u8 0, .int .u8 0, .int .u8 0, .int .u8 0, .int .u8 0, .int .u8 0, .int .u8 0, .int .u8 0, .int .u8 0, .int .u8 0, .int .u8 0, .int .u8 0, .int .u8 0, .int .u8 0, .int .u8 0, .int .u8 0, .int .u8 0, .int .u8 0, .int .u8 0, .int .u8 0, .int .u8 0, .int .u8 0, .int .u8 0, .int .u8 0, .int .u8 0, .int .u8 0, .int .u8 0, .int .u8 0, .int .u8 0, .slice none 0 0, .slice none 0 0, .slice none 0 0]
theorem zeroCells_eq (k : Int) : zeroCells k = cellsOf 38 (noteF (blank k) (.slice none 0 0) (.slice none 0 0) (.slice none 0 0)) := rfl
theorem zeroCells_at (k : Int) (C : Array Value) (hC : C = zeroCells k) (i : Nat) (hi : i < 38) : C[i]? = some (noteF (blank k) (.slice none 0 0) (.slice none 0 0) (.slice none 0 0) i) := by
  rw [hC, zeroCells_eq, cellsOf_at 38 _ i hi]
/-- What Read answers. -/
def ReadPost (E : Nat → BitVec 8) (n : Nat) (w : World) (x : Ending) (w' : World) : Prop :=
  ∃ (N : NoteP) (P Q R : Value) (c : Int), ReadSpec E n N c ∧ x = .returned (.tuple #[noteV N P Q R, .int .i64 c]) ∧ NoteAt w' N P Q R ∧ Below w.heap.size w w'
/-- The same, its slices in blocks of the call's own. -/
def ReadOwn (E : Nat → BitVec 8) (n : Nat) (w : World) (x : Ending) (w' : World) : Prop :=
  ∃ (N : NoteP) (P Q R : Value) (c : Int), ReadSpec E n N c ∧ x = .returned (.tuple #[noteV N P Q R, .int .i64 c]) ∧ NoteFrom w' w.heap.size N P Q R ∧ Below w.heap.size w w'
theorem ReadOwn.post {E : Nat → BitVec 8} {n : Nat} {w : World} {x : Ending} {w' : World} (h : ReadOwn E n w x w') : ReadPost E n w x w' := by
  obtain ⟨N, P, Q, R, c, h1, h2, h3, h4⟩ := h
  exact ⟨N, P, Q, R, c, h1, h2, h3.at_, h4⟩
/-- Two notes, one behind the other. -/
def pairF (f g : Nat → Value) (i : Nat) : Value := if i < 38 then f i else g (i - 38)
theorem pair_fst (f g : Nat → Value) : cellsOf 38 (fun j => pairF f g (0 + j)) = cellsOf 38 f := cellsOf_congr (fun j hj => by unfold pairF; rw [Nat.zero_add, if_pos hj])
theorem pair_snd (f g : Nat → Value) : cellsOf 38 (fun j => pairF f g (38 + j)) = cellsOf 38 g := cellsOf_congr (fun j hj => by unfold pairF; rw [if_neg (by omega), Nat.add_sub_cancel_left])
/-- Fields of whatever length a machine has. -/
structure NoteFits (N : NoteP) : Prop where
  a : N.a.size ≤ 200000000000000
  b : N.b.size ≤ 200000000000000
  p : N.pn ≤ 200000000000000
  q : N.qn ≤ 200000000000000
  r : N.rn ≤ 200000000000000
end Go.Proofs.YtnkjoambhmlnbaaGreatDoor.Note
