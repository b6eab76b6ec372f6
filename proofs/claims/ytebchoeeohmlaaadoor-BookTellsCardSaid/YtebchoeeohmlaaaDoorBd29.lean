/-
  What the parts of an operation's encoding are, while they are made. What the parts of an operation are, while it is read.
-/
import Derived.Test.YtebchoeeohmlaaaDoorBd19
import Derived.Test.YtebchoeeohmlaaaDoorBd06
import Derived.Test.YtebchoeeohmlaaaDoorBd23
import Derived.Test.YtebchoeeohmlaaaDoorBd31
import Derived.Test.YtebchoeeohmlaaaDoorBd08
namespace Go.Proofs.YtebchoeeohmlaaaDoor.Book
open Go Go.RowKit Go.Proofs.YtebchoeeohmlaaaDoor.Aid Go.Proofs.YtebchoeeohmlaaaDoor.Field Go.Proofs.YtebchoeeohmlaaaDoor.Law01

theorem slice_up {w w' : World} {m : Nat} {e : Nat → BitVec 8} {v : Value} (h : SliceOf w w.heap.size m e v) (hb : Below w.heap.size w w') : SliceOf w' w'.heap.size m e v := slice_any (slice_below h hb) (Nat.le_refl _)
def postP (x : OpB) (g B : Nat) (i : Nat) (v : Value) (w : World) : Prop :=
  match i with
  | 0 => v = .pointer (some ⟨g, 1, none⟩)
  | 1 => v = .string x.name
  | 2 => SliceOf w w.heap.size x.name.size (strB x.name) v
  | 3 => v = .pointer (some ⟨g, 2, none⟩)
  | 4 => SliceOf w w.heap.size 16 (keyE x.key) v
  | 5 => v = .pointer (some ⟨g, 18, none⟩)
  | 6 => v = .int .i64 x.gen
  | 7 => SliceOf w w.heap.size 8 (numB x.gen) v
  | 8 => PartsOf w 3 (mO x) (eO x) v
  | 9 => ∃ r, v = .tuple #[r, .int .i64 0] ∧ Own w B (encN (mO x) 3) (encB (mO x) (eO x) 3) r
  | 10 => ∃ r, v = .tuple #[r, .int .i64 0] ∧ Own w B (encN (mO x) 3) (encB (mO x) (eO x) 3) r
  | 11 => Own w B (encN (mO x) 3) (encB (mO x) (eO x) 3) v
  | 12 => v = .int .i64 0
  | 13 => Own w B (encN (mO x) 3) (encB (mO x) (eO x) 3) v
  | _ => True
theorem postP_mono (x : OpB) (g B : Nat) : ∀ i v w w', Below w.heap.size w w' → postP x g B i v w → postP x g B i v w' := fun i v w w' hb h => by
  match i with
  | 0 => exact h
  | 1 => exact h
  | 2 => exact slice_up h hb
  | 3 => exact h
  | 4 => exact slice_up h hb
  | 5 => exact h
  | 6 => exact h
  | 7 => exact slice_up h hb
  | 8 => exact PartsOf.below h hb
  | 9 => obtain ⟨r, hr, ho⟩ := h; exact ⟨r, hr, ho.below hb⟩
  | 10 => obtain ⟨r, hr, ho⟩ := h; exact ⟨r, hr, ho.below hb⟩
  | 11 => exact Own.below h hb
  | 12 => exact h
  | 13 => exact Own.below h hb
  | _ + 14 => trivial
/-- 'x[:]' of an array. -/
theorem arr_whole {P : Program} (t e N : TypeId) (hu : P.underlying t = some (.array N e)) (hsz : (P.info? e).map (·.size) = some 1) (b o : Nat) (W : World) :
    (Instr.sliceAt t (.pointer (some ⟨b, o, none⟩)) none none none).run P W = .ok (.slice (some ⟨b, o, none⟩) N N) W := by
  cases hq : P.info? e with
  | none => simp [hq] at hsz
  | some i =>
    simp [Instr.sliceAt, Instr.sliceBounds, Instr.sureAddr, Sem.run_bind, run_underlying hu W, Result.andThen, sizeOf, typeInfo, hq, Addr.add]
theorem own_byte (w : World) (x : BitVec 8) (v : Int) (hv : v = (x.toNat : Int)) : Own (w.alloc (.cells #[.int .u8 v] 5)) w.heap.size 1 (fun _ => x) (.slice (some ⟨w.heap.size, 0, none⟩) 1 1) :=
  own_of_row (row_new w #[.int .u8 v] 5 1 _ rfl (fun i hi => by obtain rfl : i = 0 := (by omega); rw [hv]; rfl)) (Nat.le_refl _) (by omega)
theorem off_op (x : OpB) : off (mO x) 3 = x.name.size + 24 := by
  show 0 + x.name.size + 16 + 8 = _
  omega
theorem parts_three (W : World) (n : Nat) (a b c : Nat → BitVec 8) (u v z : Value) (hu : SliceOf W W.heap.size n a u) (hv : SliceOf W W.heap.size 16 b v) (hz : SliceOf W W.heap.size 8 c z) (m : Nat → Nat) (e : Nat → Nat → BitVec 8) (m0 : m 0 = n) (m1 : m 1 = 16) (m2 : m 2 = 8) (e0 : e 0 = a) (e1 : e 1 = b) (e2 : e 2 = c) :
    PartsOf (W.alloc (.cells #[u, v, z] 23)) 3 m e (.slice (some ⟨W.heap.size, 0, none⟩) 3 3) := by
  have hb : Below W.heap.size W (W.alloc (.cells #[u, v, z] 23)) := (Below.refl _ _).alloc (Nat.le_refl _) _
  refine ⟨_, 3, rfl, fun _ => ⟨W.heap.size, 0, rfl, fun i hi => ?_⟩⟩
  match i, hi with
  | 0, _ => exact ⟨u, by simp [World.cell?_alloc_new], by rw [m0, e0]; exact slice_up hu hb⟩
  | 1, _ => exact ⟨v, by simp [World.cell?_alloc_new], by rw [m1, e1]; exact slice_up hv hb⟩
  | 2, _ => exact ⟨z, by simp [World.cell?_alloc_new], by rw [m2, e2]; exact slice_up hz hb⟩
theorem op_slice {W : World} {g t : Nat} {x : OpB} (h : W.rowIs g t 19 (opF x)) : SliceOf W W.heap.size 16 (keyE x.key) (.slice (some ⟨g, 2, none⟩) 16 16) :=
  ⟨_, 16, rfl, Nat.le_refl _, fun _ => ⟨g, 2, rfl, by have := World.rowIs.lt h; omega, fun j hj => by
    rw [h.cell (i := 2 + j) (by omega)]
    unfold opF wordF keyE
    rw [if_neg (by omega), if_neg (by omega), if_pos (by omega), show 2 + j - 2 = j by omega]⟩⟩
end Go.Proofs.YtebchoeeohmlaaaDoor.Book
namespace Go.Proofs.YtebchoeeohmlaaaDoor.Book
open Go Go.RowKit Go.Proofs.YtebchoeeohmlaaaDoor.Aid Go.Proofs.YtebchoeeohmlaaaDoor.Field Go.Proofs.YtebchoeeohmlaaaDoor.Law01

theorem zero_op (C : Array Value) (h : C = #[.int .i64 0, .string ⟨#[]⟩, .int .u8 0, .int .u8 0, .int .u8 0, .int .u8 0, .int .u8 0, .int .u8 0, .int .u8 0, .int .u8 0, .int .u8 0, .int .u8 0, .int .u8 0, .int .u8 0, .int .u8 0, .int .u8 0, .int .u8 0, .int .u8 0, .int .i64 0]) : ∀ i, i < 19 → C[i]? = some (opF op0 i) := by
  subst h
  intro i hi
  match i, hi with
  | 0, _ => rfl
  | 1, _ => rfl
  | 2, _ => rfl
  | 3, _ => rfl
  | 4, _ => rfl
  | 5, _ => rfl
  | 6, _ => rfl
  | 7, _ => rfl
  | 8, _ => rfl
  | 9, _ => rfl
  | 10, _ => rfl
  | 11, _ => rfl
  | 12, _ => rfl
  | 13, _ => rfl
  | 14, _ => rfl
  | 15, _ => rfl
  | 16, _ => rfl
  | 17, _ => rfl
  | 18, _ => rfl
  | _ + 19, hi => exact absurd hi (by omega)
theorem op_one (x : OpB) (j : Nat) : (opF x j).oneCell' = true := by
  unfold opF
  repeat' split
  all_goals rfl
def postR (E : Nat → BitVec 8) (n cp sb so vb vo vc c0 B : Nat) (A0 : Option Addr) (ty : TypeId) (i : Nat) (v : Value) (w : World) : Prop :=
  match i with
  | 0 => v = .slice (some ⟨sb, so, none⟩) n cp
  | 1 => v = .pointer (some ⟨sb, so, none⟩)
  | 2 => v = .int .u8 ((E 0).toNat : Int)
  | 3 => v = .int .i64 ((E 0).toNat : Int)
  | 4 => v = .slice (some ⟨vb, vo, none⟩) 3 vc
  | 5 => v = .pointer (some ⟨vb, vo, none⟩)
  | 6 => v = .slice A0 (fieldM (tailE E) 0) c0
  | 7 => v = .string (readX E).name
  | 8 => v = .agg (cellsOf 16 (wordF (readX E).key))
  | 9 => v = .int .i64 (readX E).gen
  | 10 => v = opV (readX E)
  | 11 => ∃ g, v = .pointer (some ⟨g, 0, none⟩) ∧ w.rowIs g ty 19 (opF op0) ∧ B ≤ g
  | _ => True
theorem postR_mono (E : Nat → BitVec 8) (n cp sb so vb vo vc c0 B : Nat) (A0 : Option Addr) (ty : TypeId) : ∀ i v w w', Below w.heap.size w w' → postR E n cp sb so vb vo vc c0 B A0 ty i v w → postR E n cp sb so vb vo vc c0 B A0 ty i v w' := fun i v w w' hb h => by
  match i with
  | 0 => exact h
  | 1 => exact h
  | 2 => exact h
  | 3 => exact h
  | 4 => exact h
  | 5 => exact h
  | 6 => exact h
  | 7 => exact h
  | 8 => exact h
  | 9 => exact h
  | 10 => exact h
  | 11 => obtain ⟨g, hg, hr, hB⟩ := h; exact ⟨g, hg, hr.of_block (hb.block _ (World.rowIs.lt hr)), hB⟩
  | _ + 12 => trivial
theorem key_row {E : Nat → BitVec 8} {W : World} {g t : Nat} (h : W.rowIs g t 16 (fun j => .int .u8 ((wordE (fieldM (tailE E) 1) (fieldE (tailE E) 1) j).toNat : Int))) : W.rowIs g t 16 (wordF (readX E).key) := h.congr (fun j hj => by
  unfold wordF readX
  dsimp only
  rw [List.getD_eq_getElem?_getD, List.getElem?_map, List.getElem?_range hj]
  rfl)
end Go.Proofs.YtebchoeeohmlaaaDoor.Book
