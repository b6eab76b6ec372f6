/-
  '==' and '!=' of words and of texts; an entry's name, a ticket, in their rows.
-/
import Derived.Test.YtnkjoambhmlnbaaGreatDoorBd05
import Derived.Test.YtnkjoambhmlnbaaGreatDoorBd41
import Derived.Test.YtnkjoambhmlnbaaGreatDoorBd09
import Derived.Test.YtnkjoambhmlnbaaGreatDoorBd01
namespace Go.Proofs.YtnkjoambhmlnbaaGreatDoor.Book
open Go Go.RowKit Go.Proofs.YtnkjoambhmlnbaaGreatDoor.Aid Go.Proofs.YtnkjoambhmlnbaaGreatDoor.Field

theorem zeros16 (Z : Array Value) (hZ : Z = Array.replicate 16 (.int .u8 0)) (i : Nat) (hi : i < 16) : Z[i]? = some (Value.int .u8 0) := by
  subst hZ
  rw [Array.getElem?_replicate, if_pos hi]
def keyE (k : Wd) (j : Nat) : BitVec 8 := k.getD j 0
theorem keyE_zero (k : Wd) (hk : k.length = 16) : sameUpto (keyE k) (fun _ => 0) 16 = decide (k = zw) := by
  by_cases h : k = zw
  · rw [decide_eq_true h, h]
    decide
  · rw [decide_eq_false h]
    cases hs : sameUpto (keyE k) (fun _ => 0) 16 with
    | false => rfl
    | true =>
      refine absurd (key_ext hk (by decide) (fun j hj => ?_)) h
      have : keyE k j = 0 := of_decide_eq_true hs j hj
      rw [show zw.getD j 0 = 0 from by unfold zw; rw [List.getD_eq_getElem?_getD, List.getElem?_replicate]; split <;> rfl]
      exact this
theorem key_neq_zero (k : Wd) (hk : k.length = 16) (C : Array Value) (hC : ∀ i, i < 16 → C[i]? = some (.int .u8 0)) (W : World) : (binOp .neq 25 (.agg (cellsOf 16 (wordF k))) (.agg C)).run Tryz.prog W = .ok (.bool (!decide (k = zw))) W := by
  have h := run_equalIn_bytes (P := Tryz.prog) (len := 16) 9998 Tryz.underlying25 Tryz.underlying5 (by kernel_rfl) (cellsOf 16 (wordF k)) C (keyE k) (fun _ => 0) (fun i hi => cellsOf_at 16 _ i hi) (fun i hi => hC i hi) W
  rw [keyE_zero k hk] at h
  simp only [binOp]
  simp [Op.equal, Op.maxDepth, h]
theorem op_key (x : OpB) : cellsOf 16 (fun j => opF x (2 + j)) = cellsOf 16 (wordF x.key) := cellsOf_congr fun j hj => by
  unfold opF
  rw [if_neg (by omega), if_neg (by omega), if_pos (by omega), show 2 + j - 2 = j by omega]
theorem lit16z : ∀ i, i < 16 → (#[.int .u8 0, .int .u8 0, .int .u8 0, .int .u8 0, .int .u8 0, .int .u8 0, .int .u8 0, .int .u8 0, .int .u8 0, .int .u8 0, .int .u8 0, .int .u8 0, .int .u8 0, .int .u8 0, .int .u8 0, .int .u8 0] : Array Value)[i]? = some (.int .u8 0) := fun i hi => zeros16 _ (by rfl) i hi
theorem empty_is (s : ByteArray) : s.toList.isEmpty = decide (s = nos) := by
  by_cases h : s = nos
  · rw [decide_eq_true h, h]
    exact (congrArg List.isEmpty ((Note.toList_nil nos).2 rfl)).trans rfl
  · rw [decide_eq_false h]
    cases hl : s.toList with
    | nil => exact absurd (by obtain ⟨a⟩ := s; have := (Note.toList_nil _).1 hl; rw [show a = #[] from Array.eq_empty_of_size_eq_zero this]; rfl) h
    | cons x l => rfl
theorem str_beq (a b : ByteArray) : (a.toList == b.toList) = decide (a = b) := by
  by_cases h : a = b
  · rw [decide_eq_true h, h]; simp
  · rw [decide_eq_false h]
    have hne : a.toList ≠ b.toList := fun e => h (by
      obtain ⟨x⟩ := a
      obtain ⟨y⟩ := b
      rw [ByteArray.toList_eq, ByteArray.toList_eq] at e
      have : x = y := Array.toList_inj.1 e
      rw [this])
    simpa using hne
theorem ent_name {W : World} {b : Bk} {bA o : Nat} {V : Nat → List Value} (hV : V = entsL b) (h : ∀ i, i < b.L.length → W.rangeAt bA (o + i * 17) (V i)) (i : Nat) (hi : i < b.L.length) : W.cell? ⟨bA, o + i * 17, none⟩ = some (.string (b.L.getD i (nos, zw)).1) := by
  have := h i hi 0 _ (by subst hV; unfold entsL; rw [List.getElem?_map, List.getElem?_range (by omega)]; rfl)
  rw [Nat.add_zero] at this
  exact this
theorem rev_key {W : World} {b : Bk} {bA o : Nat} {V : Nat → List Value} (hV : V = revsL b) (h : ∀ i, i < b.rev.length → ∀ j u, (V i)[j]? = some u → W.cell? ⟨bA, o + i * 16 + j, none⟩ = some u) (i : Nat) (hi : i < b.rev.length) : W.rangeAt bA (o + i * 16) ((List.range 16).map (wordF (b.rev.getD i zw))) := fun j u hu => h i hi j u (by subst hV; exact hu)
theorem key_eql (k l : Wd) (hk : k.length = 16) (hl : l.length = 16) (W : World) : (binOp .eql 25 (.agg (cellsOf 16 (wordF k))) (.agg (cellsOf 16 (wordF l)))).run Tryz.prog W = .ok (.bool (decide (k = l))) W := by
  have h := run_equalIn_bytes (P := Tryz.prog) (len := 16) 9998 Tryz.underlying25 Tryz.underlying5 (by kernel_rfl) (cellsOf 16 (wordF k)) (cellsOf 16 (wordF l)) (keyE k) (keyE l) (fun i hi => cellsOf_at 16 _ i hi) (fun i hi => cellsOf_at 16 _ i hi) W
  have he : sameUpto (keyE k) (keyE l) 16 = decide (k = l) := by
    by_cases h : k = l
    · rw [h, decide_eq_true rfl]
      exact decide_eq_true (fun _ _ => rfl)
    · rw [decide_eq_false h]
      exact decide_eq_false (fun h' => h (key_ext hk hl (fun j hj => h' j hj)))
  rw [he] at h
  simp only [binOp]
  simp [Op.equal, Op.maxDepth, h]
theorem key_up (k l : Wd) (hk : k.length = 16) (hl : l.length = 16) : sameUpto (keyE k) (keyE l) 16 = decide (k = l) := by
  by_cases h : k = l
  · rw [h, decide_eq_true rfl]
    exact decide_eq_true (fun _ _ => rfl)
  · rw [decide_eq_false h]
    exact decide_eq_false (fun h' => h (key_ext hk hl (fun j hj => h' j hj)))
theorem word_same (d : Nat) (k l : Wd) (hk : k.length = 16) (hl : l.length = 16) (W : World) : (Op.equalIn (d + 2) 25 (.agg (cellsOf 16 (wordF k))) (.agg (cellsOf 16 (wordF l)))).run Tryz.prog W = .ok (decide (k = l)) W := by
  have h := run_equalIn_bytes (P := Tryz.prog) (len := 16) d Tryz.underlying25 Tryz.underlying5 (by kernel_rfl) (cellsOf 16 (wordF k)) (cellsOf 16 (wordF l)) (keyE k) (keyE l) (fun i hi => cellsOf_at 16 _ i hi) (fun i hi => cellsOf_at 16 _ i hi) W
  rw [key_up k l hk hl] at h
  exact h
theorem word_neq (k l : Wd) (hk : k.length = 16) (hl : l.length = 16) (W : World) : (binOp .neq 25 (.agg (cellsOf 16 (wordF k))) (.agg (cellsOf 16 (wordF l)))).run Tryz.prog W = .ok (.bool (!decide (k = l))) W := by
  rw [run_neq_struct, show (10000 : Nat) = 9998 + 2 from rfl, word_same 9998 k l hk hl W]
  rfl
end Go.Proofs.YtnkjoambhmlnbaaGreatDoor.Book
