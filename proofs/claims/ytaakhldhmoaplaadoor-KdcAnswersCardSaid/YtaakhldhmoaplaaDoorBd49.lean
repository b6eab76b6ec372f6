/-
  What the document's 'at' does of a book. What the document's Key does of a book.
-/
import Derived.Test.YtaakhldhmoaplaaDoorBd04
import Derived.Test.YtaakhldhmoaplaaDoorBd35
import Derived.Test.YtaakhldhmoaplaaDoorBd38
import Derived.Test.YtaakhldhmoaplaaDoorBd01
import Derived.WalkSmall
import Derived.WalkMore
import Derived.OwnWalk
import Derived.BigQuiet
import Derived.Deep.DeepCutAuto
namespace Go.Proofs.YtaakhldhmoaplaaDoor.Book
open Go Go.RowKit Go.Proofs.YtaakhldhmoaplaaDoor.Aid Go.Proofs.YtaakhldhmoaplaaDoor.Field

/-- Where the first entry of that name is. -/
def AtSpec (L : List (ByteArray × Wd)) (n : ByteArray) (r : Int) : Prop := (n ∉ namesB L ∧ r = -1) ∨ ∃ A p B, L = A ++ p :: B ∧ p.1 = n ∧ n ∉ namesB A ∧ r = (A.length : Int)
theorem at_no {L : List (ByteArray × Wd)} {n : ByteArray} {r : Int} (h : AtSpec L n r) (hh : hasN L n = false) : r = -1 := by
  rcases h with ⟨_, h⟩ | ⟨A, p, B, rfl, hp, _, _⟩
  · exact h
  · exact absurd (by unfold namesB; rw [List.map_append, List.map_cons, hp]; simp) (hasG_no hh)
theorem at_yes {L : List (ByteArray × Wd)} {n : ByteArray} {r : Int} (h : AtSpec L n r) (hh : hasN L n = true) : ∃ A p B, L = A ++ p :: B ∧ p.1 = n ∧ n ∉ namesB A ∧ r = (A.length : Int) := by
  rcases h with ⟨h, _⟩ | h
  · exact absurd (by simpa [hasN, hasG] using hh) h
  · exact h
theorem rm_at (n : ByteArray) (p : ByteArray × Wd) (B : List (ByteArray × Wd)) (hp : p.1 = n) : ∀ A : List (ByteArray × Wd), n ∉ namesB A → rmN n (A ++ p :: B) = A ++ B
  | [], _ => by show (if p.1 = n then B else _) = B; rw [if_pos hp]
  | q :: A, h => by
    unfold namesB at h
    rw [List.map_cons, List.mem_cons, not_or] at h
    show (if q.1 = n then A ++ p :: B else q :: rmN n (A ++ p :: B)) = q :: (A ++ B)
    rw [if_neg (fun e => h.1 e.symm), rm_at n p B hp A h.2]
theorem re_at (n : ByteArray) (k : Wd) (p : ByteArray × Wd) (B : List (ByteArray × Wd)) (hp : p.1 = n) : ∀ A : List (ByteArray × Wd), n ∉ namesB A → reN n k (A ++ p :: B) = A ++ (p.1, k) :: B
  | [], _ => by show (if p.1 = n then (p.1, k) :: B else _) = _; rw [if_pos hp]; rfl
  | q :: A, h => by
    unfold namesB at h
    rw [List.map_cons, List.mem_cons, not_or] at h
    show (if q.1 = n then (q.1, k) :: (A ++ p :: B) else q :: reN n k (A ++ p :: B)) = q :: (A ++ (p.1, k) :: B)
    rw [if_neg (fun e => h.1 e.symm), re_at n k p B hp A h.2]
theorem key_at (n : ByteArray) (p : ByteArray × Wd) (B : List (ByteArray × Wd)) (hp : p.1 = n) : ∀ A : List (ByteArray × Wd), n ∉ namesB A → keyB n (A ++ p :: B) = p.2
  | [], _ => by show (if p.1 = n then p.2 else _) = _; rw [if_pos hp]
  | q :: A, h => by
    unfold namesB at h
    rw [List.map_cons, List.mem_cons, not_or] at h
    show (if q.1 = n then q.2 else keyB n (A ++ p :: B)) = p.2
    rw [if_neg (fun e => h.1 e.symm), key_at n p B hp A h.2]
theorem key_no (n : ByteArray) : ∀ L : List (ByteArray × Wd), n ∉ namesB L → keyB n L = zw
  | [], _ => rfl
  | q :: L, h => by
    unfold namesB at h
    rw [List.map_cons, List.mem_cons, not_or] at h
    show (if q.1 = n then q.2 else keyB n L) = zw
    rw [if_neg (fun e => h.1 e.symm), key_no n L h.2]
set_option maxRecDepth 100000 in
set_option maxHeartbeats 8000000 in
theorem refAt_is {w : World} {b : Bk} {Lv Rv : Value} (n : ByteArray) (h : BookIs w b Lv Rv) : Calls Tryd.prog 41 #[bookV b Lv Rv, .string n] w fun y w' => (∃ r, y = .returned (.int .i64 r) ∧ AtSpec b.L n r) ∧ Below w.heap.size w w' := by
  have hr := row_new w (cellsOf 19 (bookF b Lv Rv)) 42 19 (bookF b Lv Rv) (size_cellsOf _ _) (cellsOf_at _ _)
  have hb := Lib.hid ((Below.refl w.heap.size w).alloc (Nat.le_refl _) (.cells (cellsOf 19 (bookF b Lv Rv)) 42))
  have hL := rows_below h.ents hb.out
  have hm := h.few.1
  obtain ⟨A, c, rfl, hE⟩ := hL
  have HE := Lib.hid hE
  have c0 := hr.cell (i := 0) (by omega)
  have e0 : bookF b (.slice A b.L.length c) Rv 0 = .slice A b.L.length c := rfl
  rw [e0] at c0
  unfold bookV
  generalize hf : bookF b (.slice A b.L.length c) Rv = f at *
  clear hf hE h hr e0
  go_enter Tryd.func41, Tryd.ntmps41
  generalize cellsOf 19 f = C at *
  go_upto_region 1 with fail
  generalize w.alloc (.cells C 42) = w1 at *
  go_wp2_with fail
  go_loopw [5] (fun iv wr => ∃ k : Nat, k ≤ b.L.length ∧ iv = .int .i64 (k : Int) ∧ wr = w1 ∧ Hid (n ∉ namesB (b.L.take k))) (fun i _ => b.L.length - (intOf i).toNat)
  case atStart => exact ⟨0, by omega, rfl, rfl, Lib.hid (by simp [namesB])⟩
  case round =>
    obtain ⟨k, hk, rfl, rfl, hno⟩ := hrel
    by_cases hlt : k < b.L.length
    · have q1 : (k : Int) < (b.L.length : Int) := by omega
      have q0 : (0 : Int) ≤ (k : Int) := by omega
      obtain ⟨bA, o, rfl, hbA, hc⟩ := HE.out (by omega)
      have cn := ent_name rfl hc k hlt
      clear hc HE
      have hget : b.L[k]? = some (b.L.getD k (nos, zw)) := by rw [List.getD_eq_getElem?_getD, List.getElem?_eq_getElem hlt]; rfl
      have hspl : b.L = b.L.take k ++ b.L.getD k (nos, zw) :: b.L.drop (k + 1) := by
        rw [List.getElem?_eq_getElem hlt] at hget
        rw [← Option.some.inj hget, ← List.drop_eq_getElem_cons hlt, List.take_append_drop]
      have htk : b.L.take (k + 1) = b.L.take k ++ [b.L.getD k (nos, zw)] := by rw [List.take_add_one, hget]; rfl
      have HSP := Lib.hid hspl
      have HTK := Lib.hid htk
      have HLT := Lib.hid (show k + 1 ≤ b.L.length ∧ (b.L.take k).length = k from ⟨by omega, List.length_take_of_le (by omega)⟩)
      clear hget hspl htk hlt
      generalize b.L.getD k (nos, zw) = p at *
      have hbq := str_beq p.1 n
      have hw : wrap64 ((k : Int) + 1) = ((k + 1 : Nat) : Int) := by unfold wrap64; omega
      by_cases hpn : p.1 = n
      · rw [decide_eq_true hpn] at hbq
        have HPN := Lib.hid hpn
        clear hpn
        go_wp2
        go_ret
        exact ⟨⟨_, rfl, .inr ⟨_, p, _, HSP.out, HPN.out, hno.out, by rw [HLT.out.2]⟩⟩, hb.out⟩
      · rw [decide_eq_false hpn] at hbq
        have HPN := Lib.hid hpn
        clear hpn
        go_wp2
        refine ⟨⟨k + 1, HLT.out.1, by rw [Int.natCast_add]; rfl, trivial, Lib.hid ?_⟩, ?_⟩
        · rw [HTK.out]
          unfold namesB
          rw [List.map_append, List.mem_append, not_or]
          exact ⟨hno.out, by simpa using fun e => HPN.out e.symm⟩
        · have := HLT.out.1
          simp [intOf]
          omega
    · have q1 : ¬ (k : Int) < (b.L.length : Int) := by omega
      have HNO : Hid (n ∉ namesB b.L) := Lib.hid (by have := hno.out; rwa [List.take_of_length_le (by omega)] at this)
      go_wp2
      go_ret
      exact ⟨⟨_, rfl, .inl ⟨HNO.out, rfl⟩⟩, hb.out⟩
theorem refAt_any {w : World} {b : Bk} {Lv Rv : Value} (n : ByteArray) (h : BookAt w b Lv Rv) : Calls Tryd.prog 41 #[bookV b Lv Rv, .string n] w fun y w' => (∃ r, y = .returned (.int .i64 r) ∧ AtSpec b.L n r) ∧ Below w.heap.size w w' := refAt_is n h.is_
end Go.Proofs.YtaakhldhmoaplaaDoor.Book
namespace Go.Proofs.YtaakhldhmoaplaaDoor.Book
open Go Go.RowKit Go.Proofs.YtaakhldhmoaplaaDoor.Aid Go.Proofs.YtaakhldhmoaplaaDoor.Field

theorem ent_key {W : World} {b : Bk} {bA o k : Nat} {p : ByteArray × Wd} (hp : b.L[k]? = some p) (h : ∀ j u, (entsL b k)[j]? = some u → W.cell? ⟨bA, o + k * 17 + j, none⟩ = some u) : W.rangeAt bA (o + k * 17 + 1) ((List.range 16).map (wordF p.2)) := fun j u hu => by
  have hj : j < 16 := by have := (List.getElem?_eq_some_iff.1 hu).1; simpa using this
  rw [List.getElem?_map, List.getElem?_range hj] at hu
  simp only [Option.map_some, Option.some.injEq] at hu
  subst hu
  have := h (j + 1) (wordF p.2 j) (by
    unfold entsL
    rw [List.getElem?_map, List.getElem?_range (by omega), List.getD_eq_getElem?_getD, hp]
    rfl)
  rw [show o + k * 17 + 1 + j = o + k * 17 + (j + 1) by omega]
  exact this
theorem zero_wd : ∀ i, i < 16 → (#[.int .u8 0, .int .u8 0, .int .u8 0, .int .u8 0, .int .u8 0, .int .u8 0, .int .u8 0, .int .u8 0, .int .u8 0, .int .u8 0, .int .u8 0, .int .u8 0, .int .u8 0, .int .u8 0, .int .u8 0, .int .u8 0] : Array Value)[i]? = some (wordF zw i) := fun i hi => by
  rw [lit16z i hi]
  unfold wordF zw
  rw [List.getD_eq_getElem?_getD, List.getElem?_replicate, if_pos hi]
  rfl
set_option maxRecDepth 100000 in
set_option maxHeartbeats 2000000 in
theorem refKey_is {w : World} {b : Bk} {Lv Rv : Value} (n : ByteArray) (h : BookIs w b Lv Rv) : Calls Tryd.prog 23 #[bookV b Lv Rv, .string n] w fun y w' => y = .returned (.tuple #[wordV (keyB n b.L), .bool (hasN b.L n)]) ∧ Below w.heap.size w w' := by
  have r1 := row_new w (cellsOf 19 (bookF b Lv Rv)) 42 19 _ (size_cellsOf _ _) (cellsOf_at _ _)
  have b1 : Below w.heap.size w (w.alloc (.cells (cellsOf 19 (bookF b Lv Rv)) 42)) := (Below.refl _ _).alloc (Nat.le_refl _) _
  have s1 : (w.alloc (.cells (cellsOf 19 (bookF b Lv Rv)) 42)).heap.size = w.heap.size + 1 := by simp
  have R2 : Hid (((w.alloc (.cells (cellsOf 19 (bookF b Lv Rv)) 42)).alloc (.cells #[.int .u8 0, .int .u8 0, .int .u8 0, .int .u8 0, .int .u8 0, .int .u8 0, .int .u8 0, .int .u8 0, .int .u8 0, .int .u8 0, .int .u8 0, .int .u8 0, .int .u8 0, .int .u8 0, .int .u8 0, .int .u8 0] 25)).rowIs w.heap.size 42 19 (bookF b Lv Rv) ∧ ((w.alloc (.cells (cellsOf 19 (bookF b Lv Rv)) 42)).alloc (.cells #[.int .u8 0, .int .u8 0, .int .u8 0, .int .u8 0, .int .u8 0, .int .u8 0, .int .u8 0, .int .u8 0, .int .u8 0, .int .u8 0, .int .u8 0, .int .u8 0, .int .u8 0, .int .u8 0, .int .u8 0, .int .u8 0] 25)).rowIs (w.heap.size + 1) 25 16 (wordF zw) ∧ BookIs ((w.alloc (.cells (cellsOf 19 (bookF b Lv Rv)) 42)).alloc (.cells #[.int .u8 0, .int .u8 0, .int .u8 0, .int .u8 0, .int .u8 0, .int .u8 0, .int .u8 0, .int .u8 0, .int .u8 0, .int .u8 0, .int .u8 0, .int .u8 0, .int .u8 0, .int .u8 0, .int .u8 0, .int .u8 0] 25)) b Lv Rv ∧ Below w.heap.size w ((w.alloc (.cells (cellsOf 19 (bookF b Lv Rv)) 42)).alloc (.cells #[.int .u8 0, .int .u8 0, .int .u8 0, .int .u8 0, .int .u8 0, .int .u8 0, .int .u8 0, .int .u8 0, .int .u8 0, .int .u8 0, .int .u8 0, .int .u8 0, .int .u8 0, .int .u8 0, .int .u8 0, .int .u8 0] 25))) := by
    generalize w.alloc (.cells (cellsOf 19 (bookF b Lv Rv)) 42) = w1 at *
    have r2 := row_new w1 #[.int .u8 0, .int .u8 0, .int .u8 0, .int .u8 0, .int .u8 0, .int .u8 0, .int .u8 0, .int .u8 0, .int .u8 0, .int .u8 0, .int .u8 0, .int .u8 0, .int .u8 0, .int .u8 0, .int .u8 0, .int .u8 0] 25 16 (wordF zw) rfl zero_wd
    have b2 : Below w1.heap.size w1 (w1.alloc (.cells #[.int .u8 0, .int .u8 0, .int .u8 0, .int .u8 0, .int .u8 0, .int .u8 0, .int .u8 0, .int .u8 0, .int .u8 0, .int .u8 0, .int .u8 0, .int .u8 0, .int .u8 0, .int .u8 0, .int .u8 0, .int .u8 0] 25)) := (Below.refl _ _).alloc (Nat.le_refl _) _
    rw [s1] at r2
    exact Lib.hid ⟨r1.of_block (b2.block _ (World.rowIs.lt r1)), r2, (h.below b1).below b2, b1.trans (b2.mono b1.size)⟩
  clear r1 b1 s1 h
  unfold bookV wordV
  go_enter Tryd.func23, Tryd.ntmps23
  go_upto_region 1 with fail
  generalize (w.alloc (.cells (cellsOf 19 (bookF b Lv Rv)) 42)).alloc (.cells #[.int .u8 0, .int .u8 0, .int .u8 0, .int .u8 0, .int .u8 0, .int .u8 0, .int .u8 0, .int .u8 0, .int .u8 0, .int .u8 0, .int .u8 0, .int .u8 0, .int .u8 0, .int .u8 0, .int .u8 0, .int .u8 0] 25) = w1 at *
  have HAT := Lib.hid (refAt_is n R2.out.2.2.1)
  unfold bookV at HAT
  go_wp2_with (refine load_whole_met (by rfl) 42 (.tmp 2) (by rfl) _ _ _ _ R2.out.1 (by rfl) _ Tryd.underlying42 (by rfl) (by kernel_rfl) ?_)
  refine HAT.out.mono ?_
  rintro _ w2 ⟨⟨r, rfl, hat⟩, hb2⟩
  have HR := Lib.hid hat
  have R3 : Hid (w2.rowIs w.heap.size 42 19 (bookF b Lv Rv) ∧ w2.rowIs (w.heap.size + 1) 25 16 (wordF zw) ∧ BookIs w2 b Lv Rv ∧ Below w.heap.size w w2) := Lib.hid ⟨R2.out.1.of_block (hb2.block _ (World.rowIs.lt R2.out.1)), R2.out.2.1.of_block (hb2.block _ (World.rowIs.lt R2.out.2.1)), R2.out.2.2.1.below hb2, R2.out.2.2.2.trans (hb2.mono R2.out.2.2.2.size)⟩
  clear hat hb2 HAT R2
  cases hh : hasN b.L n with
  | false =>
    have hr1 := at_no HR.out hh
    have q0 : r < 0 := by omega
    have HK : Hid (keyB n b.L = zw) := Lib.hid (key_no n b.L (hasG_no hh))
    have HH := Lib.hid hh
    clear hr1 hh
    go_wp2_with (refine store_whole (by rfl) 25 (.tmp 4) (.tmp 12) (by rfl) (w.heap.size + 1) _ 16 _ (wordF zw) R3.out.2.1 (by rfl) _ (by rfl) (by kernel_rfl) (by rfl) zero_wd (fun _ _ => rfl) ?_; intro w3 hr3 ho3)
    refine bodyPost_ret (results_row_tmp rfl _ (w.heap.size + 1) _ _ _ _ (by rfl) hr3 Tryd.underlying25 rfl (by kernel_rfl)) rfl ?_
    exact ⟨by rw [HK.out, HH.out]; rfl, ho3.below R3.out.2.2.2 (by omega)⟩
  | true =>
    obtain ⟨As, p, Bs, hsp, hpn, hna, hr⟩ := at_yes HR.out hh
    have HK : Hid (keyB n b.L = p.2) := Lib.hid (by rw [hsp]; exact key_at n p Bs hpn As hna)
    have HKL : Hid (As.length < b.L.length ∧ b.L[As.length]? = some p) := Lib.hid ⟨by rw [hsp]; simp, by rw [hsp]; simp⟩
    subst hr
    obtain ⟨AL, cL, rfl, hEL⟩ := R3.out.2.2.1.ents
    obtain ⟨bA, oA, rfl, hbA, hcA⟩ := hEL (by have := HKL.out.1; omega)
    have HCK := Lib.hid (ent_key HKL.out.2 (hcA As.length HKL.out.1))
    have q0 : ¬ (As.length : Int) < 0 := by omega
    have q1 : (0 : Int) ≤ (As.length : Int) := by omega
    have q2 : (As.length : Int) < (b.L.length : Int) := by have := HKL.out.1; omega
    have c0 := R3.out.1.cell (i := 0) (by omega)
    rw [show bookF b (.slice (some ⟨bA, oA, none⟩) b.L.length cL) Rv 0 = .slice (some ⟨bA, oA, none⟩) b.L.length cL from rfl] at c0
    have HH := Lib.hid hh
    clear hsp hpn hna HR hEL hcA hbA hh
    go_wp2_with (first
      | (refine wpList_load_mid (by rfl) 25 (.tmp 17) (by rfl) bA (oA + As.length * 17 + 1) (by rfl) _ _ HCK.out Tryd.underlying25 (by rfl) (by kernel_rfl) ?_)
      | (refine store_whole (by rfl) 25 (.tmp 4) (.tmp 18) (by rfl) (w.heap.size + 1) _ 16 _ (wordF p.2) R3.out.2.1 (by rfl) _ (by rfl) (by kernel_rfl) (by rfl) (cellsOf_at _ _) (fun _ _ => rfl) ?_; intro w3 hr3 ho3))
    refine bodyPost_ret (results_row_tmp rfl _ (w.heap.size + 1) _ _ _ _ (by rfl) hr3 Tryd.underlying25 rfl (by kernel_rfl)) rfl ?_
    exact ⟨by rw [HK.out, HH.out]; rfl, ho3.below R3.out.2.2.2 (by omega)⟩
theorem refKey15_any {w : World} {b : Bk} {Lv Rv : Value} (n : ByteArray) (h : BookAt w b Lv Rv) : Calls Tryd.prog 23 #[bookV b Lv Rv, .string n] w fun y w' => y = .returned (.tuple #[wordV (keyB n b.L), .bool (hasN b.L n)]) ∧ Below w.heap.size w w' := refKey_is n h.is_
end Go.Proofs.YtaakhldhmoaplaaDoor.Book
