/-
  What the program's Put does.
  What Read must find, as plain values: bytes that are split in the right number of parts, words of 16 bytes, are the encoding of what is read just if that is right.
  What the program's Read does.
  The program's own functions of package note, as the laws need them.
-/
import Derived.Test.YtagehbeliifbkaaDoorNoteRight
import Derived.Test.YtagehbeliifbkaaDoorRefPut10
import Derived.Test.YtagehbeliifbkaaDoorRefRead10
import Derived.Test.YtagehbeliifbkaaDoorNoteHas
namespace Go.Proofs.YtagehbeliifbkaaDoor.Note
open Go Go.RowKit Go.Proofs.YtagehbeliifbkaaDoor.Aid Go.Proofs.YtagehbeliifbkaaDoor.Law01 Go.Proofs.YtagehbeliifbkaaDoor.Field

/-- An iterator that moves on leaves slices and lists as they are. -/
theorem slice_iter {W : World} {IT p p' g m : Nat} {s : ByteArray} {e : Nat → BitVec 8} {v : Value} (hk : W.heap[IT]? = some (.stringIter s p)) (h : SliceOf W g m e v) : SliceOf (W.iterAt IT s p') g m e v := by
  obtain ⟨A, c, hv, hc, hr⟩ := h
  refine ⟨A, c, hv, hc, fun hm => ?_⟩
  obtain ⟨sb, so, hA, hne, hcell⟩ := hr hm
  have hs : sb ≠ IT := fun e => by
    have h0 := hcell 0 hm
    subst e
    simp [World.cell?, hk] at h0
  exact ⟨sb, so, hA, hne, fun j hj => by rw [World.cell?_of_block (a := ⟨sb, so + j, none⟩) (Lib.iterAt_other W IT sb s p' hs)]; exact hcell j hj⟩
theorem list_iter {W : World} {IT p p' base k : Nat} {s : ByteArray} {m : Nat → Nat} {E : Nat → Nat → BitVec 8} {v : Value} (hk : W.heap[IT]? = some (.stringIter s p)) (hb : IT < base) (h : ListOf W base k m E v) : ListOf (W.iterAt IT s p') base k m E v := by
  obtain ⟨R, hr, hp⟩ := h.row
  refine ⟨R, ⟨hr.1, ?_⟩, fun i hi g hg => slice_iter hk (hp i hi g (by rwa [Lib.iterAt_size] at hg))⟩
  rcases hr.2 with h0 | ⟨g, cap, cur, a, b, c, d⟩
  · exact .inl h0
  · exact .inr ⟨g, cap, cur, a, b, by rw [Lib.iterAt_other _ _ _ _ _ (by omega)]; exact c, d⟩
set_option maxRecDepth 100000 in
set_option maxHeartbeats 2000000 in
theorem put_own10 (N : NoteP) (P Q R : Value) (w : World) (ht : Table10 w) (la : N.a.size ≤ 1000000) (lb : N.b.size ≤ 1000000) (hn : NoteAt w N P Q R) : Calls Tryd.prog 7 #[noteV N P Q R] w fun x w' =>
    ∃ r, x = .returned (.tuple #[r, .int .i64 (put10C N)]) ∧ Own w' w.heap.size (put10N N) (encByte N) r ∧ Below w.heap.size w w' := by
  have hr0 := row_new w (cellsOf 38 (noteF N P Q R)) 26 38 (noteF N P Q R) (size_cellsOf _ _) (cellsOf_at _ _)
  have hb0 : Below w.heap.size w (w.alloc (.cells (cellsOf 38 (noteF N P Q R)) 26)) := (Below.refl _ _).alloc (Nat.le_refl _) _
  have hright := right_own N P Q R (w.alloc (.cells (cellsOf 38 (noteF N P Q R)) 26)) (ht.below hb0 (Nat.le_refl _)) la lb (hn.below hb0)
  unfold noteV at *
  have HRI := Lib.hid hright
  have HT := Lib.hid ht
  clear hright ht
  go_enter Tryd.func7, Tryd.ntmps7
  generalize hC : cellsOf 38 (noteF N P Q R) = C at *
  go_upto_region 1 with fail
  generalize w.alloc (.cells C 26) = w1 at *
  go_wp2_with (refine load_whole (by rfl) 26 (.tmp 1) (by rfl) w.heap.size _ 38 _ hr0 (by rfl) _ Tryd.underlying26 (by rfl) (by kernel_rfl) ?_)
  refine HRI.out.mono ?_
  rintro _ w2 ⟨rfl, hb2⟩
  have hlt0 := World.rowIs.lt hr0
  have hr2 := World.rowIs.of_block hr0 (hb2.block _ hlt0)
  have hb2' := hb0.trans (hb2.mono hb0.size)
  clear hr0 hb0 HRI hb2
  generalize hd : rightN N = d at *
  rcases d with _ | _
  · have e1 : put10N N = 0 := by unfold put10N; rw [hd]; rfl
    have e2 : put10C N = 3 := by unfold put10C; rw [hd]; rfl
    have HB := Lib.hid hb2'
    have E1 := Lib.hid e1
    have E2 := Lib.hid e2
    clear hr2 hb2' e1 e2 hn hd hC hlt0
    go_wp2
    go_ret2
    exact ⟨_, by rw [E2.out]; rfl, by rw [E1.out]; exact World.ownsRow_nil _ _ _ _, HB.out⟩
  have hk := right_kind hd
  have hoff := right_off hd
  have hlen := has_len N.kind
  have hputB := right_put hd
  have e1 : put10N N = encSize N := by unfold put10N; rw [hd]; rfl
  have e2 : put10C N = 0 := by unfold put10C; rw [hd]; rfl
  have HE : Hid (encSize N = 1 + encN (noteM N) (noteL N)) := rfl
  have HPB := Lib.hid hputB
  have HOFF := Lib.hid hoff
  have E1 := Lib.hid e1
  have E2 := Lib.hid e2
  clear e1 e2 hd hputB hoff
  have HN2 := Lib.hid (hn.below hb2')
  have HT2 := Lib.hid (HT.out.below hb2' (Nat.le_refl _))
  obtain ⟨k, hk17, hkk⟩ : ∃ k : Nat, k < 17 ∧ N.kind = (k : Int) := ⟨N.kind.toNat, by omega, by omega⟩
  have c0 : w2.cell? ⟨w.heap.size, 0, none⟩ = some (.int .i64 (k : Int)) := by rw [← hkk]; exact hr2.cell (i := 0) (by omega)
  have ct : w2.cell? ⟨0, k, none⟩ = some (.string (strL (hasL N.kind))) := by
    rw [HT2.out.c k hk17, ← hasL_table ⟨hk.1, by omega⟩, hkk, Int.toNat_natCast]
  have q0 : (0 : Int) ≤ (k : Int) := by omega
  have q1 : (k : Int) < 17 := by omega
  have HROW := Lib.hid hr2
  have HB2 := Lib.hid hb2'
  have HKK := Lib.hid hkk
  have hLen : (strL (hasL N.kind)).size = noteL N := size_has N.kind
  have hL4 : noteL N ≤ 4 := hlen
  have HAT := Lib.hid (strL_at N.kind)
  have HLEN := Lib.hid hLen
  have HLT := Lib.hid (World.rowIs.lt hr2)
  generalize strL (hasL N.kind) = sL at *
  have hit := World.iter_heap w2 sL 0
  have hbi : Below w2.heap.size w2 (w2.iter sL 0) := (Below.refl _ _).alloc (Nat.le_refl _) _
  clear hr2 hb2' hC hlen hkk hk17 hn HT HT2 hLen hlt0
  go_wp2
  clear ct c0 q0 q1
  go_loopw [4, 6] (fun l _ wr => ∃ j : Nat, j ≤ noteL N ∧ wr.heap[w2.heap.size]? = some (.stringIter sL j) ∧ Hid (ListOf wr (w2.heap.size + 1) j (noteM N) (noteE N) l) ∧ Hid (Below w2.heap.size w2 wr) ∧ Hid (w2.heap.size + 1 ≤ wr.heap.size)) (fun _ _ wr => noteL N - wr.iterPos w2.heap.size)
  case atStart => exact ⟨0, by omega, hit, ListOf.nil _ _ _ _, hbi, by show _ ≤ (w2.heap.push _).size; simp⟩
  case round =>
    clear hit hbi
    obtain ⟨j, hj, hk', hl, hbw, hsz⟩ := hrel
    have hmu : wr.iterPos w2.heap.size = j := by simp [World.iterPos, hk']
    by_cases hlt : j < noteL N
    · have hlt' : j < sL.size := by rw [HLEN.out]; exact hlt
      have h7 : seven (letter N.kind j) := letter_seven hlt
      have hat := HAT.out j hlt'
      have h128 : letter N.kind j < 128 := by rcases h7 with h | h | h | h | h | h | h <;> omega
      have hnext : ∀ ty, (Instr.next (.pointer (some ⟨w2.heap.size, 0, none⟩)) true ty).run Tryd.prog wr = _ := fun ty => Lib.run_next_ascii_at wr w2.heap.size sL j ty hk' hlt' (by omega)
      rw [hat] at hnext
      have hk1 := Lib.iterAt_heap wr w2.heap.size sL j (j + 1) hk'
      have HB1 := Lib.hid (Lib.below_iterAt hbw.out (Nat.le_refl _) sL (j + 1))
      have HL1 := Lib.hid (list_iter (p' := j + 1) hk' (Nat.lt_succ_self _) hl.out)
      have HS1 : Hid (w2.heap.size + 1 ≤ (wr.iterAt w2.heap.size sL (j + 1)).heap.size) := Lib.hid (by rw [Lib.iterAt_size]; exact hsz.out)
      have hmk : Hid (noteM N j = partM N (letter N.kind j)) := rfl
      have hek : Hid (noteE N j = partE N (letter N.kind j)) := rfl
      generalize letter N.kind j = c at *
      have HTR := Lib.hid (fun W => treat_any c h7 W)
      have HK1 := Lib.hid hk1
      have eE := enc_enters h7
      unfold Enters at eE
      have H7 := Lib.hid h7
      clear hk' hk1 h128 h7 hl hbw hsz hat
      generalize wr.iterAt w2.heap.size sL (j + 1) = W1 at *
      go_wp2_with fail
      refine (HTR.out _).mono ?_
      rintro _ w3 ⟨a, rfl, ha3, hb3⟩
      have HK3 := Lib.hid ((hb3.block _ (Array.getElem?_eq_some_iff.1 HK1.out).1).trans HK1.out)
      have HB3 := Lib.hid (HB1.out.trans (hb3.mono HB1.out.size))
      have HL3 := Lib.hid (HL1.out.below hb3)
      have HS3 := Lib.hid (Nat.le_trans HS1.out hb3.size)
      have HEN := Lib.hid (encode_any c H7.out w.heap.size a w2.heap.size N P Q R w3 ha3 (World.rowIs.of_block HROW.out (HB3.out.block _ HLT.out)) HLT.out HB3.out.size (fun b hb => ⟨slice_below (slice_any HN2.out.p hb) HB3.out, slice_below (slice_any HN2.out.q hb) HB3.out, slice_below (slice_any HN2.out.r hb) HB3.out⟩))
      clear hb3 ha3 HTR hnext HK1 HB1 HL1 HS1
      unfold treatV encV
      rw [tfn_cells]
      have kf := field_2
      go_wp2_with fail
      refine HEN.out.mono ?_
      rintro _ w4 ⟨A, cap, rfl, hs4, hb4⟩
      have HSR : Hid (∀ g, ((u4.ownBlock = some g ∧ w2.heap.size + 1 ≤ g ∧ g < w3.heap.size) ∨ w4.heap.size ≤ g) → SliceOf w4 g (noteM N j) (noteE N j) (.slice A (partM N c) cap)) := Lib.hid (fun g hg => by
        rw [hmk.out, hek.out]
        exact hs4 g (by rcases hg with ⟨_, h1, h2⟩ | h <;> omega))
      have HB4 := Lib.hid hb4
      have HJ : Hid (j ≤ 1000000) := Lib.hid (by omega)
      clear hs4 hb4 HEN hmk hek eE kf
      go_wp2_with (at_builtin
                   refine append_new (by rfl) (.tmp 20) (.tmp 25) (by rfl) (w2.heap.size + 1) j (noteM N) (noteE N) _ (by rfl) w3 w4 w3 HL3.out HB4.out (Below.refl _ _) HS3.out (.slice A (partM N c) cap) HSR.out (by rfl) (by rfl) (by rfl) HJ.out ?_
                   intro v5 w5 hl5 hb5)
      have hk5 : w5.heap[w2.heap.size]? = some (.stringIter sL (j + 1)) := (hb5.block _ (Nat.lt_succ_self _)).trans HK3.out
      have hm2 : w5.iterPos w2.heap.size = j + 1 := by simp [World.iterPos, hk5]
      go_roundw
      case rel => exact ⟨j + 1, by omega, hk5, hl5, HB3.out.trans (hb5.mono (Nat.le_succ _)), Nat.le_trans HS3.out hb5.size⟩
      case measure => rw [hmu, hm2]; omega
    · obtain rfl : j = noteL N := by omega
      have hnext : ∀ ty, (Instr.next (.pointer (some ⟨w2.heap.size, 0, none⟩)) true ty).run Tryd.prog wr = _ := fun ty => Lib.run_next_end_at wr w2.heap.size sL (noteL N) ty hk' (by rw [HLEN.out]; omega)
      have hkin : IntKind.u8.wrap N.kind = N.kind := u8_in _ (by omega)
      have hbt : N.kind = ((bt N.kind.toNat).toNat : Int) := by rw [bt_toNat (by omega)]; omega
      have HKI := Lib.hid hkin
      have HBT := Lib.hid hbt
      have HEN : Hid (encN (noteM N) (noteL N) ≤ 2008) := Lib.hid (by have h := HOFF.out; unfold encN; rw [off_m2]; omega)
      have HPU := Lib.hid (put_own (noteL N) (noteM N) (noteE N) u4 wr hl.out.parts (by have h := HOFF.out; omega))
      clear hkin hbt hk hk' hmu hlt hl
      go_wp2_with fail
      refine HPU.out.mono ?_
      rintro _ w5 ⟨r, rfl, ho5, hb5⟩
      have e3 : putN (noteL N) (noteM N) = encN (noteM N) (noteL N) := by unfold putN; rw [HPB.out]; rfl
      rw [e3] at ho5
      have hb53 : Below w2.heap.size w2 w5 := hbw.out.trans (hb5.mono hbw.out.size)
      have c0 : w5.cell? ⟨w.heap.size, 0, none⟩ = some (.int .i64 N.kind) := (World.rowIs.of_block HROW.out (hb53.block _ (World.rowIs.lt HROW.out))).cell (i := 0) (by omega)
      have hbA : Below w.heap.size w w5 := HB2.out.trans (hb53.mono HB2.out.size)
      have HBA := Lib.hid hbA
      have HO5 := Lib.hid ho5
      have kx := HKI.out
      have HLE := Lib.hid hbA.size
      clear hbw ho5 hb5 hb53 hbA e3 HPU hnext
      go_wp2_with (at_builtin
                   refine append_bytes (by rfl) (.tmp 35) (.tmp 36) (by rfl) w5.heap.size 1 (fun _ => bt N.kind.toNat) _ (by rfl) (own_one w5 _ _ HBT.out) (w5.heap.size + 1) (encN (noteM N) (noteL N)) (encB (noteM N) (noteE N) (noteL N)) _ (by rfl) ((HO5.out.below ((Below.refl _ _).alloc (Nat.le_refl _) _)).slice (.inr (by simp))) (by have h := HEN.out; omega) (by simp) ?_
                   intro v6 w6 ho6 hg6 _)
      go_ret2
      exact ⟨_, by rw [E2.out]; rfl, by rw [E1.out, HE.out]; exact own_weak ho6 HLE.out, (HBA.out.alloc HLE.out _).grown hg6 (Nat.le_trans HLE.out (by simp)) (fun b hb' => by simp [Value.ownBlock] at hb'; have h := HLE.out; omega)⟩
end Go.Proofs.YtagehbeliifbkaaDoor.Note

namespace Go.Proofs.YtagehbeliifbkaaDoor.Note
open Go Go.RowKit Go.Proofs.YtagehbeliifbkaaDoor.Aid Go.Proofs.YtagehbeliifbkaaDoor.Law01 Go.Proofs.YtagehbeliifbkaaDoor.Field

theorem read_enc {E : Nat → BitVec 8} {n k : Nat} (h0 : 0 < n) (hs : SplitSpec (tail1 E) (n - 1) k 0) (hk : k = (hasL (kindOf E)).length) (hw : ∀ i, i < k → isW (letter (kindOf E) i) = true → fieldM (tail1 E) i = 16) (hr : rightN (readN E) = true) : IsEnc E n (readN E) := by
  obtain ⟨_, h1, h2⟩ := put_split hs
  have hL : noteL (readN E) = k := by unfold noteL; rw [readN_kind, hk]
  have hm : ∀ i, i < k → noteM (readN E) i = fieldM (tail1 E) i ∧ ∀ j, j < noteM (readN E) i → noteE (readN E) i j = fieldE (tail1 E) i j := fun i hi => by
    have hb := build_set (kindOf E) (fieldM (tail1 E)) (fieldE (tail1 E)) i _ (Nat.le_refl _) (hk ▸ hi)
    change partM (readN E) _ = _ ∧ ∀ q, q < partM (readN E) _ → partE (readN E) _ q = _ at hb
    unfold noteM noteE
    rw [readN_kind]
    cases hc : isW (letter (kindOf E) i) with
    | true =>
      have h16 := hw i hi hc
      rw [hc] at hb
      simp only [if_true] at hb
      refine ⟨by rw [hb.1, h16], fun j hj => ?_⟩
      rw [hb.2 j hj]
      unfold wordE
      rw [if_pos h16]
    | false =>
      rw [hc] at hb
      simp only [Bool.false_eq_true, if_false] at hb
      exact hb
  refine ⟨hr, ?_, fun j hj => ?_⟩
  · unfold encSize
    rw [hL, encN_congr k (fun i hi => (hm i hi).1), h1]
    omega
  · unfold encByte cat
    by_cases e : j < 1
    · rw [if_pos e, readN_kind]
      obtain rfl : j = 0 := by omega
      apply BitVec.eq_of_toNat_eq
      rw [bt_toNat (by unfold kindOf; have := (E 0).isLt; omega)]
      rfl
    · rw [if_neg e, hL]
      have h3 := encB_congr (e := noteE (readN E)) (e' := fieldE (tail1 E)) k hm (j - 1) (by rw [encN_congr k (fun i hi => (hm i hi).1), h1]; omega)
      rw [h3, h2 (j - 1) (by omega)]
      unfold tail1
      rw [show j - 1 + 1 = j by omega]
theorem read_none {E : Nat → BitVec 8} {n i : Nat} (hi : i < (hasL (kindOf E)).length) (hw : isW (letter (kindOf E) i) = true) (h : fieldM (tail1 E) i ≠ 16) (M : NoteP) : ¬ IsEnc E n M := fun hM => by
  have hk := (enc_kind hM).2
  have h2 := (enc_split hM).2 i (by unfold noteL; rw [hk]; exact hi)
  refine h (h2.1.trans ?_)
  unfold noteM
  rw [hk]
  rcases of_decide_eq_true hw with e | e <;> rw [e] <;> rfl
theorem kind_none {E : Nat → BitVec 8} {n : Nat} (h : ¬ (1 ≤ kindOf E ∧ kindOf E < 17)) (M : NoteP) : ¬ IsEnc E n M := fun hM => by
  have hk := (enc_kind hM).2
  have h2 := right_kind hM.1
  rw [hk] at h2
  exact h ⟨h2.1, by omega⟩
end Go.Proofs.YtagehbeliifbkaaDoor.Note

namespace Go.Proofs.YtagehbeliifbkaaDoor.Note
open Go Go.RowKit Go.Proofs.YtagehbeliifbkaaDoor.Aid Go.Proofs.YtagehbeliifbkaaDoor.Law01 Go.Proofs.YtagehbeliifbkaaDoor.Field

/-- The three slices lie in blocks from base on: they stay as long as those blocks do. -/
theorem NoteFrom.keep {W W' : World} {base base' : Nat} {N : NoteP} {P Q R : Value} (h : NoteFrom W base N P Q R) (hk : ∀ b, base ≤ b → b < W.heap.size → W'.heap[b]? = W.heap[b]?) (hs : W.heap.size ≤ W'.heap.size) (hb : base' ≤ base) : NoteFrom W' base' N P Q R := by
  have key : ∀ (m : Nat) (f : Nat → BitVec 8) (v : Value), (∀ g, (g < base ∨ W.heap.size ≤ g) → SliceOf W g m f v) → ∀ g2, (g2 < base' ∨ W'.heap.size ≤ g2) → SliceOf W' g2 m f v := fun m f v hv g2 hg2 => by
    obtain ⟨A, c, he, hc, hr⟩ := hv W.heap.size (.inr (Nat.le_refl _))
    refine ⟨A, c, he, hc, fun h0 => ?_⟩
    obtain ⟨sb, so, hA, _, hcell⟩ := hr h0
    have hlt : sb < W.heap.size := block_lt_of_cell (hcell 0 h0)
    have hsb : base ≤ sb := by
      by_cases e : sb < base
      · obtain ⟨A', c', he', _, hr'⟩ := hv sb (.inl e)
        obtain ⟨sb', so', hA', hne', _⟩ := hr' h0
        rw [he] at he'
        simp only [Value.slice.injEq, true_and] at he'
        rw [← he'.1, hA] at hA'
        simp only [Option.some.injEq, Addr.mk.injEq, and_true] at hA'
        exact absurd hA'.1.symm hne'
      · omega
    exact ⟨sb, so, hA, by omega, fun j hj => by rw [World.cell?_of_block (a := ⟨sb, so + j, none⟩) (hk sb hsb hlt)]; exact hcell j hj⟩
  exact ⟨key _ _ _ h.p, key _ _ _ h.q, key _ _ _ h.r⟩
theorem NoteFrom.set {W : World} {base c m : Nat} {f : Nat → BitVec 8} {V : Value} {N : NoteP} {P Q R : Value} (hc : seven c) (h : NoteFrom W base N P Q R) (hv : ∀ g, (g < base ∨ W.heap.size ≤ g) → SliceOf W g m f V) : NoteFrom W base (setL c m f N) (setP c V P) (setQ c V Q) (setR c V R) := by
  rcases hc with rfl | rfl | rfl | rfl | rfl | rfl | rfl
  · exact ⟨h.p, h.q, h.r⟩
  · exact ⟨h.p, h.q, h.r⟩
  · exact ⟨h.p, h.q, h.r⟩
  · exact ⟨h.p, h.q, h.r⟩
  · exact ⟨hv, h.q, h.r⟩
  · exact ⟨h.p, hv, h.r⟩
  · exact ⟨h.p, h.q, hv⟩
theorem NoteAt.shapes {W : World} {N : NoteP} {P Q R : Value} (h : NoteAt W N P Q R) : (∃ A c m, P = .slice A m c) ∧ (∃ A c m, Q = .slice A m c) ∧ ∃ A c m, R = .slice A m c := by
  obtain ⟨⟨_, _, rfl, _⟩, ⟨_, _, rfl, _⟩, ⟨_, _, rfl, _⟩⟩ := h
  exact ⟨⟨_, _, _, rfl⟩, ⟨_, _, _, rfl⟩, ⟨_, _, _, rfl⟩⟩
set_option maxRecDepth 100000 in
set_option maxHeartbeats 8000000 in
theorem read_own10 (A : Option Addr) (c n : Nat) (E : Nat → BitVec 8) (w : World) (ht : Table10 w) (hn : n ≤ 100000) (h : SliceOf w w.heap.size n E (.slice A n c)) :
    Calls Tryd.prog 9 #[.slice A n c] w (ReadOwn E n w) := by
  have HZ0 := Lib.hid (row_new w #[.int .i64 0, .string ⟨#[]⟩, .string ⟨#[]⟩, .int .u8 0, .int .u8 0, .int .u8 0, .int .u8 0, .int .u8 0, .int .u8 0, .int .u8 0, .int .u8 0, .int .u8 0, .int .u8 0, .int .u8 0, .int .u8 0, .int .u8 0, .int .u8 0, .int .u8 0, .int .u8 0, .int .u8 0, .int .u8 0, .int .u8 0, .int .u8 0, .int .u8 0, .int .u8 0, .int .u8 0, .int .u8 0, .int .u8 0, .int .u8 0, .int .u8 0, .int .u8 0, .int .u8 0, .int .u8 0, .int .u8 0, .int .u8 0, .slice none 0 0, .slice none 0 0, .slice none 0 0] 26 38 _ (by rfl) (zeroCells_at 0 _ rfl))
  have HB0 : Hid (Below w.heap.size w (w.alloc (.cells #[.int .i64 0, .string ⟨#[]⟩, .string ⟨#[]⟩, .int .u8 0, .int .u8 0, .int .u8 0, .int .u8 0, .int .u8 0, .int .u8 0, .int .u8 0, .int .u8 0, .int .u8 0, .int .u8 0, .int .u8 0, .int .u8 0, .int .u8 0, .int .u8 0, .int .u8 0, .int .u8 0, .int .u8 0, .int .u8 0, .int .u8 0, .int .u8 0, .int .u8 0, .int .u8 0, .int .u8 0, .int .u8 0, .int .u8 0, .int .u8 0, .int .u8 0, .int .u8 0, .int .u8 0, .int .u8 0, .int .u8 0, .int .u8 0, .slice none 0 0, .slice none 0 0, .slice none 0 0] 26))) := Lib.hid ((Below.refl _ _).alloc (Nat.le_refl _) _)
  have HSL := Lib.hid h
  have HT := Lib.hid ht
  clear ht
  by_cases h0 : n = 0
  · subst h0
    clear h
    go_enter Tryd.func9, Tryd.ntmps9
    go_upto_region 1 with fail
    generalize w.alloc (.cells #[.int .i64 0, .string ⟨#[]⟩, .string ⟨#[]⟩, .int .u8 0, .int .u8 0, .int .u8 0, .int .u8 0, .int .u8 0, .int .u8 0, .int .u8 0, .int .u8 0, .int .u8 0, .int .u8 0, .int .u8 0, .int .u8 0, .int .u8 0, .int .u8 0, .int .u8 0, .int .u8 0, .int .u8 0, .int .u8 0, .int .u8 0, .int .u8 0, .int .u8 0, .int .u8 0, .int .u8 0, .int .u8 0, .int .u8 0, .int .u8 0, .int .u8 0, .int .u8 0, .int .u8 0, .int .u8 0, .int .u8 0, .int .u8 0, .slice none 0 0, .slice none 0 0, .slice none 0 0] 26) = w1 at *
    go_wp2_with (refine store_whole (by rfl) 26 (.tmp 2) (.tmp 20) (by rfl) w.heap.size _ 38 _ (noteF (blank 0) (.slice none 0 0) (.slice none 0 0) (.slice none 0 0)) HZ0.out (by rfl) _ (by rfl) (by kernel_rfl) (by rfl) (zeroCells_at 0 _ (by rfl)) (fun i _ => noteF_one _ _ _ _ rfl rfl rfl i) ?_
                 intro wz hrz hoz)
    exact bodyPost_ret (results_row_tmp rfl _ w.heap.size _ _ _ _ (by rfl) hrz Tryd.underlying26 rfl (by kernel_rfl)) rfl ⟨blank 0, _, _, _, 3, .inr ⟨rfl, rfl, fun M hM => by have := (enc_kind hM).1; omega⟩, rfl, NoteFrom.blank _ _ 0, hoz.below HB0.out (Nat.le_refl _)⟩
  have hcap : n ≤ c := by obtain ⟨A', c', he, hc, _⟩ := h; simp only [Value.slice.injEq, true_and] at he; omega
  obtain ⟨sb, so, rfl, hcell⟩ := SliceOf.at_ h (by omega)
  have hc0 := hcell 0 (by omega)
  have hsb := block_lt_of_cell hc0
  rw [Nat.add_zero] at hc0
  obtain ⟨A1, hA1, hrun⟩ := cut_run (P := Tryd.prog) 24 5 Tryd.underlying24 (by kernel_rfl) sb so n c 1 (by omega) hcap
  have hS1 : SliceOf w w.heap.size (n - 1) (tail1 E) (.slice A1 (n - 1) (c - 1)) := ⟨A1, c - 1, rfl, by omega, fun h1 => ⟨sb, so + 1, hA1 h1, by have : sb < w.heap.size := hsb; omega, fun j hj => by
    rw [show so + 1 + j = so + (j + 1) by omega]
    exact hcell (j + 1) (by omega)⟩⟩
  have HS1 := Lib.hid hS1
  have hlenB : ((n : Int) == 0) = false := by simp; omega
  have q1 : (0 : Int) < (n : Int) := by omega
  have HRUN := Lib.hid hrun
  have hkE : ((E 0).toNat : Int) = kindOf E := rfl
  have HKW : Hid (0 ≤ kindOf E ∧ kindOf E < 256) := Lib.hid (by unfold kindOf; have := (E 0).isLt; omega)
  clear h hcell hA1 hS1 hrun
  go_enter Tryd.func9, Tryd.ntmps9
  go_upto_region 1 with fail
  generalize w.alloc (.cells #[.int .i64 0, .string ⟨#[]⟩, .string ⟨#[]⟩, .int .u8 0, .int .u8 0, .int .u8 0, .int .u8 0, .int .u8 0, .int .u8 0, .int .u8 0, .int .u8 0, .int .u8 0, .int .u8 0, .int .u8 0, .int .u8 0, .int .u8 0, .int .u8 0, .int .u8 0, .int .u8 0, .int .u8 0, .int .u8 0, .int .u8 0, .int .u8 0, .int .u8 0, .int .u8 0, .int .u8 0, .int .u8 0, .int .u8 0, .int .u8 0, .int .u8 0, .int .u8 0, .int .u8 0, .int .u8 0, .int .u8 0, .int .u8 0, .slice none 0 0, .slice none 0 0, .slice none 0 0] 26) = w1 at *
  have cb := (HB0.out.cell (p := ⟨sb, so, none⟩) hsb).trans hc0
  rw [hkE] at cb hc0
  go_wp2_with fail
  refine (kind_any (kindOf E) _).mono ?_
  rintro _ wq ⟨rfl, hq⟩
  subst wq
  by_cases hkin : 1 ≤ kindOf E ∧ kindOf E < 17
  rotate_left
  · rw [decide_eq_false hkin]
    have HN := Lib.hid (kind_none (n := n) hkin)
    clear hkin cb hc0
    go_wp2_with (refine store_whole (by rfl) 26 (.tmp 2) (.tmp 20) (by rfl) w.heap.size _ 38 _ (noteF (blank 0) (.slice none 0 0) (.slice none 0 0) (.slice none 0 0)) HZ0.out (by rfl) _ (by rfl) (by kernel_rfl) (by rfl) (zeroCells_at 0 _ (by rfl)) (fun i _ => noteF_one _ _ _ _ rfl rfl rfl i) ?_
                 intro wz hrz hoz)
    exact bodyPost_ret (results_row_tmp rfl _ w.heap.size _ _ _ _ (by rfl) hrz Tryd.underlying26 rfl (by kernel_rfl)) rfl ⟨blank 0, _, _, _, 3, .inr ⟨rfl, rfl, HN.out⟩, rfl, NoteFrom.blank _ _ 0, hoz.below HB0.out (Nat.le_refl _)⟩
  rw [decide_eq_true hkin]
  have HKI := Lib.hid hkin
  have hrun' : ∀ (kd : IntKind) (W : World), (Instr.sliceAt 24 (.slice (some ⟨sb, so, none⟩) n c) (some (.int kd 1)) none none).run Tryd.prog W = .ok (.slice A1 (n - 1) (c - 1)) W := HRUN.out
  have HR0 := Lib.hid (row_new w1 #[.int .i64 0, .string ⟨#[]⟩, .string ⟨#[]⟩, .int .u8 0, .int .u8 0, .int .u8 0, .int .u8 0, .int .u8 0, .int .u8 0, .int .u8 0, .int .u8 0, .int .u8 0, .int .u8 0, .int .u8 0, .int .u8 0, .int .u8 0, .int .u8 0, .int .u8 0, .int .u8 0, .int .u8 0, .int .u8 0, .int .u8 0, .int .u8 0, .int .u8 0, .int .u8 0, .int .u8 0, .int .u8 0, .int .u8 0, .int .u8 0, .int .u8 0, .int .u8 0, .int .u8 0, .int .u8 0, .int .u8 0, .int .u8 0, .slice none 0 0, .slice none 0 0, .slice none 0 0] 26 38 _ (by rfl) (zeroCells_at 0 _ rfl))
  have HBN : Hid (Below w1.heap.size w1 (w1.alloc (.cells #[.int .i64 0, .string ⟨#[]⟩, .string ⟨#[]⟩, .int .u8 0, .int .u8 0, .int .u8 0, .int .u8 0, .int .u8 0, .int .u8 0, .int .u8 0, .int .u8 0, .int .u8 0, .int .u8 0, .int .u8 0, .int .u8 0, .int .u8 0, .int .u8 0, .int .u8 0, .int .u8 0, .int .u8 0, .int .u8 0, .int .u8 0, .int .u8 0, .int .u8 0, .int .u8 0, .int .u8 0, .int .u8 0, .int .u8 0, .int .u8 0, .int .u8 0, .int .u8 0, .int .u8 0, .int .u8 0, .int .u8 0, .int .u8 0, .slice none 0 0, .slice none 0 0, .slice none 0 0] 26))) := Lib.hid ((Below.refl _ _).alloc (Nat.le_refl _) _)
  have HLT : Hid (w.heap.size < w1.heap.size) := Lib.hid (World.rowIs.lt HZ0.out)
  clear hkin
  go_upto_region 4 with (refine store_whole (by rfl) 26 (.tmp 4) (.tmp 25) (by rfl) w1.heap.size _ 38 _ (noteF (blank (kindOf E)) (.slice none 0 0) (.slice none 0 0) (.slice none 0 0)) HR0.out (by rfl) _ (by rfl) (by kernel_rfl) (by rfl) (zeroCells_at (kindOf E) _ (by rfl)) (fun i _ => noteF_one _ _ _ _ rfl rfl rfl i) ?_
                         intro w2 hr2 ho2)
  have hb2 : Below w1.heap.size w1 w2 := ho2.below HBN.out (Nat.le_refl _)
  have HZ2 := Lib.hid (World.rowIs.of_block HZ0.out (hb2.block _ (World.rowIs.lt HZ0.out)))
  have HR2 := Lib.hid hr2
  have HB2 := Lib.hid (HB0.out.trans (hb2.mono HB0.out.size))
  have HSP0 := Lib.hid (split_own A1 (c - 1) (n - 1) (tail1 E) w2 (by omega) (slice_any (slice_below HS1.out HB2.out) (Nat.le_refl _)))
  obtain ⟨g, hg⟩ : ∃ g, g = w1.heap.size := ⟨_, rfl⟩
  have HG2 : Hid (g < w2.heap.size) := Lib.hid (by rw [hg]; exact World.rowIs.lt HR2.out)
  rw [← hg] at HR2 HLT ⊢
  clear hb2 hr2 ho2 HR0 HBN HZ0 HB0 HS1 cb hc0 HRUN hlenB hg
  go_wp2_with fail
  refine HSP0.out.mono ?_
  rintro _ w5 ⟨k, ce, v, R, hspec, rfl, hop, hb5⟩
  have HSP := Lib.hid hspec
  have HZ5 := Lib.hid (World.rowIs.of_block HZ2.out (hb5.block _ (World.rowIs.lt HZ2.out)))
  have HR5 := Lib.hid (World.rowIs.of_block HR2.out (hb5.block _ (World.rowIs.lt HR2.out)))
  have HB5 := Lib.hid (HB2.out.trans (hb5.mono HB2.out.size))
  have HG5 := Lib.hid (Nat.lt_of_lt_of_le HG2.out hb5.size)
  have HT5 := Lib.hid (HT.out.below HB5.out (Nat.le_refl _))
  have HB25 := Lib.hid hb5
  clear hrun' HR2 HZ2 HB2 hb5 hspec HSP0
  by_cases hce : ce = 0
  rotate_left
  · have HN := Lib.hid (fun M => enc_none (n := n) HSP.out (.inl hce) M)
    have e1 : (ce == 0) = false := by simp; omega
    have e2 : (ce != 0) = true := by simp; omega
    clear hop
    go_wp2_with (refine store_whole (by rfl) 26 (.tmp 2) (.tmp 44) (by rfl) w.heap.size _ 38 _ (noteF (blank 0) (.slice none 0 0) (.slice none 0 0) (.slice none 0 0)) HZ5.out (by rfl) _ (by rfl) (by kernel_rfl) (by rfl) (zeroCells_at 0 _ (by rfl)) (fun i _ => noteF_one _ _ _ _ rfl rfl rfl i) ?_
                 intro wz hrz hoz)
    exact bodyPost_ret (results_row_tmp rfl _ w.heap.size _ _ _ _ (by rfl) hrz Tryd.underlying26 rfl (by kernel_rfl)) rfl ⟨blank 0, _, _, _, 3, .inr ⟨rfl, rfl, HN.out⟩, rfl, NoteFrom.blank _ _ 0, hoz.below HB5.out (Nat.le_refl _)⟩
  subst hce
  rw [if_pos rfl] at hop
  obtain ⟨LA, lcap, rfl⟩ := hop.shape
  obtain ⟨kk, hk17, hkk⟩ : ∃ kk : Nat, kk < 17 ∧ kindOf E = (kk : Int) := ⟨(kindOf E).toNat, by have := HKI.out; omega, by have := HKI.out; omega⟩
  have c4 : w5.cell? ⟨g, 0, none⟩ = some (.int .i64 (kk : Int)) := by rw [← hkk]; exact HR5.out.cell (i := 0) (by omega)
  have ct : w5.cell? ⟨0, kk, none⟩ = some (.string (strL (hasL (kindOf E)))) := by
    rw [HT5.out.c kk hk17, ← hasL_table HKI.out, hkk, Int.toNat_natCast]
  have q2 : (0 : Int) ≤ (kk : Int) := by omega
  have q3 : (kk : Int) < 17 := by omega
  have hLen : (strL (hasL (kindOf E))).size = (hasL (kindOf E)).length := size_has _
  have HAT := Lib.hid (strL_at (kindOf E))
  have HLEN := Lib.hid hLen
  have hl4 := has_len (kindOf E)
  generalize strL (hasL (kindOf E)) = sL at *
  clear HT5 hkE q1 hk17 hkk hLen hsb hcap
  by_cases hkl : k = (hasL (kindOf E)).length
  rotate_left
  · have HN := Lib.hid (fun M => enc_none (n := n) HSP.out (.inr (.inr hkl)) M)
    have e1 : ((k : Int) != (sL.size : Int)) = true := by have h := HLEN.out; simp; omega
    clear hop
    go_wp2_with (refine store_whole (by rfl) 26 (.tmp 2) (.tmp 44) (by rfl) w.heap.size _ 38 _ (noteF (blank 0) (.slice none 0 0) (.slice none 0 0) (.slice none 0 0)) HZ5.out (by rfl) _ (by rfl) (by kernel_rfl) (by rfl) (zeroCells_at 0 _ (by rfl)) (fun i _ => noteF_one _ _ _ _ rfl rfl rfl i) ?_
                 intro wz hrz hoz)
    exact bodyPost_ret (results_row_tmp rfl _ w.heap.size _ _ _ _ (by rfl) hrz Tryd.underlying26 rfl (by kernel_rfl)) rfl ⟨blank 0, _, _, _, 3, .inr ⟨rfl, rfl, HN.out⟩, rfl, NoteFrom.blank _ _ 0, hoz.below HB5.out (Nat.le_refl _)⟩
  obtain ⟨L, hL⟩ : ∃ L, L = (hasL (kindOf E)).length := ⟨_, rfl⟩
  rw [← hL] at hkl hl4 HLEN
  subst hkl
  have e1 : ((k : Int) != (sL.size : Int)) = false := by have h := HLEN.out; simp; omega
  have hLk := Lib.hid hL
  have hM5 : Hid (∀ j, j < k → fieldM (tail1 E) j ≤ 500) := Lib.hid (fun j hj => (step_ok (HSP.out.1 j hj).2).2.1)
  have HOP := Lib.hid hop
  have HNF0 : Hid (NoteFrom w5 w2.heap.size (build (kindOf E) (fieldM (tail1 E)) (fieldE (tail1 E)) 0) (.slice none 0 0) (.slice none 0 0) (.slice none 0 0)) := Lib.hid (NoteFrom.blank _ _ _)
  have hit := World.iter_heap w5 sL 0
  have hli : Cache.Leaves (fun b => b = g) w5 (w5.iter sL 0) := .of_below ((Below.refl _ _).alloc (Nat.le_refl _) _)
  have hri : (w5.iter sL 0).rowIs g 26 38 (noteF (build (kindOf E) (fieldM (tail1 E)) (fieldE (tail1 E)) 0) (.slice none 0 0) (.slice none 0 0) (.slice none 0 0)) := HR5.out.of_block (((Below.refl w5.heap.size w5).alloc (Nat.le_refl _) _).block _ HG5.out)
  clear hL hop
  go_wp2
  clear c4 ct q2 q3 e1
  go_loopw [7, 8] (fun _ _ wr => ∃ (j : Nat) (P Q R' : Value), j ≤ k ∧ wr.heap[w5.heap.size]? = some (.stringIter sL j) ∧ Hid (wr.rowIs g 26 38 (noteF (build (kindOf E) (fieldM (tail1 E)) (fieldE (tail1 E)) j) P Q R')) ∧ Hid (NoteFrom w5 w2.heap.size (build (kindOf E) (fieldM (tail1 E)) (fieldE (tail1 E)) j) P Q R') ∧ Hid (Cache.Leaves (fun b => b = g) w5 wr) ∧ Hid (∀ i, i < j → isW (letter (kindOf E) i) = true → fieldM (tail1 E) i = 16)) (fun _ _ wr => k - wr.iterPos w5.heap.size)
  case atStart => exact ⟨0, _, _, _, by omega, hit, hri, HNF0.out, hli, fun i hi => by omega⟩
  case round =>
    clear hit hri hli HNF0 HR5
    obtain ⟨j, P, Q, R', hj, hk', hrow, hnf, hlv, hwd⟩ := hrel
    have hmu : wr.iterPos w5.heap.size = j := by simp [World.iterPos, hk']
    by_cases hlt : j < k
    · have hlt' : j < sL.size := by rw [HLEN.out]; exact hlt
      have hll : j < (hasL (kindOf E)).length := by rw [← hLk.out]; exact hlt
      have h7 : seven (letter (kindOf E) j) := letter_seven hll
      have hat := HAT.out j hlt'
      have hnext : ∀ ty, (Instr.next (.pointer (some ⟨w5.heap.size, 0, none⟩)) true ty).run Tryd.prog wr = _ := fun ty => Lib.run_next_ascii_at wr w5.heap.size sL j ty hk' hlt' (by rcases h7 with h | h | h | h | h | h | h <;> omega)
      rw [hat] at hnext
      have hk1 := Lib.iterAt_heap wr w5.heap.size sL j (j + 1) hk'
      have oth : ∀ b, b ≠ w5.heap.size → (wr.iterAt w5.heap.size sL (j + 1)).heap[b]? = wr.heap[b]? := fun b hb => Lib.iterAt_other wr w5.heap.size b sL (j + 1) hb
      have HL1 : Hid (Cache.Leaves (fun b => b = g) w5 (wr.iterAt w5.heap.size sL (j + 1))) := Lib.hid (hlv.out.trans (F' := fun b => b = w5.heap.size) ⟨rfl, rfl, rfl, by rw [Lib.iterAt_size]; exact Nat.le_refl _, fun b _ hb => oth b hb⟩ (fun x hx hxl => by omega))
      have HR1 : Hid ((wr.iterAt w5.heap.size sL (j + 1)).rowIs g 26 38 (noteF (build (kindOf E) (fieldM (tail1 E)) (fieldE (tail1 E)) j) P Q R')) := Lib.hid (hrow.out.of_block (oth g (Nat.ne_of_lt HG5.out)))
      have hbs : Hid (build (kindOf E) (fieldM (tail1 E)) (fieldE (tail1 E)) (j + 1) = setL (letter (kindOf E) j) (fieldM (tail1 E) j) (fieldE (tail1 E) j) (build (kindOf E) (fieldM (tail1 E)) (fieldE (tail1 E)) j)) := rfl
      have hwn : Hid (isW (letter (kindOf E) j) = true → fieldM (tail1 E) j ≠ 16 → ∀ M, ¬ IsEnc E n M) := Lib.hid (fun h1 h2 M => read_none hll h1 h2 M)
      have hw1 : Hid ((isW (letter (kindOf E) j) = true → fieldM (tail1 E) j = 16) → ∀ i, i < j + 1 → isW (letter (kindOf E) i) = true → fieldM (tail1 E) i = 16) := Lib.hid (fun h i hi hw => by
        by_cases e : i = j
        · subst e; exact h hw
        · exact hwd.out i (by omega) hw)
      have hm1 : fieldM (tail1 E) j ≤ 500 := hM5.out j hlt
      have HPJ : Hid (∀ g, (g < w2.heap.size ∨ w5.heap.size ≤ g) → SliceOf w5 g (fieldM (tail1 E) j) (fieldE (tail1 E) j) (R j)) := Lib.hid (fun g hg => (HOP.out.part j hlt).slice hg)
      have hcl : ∃ lb, LA = some ⟨lb, 0, none⟩ ∧ w2.heap.size ≤ lb ∧ w5.cell? ⟨lb, j, none⟩ = some (R j) := by
        obtain ⟨lb, cap', he, hb1, _⟩ := World.ownsRow.form HOP.out.row (by omega)
        simp only [Value.slice.injEq, true_and] at he
        refine ⟨lb, he.1, hb1, ?_⟩
        rw [he.1] at HOP
        have := World.ownsRow.cellAt HOP.out.row j (by omega)
        rw [this]
        simp [hlt]
      obtain ⟨lb, rfl, hlb, hcl⟩ := hcl
      obtain ⟨Aj, cj, hRj, _, _⟩ := HPJ.out w5.heap.size (.inr (Nat.le_refl _))
      rw [hRj] at hcl HPJ
      have HCL := Lib.hid hcl
      have HLB : Hid (¬ lb = g) := Lib.hid (by have := HG2.out; omega)
      generalize letter (kindOf E) j = c at *
      have HK1 := Lib.hid hk1
      have HTR := Lib.hid (fun W => treat_any c h7 W)
      have eD := dec_enters h7
      unfold Enters at eD
      have H7 := Lib.hid h7
      clear hk' hk1 oth hcl hRj hat hll hlb h7 hrow hlv hwd
      generalize wr.iterAt w5.heap.size sL (j + 1) = W1 at *
      go_upto_region 10 with fail
      have hS : W1.drew.cell? ⟨lb, j, none⟩ = some (.slice Aj (fieldM (tail1 E) j) cj) := HL1.out.cell HCL.out HLB.out
      have q0 : (0 : Int) ≤ (j : Int) := by omega
      have q1 : (j : Int) < (k : Int) := by omega
      have kf := field_3
      refine region_mix (fun W => W.cell? ⟨lb, j, none⟩ = some (.slice Aj (fieldM (tail1 E) j) cj)) [(0, true), (3, true), (4, true), (5, true), (6, true), (1, false), (2, true), (7, false), (8, true)] (by kernel_rfl) (by kernel_rfl) hS ?_
      refine m_val rfl (by rfl) (.int .i32 (c : Int)) (fun w' hw' => by go_simp) ?_
      simp only [Act.put, List.setIfInBounds_toArray, List.set_cons_zero, List.set_cons_succ]
      refine m_val rfl (by rfl) (.slice (some ⟨lb, 0, none⟩) k lcap) (fun w' hw' => by go_simp) ?_
      simp only [Act.put, List.setIfInBounds_toArray, List.set_cons_zero, List.set_cons_succ]
      refine m_val rfl (by rfl) (.int .i64 (j : Int)) (fun w' hw' => by go_simp) ?_
      simp only [Act.put, List.setIfInBounds_toArray, List.set_cons_zero, List.set_cons_succ]
      refine m_val rfl (by rfl) (.pointer (some ⟨lb, j, none⟩)) (fun w' hw' => by go_simp) ?_
      simp only [Act.put, List.setIfInBounds_toArray, List.set_cons_zero, List.set_cons_succ]
      refine m_val rfl (by rfl) (.slice Aj (fieldM (tail1 E) j) cj) (fun w' hw' => by go_simp) ?_
      simp only [Act.put, List.setIfInBounds_toArray, List.set_cons_zero, List.set_cons_succ]
      refine m_go rfl ?_
      go_wp2_with fail
      refine (HTR.out _).mono ?_
      rintro _ w3 ⟨a, rfl, ha3, hb3⟩
      have hS3 : w3.cell? ⟨lb, j, none⟩ = some (.slice Aj (fieldM (tail1 E) j) cj) := (hb3.cell (p := ⟨lb, j, none⟩) (block_lt_of_cell hS)).trans hS
      unfold treatV
      rw [tfn_cells]
      go_wp2_with fail
      refine m_on hS3 ?_
      refine m_val rfl (by rfl) (decV c a) (fun w' hw' => by go_simp) ?_
      simp only [Act.put, List.setIfInBounds_toArray, List.set_cons_zero, List.set_cons_succ]
      unfold decV
      refine m_go rfl ?_
      go_wp2_with fail
      have HL3 := Lib.hid (HL1.out.drew.trans (F' := fun b => b = g) (.of_below hb3) (fun x hx _ => hx))
      have hr3 : w3.rowIs g 26 38 (noteF (build (kindOf E) (fieldM (tail1 E)) (fieldE (tail1 E)) j) P Q R') := World.rowIs.of_block (w := W1.drew) HR1.out (hb3.block _ (World.rowIs.lt HR1.out))
      have hk3 : w3.heap[w5.heap.size]? = some (.stringIter sL (j + 1)) := (hb3.block w5.heap.size (Array.getElem?_eq_some_iff.1 HK1.out).1).trans HK1.out
      have HK3 := Lib.hid hk3
      have hsl3 : SliceOf w3 w3.heap.size (fieldM (tail1 E) j) (fieldE (tail1 E) j) (.slice Aj (fieldM (tail1 E) j) cj) := slice_any ((HPJ.out g (.inl HG2.out)).keep (fun b hb hne => HL3.out.block b hb hne)) (Nat.le_refl _)
      obtain ⟨sp, sq, sr⟩ := hnf.out.at_.shapes
      refine (decode_any c H7.out g a _ P Q R' Aj cj _ _ w3 ha3 hr3 sp sq sr (by omega) hsl3).mono ?_
      rintro _ w4 ⟨rfl, hr4, hl4'⟩
      have hS4 : w4.cell? ⟨lb, j, none⟩ = some (.slice Aj (fieldM (tail1 E) j) cj) := hl4'.cell hS3 HLB.out
      have HK4 := Lib.hid ((hl4'.block w5.heap.size (Array.getElem?_eq_some_iff.1 HK3.out).1 (by have := HG5.out; omega)).trans HK3.out)
      have HL4 := Lib.hid (HL3.out.trans hl4' (fun x hx _ => hx))
      have HR4 := Lib.hid hr4
      clear hr4 hl4' hr3 hk3 HK3 HL3 hsl3 ha3 hb3 hS hS3 HL1 HR1 HK1 HTR hnext sp sq sr
      go_wp2_with fail
      refine m_on hS4 ?_
      refine m_val rfl (by rfl) (.bool (decC c (fieldM (tail1 E) j) != 0)) (fun w' hw' => by go_simp) ?_
      simp only [Act.put, List.setIfInBounds_toArray, List.set_cons_zero, List.set_cons_succ]
      refine m_end ?_
      clear kf eD hS4 HCL HOP q0 q1
      by_cases hx : isW c = true ∧ fieldM (tail1 E) j ≠ 16
      · have e1 : decC c (fieldM (tail1 E) j) = 3 := by unfold decC wordC; rw [hx.1, if_neg hx.2]; rfl
        rw [e1]
        have HN := Lib.hid (hwn.out hx.1 hx.2)
        have HZ4 := Lib.hid (World.rowIs.of_block HZ5.out (HL4.out.block _ (World.rowIs.lt HZ5.out) (by have := HLT.out; omega)))
        have HB4 := Lib.hid (HB5.out.trans (HL4.out.below HB5.out.size (fun k hk => by rw [hk]; exact Nat.le_of_lt HLT.out)))
        clear hx e1 hw1 hwn hbs HK4 HL4 HR4
        go_wp2_with (refine store_whole (by rfl) 26 (.tmp 2) (.tmp 63) (by rfl) w.heap.size _ 38 _ (noteF (blank 0) (.slice none 0 0) (.slice none 0 0) (.slice none 0 0)) HZ4.out (by rfl) _ (by rfl) (by kernel_rfl) (by rfl) (zeroCells_at 0 _ (by rfl)) (fun i _ => noteF_one _ _ _ _ rfl rfl rfl i) ?_
                     intro wz hrz hoz)
        exact bodyPost_ret (results_row_tmp rfl _ w.heap.size _ _ _ _ (by rfl) hrz Tryd.underlying26 rfl (by kernel_rfl)) rfl ⟨blank 0, _, _, _, 3, .inr ⟨rfl, rfl, HN.out⟩, rfl, NoteFrom.blank _ _ 0, hoz.below HB4.out (Nat.le_refl _)⟩
      · have e1 : decC c (fieldM (tail1 E) j) = 0 := by
          unfold decC wordC
          by_cases e : isW c = true
          · rw [if_pos e, if_pos (by by_cases e' : fieldM (tail1 E) j = 16 <;> first | exact e' | exact absurd ⟨e, e'⟩ hx)]
          · rw [if_neg e]
        rw [e1]
        have hw2 := hw1.out (fun h => by by_cases e' : fieldM (tail1 E) j = 16 <;> first | exact e' | exact absurd ⟨h, e'⟩ hx)
        have HW2 := Lib.hid hw2
        have HNF : Hid (NoteFrom w5 w2.heap.size (build (kindOf E) (fieldM (tail1 E)) (fieldE (tail1 E)) (j + 1)) (setP c (.slice Aj (fieldM (tail1 E) j) cj) P) (setQ c (.slice Aj (fieldM (tail1 E) j) cj) Q) (setR c (.slice Aj (fieldM (tail1 E) j) cj) R')) := Lib.hid (by rw [hbs.out]; exact NoteFrom.set H7.out hnf.out HPJ.out)
        rw [← hbs.out] at HR4
        have hm2 : w4.iterPos w5.heap.size = j + 1 := by simp [World.iterPos, HK4.out]
        clear hx e1 hw2 hw1 hwn hbs HPJ
        go_wp2
        go_roundw
        case rel => exact ⟨j + 1, _, _, _, by omega, HK4.out, HR4, HNF, HL4, HW2⟩
        case measure => rw [hmu, hm2]; omega
    · obtain rfl : j = k := by omega
      have hnext : ∀ ty, (Instr.next (.pointer (some ⟨w5.heap.size, 0, none⟩)) true ty).run Tryd.prog wr = _ := fun ty => Lib.run_next_end_at wr w5.heap.size sL j ty hk' (by rw [HLEN.out]; omega)
      have hN : build (kindOf E) (fieldM (tail1 E)) (fieldE (tail1 E)) j = readN E := by unfold readN; rw [← hLk.out]
      have hsh := build_short (kindOf E) (fieldM (tail1 E)) (fieldE (tail1 E)) 500 j hM5.out
      rw [hN] at hrow hnf hsh
      obtain ⟨sa, sb', sp, sq, sr⟩ := hsh
      have hnw : NoteFrom wr w2.heap.size (readN E) P Q R' := hnf.out.keep (fun b hb hlt => hlv.out.block b hlt (by have := HG2.out; omega)) hlv.out.size (Nat.le_refl _)
      have HBW := Lib.hid (HB5.out.trans (hlv.out.below HB5.out.size (fun k hk => by rw [hk]; exact Nat.le_of_lt HLT.out)))
      have HRI := Lib.hid (right_own (readN E) P Q R' wr (HT.out.below HBW.out (Nat.le_refl _)) (by omega) (by omega) hnw.at_)
      have HZr := Lib.hid (World.rowIs.of_block HZ5.out (hlv.out.block _ (World.rowIs.lt HZ5.out) (by have := HLT.out; omega)))
      have HNW := Lib.hid hnw
      have oP : P.oneCell' = true := by obtain ⟨_, _, rfl, _⟩ := hnw.at_.p; rfl
      have oQ : Q.oneCell' = true := by obtain ⟨_, _, rfl, _⟩ := hnw.at_.q; rfl
      have oR : R'.oneCell' = true := by obtain ⟨_, _, rfl, _⟩ := hnw.at_.r; rfl
      have HO := Lib.hid (fun i => noteF_one (readN E) P Q R' oP oQ oR i)
      have HEN := Lib.hid (fun (hr : rightN (readN E) = true) => read_enc (n := n) (by omega) HSP.out hLk.out hwd.out hr)
      clear hN hnw oP oQ oR hlt HAT HLEN hnf hlv hwd hk' hmu sa sb' sp sq sr
      unfold noteV at HRI
      go_wp2_with (refine load_whole (by rfl) 26 (.tmp 4) (by rfl) _ _ _ _ hrow.out (by rfl) _ Tryd.underlying26 (by rfl) (by kernel_rfl) ?_)
      refine HRI.out.mono ?_
      rintro _ w8 ⟨rfl, hb8⟩
      have HZ8 := Lib.hid (World.rowIs.of_block HZr.out (hb8.block _ (World.rowIs.lt HZr.out)))
      have HR8 := Lib.hid (World.rowIs.of_block hrow.out (hb8.block _ (World.rowIs.lt hrow.out)))
      have HB8 := Lib.hid (HBW.out.trans (hb8.mono HBW.out.size))
      have HN8 := Lib.hid (HNW.out.keep (W' := w8) (base' := w2.heap.size) (fun b _ hlt => hb8.block b hlt) hb8.size (Nat.le_refl _))
      clear HRI HZr hrow HBW hb8 HNW hnext
      by_cases hd : rightN (readN E) = true
      rotate_left
      · have HN := Lib.hid (none_of (E := E) (n := n) (fun h => hd h.1))
        rw [Bool.not_eq_true] at hd
        rw [hd]
        clear hd HEN
        go_wp2_with (refine store_whole (by rfl) 26 (.tmp 2) (.tmp 67) (by rfl) w.heap.size _ 38 _ (noteF (blank 0) (.slice none 0 0) (.slice none 0 0) (.slice none 0 0)) HZ8.out (by rfl) _ (by rfl) (by kernel_rfl) (by rfl) (zeroCells_at 0 _ (by rfl)) (fun i _ => noteF_one _ _ _ _ rfl rfl rfl i) ?_
                     intro wz hrz hoz)
        exact bodyPost_ret (results_row_tmp rfl _ w.heap.size _ _ _ _ (by rfl) hrz Tryd.underlying26 rfl (by kernel_rfl)) rfl ⟨blank 0, _, _, _, 3, .inr ⟨rfl, rfl, HN.out⟩, rfl, NoteFrom.blank _ _ 0, hoz.below HB8.out (Nat.le_refl _)⟩
      · have HE := Lib.hid (HEN.out hd)
        rw [hd]
        clear hd HEN
        go_wp2_with (first
          | (refine load_whole (by rfl) 26 (.tmp 4) (by rfl) _ _ _ _ HR8.out (by rfl) _ Tryd.underlying26 (by rfl) (by kernel_rfl) ?_)
          | (refine store_whole (by rfl) 26 (.tmp 2) (.tmp 68) (by rfl) w.heap.size _ 38 _ (noteF (readN E) P Q R') HZ8.out (by rfl) _ (by rfl) (by kernel_rfl) (size_cellsOf _ _) (cellsOf_at _ _) (fun i _ => HO.out i) ?_
             intro wz hrz hoz))
        exact bodyPost_ret (results_row_tmp rfl _ w.heap.size _ _ _ _ (by rfl) hrz Tryd.underlying26 rfl (by kernel_rfl)) rfl ⟨readN E, P, Q, R', 0, .inl ⟨rfl, HE.out⟩, rfl, HN8.out.keep (fun b hb _ => hoz.block b (by have h1 := HG2.out; have h2 := HLT.out; omega)) (by rw [hoz.size]; exact Nat.le_refl _) (by have h1 := HG2.out; have h2 := HLT.out; omega), hoz.below HB8.out (Nat.le_refl _)⟩
end Go.Proofs.YtagehbeliifbkaaDoor.Note

namespace Go.Proofs.YtagehbeliifbkaaDoor.Note
open Go Go.RowKit Go.Proofs.YtagehbeliifbkaaDoor.Aid Go.Proofs.YtagehbeliifbkaaDoor.Law01 Go.Proofs.YtagehbeliifbkaaDoor.Field

theorem noteOwn {w0 : World} (ht : Table10 w0) : NoteHas w0 :=
  ⟨fun N P Q R w hw ha hb hn => right_own N P Q R w (ht.below hw (Nat.le_refl _)) ha hb hn, fun N P Q R w hw ha hb hn => put_own10 N P Q R w (ht.below hw (Nat.le_refl _)) ha hb hn,
   fun A c n E w hw hn h => (read_own10 A c n E w (ht.below hw (Nat.le_refl _)) hn h).mono (fun _ _ h => h.post),
   fun N M P Q R P' Q' R' w _ hn hm _ _ _ _ _ _ => same_own N M P Q R P' Q' R' w hn hm⟩
end Go.Proofs.YtagehbeliifbkaaDoor.Note
