/-
  What the document's Put does of a note.
-/
import Derived.Test.YtagehbeliifbkaaDoorRefRight10
import Derived.Test.YtagehbeliifbkaaDoorSliceList
import Derived.Test.YtagehbeliifbkaaDoorRefPut
namespace Go.Proofs.YtagehbeliifbkaaDoor.Note
open Go Go.RowKit Go.Proofs.YtagehbeliifbkaaDoor.Aid Go.Proofs.YtagehbeliifbkaaDoor.Law01 Go.Proofs.YtagehbeliifbkaaDoor.Field

theorem strL_at (k : Int) (i : Nat) (h : i < (strL (hasL k)).size) : ((strL (hasL k))[i].toNat : Int) = (letter k i : Int) := by
  have hsz := size_has k
  have hl : i < (hasL k).length := by rw [hsz] at h; exact h
  show ((((hasL k).map UInt8.ofNat).toArray[i]'(by simpa using hl)).toNat : Int) = _
  have hs := hasL_small k _ (letter_mem hl)
  have he : letter k i = (hasL k)[i] := by unfold letter; rw [List.getD_eq_getElem?_getD, List.getElem?_eq_getElem hl]; rfl
  rw [he] at hs ⊢
  simp
  omega
theorem own_weak {w : World} {b b' m : Nat} {e : Nat → BitVec 8} {v : Value} (h : Own w b m e v) (hb : b' ≤ b) : Own w b' m e v := by
  obtain ⟨h1, h2⟩ := h
  refine ⟨h1, ?_⟩
  rcases h2 with h2 | ⟨g, cap, cur, hv, hg, r⟩
  · exact .inl h2
  · exact .inr ⟨g, cap, cur, hv, Nat.le_trans hb hg, r⟩
theorem own_one (w : World) (x : BitVec 8) (v : Int) (hv : v = (x.toNat : Int)) : Own (w.alloc (.cells #[.int .u8 v] 5)) w.heap.size 1 (fun _ => x) (.slice (some ⟨w.heap.size, 0, none⟩) 1 1) :=
  own_of_row (row_new w #[.int .u8 v] 5 1 _ rfl (fun i hi => by obtain rfl : i = 0 := (by omega); rw [hv]; rfl)) (Nat.le_refl _) (by omega)
/-- The slice of a word within a note. -/
theorem word_slice {W : World} {g0 : Nat} {f : Nat → Value} {x : Nat → BitVec 8} (hr : W.rowIs g0 29 38 f) (o : Nat) (ho : o + 16 ≤ 38) (hx : ∀ j, j < 16 → f (o + j) = .int .u8 ((x j).toNat : Int)) (g : Nat) (hg : g0 ≠ g) : SliceOf W g 16 x (.slice (some ⟨g0, o, none⟩) 16 16) :=
  ⟨_, 16, rfl, Nat.le_refl _, fun _ => ⟨g0, o, rfl, hg, fun j hj => by rw [hr.cell (i := o + j) (by omega), hx j hj]⟩⟩
theorem noteF_x (N : NoteP) (P Q R : Value) (j : Nat) (hj : j < 16) : noteF N P Q R (3 + j) = .int .u8 ((N.x j).toNat : Int) := by
  have := cell_x N P Q R j hj
  rw [cellsOf_at 16 _ j hj] at this
  exact Option.some.inj this
theorem noteF_y (N : NoteP) (P Q R : Value) (j : Nat) (hj : j < 16) : noteF N P Q R (19 + j) = .int .u8 ((N.y j).toNat : Int) := by
  have := cell_y N P Q R j hj
  rw [cellsOf_at 16 _ j hj] at this
  exact Option.some.inj this
set_option maxRecDepth 100000 in
set_option maxHeartbeats 8000000 in
theorem refPut10_any (N : NoteP) (P Q R : Value) (w : World) (ha : N.a.size ≤ 1000000) (hb : N.b.size ≤ 1000000) (hn : NoteAt w N P Q R) : Calls Tryd.prog 8 #[noteV N P Q R] w fun x w' =>
    ∃ r, x = .returned (.tuple #[r, .int .i64 (put10C N)]) ∧ Own w' w.heap.size (put10N N) (encByte N) r ∧ Below w.heap.size w w' := by
  have hr0 := row_new w (cellsOf 38 (noteF N P Q R)) 29 38 (noteF N P Q R) (size_cellsOf _ _) (cellsOf_at _ _)
  have hb0 : Below w.heap.size w (w.alloc (.cells (cellsOf 38 (noteF N P Q R)) 29)) := (Below.refl _ _).alloc (Nat.le_refl _) _
  have hright := refRight_any N P Q R (w.alloc (.cells (cellsOf 38 (noteF N P Q R)) 29)) ha hb (hn.below hb0)
  unfold noteV at *
  have HRI := Lib.hid hright
  clear hright
  go_enter Tryd.func8, Tryd.ntmps8
  generalize hC : cellsOf 38 (noteF N P Q R) = C at *
  go_upto_region 1 with fail
  generalize w.alloc (.cells C 29) = w1 at *
  go_wp2_with (refine load_whole (by rfl) 29 (.tmp 1) (by rfl) w.heap.size _ 38 _ hr0 (by rfl) _ Tryd.underlying29 (by rfl) (by kernel_rfl) ?_)
  refine HRI.out.mono ?_
  rintro _ w2 ⟨rfl, hb2⟩
  have hlt0 := World.rowIs.lt hr0
  have hr2 := World.rowIs.of_block hr0 (hb2.block _ hlt0)
  have hb2' := hb0.trans (hb2.mono hb0.size)
  clear hr0 hb0 HRI hb2
  generalize hd : rightN N = d at *
  rcases d with _ | _
  · have e1 : put10N N = 0 := by unfold put10N; rw [hd]; rfl
    have e2 : put10C N = 3 := by unfold put10C; rw [hd]; rfl
    have HB := Lib.hid hb2'
    have E1 := Lib.hid e1
    have E2 := Lib.hid e2
    clear hr2 hb2' e1 e2 hn hd hC hlt0
    go_wp2
    go_ret2
    exact ⟨_, by rw [E2.out]; rfl, by rw [E1.out]; exact World.ownsRow_nil _ _ _ _, HB.out⟩
  have hk := right_kind hd
  have hoff := right_off hd
  have hlen := has_len N.kind
  have hputB := right_put hd
  have e1 : put10N N = encSize N := by unfold put10N; rw [hd]; rfl
  have e2 : put10C N = 0 := by unfold put10C; rw [hd]; rfl
  have HE : Hid (encSize N = 1 + encN (noteM N) (noteL N)) := rfl
  have HPB := Lib.hid hputB
  have HOFF := Lib.hid hoff
  have HSM := Lib.hid (right_parts hd)
  have E1 := Lib.hid e1
  have E2 := Lib.hid e2
  clear e1 e2 hd hputB hoff
  have HN := Lib.hid (hn.below hb2')
  obtain ⟨⟨AP, cP, rfl, _, _⟩, ⟨AQ, cQ, rfl, _, _⟩, ⟨AR, cR, rfl, _, _⟩⟩ := hn
  have c0 : w2.cell? ⟨w.heap.size, 0, none⟩ = some (.int .i64 N.kind) := hr2.cell (i := 0) (by omega)
  have hhas := has_any N.kind w2
  have HHAS := Lib.hid hhas
  have HROW := Lib.hid hr2
  have HB2 := Lib.hid hb2'
  clear hr2 hb2' hhas hC
  go_wp2_with fail
  refine HHAS.out.mono ?_
  rintro _ w3 ⟨rfl, hb3⟩
  have HROW3 : Hid (w3.rowIs w.heap.size 29 38 _) := World.rowIs.of_block HROW.out (hb3.block _ (World.rowIs.lt HROW.out))
  have HB3 : Hid (Below w.heap.size w w3) := HB2.out.trans (hb3.mono HB2.out.size)
  have HN3 := Lib.hid (HN.out.below hb3)
  have hsz3 : w.heap.size + 1 ≤ w3.heap.size := by have := World.rowIs.lt HROW3.out; omega
  clear c0 HHAS HROW HB2 HN hb3 hlt0
  have hLen : (strL (hasL N.kind)).size = noteL N := size_has N.kind
  have hL4 : noteL N ≤ 4 := hlen
  have HAT := Lib.hid (strL_at N.kind)
  have HLEN := Lib.hid hLen
  generalize strL (hasL N.kind) = sL at *
  clear hLen hlen
  have ka := fun (W : World) => Lib.run_convert_string_bytes (P := Tryd.prog) W 9 24 5 N.a Tryd.underlying9 Tryd.underlying24 Tryd.underlying5
  have kb := fun (W : World) => Lib.run_convert_string_bytes (P := Tryd.prog) W 9 24 5 N.b Tryd.underlying9 Tryd.underlying24 Tryd.underlying5
  have KA := Lib.hid ka
  have KB := Lib.hid kb
  clear ka kb
  go_wp2
  go_loopw [5, 6] (fun l i wr => ∃ k : Nat, k ≤ noteL N ∧ i = .int .i64 (k : Int) ∧ Hid (ListOf wr w3.heap.size k (noteM N) (noteE N) l) ∧ Hid (Below w3.heap.size w3 wr)) (fun _ i _ => noteL N - (intOf i).toNat)
  case atStart => exact ⟨0, by omega, rfl, ListOf.nil _ _ _ _, Below.refl _ _⟩
  case round =>
    obtain ⟨k, hk', rfl, hl, hbw⟩ := hrel
    by_cases hlt : k < noteL N
    · have hlt' : k < sL.size := by rw [HLEN.out]; exact hlt
      have q0 : (0 : Int) ≤ (k : Int) := by omega
      have q1 : (k : Int) < (sL.size : Int) := by omega
      have hat := HAT.out k hlt'
      have h7 := letter_seven (k := N.kind) (i := k) hlt
      have hmk : Hid (noteM N k = partM N (letter N.kind k)) := rfl
      have hek : Hid (noteE N k = partE N (letter N.kind k)) := rfl
      have ROW := World.rowIs.of_block HROW3.out (hbw.out.block _ (World.rowIs.lt HROW3.out))
      have HNW := HN3.out.below hbw.out
      have hL8 : Hid (k ≤ 1000000) := Lib.hid (by omega)
      have hW8 := Lib.hid hbw.out.size
      have hW9 : Hid (w.heap.size < w3.heap.size) := Lib.hid (by omega)
      generalize letter N.kind k = c at *
      rcases h7 with rfl | rfl | rfl | rfl | rfl | rfl | rfl
      · have c1 : wr.cell? ⟨w.heap.size, 1, none⟩ = some (.string N.a) := ROW.cell (i := 1) (by omega)
        have hat' : (sL[k].toNat : Int) = 65 := hat
        have HSR : Hid (∀ g, ((u5.ownBlock = some g ∧ w3.heap.size ≤ g ∧ g < wr.heap.size) ∨ (Lib.bytesWorld wr 5 N.a).heap.size ≤ g) → SliceOf (Lib.bytesWorld wr 5 N.a) g (noteM N k) (noteE N k) (.slice (some ⟨wr.heap.size, 0, none⟩) N.a.size (grownCap wr N.a.size 0 5))) := Lib.hid (fun g hg => by
          rw [hmk.out, hek.out]
          exact strB_slice wr N.a g (by rcases hg with ⟨_, _, h⟩ | h <;> first | omega | (rw [Lib.bytesWorld_size] at h; omega)))
        clear ROW HNW hat hmk hek
        have kx := KA.out
        go_wp2_with (at_builtin
                     refine append_new (by rfl) (.tmp 26) (.tmp 30) (by rfl) w3.heap.size k (noteM N) (noteE N) _ (by rfl) wr (Lib.bytesWorld wr 5 N.a) w3 hl.out (strB_below wr N.a) hbw.out hW8.out (.slice (some ⟨wr.heap.size, 0, none⟩) N.a.size (grownCap wr N.a.size 0 5)) HSR.out (by rfl) (by rfl) (by rfl) hL8.out ?_
                     intro v4 w4 hl4 hb4)
        exact ⟨⟨k + 1, by omega, congrArg (Value.int .i64) (by omega), hl4, hb4⟩, by simp [intOf]; omega⟩
      · have c1 : wr.cell? ⟨w.heap.size, 2, none⟩ = some (.string N.b) := ROW.cell (i := 2) (by omega)
        have hat' : (sL[k].toNat : Int) = 66 := hat
        have HSR : Hid (∀ g, ((u5.ownBlock = some g ∧ w3.heap.size ≤ g ∧ g < wr.heap.size) ∨ (Lib.bytesWorld wr 5 N.b).heap.size ≤ g) → SliceOf (Lib.bytesWorld wr 5 N.b) g (noteM N k) (noteE N k) (.slice (some ⟨wr.heap.size, 0, none⟩) N.b.size (grownCap wr N.b.size 0 5))) := Lib.hid (fun g hg => by
          rw [hmk.out, hek.out]
          exact strB_slice wr N.b g (by rcases hg with ⟨_, _, h⟩ | h <;> first | omega | (rw [Lib.bytesWorld_size] at h; omega)))
        clear ROW HNW hat hmk hek
        have kx := KB.out
        go_wp2_with (at_builtin
                     refine append_new (by rfl) (.tmp 34) (.tmp 38) (by rfl) w3.heap.size k (noteM N) (noteE N) _ (by rfl) wr (Lib.bytesWorld wr 5 N.b) w3 hl.out (strB_below wr N.b) hbw.out hW8.out (.slice (some ⟨wr.heap.size, 0, none⟩) N.b.size (grownCap wr N.b.size 0 5)) HSR.out (by rfl) (by rfl) (by rfl) hL8.out ?_
                     intro v4 w4 hl4 hb4)
        exact ⟨⟨k + 1, by omega, congrArg (Value.int .i64) (by omega), hl4, hb4⟩, by simp [intOf]; omega⟩
      · have hat' : (sL[k].toNat : Int) = 88 := hat
        have HSR : Hid (∀ g, ((u5.ownBlock = some g ∧ w3.heap.size ≤ g ∧ g < wr.heap.size) ∨ (wr).heap.size ≤ g) → SliceOf (wr) g (noteM N k) (noteE N k) (.slice (some ⟨w.heap.size, 3, none⟩) 16 16)) := Lib.hid (fun g hg => by
          rw [hmk.out, hek.out]
          exact word_slice ROW 3 (by omega) (noteF_x N _ _ _) g (by have h := hW8.out; have h' := hW9.out; rcases hg with hg | hg <;> omega))
        clear ROW HNW hat hmk hek
        go_wp2_with (at_builtin
                     refine append_new (by rfl) (.tmp 42) (.tmp 45) (by rfl) w3.heap.size k (noteM N) (noteE N) _ (by rfl) wr (wr) w3 hl.out (Below.refl _ _) hbw.out hW8.out (.slice (some ⟨w.heap.size, 3, none⟩) 16 16) HSR.out (by rfl) (by rfl) (by rfl) hL8.out ?_
                     intro v4 w4 hl4 hb4)
        exact ⟨⟨k + 1, by omega, congrArg (Value.int .i64) (by omega), hl4, hb4⟩, by simp [intOf]; omega⟩
      · have hat' : (sL[k].toNat : Int) = 89 := hat
        have HSR : Hid (∀ g, ((u5.ownBlock = some g ∧ w3.heap.size ≤ g ∧ g < wr.heap.size) ∨ (wr).heap.size ≤ g) → SliceOf (wr) g (noteM N k) (noteE N k) (.slice (some ⟨w.heap.size, 19, none⟩) 16 16)) := Lib.hid (fun g hg => by
          rw [hmk.out, hek.out]
          exact word_slice ROW 19 (by omega) (noteF_y N _ _ _) g (by have h := hW8.out; have h' := hW9.out; rcases hg with hg | hg <;> omega))
        clear ROW HNW hat hmk hek
        go_wp2_with (at_builtin
                     refine append_new (by rfl) (.tmp 49) (.tmp 52) (by rfl) w3.heap.size k (noteM N) (noteE N) _ (by rfl) wr (wr) w3 hl.out (Below.refl _ _) hbw.out hW8.out (.slice (some ⟨w.heap.size, 19, none⟩) 16 16) HSR.out (by rfl) (by rfl) (by rfl) hL8.out ?_
                     intro v4 w4 hl4 hb4)
        exact ⟨⟨k + 1, by omega, congrArg (Value.int .i64) (by omega), hl4, hb4⟩, by simp [intOf]; omega⟩
      · have c1 : wr.cell? ⟨w.heap.size, 35, none⟩ = some (.slice AP N.pn cP) := ROW.cell (i := 35) (by omega)
        have hat' : (sL[k].toNat : Int) = 80 := hat
        have HSR : Hid (∀ g, ((u5.ownBlock = some g ∧ w3.heap.size ≤ g ∧ g < wr.heap.size) ∨ (wr).heap.size ≤ g) → SliceOf (wr) g (noteM N k) (noteE N k) (.slice AP N.pn cP)) := Lib.hid (fun g hg => by
          rw [hmk.out, hek.out]
          exact slice_below (slice_any HN3.out.p (by have h := hW8.out; rcases hg with hg | hg <;> omega)) hbw.out)
        clear ROW HNW hat hmk hek
        go_wp2_with (at_builtin
                     refine append_new (by rfl) (.tmp 56) (.tmp 59) (by rfl) w3.heap.size k (noteM N) (noteE N) _ (by rfl) wr (wr) w3 hl.out (Below.refl _ _) hbw.out hW8.out (.slice AP N.pn cP) HSR.out (by rfl) (by rfl) (by rfl) hL8.out ?_
                     intro v4 w4 hl4 hb4)
        exact ⟨⟨k + 1, by omega, congrArg (Value.int .i64) (by omega), hl4, hb4⟩, by simp [intOf]; omega⟩
      · have c1 : wr.cell? ⟨w.heap.size, 36, none⟩ = some (.slice AQ N.qn cQ) := ROW.cell (i := 36) (by omega)
        have hat' : (sL[k].toNat : Int) = 81 := hat
        have HSR : Hid (∀ g, ((u5.ownBlock = some g ∧ w3.heap.size ≤ g ∧ g < wr.heap.size) ∨ (wr).heap.size ≤ g) → SliceOf (wr) g (noteM N k) (noteE N k) (.slice AQ N.qn cQ)) := Lib.hid (fun g hg => by
          rw [hmk.out, hek.out]
          exact slice_below (slice_any HN3.out.q (by have h := hW8.out; rcases hg with hg | hg <;> omega)) hbw.out)
        clear ROW HNW hat hmk hek
        go_wp2_with (at_builtin
                     refine append_new (by rfl) (.tmp 63) (.tmp 66) (by rfl) w3.heap.size k (noteM N) (noteE N) _ (by rfl) wr (wr) w3 hl.out (Below.refl _ _) hbw.out hW8.out (.slice AQ N.qn cQ) HSR.out (by rfl) (by rfl) (by rfl) hL8.out ?_
                     intro v4 w4 hl4 hb4)
        exact ⟨⟨k + 1, by omega, congrArg (Value.int .i64) (by omega), hl4, hb4⟩, by simp [intOf]; omega⟩
      · have c1 : wr.cell? ⟨w.heap.size, 37, none⟩ = some (.slice AR N.rn cR) := ROW.cell (i := 37) (by omega)
        have hat' : (sL[k].toNat : Int) = 82 := hat
        have HSR : Hid (∀ g, ((u5.ownBlock = some g ∧ w3.heap.size ≤ g ∧ g < wr.heap.size) ∨ (wr).heap.size ≤ g) → SliceOf (wr) g (noteM N k) (noteE N k) (.slice AR N.rn cR)) := Lib.hid (fun g hg => by
          rw [hmk.out, hek.out]
          exact slice_below (slice_any HN3.out.r (by have h := hW8.out; rcases hg with hg | hg <;> omega)) hbw.out)
        clear ROW HNW hat hmk hek
        go_wp2_with (at_builtin
                     refine append_new (by rfl) (.tmp 70) (.tmp 73) (by rfl) w3.heap.size k (noteM N) (noteE N) _ (by rfl) wr (wr) w3 hl.out (Below.refl _ _) hbw.out hW8.out (.slice AR N.rn cR) HSR.out (by rfl) (by rfl) (by rfl) hL8.out ?_
                     intro v4 w4 hl4 hb4)
        exact ⟨⟨k + 1, by omega, congrArg (Value.int .i64) (by omega), hl4, hb4⟩, by simp [intOf]; omega⟩
    · obtain rfl : k = noteL N := by omega
      have hend : (sL.size : Int) = (noteL N : Int) := by rw [HLEN.out]
      have HEND := Lib.hid hend
      have q1 : ¬ ((noteL N : Int) < (sL.size : Int)) := by rw [hend]; omega
      have hkin : IntKind.u8.wrap N.kind = N.kind := u8_in _ (by omega)
      have hbt : N.kind = ((bt N.kind.toNat).toNat : Int) := by rw [bt_toNat (by omega)]; omega
      have HKI := Lib.hid hkin
      have HBT := Lib.hid hbt
      have HEN : Hid (encN (noteM N) (noteL N) ≤ 2008) := Lib.hid (by have h := HOFF.out; unfold encN; rw [off_m2]; omega)
      clear hend hlt hkin hbt hk
      go_wp2_with fail
      refine (refPut_any (noteL N) (noteM N) (noteE N) u5 wr hl.out.parts (by have h := HOFF.out; omega)).mono ?_
      rintro _ w5 ⟨r, rfl, ho5, hb5⟩
      have e3 : putN (noteL N) (noteM N) = encN (noteM N) (noteL N) := by unfold putN; rw [HPB.out]; rfl
      rw [e3] at ho5
      have hb53 : Below w3.heap.size w3 w5 := hbw.out.trans (hb5.mono hbw.out.size)
      have c0 : w5.cell? ⟨w.heap.size, 0, none⟩ = some (.int .i64 N.kind) := (World.rowIs.of_block HROW3.out (hb53.block _ (World.rowIs.lt HROW3.out))).cell (i := 0) (by omega)
      have hbA : Below w.heap.size w w5 := HB3.out.trans (hb53.mono HB3.out.size)
      have HBA := Lib.hid hbA
      have HO5 := Lib.hid ho5
      have kx := HKI.out
      have HLE := Lib.hid hbA.size
      have HW5 := Lib.hid hb53.size
      clear hl hbw ho5 hb5 hb53 hbA e3 q1
      go_wp2_with (at_builtin
                   refine append_bytes (by rfl) (.tmp 83) (.tmp 84) (by rfl) w5.heap.size 1 (fun _ => bt N.kind.toNat) _ (by rfl) (own_one w5 _ _ HBT.out) (w5.heap.size + 1) (encN (noteM N) (noteL N)) (encB (noteM N) (noteE N) (noteL N)) _ (by rfl) ((HO5.out.below ((Below.refl _ _).alloc (Nat.le_refl _) _)).slice (.inr (by simp))) (by have h := HEN.out; omega) (by simp) ?_
                   intro v6 w6 ho6 hg6 _)
      go_ret2
      exact ⟨_, by rw [E2.out]; rfl, by rw [E1.out, HE.out]; exact own_weak ho6 HLE.out, (HBA.out.alloc HLE.out _).grown hg6 (Nat.le_trans HLE.out (by simp)) (fun b hb' => by simp [Value.ownBlock] at hb'; have h := HLE.out; omega)⟩
end Go.Proofs.YtagehbeliifbkaaDoor.Note
