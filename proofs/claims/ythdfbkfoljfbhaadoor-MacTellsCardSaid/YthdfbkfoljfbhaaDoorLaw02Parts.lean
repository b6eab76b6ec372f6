/-
  The walk of bartizanlaw02.MacParts: for every key, list of slices of bytes and number it returns true, and writes nothing that was there.
-/
import Derived.Test.YthdfbkfoljfbhaaDoorLaw02First
import Derived.Test.YthdfbkfoljfbhaaDoorLaw01Parts
import Derived.Deep.RegionHeld3
namespace Go.Proofs.YthdfbkfoljfbhaaDoor.Law02
open Go Go.RowKit Go.Proofs.YthdfbkfoljfbhaaDoor.Aid Go.Proofs.YthdfbkfoljfbhaaDoor.Sha Go.Proofs.YthdfbkfoljfbhaaDoor.Law01 Go.Proofs.YthdfbkfoljfbhaaDoor.Mac

theorem parts_below {w w' : World} {len : Nat} {m : Nat → Nat} {e : Nat → Nat → BitVec 8} {v : Value} (h : PartsOf w len m e v) (hb : Below w.heap.size w w') : PartsOf w' len m e v := by
  obtain ⟨A, c, rfl, hr⟩ := h
  refine ⟨A, c, rfl, fun h0 => ?_⟩
  obtain ⟨sb, so, hA, hc⟩ := hr h0
  refine ⟨sb, so, hA, fun i hi => ?_⟩
  obtain ⟨u, hu, hs⟩ := hc i hi
  exact ⟨u, (hb.cell (p := ⟨sb, so + i, none⟩) (block_lt_of_cell hu)).trans hu, slice_any (slice_below hs hb) (Nat.le_refl _)⟩
theorem run_eq32 (f : Nat → BitVec 8) (W : World) : (binOp .eql 24 (.agg (byteCells 32 f)) (.agg (byteCells 32 f))).run Tryd.prog W = .ok (.bool true) W :=
  run_eql_same Tryd.underlying24 Tryd.underlying5 (by kernel_rfl) _ (fun i hi => ⟨_, byteCells_at 32 _ i hi⟩) W
theorem run_ne32 (f : Nat → BitVec 8) (W : World) : (binOp .neq 24 (.agg (byteCells 32 f)) (.agg (byteCells 32 f))).run Tryd.prog W = .ok (.bool false) W :=
  run_neq_same Tryd.underlying24 Tryd.underlying5 (by kernel_rfl) _ (fun i hi => ⟨_, byteCells_at 32 _ i hi⟩) W

/-- What MacParts holds at its loop's head: j bytes 0 are behind the key. -/
structure LongRel (K D X : Nat → BitVec 8) (l n B0 B c more j : Nat) (all long : Value) (w wr : World) : Prop where
  hj : j ≤ more
  hl : j = 0 ∨ l + j ≤ 64
  ho : Own wr B (l + j) (cat K l (fun _ => 0)) long
  ha : Own wr B0 n D all
  alt : ∀ b, all.ownBlock = some b → b < B
  hr : wr.rowIs c 24 32 (fun t => .int .u8 ((X t).toNat : Int))
  hBw : B ≤ wr.heap.size
  hb : Below w.heap.size w wr

set_option maxRecDepth 100000 in
set_option maxHeartbeats 2000000 in
theorem parts_any (A : Option Addr) (l cap : Nat) (K : Nat → BitVec 8) (len : Nat) (m : Nat → Nat) (e : Nat → Nat → BitVec 8) (v : Value) (more : Int) (w : World) (hk : Consts w) (hs : SliceOf w w.heap.size l K (.slice A l cap)) (hp : PartsOf w len m e v) (hm : ∀ i, i < len → m i ≤ 140737488351232) :
    Calls Tryd.prog 7 #[.slice A l cap, v, .int .i64 more] w fun e w' => e = .returned (.bool true) ∧ Below w.heap.size w w' := by
  go_enter Tryd.func7, Tryd.ntmps7
  go_wp2_with fail
  refine (awake_any w hk).mono ?_
  rintro e0 w1 ⟨rfl, hb1⟩
  have hp1 : PartsOf w1 len m e v := parts_below hp hb1
  go_wp2_with fail
  refine (all_any len m e v w1 hp1 hm).mono ?_
  rintro e0 w2 ⟨k, va, hkl, rfl, hown', hend, hb2⟩
  have hb2' := hb1.trans (hb2.mono hb1.size)
  have hB1 := hb1.size
  have hB2 := hb2.size
  obtain ⟨N, hN⟩ : ∃ N, N = off m k + k := ⟨_, rfl⟩
  rw [← hN] at hown' hend ⊢
  by_cases hl : (200 : Int) < (l : Int)
  · clear hN hend hown' hs hp hp1 hm
    go_wp2
    go_ret
    exact ⟨rfl, hb2'⟩
  · by_cases hn : 500 < N
    · have q : (500 : Int) < (N : Int) := by omega
      clear hN hend hown' hs hp hp1 hm
      go_wp2
      go_ret
      exact ⟨rfl, hb2'⟩
    · have qn : ¬ (500 : Int) < (N : Int) := by omega
      by_cases hm0 : more < 0
      · clear hN hend hown' hs hp hp1 hm
        go_wp2
        go_ret
        exact ⟨rfl, hb2'⟩
      · by_cases hm1 : 64 < more
        · clear hN hend hown' hs hp hp1 hm
          go_wp2
          go_ret
          exact ⟨rfl, hb2'⟩
        · obtain ⟨mo, rfl⟩ := Int.eq_ofNat_of_zero_le (show 0 ≤ more by omega)
          obtain rfl : k = len := by omega
          have hown := hown' (by omega)
          have hoff : off m k ≤ 500 := by omega
          have hk500 : k ≤ 500 := by omega
          have HN := Lib.hid hN
          have Hm := Lib.hid hm
          clear hown' hend hN hm hp1 hkl
          obtain ⟨A2, c2, rfl, _, _⟩ := own_shape hown
          have hs2 := slice_any (slice_below hs hb2') (Nat.le_refl _)
          have hp2 := parts_below hp hb2'
          have hq1 := parts_one w2 (off m k) (catAll m e k) (.slice A2 (off m k) c2) (hown.slice (.inr (Nat.le_refl _)))
          have hba := alloc_below w2 (.cells #[.slice A2 (off m k) c2] 22)
          have hs3 := slice_any (slice_below hs2 hba) (Nat.le_refl _)
          have hp3 := parts_below hp2 hba
          have hown3 := hown.below hba
          have hb3 := hb2'.trans (hba.mono hb2'.size)
          clear hs hp hs2 hp2 hba hb1 hb2
          go_wp2_with fail
          generalize w2.alloc (.cells #[.slice A2 (off m k) c2] 22) = w3 at *
          refine (mac_any K A l cap w3.heap.size 1 _ _ _ w3 (hk.below hb3 (Nat.le_refl _)) hs3 (by omega) hq1 (show 0 + off m k ≤ _ by omega) (by omega)).mono ?_
          rw [code_one]
          obtain ⟨X, hX⟩ : ∃ X, X = code K l (catAll m e k) (off m k) := ⟨_, rfl⟩
          rw [← hX]
          have HX := Lib.hid hX
          rintro e0 w4 ⟨rfl, hb4⟩
          have hs4 := slice_any (slice_below hs3 hb4) (Nat.le_refl _)
          have hp4 := parts_below hp3 hb4
          have hown4 := hown3.below hb4
          have hb4' := hb3.trans (hb4.mono hb3.size)
          clear hX hs3 hp3 hown3 hb3 hb4 hq1 hown
          go_wp2_with (refine store_whole (by rfl) 24 (.tmp 10) (.tmp 38) (by rfl) w4.heap.size _ 32 (fun _ => .int .u8 0) (fun j => .int .u8 ((X j).toNat : Int)) (by exact row_new w4 _ _ 32 _ (by rfl) (zeros32 _ (by rfl))) (by rfl) _ (by rfl) (by kernel_rfl) (size_cellsOf _ _) (cellsOf_at _ _) (fun _ _ => rfl) ?_
                       intro w5 hr5 ho5
                       have hb45 : Below w4.heap.size w4 w5 := ho5.below ((Below.refl _ _).alloc (Nat.le_refl _) _) (Nat.le_refl _)
                       have hs5 := slice_any (slice_below hs4 hb45) (Nat.le_refl _)
                       have hp5 := parts_below hp4 hb45
                       have hown5 := hown4.below hb45
                       have hb5 := hb4'.trans (hb45.mono hb4'.size)
                       have hlt5 : w4.heap.size < w5.heap.size := hr5.lt
                       clear ho5 hs4 hp4 hown4 hb4' hb45)
          obtain ⟨ct, hct⟩ : ∃ ct : List Value, ct = (List.range 32).map fun j => Value.int .u8 ((X j).toNat : Int) := ⟨_, rfl⟩
          have r5 : w5.rangeAt w4.heap.size 0 ct := by
            have := row_range hr5 0 32 (by omega)
            simp only [Nat.zero_add] at this
            rw [hct]; exact this
          have l32 : ct.length = 32 := by rw [hct]; simp
          have hu32 := Tryd.underlying24
          have hi32 : (Tryd.prog.info? 24).map (·.size) = some ct.length := by rw [l32]; kernel_rfl
          have hne : ∀ W, (binOp .neq 24 (.agg (byteCells 32 X)) (.agg ct.toArray)).run Tryd.prog W = .ok (.bool false) W := fun W => by
            rw [hct]
            exact run_ne32 X W
          have heq : Hid (∀ W, (binOp .eql 24 (.agg (byteCells 32 X)) (.agg ct.toArray)).run Tryd.prog W = .ok (.bool true) W) := fun W => by
            rw [hct]
            exact run_eq32 X W
          have hmac := mac_any K A l cap w5.heap.size k m e v w5.drew (hk.below hb5.drew (Nat.le_refl _)) hs5 (by omega) hp5 (by omega) (by omega)
          rw [← HX.out] at hmac
          have Hmac := Lib.hid hmac
          have Hct := Lib.hid hct
          clear hct hmac
          go_region_held3 (fun W => W.rangeAt w4.heap.size 0 ct) (first | assumption | exact S6) ((go_at_call 20; refine Hmac.out.mono ?_; rintro e6 w6 ⟨rfl, hb6⟩; have S6 : w6.rangeAt w4.heap.size 0 ct := fun j v hv => (hb6.cell (p := ⟨w4.heap.size, 0 + j, none⟩) hlt5).trans (r5 j v hv)))
          have hb56 : Below w5.heap.size w5 w6 := (Below.refl _ w5).drew.trans hb6
          have hs6 := slice_any (slice_below hs5 hb56) (Nat.le_refl _)
          have hr6 := hr5.of_block (hb56.block _ hlt5)
          have hown6 := hown5.below hb56
          have hb6' := hb5.trans (hb56.mono hb5.size)
          have hlt6 : w4.heap.size < w6.heap.size := hr6.lt
          have hsz6 := hb6'.size
          have halt : ∀ b, (Value.slice A2 (off m k) c2).ownBlock = some b → b < w6.heap.size := fun b hb => (hown6.lt hb).2
          clear S6 r5 hb6 hb56 hs5 hr5 hown5 hb5 hp5 Hmac hne hlt5
          have ho0 := own_empty8 w6 K
          have hs7 : SliceOf (w6.alloc (.cells #[] 5)) w6.heap.size l K (.slice A l cap) := hs6.keep (fun b hb _ => Below.heap_alloc w6 _ b hb)
          go_wp2_with (at_builtin
                       refine append_bytes (by rfl) (.tmp 44) (.tmp 45) (by rfl) w6.heap.size 0 K _ (by rfl) ho0 w6.heap.size l K _ (by rfl) hs7 (by omega) (by simp) ?_
                       intro v7 w7 hown7 hg7 hat7)
          have hba := alloc_below w6 (.cells #[] 5)
          have hb67 : Below w6.heap.size w6 w7 := hba.grown hg7 (by simp) (fun b hb => by simp [Value.ownBlock] at hb; omega)
          have h7 : LongRel K (catAll m e k) X l (off m k) w1.heap.size w6.heap.size w4.heap.size mo 0 (.slice A2 (off m k) c2) v7 w w7 :=
            ⟨by omega, .inl rfl, Own.congr' (by rw [Nat.zero_add] at hown7; exact hown7) (fun j hj => by rw [cat_ge _ _ _ _ (by omega), Nat.sub_zero, cat_lt _ _ _ _ (by omega)]), hown6.below hb67, halt, hr6.of_block (hb67.block _ hlt6), hb67.size, hb6'.trans (hb67.mono hb6'.size)⟩
          clear hba hb67 hown7 hg7 hat7 ho0 hs7 hs6 hr6 hown6 hb6'
          go_wp2
          go_loopw [11, 12] (fun lo i wr => ∃ j : Nat, i = .int .i64 j ∧ LongRel K (catAll m e k) X l (off m k) w1.heap.size w6.heap.size w4.heap.size mo j (.slice A2 (off m k) c2) lo w wr) (fun _ i _ => mo - (intOf i).toNat)
          case atStart => exact ⟨0, rfl, h7⟩
          case round =>
            clear h7
            obtain ⟨j, rfl, h⟩ := hrel
            have hj := h.hj
            have hl' := h.hl
            obtain ⟨A8, c8, rfl, _, _⟩ := own_shape h.ho
            obtain ⟨L, hL⟩ : ∃ L, L = l + j := ⟨_, rfl⟩
            have HL := Lib.hid hL
            rw [← hL]
            by_cases hjm : j < mo
            · have qj : (j : Int) < (mo : Int) := by omega
              by_cases hj64 : L < 64
              · have q64 : (L : Int) < 64 := by omega
                have hone := slice_one wr (wr.heap.size + 1) (by omega) 0 0 rfl
                have ho8 := h.ho.below (alloc_below wr (.cells #[.int .u8 0] 5))
                rw [← hL] at ho8
                have HR := Lib.hid h
                have hBw := h.hBw
                clear h hL
                go_wp2_with (at_builtin
                             refine append_bytes (by rfl) (.tmp 57) (.tmp 58) (by rfl) w6.heap.size L (cat K l (fun _ => 0)) _ (by rfl) ho8 (wr.heap.size + 1) 1 (fun _ => 0) _ (by rfl) hone (by omega) (by simp; omega) ?_
                             intro v9 w9 hown9 hg9 hat9)
                have hob : ∀ b, (Value.slice A8 L c8).ownBlock = some b → w6.heap.size ≤ b := fun b hb => (ho8.lt hb).1
                have h := HR.out
                have hba := alloc_below wr (.cells #[.int .u8 0] 5)
                have hbl : ∀ b, b < w6.heap.size → w9.heap[b]? = wr.heap[b]? := fun b hb => (hg9.block b (by simp; omega) (fun e1 => by have := hob b e1.symm; omega)).trans (hba.block b (by omega))
                have h9 : LongRel K (catAll m e k) X l (off m k) w1.heap.size w6.heap.size w4.heap.size mo (j + 1) (.slice A2 (off m k) c2) v9 w w9 := by
                  refine ⟨by omega, .inr (by have := HL.out; omega), ?_, h.ha.keep (fun b hb => hbl b (h.alt b hb)), h.alt, h.hr.of_block (hbl _ hlt6), Nat.le_trans (by simp; omega) hg9.size, ?_⟩
                  · rw [← Nat.add_assoc, ← HL.out]
                    refine Own.congr' hown9 (fun t ht => ?_)
                    by_cases h1 : t < L
                    · rw [cat_lt _ _ _ _ h1]
                    · rw [cat_ge _ _ _ _ (by omega), cat_ge _ _ _ _ (by have := HL.out; omega)]
                  · exact h.hb.trans ⟨hg9.os.trans hba.os, hg9.tape.trans hba.tape, hg9.output.trans hba.output, Nat.le_trans hba.size hg9.size, fun b hb => hbl b (by omega)⟩
                clear h HR hba hbl hown9 hg9 hat9 hone ho8 hob
                go_roundw
                case rel => exact ⟨j + 1, by go_num, h9⟩
                case measure => simp [intOf]; omega
              · have q64 : ¬ (L : Int) < 64 := by omega
                clear hL
                have r9 : wr.rangeAt w4.heap.size 0 ct := by
                  have := row_range h.hr 0 32 (by omega)
                  simp only [Nat.zero_add] at this
                  rw [Hct.out]; exact this
                have hlt9 : w4.heap.size < wr.heap.size := h.hr.lt
                have hbd : Below wr.heap.size wr (wr.drew.alloc (.cells #[.slice A2 (off m k) c2] 22)) := (Below.refl _ wr).drew.alloc (Nat.le_refl _) _
                have hq9 := parts_one wr.drew (off m k) (catAll m e k) (.slice A2 (off m k) c2) (h.ha.slice (.inr (Nat.le_refl _)))
                have hs9 := slice_any (slice_below (h.ho.slice (g' := wr.heap.size) (.inr (Nat.le_refl _))) hbd) (Nat.le_refl _)
                have hb9 := h.hb.trans (hbd.mono h.hb.size)
                have hmac := mac_any (cat K l (fun _ => 0)) A8 (l + j) c8 _ 1 _ _ _ _ (hk.below hb9 (Nat.le_refl _)) hs9 (by omega) hq9 (show 0 + off m k ≤ _ by omega) (by omega)
                rw [code_one, code_longer K (cat K l (fun _ => 0)) (catAll m e k) l (l + j) (off m k) (by omega) (fun t ht => cat_lt _ _ _ _ ht) (fun t h1 h2 => by rw [cat_ge _ _ _ _ h1]), ← HX.out] at hmac
                have Hmac := Lib.hid hmac
                have S9 : (wr.drew.alloc (.cells #[.slice A2 (off m k) c2] 22)).rangeAt w4.heap.size 0 ct := fun j v hv => (hbd.cell (p := ⟨w4.heap.size, 0 + j, none⟩) hlt9).trans (r9 j v hv)
                have hEq := heq.out
                rw [← HL.out] at Hmac
                clear hmac hq9 hs9 hbd h HL
                go_wp2
                go_region_held3 (fun W => W.rangeAt w4.heap.size 0 ct) (first | assumption | exact S9 | exact S10) ((go_at_call 20; refine Hmac.out.mono ?_; rintro e10 w10 ⟨rfl, hb10⟩; have S10 : w10.rangeAt w4.heap.size 0 ct := fun j v hv => (hb10.cell (p := ⟨w4.heap.size, 0 + j, none⟩) (by simp; omega)).trans (S9 j v hv)))
                go_wp2
                go_ret
                exact ⟨rfl, hb9.trans (hb10.mono hb9.size)⟩
            · have qj : ¬ (j : Int) < (mo : Int) := by omega
              clear hL
              have r9 : wr.rangeAt w4.heap.size 0 ct := by
                have := row_range h.hr 0 32 (by omega)
                simp only [Nat.zero_add] at this
                rw [Hct.out]; exact this
              have hlt9 : w4.heap.size < wr.heap.size := h.hr.lt
              have hbd : Below wr.heap.size wr (wr.drew.alloc (.cells #[.slice A2 (off m k) c2] 22)) := (Below.refl _ wr).drew.alloc (Nat.le_refl _) _
              have hq9 := parts_one wr.drew (off m k) (catAll m e k) (.slice A2 (off m k) c2) (h.ha.slice (.inr (Nat.le_refl _)))
              have hs9 := slice_any (slice_below (h.ho.slice (g' := wr.heap.size) (.inr (Nat.le_refl _))) hbd) (Nat.le_refl _)
              have hb9 := h.hb.trans (hbd.mono h.hb.size)
              have hmac := mac_any (cat K l (fun _ => 0)) A8 (l + j) c8 _ 1 _ _ _ _ (hk.below hb9 (Nat.le_refl _)) hs9 (by omega) hq9 (show 0 + off m k ≤ _ by omega) (by omega)
              rw [code_one, code_longer K (cat K l (fun _ => 0)) (catAll m e k) l (l + j) (off m k) (by omega) (fun t ht => cat_lt _ _ _ _ ht) (fun t h1 h2 => by rw [cat_ge _ _ _ _ h1]), ← HX.out] at hmac
              have Hmac := Lib.hid hmac
              have S9 : (wr.drew.alloc (.cells #[.slice A2 (off m k) c2] 22)).rangeAt w4.heap.size 0 ct := fun j v hv => (hbd.cell (p := ⟨w4.heap.size, 0 + j, none⟩) hlt9).trans (r9 j v hv)
              have hEq := heq.out
              rw [← HL.out] at Hmac
              clear hmac hq9 hs9 hbd h HL
              go_wp2
              go_region_held3 (fun W => W.rangeAt w4.heap.size 0 ct) (first | assumption | exact S9 | exact S10) ((go_at_call 20; refine Hmac.out.mono ?_; rintro e10 w10 ⟨rfl, hb10⟩; have S10 : w10.rangeAt w4.heap.size 0 ct := fun j v hv => (hb10.cell (p := ⟨w4.heap.size, 0 + j, none⟩) (by simp; omega)).trans (S9 j v hv)))
              go_wp2
              go_ret
              exact ⟨rfl, hb9.trans (hb10.mono hb9.size)⟩
end Go.Proofs.YthdfbkfoljfbhaaDoor.Law02
