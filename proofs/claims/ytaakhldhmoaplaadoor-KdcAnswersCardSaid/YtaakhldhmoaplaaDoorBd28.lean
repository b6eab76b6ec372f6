/-
  What the document's Split does.
-/
import Derived.Test.YtaakhldhmoaplaaDoorBd12
import Derived.Test.YtaakhldhmoaplaaDoorBd20
namespace Go.Proofs.YtaakhldhmoaplaaDoor.Field
open Go Go.RowKit Go.Proofs.YtaakhldhmoaplaaDoor.Aid Go.Proofs.YtaakhldhmoaplaaDoor.Law01

theorem OwnParts.congr {W : World} {base k : Nat} {m : Nat → Nat} {E : Nat → Nat → BitVec 8} {R R' : Nat → Value} {v : Value} (h : OwnParts W base k m E R v) (hR : ∀ i, i < k → R i = R' i) : OwnParts W base k m E R' v := by
  refine ⟨?_, fun i hi => by rw [← hR i hi]; exact h.part i hi, fun i hi => by rw [← hR i hi]; exact h.ne i hi, fun i j hij hj => by rw [← hR i (by omega), ← hR j hj]; exact h.apart i j hij hj⟩
  have : (List.range k).map R' = (List.range k).map R := List.map_congr_left (fun j hj => (hR j (List.mem_range.1 hj)).symm)
  rw [this]
  exact h.row
def addR (R : Nat → Value) (k : Nat) (r : Value) (i : Nat) : Value := if i = k then r else R i
/-- What a walk of Split keeps: k fields were taken. -/
def TakenB (E : Nat → BitVec 8) (n k : Nat) : Prop := sp E k ≤ n ∧ k ≤ 20 ∧ ∀ i, i < k → sp E i < n ∧ stepC E n (sp E i) i = 0
theorem taken_next {E : Nat → BitVec 8} {n k : Nat} (h : TakenB E n k) (h0 : sp E k < n) (h1 : lenAt E (sp E k) ≤ 500) (h2 : k ≠ 20) (h3 : sp E k + 2 + lenAt E (sp E k) ≤ n) : TakenB E n (k + 1) := by
  refine ⟨h3, by have := h.2.1; omega, fun i hi => ?_⟩
  by_cases e : i = k
  · subst e; exact ⟨h0, step_of h1 h2 h3⟩
  · exact h.2.2 i (by omega)
theorem taken_end {E : Nat → BitVec 8} {n k : Nat} (h : TakenB E n k) (h0 : ¬ sp E k < n) : SplitSpec E n k 0 := ⟨h.2.2, .inl ⟨rfl, by omega⟩⟩
theorem taken_err {E : Nat → BitVec 8} {n k : Nat} {c : Int} (h : TakenB E n k) (h0 : sp E k < n) (hc : c ≠ 0) (hs : stepC E n (sp E k) k = c) : SplitSpec E n k c := ⟨h.2.2, .inr ⟨hc, h0, hs⟩⟩
def SplitPost (E : Nat → BitVec 8) (n : Nat) (w : World) (x : Ending) (w' : World) : Prop :=
  ∃ (k : Nat) (c : Int) (v : Value) (R : Nat → Value), SplitSpec E n k c ∧ x = .returned (.tuple #[v, .int .i64 c]) ∧ OwnParts w' w.heap.size (if c = 0 then k else 0) (fieldM E) (fieldE E) R v ∧ Below w.heap.size w w'
set_option maxRecDepth 100000 in
set_option maxHeartbeats 2000000 in
theorem refSplit_any (A : Option Addr) (c n : Nat) (E : Nat → BitVec 8) (w : World) (hn : n ≤ 100000) (h : SliceOf w w.heap.size n E (.slice A n c)) :
    Calls Tryd.prog 32 #[.slice A n c] w (SplitPost E n w) := by
  have HV := Lib.hid h
  have hcap : n ≤ c := by obtain ⟨A', c', he, hc, _⟩ := h; simp only [Value.slice.injEq, true_and] at he; omega
  clear h
  go_enter Tryd.func32, Tryd.ntmps32
  go_wp2
  go_loopw [4, 5, 6] (fun out at_ l wr => ∃ (k p : Nat) (R : Nat → Value), at_ = .int .i64 (p : Int) ∧ Hid (p = sp E k) ∧ p ≤ n ∧ k ≤ 20 ∧ Hid (TakenB E n k) ∧ Hid (OwnParts wr w.heap.size k (fieldM E) (fieldE E) R out) ∧ Hid (Below w.heap.size w wr)) (fun _ at_ _ _ => n - (intOf at_).toNat)
  case atStart => exact ⟨0, 0, fun _ => undef, rfl, rfl, by omega, by omega, ⟨Nat.zero_le _, by omega, fun i hi => absurd hi (by omega)⟩, OwnParts.nil _ _ _ _ _, Below.refl _ _⟩
  case round =>
    obtain ⟨k, p, R, rfl, hp, hpn, hk, ht, ho, hb⟩ := hrel
    obtain ⟨As, cs, rfl⟩ := ho.out.shape
    by_cases hlt : p < n
    · obtain ⟨sb, so, rfl, hcell⟩ := SliceOf.at_ HV.out (by omega)
      have q0 : (0 : Int) ≤ (p : Int) := by omega
      have q1 : (p : Int) < (n : Int) := by omega
      by_cases hs2 : n < p + 2
      · have q2 : (n : Int) - (p : Int) < 2 := by omega
        have hsp := Lib.hid (taken_err (c := 2) ht.out (by have := hp.out; omega) (by decide) (by have := hp.out; unfold stepC; rw [if_pos (by omega)]))
        clear hcell HV ho ht
        go_wp2
        go_ret2
        exact ⟨k, 2, _, R, hsp.out, rfl, OwnParts.nil _ _ _ _ _, hb.out⟩
      · have q2 : ¬ (n : Int) - (p : Int) < 2 := by omega
        have d0 := (hb.out.cell (p := ⟨sb, so + p, none⟩) (block_lt_of_cell (hcell p hlt))).trans (hcell p hlt)
        have d1 := (hb.out.cell (p := ⟨sb, so + (p + 1), none⟩) (block_lt_of_cell (hcell (p + 1) (by omega)))).trans (hcell (p + 1) (by omega))
        have x0 := (E p).isLt
        have x1 := (E (p + 1)).isLt
        have hL : lenAt E p = 256 * (E p).toNat + (E (p + 1)).toNat := rfl
        have q3 : (p : Int) + 1 < (n : Int) := by omega
        generalize (E p).toNat = y0 at *
        generalize (E (p + 1)).toNat = y1 at *
        have HCL := Lib.hid hcell
        have HL := Lib.hid hL
        clear hcell hL
        have x0' : y0 < 256 := x0
        have x1' : y1 < 256 := x1
        have w0 : IntKind.i64.wrap (y0 : Int) = (y0 : Int) := IntWalk.i64_in _ (by omega)
        have w1 : IntKind.i64.wrap (y1 : Int) = (y1 : Int) := IntWalk.i64_in _ (by omega)
        have w2 : IntKind.i64.wrap (256 * (y0 : Int)) = 256 * (y0 : Int) := IntWalk.i64_in _ (by omega)
        have w3 : IntKind.i64.wrap (256 * (y0 : Int) + (y1 : Int)) = 256 * (y0 : Int) + (y1 : Int) := IntWalk.i64_in _ (by omega)
        have i1 : ((p : Int) + 1).toNat = p + 1 := by omega
        have w4 : IntKind.i64.wrap ((p : Int) + 1) = (p : Int) + 1 := IntWalk.i64_in _ (by omega)
        have q4 : (0 : Int) ≤ (p : Int) + 1 := by omega
        clear x0 x1
        go_wp2_with fail
        refine region_still (by kernel_rfl) (by kernel_rfl) ?_
        repeat still_step
        refine wpStill_nil ?_
        obtain ⟨L, hL⟩ : ∃ L, L = lenAt E p := ⟨_, rfl⟩
        have hZ : 256 * (y0 : Int) + (y1 : Int) = (L : Int) := by have := HL.out; omega
        rw [hZ]
        have hL5 : L ≤ 65535 := by have := HL.out; omega
        have HLL := Lib.hid hL
        have HO : Hid (OwnParts wr.drew w.heap.size k (fieldM E) (fieldE E) R (.slice As k cs)) := ho.out.below (Below.refl _ _).drew
        have HB : Hid (Below w.heap.size w wr.drew) := hb.out.drew
        clear w0 w1 w2 w3 w4 i1 x0' x1' d0 d1 HL hZ hL ho hb
        generalize wr.drew = W at *
        by_cases h5 : 500 < L
        · have h5' : (500 : Int) < (L : Int) := by omega
          have hsp := Lib.hid (taken_err (c := 7) ht.out (by have := hp.out; omega) (by decide) (by have := hp.out; have := HLL.out; subst p; unfold stepC; rw [if_neg (by omega), if_pos (by omega)]))
          clear HCL HV HO ht HLL
          go_wp2
          go_ret2
          exact ⟨k, 7, _, R, hsp.out, rfl, OwnParts.nil _ _ _ _ _, HB.out⟩
        have h5' : ¬ (500 : Int) < (L : Int) := by omega
        by_cases h20 : k = 20
        · subst h20
          have hsp := Lib.hid (taken_err (c := 7) ht.out (by have := hp.out; omega) (by decide) (by have := hp.out; subst p; unfold stepC; rw [if_neg (by omega), if_pos (.inr rfl)]))
          clear HCL HV HO ht HLL
          go_wp2
          go_ret2
          exact ⟨20, 7, _, R, hsp.out, rfl, OwnParts.nil _ _ _ _ _, HB.out⟩
        have h20' : ((k : Int) == 20) = false := by simp; omega
        by_cases hsh : n < p + 2 + L
        · have h6 : (n : Int) - (p : Int) - 2 < (L : Int) := by omega
          have hsp := Lib.hid (taken_err (c := 2) ht.out (by have := hp.out; omega) (by decide) (by have := hp.out; have := HLL.out; subst p; unfold stepC; rw [if_neg (by omega), if_neg (by omega), if_pos (by omega)]))
          clear HCL HV HO ht HLL
          go_wp2
          go_ret2
          exact ⟨k, 2, _, R, hsp.out, rfl, OwnParts.nil _ _ _ _ _, HB.out⟩
        have h6 : ¬ (n : Int) - (p : Int) - 2 < (L : Int) := by omega
        obtain ⟨o, ho, hrun⟩ := mid_run (P := Tryd.prog) 28 5 Tryd.underlying28 (by kernel_rfl) sb so n c (p + 2) L (by omega) hcap
        have k1 := fun V => hrun ((p : Int) + 2) ((p : Int) + 2 + (L : Int)) .i64 .i64 V (by omega) (by omega)
        have hnext := taken_next ht.out (by have := hp.out; omega) (by have := hp.out; have := HLL.out; subst p; omega) h20 (by have := hp.out; have := HLL.out; subst p; omega)
        have hpn' : Hid (p + 2 + L = sp E (k + 1)) := Lib.hid (by have := hp.out; have := HLL.out; subst p; show _ = sp E k + 2 + lenAt E (sp E k); omega)
        have hsrc : SliceOf W W.heap.size L (fieldE E k) (.slice (some ⟨sb, o, none⟩) L (c - (p + 2))) := ⟨_, _, rfl, by omega, fun h0 => ⟨sb, o, rfl, by have := block_lt_of_cell (HCL.out p hlt); have := HB.out.size; simp at *; omega, fun j hj => by
          rw [ho h0, show so + (p + 2) + j = so + (p + 2 + j) by omega, show fieldE E k j = E (p + 2 + j) by unfold fieldE; rw [← hp.out]]
          exact (HB.out.cell (p := ⟨sb, so + (p + 2 + j), none⟩) (block_lt_of_cell (HCL.out (p + 2 + j) (by omega)))).trans (HCL.out (p + 2 + j) (by omega))⟩⟩
        have HE1 := Lib.hid (own_empty8 W (fun _ => 0))
        have HS1 := Lib.hid (slice_below hsrc ((Below.refl _ W).alloc (Nat.le_refl _) (.cells #[] 5)))
        have HO1 := Lib.hid (HO.out.below ((Below.refl _ W).alloc (Nat.le_refl _) (.cells #[] 5)))
        have HB1 : Hid (Below w.heap.size w (W.alloc (.cells #[] 5))) := HB.out.alloc HB.out.size _
        have HNX := Lib.hid hnext
        have HFM : Hid (L = fieldM E k) := Lib.hid (by unfold fieldM; rw [HLL.out, hp.out])
        have hWs : w.heap.size ≤ W.heap.size := HB.out.size
        have HOL := HO
        clear HCL HV ht hsrc hrun ho hnext HO
        have HSZ : Hid (W.heap.size ≤ (W.alloc (.cells #[] 5)).heap.size) := Lib.hid (by simp)
        go_wp2_with (first
          | (at_builtin
             refine append_bytes (by rfl) (.tmp 44) (.tmp 52) (by rfl) W.heap.size 0 (fun _ => 0) _ (by rfl) HE1.out W.heap.size L (fieldE E k) _ (by rfl) HS1.out (by omega) HSZ.out ?_
             intro r w2 hown2 hg2 hat2
             have hbW2 : Below W.heap.size W w2 := ((Below.refl _ W).alloc (Nat.le_refl _) (.cells #[] 5)).grown hg2 HSZ.out (fun b hb => (HE1.out.lt hb).1)
             have hown3 : Own w2 W.heap.size L (fieldE E k) r := by have := Own.congr' hown2 (e' := fieldE E k) (fun j _ => by unfold cat; rw [if_neg (by omega)]; rfl); rw [Nat.zero_add] at this; exact this
             clear hown2 hg2 hat2 HE1 HS1 HO1 HB1 HSZ
             obtain ⟨rA, rc, hrs, -, -⟩ := own_shape hown3
             subst hrs
             have hal : Below w2.heap.size w2 (w2.alloc (.cells #[.slice rA L rc] 28)) := (Below.refl _ _).alloc (Nat.le_refl _) _
             have HR3 := Lib.hid ((own_base hown3 hWs).below hal)
             have HRN : Hid (∀ b, (Value.slice rA L rc).ownBlock = some b → W.heap.size ≤ b) := Lib.hid (fun b hb => (hown3.lt hb).1)
             have HO3 := Lib.hid ((HOL.out.below hbW2).below hal)
             have HB3 : Hid (Below w.heap.size w (w2.alloc (.cells #[.slice rA L rc] 28))) := Lib.hid ((HB.out.trans (hbW2.mono hWs)).alloc (by have := hbW2.size; omega) _)
             have HC3 : Hid ((w2.alloc (.cells #[.slice rA L rc] 28)).cell? ⟨w2.heap.size, 0, none⟩ = some (.slice rA L rc)) := Lib.hid (by go_simp)
             clear hbW2 hown3 hal)
          | (at_builtin
             have hR : addR R k (.slice rA L rc) k = .slice rA L rc := by unfold addR; rw [if_pos rfl]
             have hOR := HO3.out.congr (R' := addR R k (.slice rA L rc)) (fun i hi => by unfold addR; rw [if_neg (by omega)])
             have hnew : ∀ b, (addR R k (.slice rA L rc) k).ownBlock = some b → (∀ c', (Value.slice As k cs).ownBlock = some c' → c' ≠ b) ∧ ∀ i, i < k → (addR R k (.slice rA L rc) i).ownBlock ≠ some b := fun b hb => by
               rw [hR] at hb
               have h1 := HRN.out b hb
               refine ⟨fun c' hc' he => ?_, fun i hi he => ?_⟩
               · have := (World.ownsRow.lt HOL.out.row c' hc').2
                 omega
               · have hRi : addR R k (.slice rA L rc) i = R i := by unfold addR; rw [if_neg (by omega)]
                 rw [hRi] at he
                 have := ((HOL.out.part i hi).lt he).2
                 omega
             refine append_part (by rfl) (.tmp 43) (.tmp 54) (by rfl) w.heap.size k (fieldM E) (fieldE E) (addR R k (.slice rA L rc)) _ (by rfl) hOR (by rw [hR, ← HFM.out]; exact HR3.out) (by rw [hR]; rfl) hnew w2.heap.size 1 (by rfl) (by rw [hR]; exact HC3.out) (by omega) HB3.out.size ?_
             intro v4 w4 ho4 hg4
             have hb4 : Below w.heap.size w w4 := HB3.out.grown hg4 HB3.out.size (fun b hb => (World.ownsRow.lt hOR.row b hb).1)
             have HO4 := Lib.hid ho4
             have HB4 := Lib.hid hb4
             clear ho4 hg4 hb4 hOR hnew hR HO3 HR3 HC3 HB3 HRN HOL))
        exact ⟨⟨k + 1, p + 2 + L, addR R k (.slice rA L rc), congrArg (Value.int .i64) (by omega), hpn', by omega, HNX.out.2.1, HNX, HO4, HB4⟩, by simp [intOf]; omega⟩
    · have hsp := Lib.hid (taken_end ht.out (by have := hp.out; omega))
      have q2 : ¬ (p : Int) < (n : Int) := by omega
      clear ht HV
      go_wp2
      go_ret2
      exact ⟨k, 0, _, R, hsp.out, rfl, ho.out, hb.out⟩
end Go.Proofs.YtaakhldhmoaplaaDoor.Field
