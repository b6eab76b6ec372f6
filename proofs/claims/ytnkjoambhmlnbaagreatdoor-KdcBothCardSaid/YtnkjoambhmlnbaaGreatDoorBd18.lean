/-
  What field.Split does.
-/
import Derived.Test.YtnkjoambhmlnbaaGreatDoorBd16
import Derived.Test.YtnkjoambhmlnbaaGreatDoorBd01
import Derived.Test.YtnkjoambhmlnbaaGreatDoorBd17
import Derived.Lib.SliceRun
namespace Go.Proofs.YtnkjoambhmlnbaaGreatDoor.Field
open Go Go.RowKit Go.Proofs.YtnkjoambhmlnbaaGreatDoor.Aid Go.Proofs.YtnkjoambhmlnbaaGreatDoor.Law01

theorem or_two (x y : Nat) (hx : x < 256) (hy : y < 256) : bits .or .i64 ((x : Int) * 256) (y : Int) = 256 * (x : Int) + (y : Int) := by
  have h := bits_join .i64 63 (by decide) (fun n h0 h1 => by rw [IntKind.wrap_i64]; omega) 8 ((x : Int) * 256) (y : Int) (by omega) (by omega) (by omega) (by omega) (by omega) (by omega)
  rw [h]; omega
set_option maxRecDepth 100000 in
set_option maxHeartbeats 2000000 in
theorem split_own (A : Option Addr) (c n : Nat) (E : Nat → BitVec 8) (w : World) (hn : n ≤ 100000) (hs : SliceOf w w.heap.size n E (.slice A n c)) : Calls Tryz.prog 23 #[.slice A n c] w (SplitPost E n w) := by
  have hcap : n ≤ c := by obtain ⟨A', c', he, hc, _⟩ := hs; simp only [Value.slice.injEq, true_and] at he; omega
  have HV := Lib.hid hs
  clear hs
  go_enter Tryz.func23, Tryz.ntmps23
  go_wp2
  go_loopw [0, 4] (fun b out wr => ∃ (k p M : Nat) (R : Nat → Value) (A' : Option Addr) (c' : Nat), b = .slice A' M c' ∧ p + M = n ∧ M ≤ c' ∧ Hid (SliceOf w w.heap.size M (fun j => E (p + j)) (.slice A' M c')) ∧ Hid (p = sp E k) ∧ k ≤ 20 ∧ Hid (TakenB E n k) ∧ Hid (OwnParts wr w.heap.size k (fieldM E) (fieldE E) R out) ∧ Hid (Below w.heap.size w wr)) (fun b _ _ => match b with | .slice _ M _ => M | _ => 0)
  case atStart => exact ⟨0, 0, n, fun _ => undef, A, c, rfl, by omega, hcap, Lib.hid (by simpa using HV.out), rfl, by omega, ⟨Nat.zero_le _, by omega, fun i hi => absurd hi (by omega)⟩, OwnParts.nil _ _ _ _ _, Below.refl _ _⟩
  case round =>
    clear HV hcap
    obtain ⟨k, p, M, R, A', c', rfl, hpM, hcap, HV, hp, hk, ht, ho, hb⟩ := hrel
    obtain ⟨As, cs, rfl⟩ := ho.out.shape
    by_cases hlt : 0 < M
    · obtain ⟨sb, so, rfl, hcell⟩ := SliceOf.at_ HV.out hlt
      have q1 : (0 : Int) < (M : Int) := by omega
      by_cases hs2 : M < 2
      · have q2 : (M : Int) < 2 := by omega
        have hsp := Lib.hid (taken_err (c := 2) ht.out (by have := hp.out; omega) (by decide) (by have := hp.out; unfold stepC; rw [if_pos (by omega)]))
        clear hcell HV ho ht
        go_wp2
        go_ret2
        exact ⟨k, 2, _, R, hsp.out, rfl, OwnParts.nil _ _ _ _ _, hb.out⟩
      · have q2 : ¬ (M : Int) < 2 := by omega
        have d0 := (hb.out.cell (p := ⟨sb, so + 0, none⟩) (block_lt_of_cell (hcell 0 hlt))).trans (hcell 0 hlt)
        have d1 := (hb.out.cell (p := ⟨sb, so + 1, none⟩) (block_lt_of_cell (hcell 1 (by omega)))).trans (hcell 1 (by omega))
        rw [Nat.add_zero] at d0
        have x0 := (E p).isLt
        have x1 := (E (p + 1)).isLt
        have hL : lenAt E p = 256 * (E p).toNat + (E (p + 1)).toNat := rfl
        simp only [Nat.add_zero] at d0
        generalize (E p).toNat = y0 at *
        generalize (E (p + 1)).toNat = y1 at *
        have HCL := Lib.hid hcell
        have HL := Lib.hid hL
        clear hcell hL
        have x0' : y0 < 256 := x0
        have x1' : y1 < 256 := x1
        have w0 : IntKind.i64.wrap (y0 : Int) = (y0 : Int) := IntWalk.i64_in _ (by omega)
        have w1 : IntKind.i64.wrap (y1 : Int) = (y1 : Int) := IntWalk.i64_in _ (by omega)
        have w2 : IntKind.i64.wrap ((y0 : Int) * 256) = (y0 : Int) * 256 := IntWalk.i64_in _ (by omega)
        have w3 := or_two y0 y1 x0' x1'
        have q3 : (1 : Int) < (M : Int) := by omega
        obtain ⟨M2, hM2⟩ : ∃ M2, M2 = M - 2 := ⟨_, rfl⟩
        obtain ⟨c2, hc2⟩ : ∃ c2, c2 = c' - 2 := ⟨_, rfl⟩
        obtain ⟨o1, ho1, hrun1⟩ := from_run (P := Tryz.prog) 28 5 Tryz.underlying28 (by kernel_rfl) sb so M c' 2 (by omega) hcap
        rw [← hM2, ← hc2] at hrun1
        replace hM2 : M2 + 2 = M := by omega
        replace hc2 : c2 + 2 = c' := by omega
        have k1 := fun V => hrun1 2 .i64 V rfl
        clear x0 x1 hrun1
        go_wp2_with fail
        refine region_still (by kernel_rfl) (by kernel_rfl) ?_
        repeat still_step
        refine wpStill_nil ?_
        obtain ⟨L, hL⟩ : ∃ L, L = lenAt E p := ⟨_, rfl⟩
        have hZ : 256 * (y0 : Int) + (y1 : Int) = (L : Int) := by have := HL.out; omega
        rw [hZ]
        have hL5 : L ≤ 65535 := by have := HL.out; omega
        have HLL := Lib.hid hL
        have HO : Hid (OwnParts wr.drew w.heap.size k (fieldM E) (fieldE E) R (.slice As k cs)) := ho.out.below (Below.refl _ _).drew
        have HB : Hid (Below w.heap.size w wr.drew) := hb.out.drew
        clear w0 w1 w2 w3 x0' x1' d0 d1 HL hZ hL ho hb k1
        generalize wr.drew = W at *
        by_cases h5 : 500 < L
        · have h5' : (500 : Int) < (L : Int) := by omega
          have hsp := Lib.hid (taken_err (c := 7) ht.out (by have := hp.out; omega) (by decide) (by have := hp.out; have := HLL.out; subst p; unfold stepC; rw [if_neg (by omega), if_pos (by omega)]))
          clear HCL HV HO ht HLL
          go_wp2
          go_ret2
          exact ⟨k, 7, _, R, hsp.out, rfl, OwnParts.nil _ _ _ _ _, HB.out⟩
        have h5' : ¬ (500 : Int) < (L : Int) := by omega
        by_cases h20 : k = 20
        · subst h20
          have hsp := Lib.hid (taken_err (c := 7) ht.out (by have := hp.out; omega) (by decide) (by have := hp.out; subst p; unfold stepC; rw [if_neg (by omega), if_pos (.inr rfl)]))
          clear HCL HV HO ht HLL
          go_wp2
          go_ret2
          exact ⟨20, 7, _, R, hsp.out, rfl, OwnParts.nil _ _ _ _ _, HB.out⟩
        have h20' : ((k : Int) == 20) = false := by simp; omega
        by_cases hsh : M2 < L
        · have h6 : (M2 : Int) < (L : Int) := by omega
          have hsp := Lib.hid (taken_err (c := 2) ht.out (by have := hp.out; omega) (by decide) (by have := hp.out; have := HLL.out; subst p; unfold stepC; rw [if_neg (by omega), if_neg (by omega), if_pos (by omega)]))
          clear HCL HV HO ht HLL
          go_wp2
          go_ret2
          exact ⟨k, 2, _, R, hsp.out, rfl, OwnParts.nil _ _ _ _ _, HB.out⟩
        have h6 : ¬ (M2 : Int) < (L : Int) := by omega
        have hrun2 := upto_run (P := Tryz.prog) 28 5 Tryz.underlying28 (by kernel_rfl) sb o1 M2 c2 L (by omega) (by omega)
        have k2 := fun V => hrun2 (L : Int) .i64 V rfl
        obtain ⟨o2, ho2, hrun3⟩ := from_run (P := Tryz.prog) 28 5 Tryz.underlying28 (by kernel_rfl) sb o1 M2 c2 L (by omega) (by omega)
        have k3 := fun V => hrun3 (L : Int) .i64 V rfl
        have hnext := taken_next ht.out (by have := hp.out; omega) (by have := hp.out; have := HLL.out; subst p; omega) h20 (by have := hp.out; have := HLL.out; subst p; omega)
        have hpn' : Hid (p + 2 + L = sp E (k + 1)) := Lib.hid (by have := hp.out; have := HLL.out; subst p; show _ = sp E k + 2 + lenAt E (sp E k); omega)
        have hsrc : SliceOf W W.heap.size L (fieldE E k) (.slice (some ⟨sb, o1, none⟩) L c2) := ⟨_, _, rfl, by omega, fun h0 => ⟨sb, o1, rfl, by have := block_lt_of_cell (HCL.out 0 hlt); have := HB.out.size; simp at *; omega, fun j hj => by
          rw [ho1 (by omega), show so + 2 + j = so + (2 + j) by omega, show fieldE E k j = E (p + (2 + j)) by unfold fieldE; rw [← hp.out, show p + 2 + j = p + (2 + j) by omega]]
          exact (HB.out.cell (p := ⟨sb, so + (2 + j), none⟩) (block_lt_of_cell (HCL.out (2 + j) (by omega)))).trans (HCL.out (2 + j) (by omega))⟩⟩
        have HNS : Hid (SliceOf w w.heap.size (M2 - L) (fun j => E (p + 2 + L + j)) (.slice (some ⟨sb, o2, none⟩) (M2 - L) (c2 - L))) := Lib.hid ⟨_, _, rfl, by omega, fun h0 => ⟨sb, o2, rfl, by have := block_lt_of_cell (HCL.out 0 hlt); simp at *; omega, fun j hj => by
          rw [ho2 (by omega), ho1 (by omega), show so + 2 + L + j = so + (2 + L + j) by omega]
          show _ = some (Value.int .u8 ((E (p + 2 + L + j)).toNat : Int))
          rw [show p + 2 + L + j = p + (2 + L + j) by omega]
          exact HCL.out (2 + L + j) (by omega)⟩⟩
        have HC := Lib.hid (clone_any _ _ L (fieldE E k) W (by omega) hsrc)
        have HNX := Lib.hid hnext
        have HFM : Hid (L = fieldM E k) := Lib.hid (by unfold fieldM; rw [HLL.out, hp.out])
        have hWs : w.heap.size ≤ W.heap.size := HB.out.size
        have HOL := HO
        clear HCL HV ht hsrc hrun2 hrun3 ho1 ho2 hnext HO
        go_wp2_with (first
          | (go_at_call 51
             refine HC.out.mono ?_
             rintro _ w2 ⟨r, rfl, hown3, hbW2⟩
             obtain ⟨rA, rc, hrs, -, -⟩ := own_shape hown3
             subst hrs
             have hal : Below w2.heap.size w2 (w2.alloc (.cells #[.slice rA L rc] 28)) := (Below.refl _ _).alloc (Nat.le_refl _) _
             have HR3 := Lib.hid ((own_base hown3 hWs).below hal)
             have HRN : Hid (∀ b, (Value.slice rA L rc).ownBlock = some b → W.heap.size ≤ b) := Lib.hid (fun b hb => (hown3.lt hb).1)
             have HO3 := Lib.hid ((HOL.out.below hbW2).below hal)
             have HB3 : Hid (Below w.heap.size w (w2.alloc (.cells #[.slice rA L rc] 28))) := Lib.hid ((HB.out.trans (hbW2.mono hWs)).alloc (by have := hbW2.size; omega) _)
             have HC3 : Hid ((w2.alloc (.cells #[.slice rA L rc] 28)).cell? ⟨w2.heap.size, 0, none⟩ = some (.slice rA L rc)) := Lib.hid (by go_simp)
             clear hbW2 hown3 hal HC)
          | (at_builtin
             have hR : addR R k (.slice rA L rc) k = .slice rA L rc := by unfold addR; rw [if_pos rfl]
             have hOR := HO3.out.congr (R' := addR R k (.slice rA L rc)) (fun i hi => by unfold addR; rw [if_neg (by omega)])
             have hnew : ∀ b, (addR R k (.slice rA L rc) k).ownBlock = some b → (∀ c', (Value.slice As k cs).ownBlock = some c' → c' ≠ b) ∧ ∀ i, i < k → (addR R k (.slice rA L rc) i).ownBlock ≠ some b := fun b hb => by
               rw [hR] at hb
               have h1 := HRN.out b hb
               refine ⟨fun c' hc' he => ?_, fun i hi he => ?_⟩
               · have := (World.ownsRow.lt HOL.out.row c' hc').2
                 omega
               · have hRi : addR R k (.slice rA L rc) i = R i := by unfold addR; rw [if_neg (by omega)]
                 rw [hRi] at he
                 have := ((HOL.out.part i hi).lt he).2
                 omega
             refine append_part (by rfl) (.tmp 36) (.tmp 41) (by rfl) w.heap.size k (fieldM E) (fieldE E) (addR R k (.slice rA L rc)) _ (by rfl) hOR (by rw [hR, ← HFM.out]; exact HR3.out) (by rw [hR]; rfl) hnew w2.heap.size 1 (by rfl) (by rw [hR]; exact HC3.out) (by omega) HB3.out.size ?_
             intro v4 w4 ho4 hg4
             have hb4 : Below w.heap.size w w4 := HB3.out.grown hg4 HB3.out.size (fun b hb => (World.ownsRow.lt hOR.row b hb).1)
             have HO4 := Lib.hid ho4
             have HB4 := Lib.hid hb4
             clear ho4 hg4 hb4 hOR hnew hR HO3 HR3 HC3 HB3 HRN HOL))
        exact ⟨⟨k + 1, p + 2 + L, M2 - L, addR R k (.slice rA L rc), some ⟨sb, o2, none⟩, c2 - L, rfl, by omega, by omega, HNS, hpn', HNX.out.2.1, HNX, HO4, HB4⟩, by simp; omega⟩
    · obtain rfl : M = 0 := by omega
      have hsp := Lib.hid (taken_end ht.out (by have := hp.out; omega))
      clear ht HV
      go_wp2
      go_ret2
      exact ⟨k, 0, _, R, hsp.out, rfl, ho.out, hb.out⟩
end Go.Proofs.YtnkjoambhmlnbaaGreatDoor.Field
