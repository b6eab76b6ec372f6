/-
  What bartizanref09.Same does of any records: it answers; of the same ones: true.
-/
import Derived.Test.YtpnkcacmmjmehaaDoorJourHeld
import Derived.Test.YtpnkcacmmjmehaaDoorLaw14Size
import Derived.Deep.Draws
namespace Go.Proofs.YtpnkcacmmjmehaaDoor.Jour
open Go Go.RowKit Go.Proofs.YtpnkcacmmjmehaaDoor.Aid Go.Proofs.YtpnkcacmmjmehaaDoor.Cache Go.Proofs.YtpnkcacmmjmehaaDoor.Store

theorem PartsP.at_ {W : World} {P : Nat → Prop} {M : List By} {A : Option Addr} {c : Nat} (h : PartsP W P M (.slice A M.length c)) (i : Nat) (hi : i < M.length) :
    ∃ sb so A' c', A = some ⟨sb, so, none⟩ ∧ W.cell? ⟨sb, so + i, none⟩ = some (.slice A' (M[i]).length c') ∧ BytesIn W P (M[i]).length (fnL M[i]) (.slice A' (M[i]).length c') := by
  obtain ⟨A1, c1, he, _, hr⟩ := h
  simp only [Value.slice.injEq, true_and] at he
  obtain ⟨rfl, rfl⟩ := he
  obtain ⟨sb, so, hA, _, hc⟩ := hr (by omega)
  obtain ⟨u, hu, hs⟩ := hc i M[i] (List.getElem?_eq_getElem hi)
  have hs2 := hs
  obtain ⟨A', c', rfl, _⟩ := hs2
  exact ⟨sb, so, A', c', hA, hu, hs⟩
theorem BytesIn.at_ {W : World} {P : Nat → Prop} {n : Nat} {e : Nat → BitVec 8} {A : Option Addr} {c : Nat} (h : BytesIn W P n e (.slice A n c)) (hn : 0 < n) :
    ∃ sb so, A = some ⟨sb, so, none⟩ ∧ ∀ j, j < n → W.cell? ⟨sb, so + j, none⟩ = some (.int .u8 ((e j).toNat : Int)) := by
  obtain ⟨A1, c1, he, _, hr⟩ := h
  simp only [Value.slice.injEq, true_and] at he
  obtain ⟨rfl, rfl⟩ := he
  obtain ⟨sb, so, hA, _, hc⟩ := hr hn
  exact ⟨sb, so, hA, hc⟩
theorem rec_eq {x y : By} (h : x.length = y.length) (he : ∀ j, j < x.length → fnL x j = fnL y j) : x = y := by
  rw [← range_fn x, ← range_fn y, ← h]
  exact List.map_congr_left (fun j hj => he j (List.mem_range.1 hj))
theorem cell_eq (a b : BitVec 8) : ((Value.int IntKind.u8 (a.toNat : Int)) = (Value.int IntKind.u8 (b.toNat : Int))) ↔ a = b := by
  constructor
  · intro h
    injection h with _ h2
    exact BitVec.eq_of_toNat_eq (by omega)
  · intro h; rw [h]
set_option maxRecDepth 100000 in
set_option maxHeartbeats 2000000 in
theorem refSame_all (M N : List By) (P Q : Nat → Prop) (a b : Value) (w : World) (ha : PartsP w P M a) (hb : PartsP w Q N b) (hl : M.length ≤ 1000000) (hM : ∀ x ∈ M, x.length ≤ 1000000) :
    Calls Tryd.prog 25 #[a, b] w fun x w' => (∃ t : Bool, x = .returned (.bool t) ∧ (M = N → t = true)) ∧ Below w.heap.size w w' := by
  have HA := Lib.hid ha
  have HB := Lib.hid hb
  obtain ⟨A, c, rfl, -⟩ := ha
  obtain ⟨B, d, rfl, -⟩ := hb
  obtain ⟨m, hm⟩ : ∃ m, m = M.length := ⟨_, rfl⟩
  obtain ⟨n, hn⟩ : ∃ n, n = N.length := ⟨_, rfl⟩
  by_cases hne : m = n
  rotate_left
  · have HX : Hid (M ≠ N) := Lib.hid (fun h => hne (by rw [hm, hn, h]))
    have q : ((m : Int) == (n : Int)) = false := by simp; omega
    rw [← hm, ← hn]
    clear HA HB hm hn hne hl
    go_enter Tryd.func25, Tryd.ntmps25
    go_wp2
    go_ret
    exact ⟨⟨false, rfl, fun h => absurd h HX.out⟩, Below.refl _ _⟩
  have hMN : M.length = N.length := by omega
  rw [← hMN, ← hm]
  have hmN : m = N.length := hm.trans hMN
  rw [← hm] at hl
  have HM := Lib.hid hm
  have HMN := Lib.hid hMN
  have HL := Lib.hid hM
  rw [← HMN.out, ← HM.out] at HB
  rw [← HM.out] at HA
  clear hm hn hne hMN hmN hM
  go_enter Tryd.func25, Tryd.ntmps25
  go_wp2
  go_loopw [5, 6] (fun i k wr => ∃ z : Nat, z ≤ m ∧ i = .int .i64 (z : Int) ∧ Hid (Below w.heap.size w wr)) (fun i _ _ => m - (intOf i).toNat)
  case atStart => exact ⟨0, by omega, rfl, Below.refl _ _⟩
  case round =>
    obtain ⟨z, hz, rfl, hbw⟩ := hrel
    by_cases hlt : z < m
    · have hzM : z < M.length := by have := HM.out; omega
      have hzN : z < N.length := by have := HM.out; have := HMN.out; omega
      have HA2 : Hid (PartsP w P M (.slice A M.length c)) := Lib.hid (by have := HA.out; rwa [HM.out] at this)
      have HB2 : Hid (PartsP w Q N (.slice B N.length d)) := Lib.hid (by have := HB.out; rwa [HM.out, HMN.out] at this)
      obtain ⟨sa, sx, A', c', rfl, ca, hsa⟩ := PartsP.at_ HA2.out z hzM
      obtain ⟨sb, sy, B', d', rfl, cb, hsb⟩ := PartsP.at_ HB2.out z hzN
      have HX1 : Hid (M[z] ≠ N[z] → M ≠ N) := Lib.hid (fun h e => h (by subst e; rfl))
      have HL2 : Hid ((M[z]).length ≤ 1000000) := Lib.hid (HL.out _ (List.getElem_mem hzM))
      generalize M[z] = x at *
      generalize N[z] = y at *
      have q0 : (0 : Int) ≤ (z : Int) := by omega
      have q1 : (z : Int) < (m : Int) := by omega
      have ca' := (hbw.out.cell (p := ⟨sa, sx + z, none⟩) (block_lt_of_cell ca)).trans ca
      have cb' := (hbw.out.cell (p := ⟨sb, sy + z, none⟩) (block_lt_of_cell cb)).trans cb
      have CA := Lib.hid ca
      have CB := Lib.hid cb
      have HSA := Lib.hid hsa
      have HSB := Lib.hid hsb
      obtain ⟨lx, hlx⟩ : ∃ lx, lx = x.length := ⟨_, rfl⟩
      obtain ⟨ly, hly⟩ : ∃ ly, ly = y.length := ⟨_, rfl⟩
      rw [← hlx] at ca' CA HSA HL2
      rw [← hly] at cb' CB HSB
      have HLX := Lib.hid hlx
      have HLY := Lib.hid hly
      clear ca cb hsa hsb HA HB HA2 HB2 hlx hly
      by_cases hll : lx = ly
      rotate_left
      · have qn : ((lx : Int) == (ly : Int)) = false := by simp; omega
        have HF : Hid (M ≠ N) := Lib.hid (HX1.out (fun h => hll (by rw [HLX.out, HLY.out, h])))
        have hbd : Hid (Below w.heap.size w wr.drew) := hbw.out.drew
        clear hll HSA HSB CA CB hbw
        go_wp2
        refine region_still (by kernel_rfl) (by kernel_rfl) ?_
        repeat still_step
        refine wpStill_nil ?_
        go_wp2
        go_ret
        exact ⟨⟨false, rfl, fun h => absurd h HF.out⟩, hbd.out⟩
      subst hll
      go_wp2
      refine region_still (by kernel_rfl) (by kernel_rfl) ?_
      repeat still_step
      refine wpStill_nil ?_
      go_wp2
      have hbd : Hid (Below w.heap.size w wr.drew) := hbw.out.drew
      clear ca' cb' hbw
      go_loopw [6] (fun k wi => ∃ j : Nat, j ≤ lx ∧ k = .int .i64 (j : Int) ∧ Hid (Below w.heap.size w wi)) (fun k _ => lx - (intOf k).toNat)
      case atStart => exact ⟨0, by omega, rfl, hbd⟩
      case round =>
        clear hbd
        obtain ⟨j, hj, rfl, hbi⟩ := hrel
        have ca' := (hbi.out.cell (p := ⟨sa, sx + z, none⟩) (block_lt_of_cell CA.out)).trans CA.out
        have cb' := (hbi.out.cell (p := ⟨sb, sy + z, none⟩) (block_lt_of_cell CB.out)).trans CB.out
        by_cases hjl : j < lx
        · obtain ⟨pa, px, rfl, hpa⟩ := BytesIn.at_ HSA.out (by omega)
          obtain ⟨pb, py, rfl, hpb⟩ := BytesIn.at_ HSB.out (by omega)
          have d0 := (hbi.out.cell (p := ⟨pa, px + j, none⟩) (block_lt_of_cell (hpa j hjl))).trans (hpa j hjl)
          have d1 := (hbi.out.cell (p := ⟨pb, py + j, none⟩) (block_lt_of_cell (hpb j hjl))).trans (hpb j hjl)
          have o0 : (0 : Int) ≤ (j : Int) := by omega
          have o1 : (j : Int) < (lx : Int) := by omega
          have l2 := HL2.out
          have HR : Hid (fnL x j ≠ fnL y j → M ≠ N) := Lib.hid (fun h => HX1.out (fun e => h (by rw [e])))
          have HBD := Lib.hid hbi.out.drew
          clear hpa hpb HSA HSB CA CB HX1
          by_cases hbe : fnL x j = fnL y j
          · rw [← hbe] at d1
            generalize fnL x j = xb at *
            clear hbe
            go_wp2
            refine region_still (by kernel_rfl) (by kernel_rfl) ?_
            repeat still_step
            refine wpStill_nil ?_
            go_wp2
            exact ⟨⟨j + 1, by omega, congrArg (Value.int .i64) (by omega), HBD⟩, by simp [intOf]; omega⟩
          · have HF := Lib.hid (HR.out hbe)
            have qn : (((fnL x j).toNat : Int) == ((fnL y j).toNat : Int)) = false := by
              simp only [beq_eq_false_iff_ne, ne_eq]
              intro h
              exact hbe (BitVec.eq_of_toNat_eq (by omega))
            generalize (fnL x j).toNat = xb at *
            generalize (fnL y j).toNat = yb at *
            clear hbe HR
            go_wp2
            refine region_still (by kernel_rfl) (by kernel_rfl) ?_
            repeat still_step
            refine wpStill_nil ?_
            go_wp2
            go_ret
            exact ⟨⟨false, rfl, fun h => absurd h HF.out⟩, HBD.out⟩
        · obtain rfl : j = lx := by omega
          clear HSA HSB CA CB
          go_wp2
          exact ⟨⟨z + 1, by omega, congrArg (Value.int .i64) (by omega), hbi⟩, by simp [intOf]; omega⟩
    · obtain rfl : z = m := by omega
      clear HA HB
      go_wp2
      go_ret
      exact ⟨⟨true, rfl, fun _ => rfl⟩, hbw.out⟩
end Go.Proofs.YtpnkcacmmjmehaaDoor.Jour
