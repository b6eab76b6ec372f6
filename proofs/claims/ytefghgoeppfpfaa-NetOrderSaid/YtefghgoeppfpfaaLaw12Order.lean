/-
  The walk of NetOrder.
-/
import Derived.Test.YtefghgoeppfpfaaLaw12Awake
import Derived.Test.YtefghgoeppfpfaaLaw12Size
import Derived.Test.YtefghgoeppfpfaaRefSame12
import Derived.Test.YtefghgoeppfpfaaMix
import Derived.Deep.DeepCutAuto
import Derived.BigQuiet
namespace Go.Proofs.Ytefghgoeppfpfaa.Law12
open Go Go.RowKit Go.Proofs.Ytefghgoeppfpfaa.Aid Go.Proofs.Ytefghgoeppfpfaa.Cache Go.Proofs.Ytefghgoeppfpfaa.Net

def lts (X : Nat → OpN) (n : Nat) : List Lt := (List.range n).map (fun i => (X i).x)
theorem lts_len (X : Nat → OpN) (n : Nat) : (lts X n).length = n := by simp [lts]
theorem lts_at (X : Nat → OpN) (n k : Nat) (h : k < n) : (lts X n)[k]? = some (X k).x := by unfold lts; rw [List.getElem?_map, List.getElem?_range h]; rfl
theorem take_send (X : Nat → OpN) (n k room : Nat) (h : k < n) (hr : n ≤ room) : sendC room ((lts X n).take k) = 0 ∧ sendL room ((lts X n).take k) (X k).x = (lts X n).take (k + 1) := by
  have hl : ((lts X n).take k).length = k := by rw [List.length_take, lts_len]; omega
  unfold sendC sendL
  rw [hl, if_pos (by omega), if_pos (by omega), List.take_add_one, lts_at X n k h]
  exact ⟨rfl, rfl⟩
theorem drop_later (l : List Lt) (k : Nat) (h : k < l.length) : laterL (l.drop k ++ l.take k) = l.drop (k + 1) ++ l.take (k + 1) ∧ 0 < (l.drop k ++ l.take k).length := by
  have hd : l.drop k = l[k] :: l.drop (k + 1) := List.drop_eq_getElem_cons h
  have ht : l.take (k + 1) = l.take k ++ [l[k]] := by rw [List.take_add_one, List.getElem?_eq_getElem h]; rfl
  rw [hd, ht]
  exact ⟨List.append_assoc _ _ _, Nat.succ_pos _⟩
theorem drop_take (X : Nat → OpN) (n k : Nat) (h : k < n) : ((lts X n).drop k).headD zeroL = (X k).x ∧ 0 < ((lts X n).drop k).length ∧ ((lts X n).drop k).tail = (lts X n).drop (k + 1) := by
  have hk : k < (lts X n).length := by rw [lts_len]; exact h
  have e : (lts X n)[k] = (X k).x := by
    have := lts_at X n k h
    rw [List.getElem?_eq_getElem hk] at this
    simpa using this
  rw [List.drop_eq_getElem_cons hk]
  exact ⟨e, Nat.succ_pos _, rfl⟩
set_option maxRecDepth 100000 in
set_option maxHeartbeats 4000000 in
theorem order_any {Rep : RepN} (H : NetHas Rep) (n : Nat) (X : Nat → OpN) (v : Value) (more : Int) (w : World) (hv : LetsIn w n X v) :
    Calls Try.prog 4 #[v, .int .i64 more] w fun x w' => x = .returned (.bool true) ∧ Below w.heap.size w w' := by
  obtain ⟨A, c, rfl, hr⟩ := hv.rows
  have HV := Lib.hid hr
  have HLT := Lib.hid hv.lt
  have HH := Lib.hid H
  have AW := Lib.hid (awake_in H w)
  clear hv hr H
  go_enter Try.func4, Try.ntmps4
  go_wp2_with fail
  refine AW.out.mono ?_
  rintro _ w1 ⟨rfl, hb1⟩
  have B1 := Lib.hid hb1
  clear AW hb1
  go_wp2_with fail
  go_loopw [6, 7] (fun s i wr => ∃ (k m : Nat), k ≤ n ∧ i = .int .i64 (k : Int) ∧ s = .int .i64 (m : Int) ∧ Hid (Below w.heap.size w wr ∧ k ≤ m ∧ ∀ i, i < k → (X i).x.n ≤ m) ∧ m ≤ 600000000000000) (fun _ i _ => n - (intOf i).toNat)
  case atStart => exact ⟨0, 0, by omega, rfl, rfl, Lib.hid ⟨B1.out, by omega, fun i hi => by omega⟩, by omega⟩
  case round =>
    clear B1
    obtain ⟨k, m, hk, rfl, rfl, hh, hm⟩ := hrel
    by_cases hlt : k < n
    · by_cases hms : m < 100000
      · obtain ⟨b, o, rfl, hbB, hc⟩ := HV.out (by omega)
        have hbel := hh.out.1
        have hL := HLT.out k hlt
        obtain ⟨bA, bc, hbv⟩ := hL.shape
        have c0 := (hbel.cell (p := ⟨b, o + k * 3, none⟩) hbB).trans (hc k hlt 0 _ rfl)
        have c1 := (hbel.cell (p := ⟨b, o + k * 3 + 1, none⟩) hbB).trans (hc k hlt 1 _ rfl)
        have c2 := (hbel.cell (p := ⟨b, o + k * 3 + 2, none⟩) hbB).trans (hc k hlt 2 _ rfl)
        rw [hbv] at c2
        have q0 : (0 : Int) ≤ (k : Int) := by omega
        have q1 : (k : Int) < (n : Int) := by omega
        have q2 : (m : Int) < 100000 := by omega
        have hn := hL.n
        have hf := hL.f
        have ht := hL.t
        have HN : Hid (Below w.heap.size w wr.drew ∧ k + 1 ≤ m + (X k).x.n + (X k).x.f.size + (X k).x.t.size + 1 ∧ ∀ i, i < k + 1 → (X i).x.n ≤ m + (X k).x.n + (X k).x.f.size + (X k).x.t.size + 1) := Lib.hid ⟨hh.out.1.drew, by have := hh.out.2.1; omega, fun i hi => by
          by_cases e : i = k
          · rw [e]; omega
          · have := hh.out.2.2 i (by omega); omega⟩
        have w1 : IntKind.i64.wrap ((m : Int) + ((X k).x.n : Int)) = (m : Int) + ((X k).x.n : Int) := wrap_in (by omega) (by omega)
        have w2 : IntKind.i64.wrap ((m : Int) + ((X k).x.n : Int) + ((X k).x.f.size : Int)) = (m : Int) + ((X k).x.n : Int) + ((X k).x.f.size : Int) := wrap_in (by omega) (by omega)
        have w3 : IntKind.i64.wrap ((m : Int) + ((X k).x.n : Int) + ((X k).x.f.size : Int) + ((X k).x.t.size : Int)) = (m : Int) + ((X k).x.n : Int) + ((X k).x.f.size : Int) + ((X k).x.t.size : Int) := wrap_in (by omega) (by omega)
        have w4 : IntKind.i64.wrap ((m : Int) + ((X k).x.n : Int) + ((X k).x.f.size : Int) + ((X k).x.t.size : Int) + 1) = (((m + (X k).x.n + (X k).x.f.size + (X k).x.t.size + 1 : Nat) : Nat) : Int) := (wrap_in (by omega) (by omega)).trans (by omega)
        have w5 : wrap64 ((k : Int) + 1) = (((k + 1 : Nat) : Nat) : Int) := (wrap64_id (by omega) (by have := hh.out.2.1; omega)).trans (by omega)
        have HM : Hid (m + (X k).x.n + (X k).x.f.size + (X k).x.t.size + 1 ≤ 600000000000000) := Lib.hid (by omega)
        clear hn hf ht hm
        generalize (X k).x.n = bn at *
        generalize (X k).x.f = sf at *
        generalize (X k).x.t = st at *
        have W1 := Lib.hid w1
        have W2 := Lib.hid w2
        have W3 := Lib.hid w3
        have W4 := Lib.hid w4
        have W5 := Lib.hid w5
        clear hc hbel hL hh HLT HV w1 w2 w3 w4 w5
        go_upto_region 6 with fail
        refine region_still (by kernel_rfl) (by kernel_rfl) ?_
        repeat still_step
        refine wpStill_nil ?_
        clear c0 c1 c2 hbv
        rw [W1.out, W2.out, W3.out, W4.out]
        generalize m + bn + sf.size + st.size + 1 = m2 at *
        clear W1 W2 W3 W4
        go_wp2
        rw [W5.out]
        exact ⟨⟨k + 1, m2, by omega, rfl, rfl, HN, HM.out⟩, by simp [intOf]; omega⟩
      · have q1 : (k : Int) < (n : Int) := by omega
        have q2 : ¬ (m : Int) < 100000 := by omega
        have q3 : (2000 : Int) < (m : Int) := by omega
        have HX := Lib.hid hh.out.1
        clear hh HLT HV
        go_wp2
        go_ret
        exact ⟨rfl, HX.out⟩
    · obtain rfl : k = n := by omega
      have HX := Lib.hid hh.out.1
      by_cases hbad : 2000 < m ∨ k = 0 ∨ more < 0 ∨ 900 < more ∨ 90 < k
      · clear hh HLT HV
        by_cases h1 : 2000 < m
        · have q3 : (2000 : Int) < (m : Int) := by omega
          clear hbad
          go_wp2
          go_ret
          exact ⟨rfl, HX.out⟩
        have q3 : ¬ (2000 : Int) < (m : Int) := by omega
        by_cases h2 : k = 0
        · subst h2
          clear hbad
          go_wp2
          go_ret
          exact ⟨rfl, HX.out⟩
        have q4 : ((k : Int) == 0) = false := by simp; omega
        by_cases h3 : more < 0
        · clear hbad
          go_wp2
          go_ret
          exact ⟨rfl, HX.out⟩
        by_cases h4 : 900 < more
        · clear hbad
          go_wp2
          go_ret
          exact ⟨rfl, HX.out⟩
        · have q5 : (90 : Int) < (k : Int) := by omega
          clear hbad
          go_wp2
          go_ret
          exact ⟨rfl, HX.out⟩
      · have q3 : ¬ (2000 : Int) < (m : Int) := by omega
        have q4 : ((k : Int) == 0) = false := by simp; omega
        have q5 : ¬ more < 0 := by omega
        have q6 : ¬ 900 < more := by omega
        have q7 : ¬ (90 : Int) < (k : Int) := by omega
        obtain ⟨r, rfl⟩ : ∃ r : Nat, more = (r : Int) := ⟨more.toNat, by omega⟩
        have HSM : Hid (∀ i, i < k → (X i).x.n ≤ 2000) := Lib.hid (fun i hi => by have := hh.out.2.2 i hi; omega)
        have HK : Hid (1 ≤ k ∧ k ≤ 90 ∧ r ≤ 900) := Lib.hid (by omega)
        clear hh hbad hm hlt
        go_wp2_with fail
        rw [show (k : Int) + (r : Int) = ((k + r : Nat) : Int) by omega]
        refine (HH.out.form.newH (k + r) (by have := HK.out; omega) w wr HX.out).mono ?_
        rintro _ w3 ⟨p, rfl, g3, -⟩
        have G3 := Lib.hid g3
        clear g3 HX
        go_wp2
        go_loopw [10] (fun i wr => ∃ (j : Nat), j ≤ k ∧ i = .int .i64 (j : Int) ∧ Hid (Held Rep w wr (fun _ => False) (.pointer (some p)) (k + r) ((lts X k).take j))) (fun i _ => k - (intOf i).toNat)
        case atStart => exact ⟨0, by omega, rfl, G3⟩
        case round =>
          clear G3
          obtain ⟨j, hj, rfl, G4⟩ := hrel
          by_cases hjk : j < k
          · obtain ⟨b, o, rfl, hbB, hc⟩ := HV.out (by omega)
            have hbel := G4.out.bel
            have hL := HLT.out j hjk
            obtain ⟨bA, bc, hbv⟩ := hL.shape
            have c0 := (hbel.cell (p := ⟨b, o + j * 3, none⟩) hbB).trans (hc j hjk 0 _ rfl)
            have c1 := (hbel.cell (p := ⟨b, o + j * 3 + 1, none⟩) hbB).trans (hc j hjk 1 _ rfl)
            have c2 := (hbel.cell (p := ⟨b, o + j * 3 + 2, none⟩) hbB).trans (hc j hjk 2 _ rfl)
            rw [hbv] at c2
            have rd := slice_here (slice_below hL.read hbel)
            rw [hbv] at rd
            have q0 : (0 : Int) ≤ (j : Int) := by omega
            have q1 : (j : Int) < (k : Int) := by omega
            obtain ⟨s1, s2⟩ := take_send X k j (k + r) hjk (by omega)
            have CALL := HH.out.form.sendH G4.out (X j).x (.slice bA (X j).x.n bc) rd (HSM.out j hjk)
            rw [s1, s2] at CALL
            have HC := Lib.hid CALL
            clear hc hbel hL rd s1 s2 CALL G4 HLT HV
            go_wp2_with fail
            refine HC.out.mono ?_
            rintro _ w5 ⟨rfl, g5, -⟩
            have G5 := Lib.hid g5
            clear g5 HC c0 c1 c2 hbv
            go_wp2
            exact ⟨⟨j + 1, by omega, congrArg (Value.int .i64) (by omega), G5⟩, by simp [intOf]; omega⟩
          · obtain rfl : j = k := by omega
            have e : (lts X j).take j = lts X j := List.take_of_length_le (by rw [lts_len]; exact Nat.le_refl _)
            have g5 := G4.out
            rw [e] at g5
            have e2 : lts X j = (lts X j).drop 0 ++ (lts X j).take 0 := by simp
            rw [e2] at g5
            have G5 := Lib.hid g5
            clear g5 G4 e e2
            go_wp2
            go_loopw [11] (fun i wr => ∃ (y : Nat), y ≤ j ∧ i = .int .i64 (y : Int) ∧ Hid (Held Rep w wr (fun _ => False) (.pointer (some p)) (j + r) ((lts X j).drop y ++ (lts X j).take y))) (fun i _ => j - (intOf i).toNat)
            case atStart => exact ⟨0, by omega, rfl, G5⟩
            case round =>
              clear G5
              obtain ⟨y, hy, rfl, G6⟩ := hrel
              by_cases hyj : y < j
              · have q1 : (y : Int) < (j : Int) := by omega
                obtain ⟨s1, s2⟩ := drop_later (lts X j) y (by rw [lts_len]; exact hyj)
                have CALL := HH.out.form.laterH G6.out
                rw [s1, decide_eq_true s2] at CALL
                have HC := Lib.hid CALL
                clear s1 s2 CALL G6 HLT HV
                go_wp2_with fail
                refine HC.out.mono ?_
                rintro _ w7 ⟨rfl, g7, -⟩
                have G7 := Lib.hid g7
                clear g7 HC
                go_wp2
                exact ⟨⟨y + 1, by omega, congrArg (Value.int .i64) (by omega), G7⟩, by simp [intOf]; omega⟩
              · obtain rfl : y = j := by omega
                have e : (lts X y).drop y ++ (lts X y).take y = lts X y := by
                  rw [List.take_of_length_le (by rw [lts_len]; exact Nat.le_refl _), List.drop_eq_nil_of_le (by rw [lts_len]; exact Nat.le_refl _)]
                  rfl
                have g7 := G6.out
                rw [e] at g7
                have G7 := Lib.hid g7
                clear g7 G6 e
                have eT : r = 0 → twiceC (y + r) (lts X y) = 7 ∧ twiceL (y + r) (lts X y) = lts X y := fun hr0 => by
                  subst hr0
                  have hy0 := HK.out.1
                  unfold twiceC twiceL sendC sendL
                  rw [lts_len, if_neg (by omega), if_neg (by omega), if_neg (by omega), if_neg (by omega)]
                  exact ⟨rfl, rfl⟩
                have ET := Lib.hid eT
                clear eT
                have HLEN : Hid (((lts X y).length : Int) = (y : Int)) := Lib.hid (by rw [lts_len])
                go_upto_region 22 with fail
                go_cut [122] (fun v wx => v = .bool false ∧ Hid (Held Rep w wx (fun _ => False) (.pointer (some p)) (y + r) (lts X y)))
                case first =>
                  by_cases hr0 : r = 0
                  · subst hr0
                    obtain ⟨t1, t2⟩ := ET.out rfl
                    have CALL := HH.out.form.twiceH G7.out
                    rw [t1, t2] at CALL
                    have HC := Lib.hid CALL
                    clear t1 t2 CALL ET HV HLT G7
                    go_wp2_with fail
                    refine HC.out.mono ?_
                    rintro _ w8 ⟨rfl, g8, -⟩
                    have HL := Lib.hid (HH.out.lenH g8)
                    clear HC g8
                    go_wp2_with fail
                    refine HL.out.mono ?_
                    rintro _ w9 ⟨rfl, g9, -⟩
                    have G9 := Lib.hid g9
                    rw [HLEN.out]
                    clear g9 HL
                    go_wp2
                    go_meet
                    exact ⟨rfl, G9⟩
                  · have q8 : ((r : Int) == 0) = false := by simp; omega
                    have HL := Lib.hid (HH.out.lenH G7.out)
                    clear ET HV HLT G7
                    go_wp2_with fail
                    refine HL.out.mono ?_
                    rintro _ w9 ⟨rfl, g9, -⟩
                    have G9 := Lib.hid g9
                    rw [HLEN.out]
                    clear g9 HL
                    go_wp2
                    go_meet
                    exact ⟨rfl, G9⟩
                case rest =>
                  obtain ⟨rfl, G9⟩ := hcut
                  have e2 : lts X y = (lts X y).drop 0 := rfl
                  have g9 := G9.out
                  rw [e2] at g9
                  have G10 := Lib.hid g9
                  clear g9 G9 e2 G7 ET HLEN
                  go_wp2
                  go_loopw [12] (fun i wr => ∃ (z : Nat), z ≤ y ∧ i = .int .i64 (z : Int) ∧ Hid (Held Rep w wr (fun _ => False) (.pointer (some p)) (y + r) ((lts X y).drop z))) (fun i _ => y - (intOf i).toNat)
                  case atStart => exact ⟨0, by omega, rfl, G10⟩
                  case round =>
                    clear G10
                    obtain ⟨z, hz, rfl, G11⟩ := hrel
                    by_cases hzy : z < y
                    · obtain ⟨b, o, rfl, hbB, hc⟩ := HV.out (by omega)
                      have hL := HLT.out z hzy
                      obtain ⟨bA, bc, hbv⟩ := hL.shape
                      have rd := hL.read
                      rw [hbv] at rd
                      have i0 := hc z hzy 0 _ rfl
                      have i1 := hc z hzy 1 _ rfl
                      have i2 : w.cell? ⟨b, o + z * 3 + 2, none⟩ = some (X z).bv := hc z hzy 2 _ rfl
                      rw [hbv] at i2
                      have q0 : (0 : Int) ≤ (z : Int) := by omega
                      have q1 : (z : Int) < (y : Int) := by omega
                      obtain ⟨s1, s2, s3⟩ := drop_take X y z hzy
                      have CALL := HH.out.takeH G11.out
                      rw [s1, s3, decide_eq_true s2] at CALL
                      have HC := Lib.hid CALL
                      have HX : Hid ((X z).x.n ≤ 2000) := Lib.hid (HSM.out z hzy)
                      have RD := Lib.hid rd
                      have I0 := Lib.hid i0
                      have I1 := Lib.hid i1
                      have I2 := Lib.hid i2
                      clear hc hL s1 s2 s3 CALL G11 HLT HV rd i0 i1 i2 hbv
                      generalize (X z).x = x at *
                      go_wp2_with fail
                      refine HC.out.mono ?_
                      rintro _ w11 ⟨A11, c11, r11, rfl, -, g11, got11⟩
                      have b12 : Below w11.heap.size w11 (w11.alloc (.cells #[.string x.f, .string x.t, .slice A11 x.n c11] 34)) := (Below.refl _ _).alloc (Nat.le_refl _) _
                      have G12 := Lib.hid (HH.out.form.more (K' := fun _ => False) g11 b12 (fun _ h => h.elim))
                      have S12 := Lib.hid (got11.read _ (fun b hb => b12.block b (g11.old b (.inl hb))))
                      have f0 : (w11.alloc (.cells #[.string x.f, .string x.t, .slice A11 x.n c11] 34)).cell? ⟨w11.heap.size, 0, none⟩ = some (.string x.f) := by go_simp
                      have f1 : (w11.alloc (.cells #[.string x.f, .string x.t, .slice A11 x.n c11] 34)).cell? ⟨w11.heap.size, 1, none⟩ = some (.string x.t) := by go_simp
                      have f2 : (w11.alloc (.cells #[.string x.f, .string x.t, .slice A11 x.n c11] 34)).cell? ⟨w11.heap.size, 2, none⟩ = some (.slice A11 x.n c11) := by go_simp
                      have F0 := Lib.hid f0
                      have F1 := Lib.hid f1
                      have F2 := Lib.hid f2
                      clear f0 f1 f2 got11 g11 b12 HC
                      unfold ltV
                      go_upto_region 28 with fail
                      generalize w11.alloc (.cells #[.string x.f, .string x.t, .slice A11 x.n c11] 34) = W12 at *
                      generalize w11.heap.size = k13 at *
                      have hbel := G12.out.bel
                      have i0 := (hbel.cell (p := ⟨b, o + z * 3, none⟩) hbB).trans I0.out
                      have i1 := (hbel.cell (p := ⟨b, o + z * 3 + 1, none⟩) hbB).trans I1.out
                      have i2 := (hbel.cell (p := ⟨b, o + z * 3 + 2, none⟩) hbB).trans I2.out
                      have hS : W12.drew.cell? ⟨k13, 2, none⟩ = some (.slice A11 x.n c11) ∧ W12.drew.cell? ⟨b, o + z * 3 + 2, none⟩ = some (.slice bA x.n bc) := ⟨F2.out, i2⟩
                      have J0 := Lib.hid i0
                      have J1 := Lib.hid i1
                      have RD12 := Lib.hid (slice_here (slice_below RD.out hbel))
                      clear i0 i1 i2 I0 I1 I2 RD F2 hbel
                      refine region_mix (fun W => W.cell? ⟨k13, 2, none⟩ = some (.slice A11 x.n c11) ∧ W.cell? ⟨b, o + z * 3 + 2, none⟩ = some (.slice bA x.n bc)) [(0, true), (1, true), (2, true), (3, true), (4, true), (5, true), (6, true), (7, false), (8, false)] (by kernel_rfl) (by kernel_rfl) hS ?_
                      iterate 7
                        refine m_val rfl (by rfl) _ (fun W hW => by have u2 := hW.1; have ui := hW.2; go_simp; rfl) ?_
                        simp only [Act.put, List.setIfInBounds_toArray, List.set_cons_zero, List.set_cons_succ]
                      refine m_go rfl ?_
                      go_wp2_with fail
                      refine (Mac.same_gen A11 bA x.n x.n c11 bc x.e x.e _ _ W12.drew S12.out RD12.out (by have := HX.out; omega) (by have := HX.out; omega)).mono ?_
                      rintro _ w13 ⟨rfl, q, rfl⟩
                      rw [Mac.same_refl x.e x.e x.n (fun _ _ => rfl)]
                      have b13 := drewN_below0 ((Below.refl W12.heap.size W12).drew) q
                      have hS13 : (W12.drew.drewN q).cell? ⟨k13, 2, none⟩ = some (.slice A11 x.n c11) ∧ (W12.drew.drewN q).cell? ⟨b, o + z * 3 + 2, none⟩ = some (.slice bA x.n bc) := ⟨(b13.cell (block_lt_of_cell hS.1)).trans hS.1, (b13.cell (block_lt_of_cell hS.2)).trans hS.2⟩
                      have G13 := Lib.hid (HH.out.form.more (K' := fun _ => False) G12.out b13 (fun _ h => h.elim))
                      have f0 := (b13.cell (block_lt_of_cell F0.out)).trans F0.out
                      have f1 := (b13.cell (block_lt_of_cell F1.out)).trans F1.out
                      have j0 := (b13.cell (block_lt_of_cell J0.out)).trans J0.out
                      have j1 := (b13.cell (block_lt_of_cell J1.out)).trans J1.out
                      clear b13 G12 F0 F1 J0 J1 RD12 S12 hS
                      generalize W12.drew.drewN q = w13 at *
                      go_wp2_with fail
                      refine m_on hS13 ?_
                      refine m_go rfl ?_
                      go_wp2_with fail
                      refine m_on hS13 ?_
                      refine m_end ?_
                      clear hS13
                      have G14 : Hid (∀ nq, Held Rep w (w13.drewN nq) (fun _ => False) (.pointer (some p)) (y + r) ((lts X y).drop (z + 1))) := Lib.hid (fun nq => HH.out.form.more (K' := fun _ => False) G13.out (drewN_below0 (Below.refl _ _) nq) (fun _ h => h.elim))
                      clear G13
                      go_upto_region 29 with fail
                      go_quiet (fail)
                      have G15 := Lib.hid (G14.out nq)
                      clear G14
                      go_wp2
                      exact ⟨⟨z + 1, by omega, congrArg (Value.int .i64) (by omega), G15⟩, by simp [intOf]; omega⟩
                    · obtain rfl : z = y := by omega
                      have e : (lts X z).drop z = [] := List.drop_eq_nil_of_le (by rw [lts_len]; exact Nat.le_refl _)
                      have g12 := G11.out
                      rw [e] at g12
                      have HT := Lib.hid (HH.out.takeH g12)
                      clear g12 e G11 HV HLT
                      go_wp2_with fail
                      refine HT.out.mono ?_
                      rintro _ w12 ⟨A12, c12, r12, rfl, -, g12, -⟩
                      rw [show ([] : List Lt).headD zeroL = zeroL from rfl, show ([] : List Lt).tail = [] from rfl, show decide (0 < ([] : List Lt).length) = false from rfl] at *
                      have b13 : Below w12.heap.size w12 (w12.alloc (.cells #[.string zeroL.f, .string zeroL.t, .slice A12 zeroL.n c12] 34)) := (Below.refl _ _).alloc (Nat.le_refl _) _
                      have HL := Lib.hid (HH.out.form.laterH (HH.out.form.more (K' := fun _ => False) g12 b13 (fun _ h => h.elim)))
                      clear g12 b13 HT
                      unfold ltV
                      go_wp2_with fail
                      refine HL.out.mono ?_
                      rintro _ w14 ⟨rfl, g14, -⟩
                      rw [show laterL [] = [] from rfl, show decide (0 < ([] : List Lt).length) = false from rfl] at *
                      have HT2 := Lib.hid (HH.out.form.twiceH g14)
                      clear g14 HL
                      go_wp2_with fail
                      refine HT2.out.mono ?_
                      rintro _ w15 ⟨rfl, g15, -⟩
                      rw [show twiceC (z + r) [] = 4 from rfl, show twiceL (z + r) [] = [] from rfl] at *
                      have HT3 := Lib.hid (HH.out.lenH g15)
                      clear g15 HT2
                      go_wp2_with fail
                      refine HT3.out.mono ?_
                      rintro _ w16 ⟨rfl, g16, -⟩
                      have B16 := Lib.hid g16.bel
                      clear g16 HT3
                      go_wp2
                      go_ret
                      exact ⟨rfl, B16.out⟩
end Go.Proofs.Ytefghgoeppfpfaa.Law12
