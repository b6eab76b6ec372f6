/-
  The program's own journal: Only.
-/
import Derived.Test.YtpnkcacmmjmehaaDoorJrAdd
namespace Go.Proofs.YtpnkcacmmjmehaaDoor.Jour
open Go Go.RowKit Go.Proofs.YtpnkcacmmjmehaaDoor.Aid Go.Proofs.YtpnkcacmmjmehaaDoor.Cache Go.Proofs.YtpnkcacmmjmehaaDoor.Store
open Go.Proofs.YtpnkcacmmjmehaaDoor.Sha (Consts)

theorem jonly_broken {w : World} {F : Nat → Prop} {g : Nat} {V : Value} {L : List By} (h : OwnJ w F g (.pointer none) V L) (v : Value) :
    Calls Tryd.prog 9 #[.pointer (some ⟨g, 0, none⟩), v] w fun y w' => y = .returned (.int .i64 8) ∧ w' = w := by
  have HB := Lib.hid (jbroken h)
  clear h
  go_enter Tryd.func9, Tryd.ntmps9
  go_wp2_with fail
  refine HB.out.mono ?_
  rintro _ w1 ⟨rfl, rfl⟩
  go_wp2
  go_ret
  exact ⟨rfl, rfl⟩
/-- What Only leaves and answers. -/
def OnlyPost (w : World) (F FJ : Nat → Prop) (g : Nat) (s : Value) (m : Nat) (st : St) (L M : List By) (y : Ending) (w' : World) : Prop :=
  y = .returned (.int .i64 (onlyC Dg m st M)) ∧ ∃ F' FJ' V', RepOwn w' F' s m (onlyS Dg m st M) ∧ (onlyC Dg m st M ≠ 8 → OwnJ w' FJ' g s V' (onlyL Dg m st L M)) ∧ (onlyC Dg m st M = 8 → OwnJ w' FJ' g (.pointer none) V' L) ∧ (∀ b, FJ' b → ¬ F' b) ∧ Cache.Leaves (fun b => F b ∨ FJ b) w w' ∧ (∀ b, F' b ∨ FJ' b → (F b ∨ FJ b) ∨ w.heap.size ≤ b)
theorem encAll_le {M : List By} (h : ∀ x ∈ M, x.length ≤ 1000) : (encAll Dg M).length ≤ 1010 * M.length := by
  induction M with
  | nil => exact Nat.le_refl _
  | cons x M ih =>
    have h1 := h x (List.mem_cons_self ..)
    have h2 := ih (fun y hy => h y (List.mem_cons_of_mem _ hy))
    rw [encAll, List.length_append, enc_len dg_len, List.length_cons]
    omega
theorem rep_codes (m : Nat) (st : St) (n : Nat) : repC m st n = 0 ∨ repC m st n = 7 ∨ repC m st n = 8 := by
  unfold repC
  split
  · split
    · exact .inl rfl
    · exact .inr (.inl rfl)
  · exact .inr (.inr rfl)
theorem encAll_step {M : List By} {k : Nat} {x : By} (h : M[k]? = some x) : encAll Dg (M.take (k + 1)) = encAll Dg (M.take k) ++ enc Dg x := by
  obtain ⟨hk, rfl⟩ := List.getElem?_eq_some_iff.1 h
  rw [List.take_succ_eq_append_getElem hk, encAll_append, encAll_one]
set_option maxRecDepth 100000 in
set_option maxHeartbeats 1000000 in
theorem jonly {w : World} (hk : Consts w) {F FJ : Nat → Prop} {g m : Nat} {p : Addr} {V : Value} {st : St} {L : List By} (h : RepOwn w F (.pointer (some p)) m st) (hj : OwnJ w FJ g (.pointer (some p)) V L) (hab : ∀ b, FJ b → ¬ F b)
    (M : List By) (v : Value) (hM : PartsP w (fun b => ¬ F b ∧ ¬ FJ b) M v) (hn : M.length ≤ 1000) (hs : ∀ x ∈ M, x.length ≤ 1000000) :
    Calls Tryd.prog 9 #[.pointer (some ⟨g, 0, none⟩), v] w (OnlyPost w F FJ g (.pointer (some p)) m st L M) := by
  have HBK := Lib.hid (jbroken hj)
  have H0 : Hid (OnSt w w F FJ F g (.pointer (some p)) V m st L) := Lib.hid ⟨h, hj, Cache.Leaves.refl _ _, fun b hb => .inl hb⟩
  have HK := Lib.hid hk
  have HAB := Lib.hid hab
  have HP := Lib.hid hM
  have HS := Lib.hid hs
  obtain ⟨A, c, rfl, -⟩ := hM
  have HJLT := Lib.hid hj.lt
  have HNN := Lib.hid hn
  clear h hj hk hab hn hs
  unfold OnlyPost
  go_enter Tryd.func9, Tryd.ntmps9
  go_wp2_with fail
  refine HBK.out.mono ?_
  rintro _ w1 ⟨rfl, rfl⟩
  clear HBK
  go_wp2
  go_loopw [15] (fun iv wr => ∃ k : Nat, k ≤ M.length ∧ iv = .int .i64 (k : Int) ∧ wr = w1 ∧ Hid (∀ j x, j < k → M[j]? = some x → x.length ≤ 1000)) (fun i _ => M.length - (intOf i).toNat)
  case atStart => exact ⟨0, by omega, rfl, rfl, Lib.hid (fun j x hj => by omega)⟩
  case round =>
    obtain ⟨k, hk, rfl, rfl, hsm⟩ := hrel
    by_cases hlt : k < M.length
    · obtain ⟨sb, so, A', c', rfl, ca, hx⟩ := PartsP.at_ HP.out k hlt
      have hXk := List.getElem?_eq_getElem hlt
      generalize M[k] = x at *
      have HXk := Lib.hid hXk
      have q0 : (0 : Int) ≤ (k : Int) := by omega
      have q1 : (k : Int) < (M.length : Int) := by omega
      clear hx hXk
      by_cases hbig : 1000 < x.length
      · have q2 : (1000 : Int) < (x.length : Int) := by omega
        have HE : Hid (∃ x ∈ M, 1000 < x.length) := Lib.hid ⟨x, List.mem_of_getElem? HXk.out, hbig⟩
        have HC : Hid (onlyC Dg m st M = 7) := Lib.hid (by unfold onlyC; rw [if_pos HE.out])
        have HSS : Hid (onlyS Dg m st M = st) := Lib.hid (by unfold onlyS; rw [if_pos HE.out])
        have HLq : Hid (onlyL Dg m st L M = L) := Lib.hid (by unfold onlyL; rw [HC.out, if_neg (by decide)])
        go_wp2
        go_ret
        rw [HC.out, HSS.out, HLq.out]
        exact ⟨rfl, F, FJ, V, H0.out.rs, fun _ => H0.out.oj, fun h => absurd h (by decide), HAB.out, Cache.Leaves.refl _ _, fun b hb => .inl hb⟩
      · have q2 : ¬ (1000 : Int) < (x.length : Int) := by omega
        have hw : wrap64 ((k : Int) + 1) = (k : Int) + 1 := by unfold wrap64; have := HNN.out; omega
        have HS2 : Hid (∀ j x, j < k + 1 → M[j]? = some x → x.length ≤ 1000) := Lib.hid (fun j y hj hy => by
          by_cases hjk : j = k
          · subst hjk
            rw [HXk.out] at hy
            cases hy
            omega
          · exact hsm.out j y (by omega) hy)
        clear hsm hbig
        go_wp2
        rw [hw]
        exact ⟨⟨k + 1, by omega, congrArg (Value.int .i64) (by omega), trivial, HS2⟩, by show M.length - ((k : Int) + 1).toNat < M.length - (k : Int).toNat; omega⟩
    · obtain rfl : k = M.length := by omega
      have HSM : Hid (∀ x ∈ M, x.length ≤ 1000) := Lib.hid (fun x hx => by
        obtain ⟨j, hj⟩ := List.mem_iff_getElem?.1 hx
        exact hsm.out j x (List.getElem?_eq_some_iff.1 hj).1 hj)
      have q1 : ¬ (M.length : Int) < (M.length : Int) := by omega
      clear hsm
      have HC0 : Hid (onlyC Dg m st M = repC m st (encAll Dg M).length) := Lib.hid (by unfold onlyC; rw [if_neg (fun ⟨x, hx, hb⟩ => by have := HSM.out x hx; omega)])
      have HS0 : Hid (onlyS Dg m st M = repS m st (encAll Dg M).length (fnL (encAll Dg M))) := Lib.hid (by unfold onlyS; rw [if_neg (fun ⟨x, hx, hb⟩ => by have := HSM.out x hx; omega)])
      clear hk hlt
      obtain ⟨w0, rfl⟩ : ∃ w0, w0 = wr := ⟨_, rfl⟩
      go_wp2
      go_loopw [7, 25] (fun v iv wr => ∃ k : Nat, k ≤ M.length ∧ iv = .int .i64 (k : Int) ∧ Hid (Own wr w0.heap.size (encAll Dg (M.take k)).length (fnL (encAll Dg (M.take k))) v ∧ Below w0.heap.size w0 wr)) (fun _ i _ => M.length - (intOf i).toNat)
      case atStart => exact ⟨0, by omega, rfl, Lib.hid ⟨⟨by simp [encAll], .inl ⟨rfl, by simp [encAll]⟩⟩, Below.refl _ _⟩⟩
      case round =>
        obtain ⟨k, hk, rfl, hO⟩ := hrel
        by_cases hlt : k < M.length
        · obtain ⟨sb, so, A', c', rfl, ca, hx⟩ := PartsP.at_ HP.out k hlt
          have HXk := Lib.hid (List.getElem?_eq_getElem hlt)
          have HXs := Lib.hid (HSM.out _ (List.getElem_mem hlt))
          generalize M[k] = x at *
          have ca' := (hO.out.2.cell (p := ⟨sb, so + k, none⟩) (block_lt_of_cell ca)).trans ca
          have HX := Lib.hid (hx.below hO.out.2)
          have q0 : (0 : Int) ≤ (k : Int) := by omega
          have q1 : (k : Int) < (M.length : Int) := by omega
          have hw : wrap64 ((k : Int) + 1) = (k : Int) + 1 := by unfold wrap64; have := HNN.out; omega
          have HSTEP := Lib.hid (encAll_step HXk.out)
          have HLE : Hid ((encAll Dg (M.take k)).length ≤ 1010000) := Lib.hid (by
            have := encAll_le (M := M.take k) (fun y hy => HSM.out y (List.mem_of_mem_take hy))
            have h2 : (M.take k).length ≤ M.length := by rw [List.length_take]; omega
            have h3 := HNN.out
            omega)
          clear ca hx
          go_wp2_with fail
          refine (jenc (HK.out.below hO.out.2 (Nat.le_refl _)) HX.out.slice HXs.out).mono ?_
          rintro _ wa ⟨ev, rfl, hev, hba⟩
          have HEV := Lib.hid hev
          have HOA := Lib.hid (hO.out.1.below hba)
          have HBA := Lib.hid (hO.out.2.trans (hba.mono hO.out.2.size))
          have hsh := hev
          obtain ⟨eA, ec, rfl, -, -⟩ := hsh
          clear hev hba hO ca'
          go_wp2_with (at_builtin
                       refine append_bytes (by rfl) (.tmp 29) (.tmp 31) (by rfl) w0.heap.size (encAll Dg (M.take k)).length (fnL (encAll Dg (M.take k))) _ (by rfl) HOA.out _ (enc Dg x).length (fnL (enc Dg x)) _ (by rfl) HEV.out.slice (by have := HLE.out; rw [enc_len dg_len]; have := HXs.out; omega) HBA.out.size ?_
                       intro vb wb hob hgb hvb
                       have HOB : Hid (Own wb w0.heap.size (encAll Dg (M.take (k + 1))).length (fnL (encAll Dg (M.take (k + 1)))) vb) := Lib.hid (by
                         rw [HSTEP.out, fnL_app, List.length_append]
                         exact hob)
                       have HBB : Hid (Below w0.heap.size w0 wb) := Lib.hid (HBA.out.trans ⟨hgb.os, hgb.tape, hgb.output, hgb.size, fun b hlt => hgb.block b (Nat.lt_of_lt_of_le hlt HBA.out.size) (fun e => by have := (HOA.out.lt e.symm).1; omega)⟩)
                       clear hob hgb hvb)
          rw [hw]
          exact ⟨⟨k + 1, by omega, congrArg (Value.int .i64) (by omega), Lib.hid ⟨HOB.out, HBB.out⟩⟩, by show M.length - ((k : Int) + 1).toNat < M.length - (k : Int).toNat; omega⟩
        · obtain rfl : k = M.length := by omega
          have q1 : ¬ (M.length : Int) < (M.length : Int) := by omega
          rw [List.take_length] at hO
          have H1 := Lib.hid (H0.out.below hO.out.2)
          have HAP : Hid (Apart wr F (encAll Dg M).length (fnL (encAll Dg M)) u7) := Lib.hid ((own_in hO.out.1 (fun _ _ => rfl)).apart (fun b hb hf => by have := rep_lt H0.out.rs b hf; omega))
          have HPQ : Hid (PartsP wr (fun b => ¬ F b ∧ ¬ FJ b) M (.slice A M.length c)) := Lib.hid (HP.out.below hO.out.2)
          have c0 := H1.out.oj.row.cell (i := 0) (by omega)
          rw [jrP0] at c0
          have HRP := Lib.hid (replace_any H1.out.rs (encAll Dg M).length (fnL (encAll Dg M)) u7 HAP.out)
          clear hO HAP hk hlt HP
          generalize (encAll Dg M).length = n at *
          generalize fnL (encAll Dg M) = e at *
          go_wp2_with fail
          refine HRP.out.mono ?_
          rintro _ w3 ⟨rfl, hm3⟩
          obtain ⟨F3, h3⟩ := H1.out.move HAB.out HJLT.out hm3
          have H3 := Lib.hid h3
          have HP3 : Hid (PartsP w3 (fun b => ¬ F b ∧ ¬ FJ b) M (.slice A M.length c)) := Lib.hid (by
            obtain ⟨F', _, hl, _⟩ := hm3
            exact HPQ.out.keep (fun b hlt hb => hl.block b hlt hb.1))
          have HCC := Lib.hid (rep_codes m st n)
          have hrow := h3.oj.row
          generalize repC m st n = C at *
          generalize repS m st n e = st1 at *
          clear hm3 H1 HPQ HRP c0 h3
          rcases HCC.out with rfl | rfl | rfl
          · have HLq : Hid (onlyL Dg m st L M = M) := Lib.hid (by unfold onlyL; rw [HC0.out, if_pos rfl])
            clear HCC hrow
            go_wp2_with fail
            refine (jcopyAll HP3.out (by have := HNN.out; omega) HS.out).mono ?_
            rintro _ w4 ⟨v4, rfl, hr4, hb4⟩
            have hl4 : Cache.Leaves (fun b => FJ b ∧ b ≠ g) w3 w4 := Cache.Leaves.of_below hb4
            have HFR := Lib.hid (H3.out.oj.fresh (W2 := w4) (V' := v4) (L' := M) (K := fun b => (FJ b ∨ w3.heap.size ≤ b) ∧ b < w4.heap.size) hl4 (hr4.less (fun b _ hb => ⟨.inr hb, fun e => by have := H3.out.oj.lt g H3.out.oj.fg; omega⟩)) (fun b hlt hb => ⟨hb, hlt⟩) (fun b hb => hb.2))
            have r4 := H3.out.oj.row.of_block (hb4.block g (H3.out.oj.lt g H3.out.oj.fg))
            have c4 := r4.cell (i := 1) (by omega)
            rw [jrP1] at c4
            have f4 := r4.frozen 1
            obtain ⟨A4, d4, hs4⟩ := HFR.out.1.recs.shape
            subst hs4
            clear hr4 hb4 hl4 r4
            go_wp2_with fail
            have HH := Lib.hid (jheed HFR.out.1 0)
            refine HH.out.mono ?_
            rintro _ w5 ⟨rfl, hsame, -, -⟩
            obtain rfl := hsame (by simp)
            clear hsame HH
            go_wp2
            go_ret
            rw [HC0.out, HS0.out, HLq.out]
            obtain ⟨k1, k2, k3, k4⟩ := H3.out.both HAB.out HJLT.out (F2 := fun b => (FJ b ∨ w3.heap.size ≤ b) ∧ b < w4.heap.size) HFR.out.2 (fun b hb => hb.1)
            exact ⟨rfl, F3, _, _, k1, fun _ => HFR.out.1, fun h => absurd h (by decide), k2, k3, k4⟩
          · have HLq : Hid (onlyL Dg m st L M = L) := Lib.hid (by unfold onlyL; rw [HC0.out, if_neg (by decide)])
            have HH := Lib.hid (jheed H3.out.oj 7)
            clear HCC hrow
            go_wp2_with fail
            refine HH.out.mono ?_
            rintro _ w4 ⟨rfl, hsame, -, -⟩
            obtain rfl := hsame (by simp)
            clear hsame HH
            go_wp2
            go_ret
            rw [HC0.out, HS0.out, HLq.out]
            obtain ⟨k1, k2, k3, k4⟩ := H3.out.both (W' := w4) HAB.out HJLT.out (F2 := FJ) (Cache.Leaves.refl _ _) (fun b hb => .inl hb)
            exact ⟨rfl, F3, FJ, V, k1, fun _ => H3.out.oj, fun h => absurd h (by decide), k2, k3, k4⟩
          · have HH := Lib.hid (jheed H3.out.oj 8)
            clear HCC hrow
            go_wp2_with fail
            refine HH.out.mono ?_
            rintro _ w4 ⟨rfl, -, hbrk, hl4⟩
            have HB4 := Lib.hid (hbrk (by decide))
            have HL4 := Lib.hid hl4
            clear hbrk hl4 HH
            go_wp2
            go_ret
            rw [HC0.out, HS0.out]
            obtain ⟨k1, k2, k3, k4⟩ := H3.out.both HAB.out HJLT.out (F2 := FJ) HL4.out (fun b hb => .inl hb)
            exact ⟨rfl, F3, FJ, V, k1, fun h => absurd rfl h, fun _ => HB4.out, k2, k3, k4⟩
end Go.Proofs.YtpnkcacmmjmehaaDoor.Jour
