/-
  The program's own journal: Add.
-/
import Derived.Test.YtpnkcacmmjmehaaDoorJrOpen
import Derived.Test.YtpnkcacmmjmehaaDoorStAppend
import Derived.Test.YtpnkcacmmjmehaaDoorMix
import Derived.Test.YtpnkcacmmjmehaaDoorMixTail
namespace Go.Proofs.YtpnkcacmmjmehaaDoor.Jour
open Go Go.RowKit Go.Proofs.YtpnkcacmmjmehaaDoor.Aid Go.Proofs.YtpnkcacmmjmehaaDoor.Cache Go.Proofs.YtpnkcacmmjmehaaDoor.Store
open Go.Proofs.YtpnkcacmmjmehaaDoor.Sha (Consts)

/-- While a call on a journal goes on: the store stands for st, and only its blocks were touched. -/
structure OnSt (w W : World) (F FJ F1 : Nat → Prop) (g : Nat) (s V : Value) (m : Nat) (st : St) (L : List By) : Prop where
  rs : RepOwn W F1 s m st
  oj : OwnJ W FJ g s V L
  lv : Cache.Leaves F w W
  f1 : ∀ b, F1 b → F b ∨ w.heap.size ≤ b
section
variable {w W W' : World} {F FJ F1 : Nat → Prop} {g m : Nat} {s V : Value} {st st' : St} {L : List By}
theorem rep_lt (h : RepOwn W F s m st) : ∀ b, F b → b < W.heap.size := by obtain ⟨_, _, _, _, h⟩ := h; exact h.lt
theorem rep_keep (h : RepOwn W F s m st) (hk : ∀ b, F b → W'.heap[b]? = W.heap[b]?) : RepOwn W' F s m st := by obtain ⟨g, Bv, z, hv, h⟩ := h; exact ⟨g, Bv, z, hv, h.kept hk⟩
theorem OnSt.below (h : OnSt w W F FJ F1 g s V m st L) (hb : Below W.heap.size W W') : OnSt w W' F FJ F1 g s V m st L :=
  ⟨rep_keep h.rs (fun b hf => hb.block b (rep_lt h.rs b hf)), h.oj.below hb, h.lv.trans (Cache.Leaves.of_below (F := F) hb) (fun _ hx _ => hx), h.f1⟩
theorem OnSt.ab (h : OnSt w W F FJ F1 g s V m st L) (hab : ∀ b, FJ b → ¬ F b) (hlt : ∀ b, FJ b → b < w.heap.size) : ∀ b, FJ b → ¬ F1 b := fun b hj hf => by
  rcases h.f1 b hf with h1 | h1
  · exact hab b hj h1
  · have := hlt b hj; omega
theorem OnSt.move (h : OnSt w W F FJ F1 g s V m st L) (hab : ∀ b, FJ b → ¬ F b) (hlt : ∀ b, FJ b → b < w.heap.size) (hm : Moved RepOwn F1 W W' s m st') : ∃ F2, OnSt w W' F FJ F2 g s V m st' L := by
  obtain ⟨F2, h1, h2, h3⟩ := hm
  have hsz := h.lv.size
  refine ⟨F2, h1, h.oj.kept (fun b hb => h2.block b (h.oj.lt b hb) (h.ab hab hlt b hb)), h.lv.trans h2 (fun x hx hlt' => (h.f1 x hx).resolve_right (fun h => by omega)), fun b hb => ?_⟩
  rcases h3 b hb with h4 | h4
  · exact h.f1 b h4
  · exact .inr (Nat.le_trans hsz h4)
end
section
variable {w W W' : World} {F FJ F1 : Nat → Prop} {g m : Nat} {s V : Value} {st : St} {L : List By}
theorem OnSt.both (h : OnSt w W F FJ F1 g s V m st L) (hab : ∀ b, FJ b → ¬ F b) (hlt : ∀ b, FJ b → b < w.heap.size) {F2 : Nat → Prop} (hl : Cache.Leaves FJ W W') (h2 : ∀ b, F2 b → FJ b ∨ W.heap.size ≤ b) :
    RepOwn W' F1 s m st ∧ (∀ b, F2 b → ¬ F1 b) ∧ Cache.Leaves (fun b => F b ∨ FJ b) w W' ∧ ∀ b, F1 b ∨ F2 b → (F b ∨ FJ b) ∨ w.heap.size ≤ b := by
  have hd := h.ab hab hlt
  have hsz := h.lv.size
  refine ⟨rep_keep h.rs (fun b hf => hl.block b (rep_lt h.rs b hf) (fun hj => hd b hj hf)), fun b hb hf => ?_, (h.lv.mono (F' := fun b => F b ∨ FJ b) (fun _ _ hx => .inl hx)).trans hl (fun _ hx _ => .inr hx), fun b hb => ?_⟩
  · rcases h2 b hb with h3 | h3
    · exact hd b h3 hf
    · have := rep_lt h.rs b hf; omega
  · rcases hb with hb | hb
    · exact (h.f1 b hb).imp_left .inl
    · rcases h2 b hb with h3 | h3
      · exact .inl (.inr h3)
      · exact .inr (Nat.le_trans hsz h3)
end
/-- A copy of a record was made, and a slice that holds it. -/
theorem snoc_kit {W w3 : World} {K : Nat → Prop} {R : List By} {V : Value} {x : By} {g3 : Nat} (hR : RecsOwn W K R V) (ho : Own w3 W.heap.size x.length (fnL x) (.slice (some ⟨g3, 0, none⟩) x.length x.length)) (hb : Below W.heap.size W w3) :
    ∃ rs, OwnV (w3.alloc (.cells #[.slice (some ⟨g3, 0, none⟩) x.length x.length] 35)) 0 35 V rs ∧ rs.length = R.length ∧ (∀ b, V.ownBlock = some b → K b ∨ W.heap.size ≤ b) ∧
      (∀ (i : Nat) (y : By) (q : Value), R[i]? = some y → rs[i]? = some q → BytesIn (w3.alloc (.cells #[.slice (some ⟨g3, 0, none⟩) x.length x.length] 35)) (fun b => (K b ∨ W.heap.size ≤ b) ∧ V.ownBlock ≠ some b) y.length (fnL y) q) ∧
      BytesIn (w3.alloc (.cells #[.slice (some ⟨g3, 0, none⟩) x.length x.length] 35)) (fun b => (K b ∨ W.heap.size ≤ b) ∧ V.ownBlock ≠ some b) x.length (fnL x) (.slice (some ⟨g3, 0, none⟩) x.length x.length) ∧
      (w3.alloc (.cells #[.slice (some ⟨g3, 0, none⟩) x.length x.length] 35)).cell? ⟨w3.heap.size, 0, none⟩ = some (.slice (some ⟨g3, 0, none⟩) x.length x.length) ∧
      Below W.heap.size W (w3.alloc (.cells #[.slice (some ⟨g3, 0, none⟩) x.length x.length] 35)) ∧ ∀ b, V.ownBlock = some b → K b ∧ b < W.heap.size := by
  obtain ⟨rs, h1, h2, h3, h4⟩ := hR
  have hb4 : Below W.heap.size W (w3.alloc (.cells #[.slice (some ⟨g3, 0, none⟩) x.length x.length] 35)) := hb.alloc hb.size _
  have hb5 : Below w3.heap.size w3 (w3.alloc (.cells #[.slice (some ⟨g3, 0, none⟩) x.length x.length] 35)) := (Below.refl _ _).alloc (Nat.le_refl _) _
  obtain ⟨hr, hge⟩ := row_of_own ho
  have hu : BytesIn w3 (fun b => (K b ∨ W.heap.size ≤ b) ∧ V.ownBlock ≠ some b) x.length (fnL x) (.slice (some ⟨g3, 0, none⟩) x.length x.length) := ⟨_, _, rfl, Nat.le_refl _, fun _ => ⟨g3, 0, rfl, ⟨.inr hge, fun e => by have := (h1.lt g3 e).2; omega⟩, fun j hj => by rw [Nat.zero_add]; exact hr.cell hj⟩⟩
  refine ⟨rs, h1.below hb4, h2, fun b hb' => .inl (h3 b hb'), fun i y q hy hq => ((h4 i y q hy hq).below hb4).less (fun _ _ hb' => ⟨.inl hb'.1, hb'.2⟩), hu.below hb5, ?_, hb4, fun b hb' => ⟨h3 b hb', (h1.lt b hb').2⟩⟩
  exact (cell_of_row _ _ 0 _ _ _ (heap_alloc_new w3 _)).trans rfl
theorem app_codes (m : Nat) (st : St) (n : Nat) : appC m st n = 0 ∨ appC m st n = 7 ∨ appC m st n = 8 := by
  unfold appC
  split
  · split
    · exact .inl rfl
    · exact .inr (.inl rfl)
  · exact .inr (.inr rfl)
theorem sync_codes (st : St) : syncC st = 0 ∨ syncC st = 8 := by
  unfold syncC
  split
  · exact .inl rfl
  · exact .inr rfl
theorem jadd_broken {w : World} {F : Nat → Prop} {g : Nat} {V : Value} {L : List By} (h : OwnJ w F g (.pointer none) V L) (bv : Value) :
    Calls Tryd.prog 10 #[.pointer (some ⟨g, 0, none⟩), bv] w fun y w' => y = .returned (.int .i64 8) ∧ w' = w := by
  have HB := Lib.hid (jbroken h)
  clear h
  go_enter Tryd.func10, Tryd.ntmps10
  go_wp2_with fail
  refine HB.out.mono ?_
  rintro _ w1 ⟨rfl, rfl⟩
  go_wp2
  go_ret
  exact ⟨rfl, rfl⟩
/-- What Add leaves and answers. -/
def AddPost (w : World) (F FJ : Nat → Prop) (g : Nat) (s : Value) (m : Nat) (st : St) (L : List By) (x : By) (y : Ending) (w' : World) : Prop :=
  y = .returned (.int .i64 (addC Dg m st x)) ∧ ∃ F' FJ' V', RepOwn w' F' s m (addS Dg m st x) ∧ (addC Dg m st x ≠ 8 → OwnJ w' FJ' g s V' (addL Dg m st L x)) ∧ (addC Dg m st x = 8 → OwnJ w' FJ' g (.pointer none) V' L) ∧ (∀ b, FJ' b → ¬ F' b) ∧ Cache.Leaves (fun b => F b ∨ FJ b) w w' ∧ (∀ b, F' b ∨ FJ' b → (F b ∨ FJ b) ∨ w.heap.size ≤ b)
set_option maxRecDepth 100000 in
set_option maxHeartbeats 1000000 in
theorem jadd {w : World} (hk : Consts w) {F FJ : Nat → Prop} {g m : Nat} {p : Addr} {V : Value} {st : St} {L : List By} (h : RepOwn w F (.pointer (some p)) m st) (hj : OwnJ w FJ g (.pointer (some p)) V L) (hab : ∀ b, FJ b → ¬ F b)
    (x : By) (bv : Value) (hb : BytesIn w (fun b => ¬ F b ∧ ¬ FJ b) x.length (fnL x) bv) (hL : L.length ≤ 100000) :
    Calls Tryd.prog 10 #[.pointer (some ⟨g, 0, none⟩), bv] w (AddPost w F FJ g (.pointer (some p)) m st L x) := by
  have HBK := Lib.hid (jbroken hj)
  have H0 : Hid (OnSt w w F FJ F g (.pointer (some p)) V m st L) := Lib.hid ⟨h, hj, Cache.Leaves.refl _ _, fun b hb => .inl hb⟩
  have HK := Lib.hid hk
  have HAB := Lib.hid hab
  have HBV := Lib.hid hb
  have HLL := Lib.hid hL
  have c0 := hj.row.cell (i := 0) (by omega)
  rw [jrP0] at c0
  obtain ⟨A, c, rfl, -, -⟩ := hb
  have HJLT := Lib.hid hj.lt
  clear h hj hk hab hL
  unfold AddPost
  by_cases hx : 1000 < x.length
  · have q : (1000 : Int) < (x.length : Int) := by omega
    have HC : Hid (addC Dg m st x = 7) := Lib.hid (by unfold addC; rw [if_pos hx])
    have HS : Hid (addS Dg m st x = st) := Lib.hid (by unfold addS; rw [if_pos hx])
    have HLq : Hid (addL Dg m st L x = L) := Lib.hid (by unfold addL; rw [HC.out, if_neg (by decide)])
    go_enter Tryd.func10, Tryd.ntmps10
    go_wp2_with fail
    refine HBK.out.mono ?_
    rintro _ w1 ⟨rfl, rfl⟩
    go_wp2
    go_ret
    rw [HC.out, HS.out, HLq.out]
    exact ⟨rfl, F, FJ, V, H0.out.rs, fun _ => H0.out.oj, fun h => absurd h (by decide), HAB.out, Cache.Leaves.refl _ _, fun b hb => .inl hb⟩
  have q : ¬ (1000 : Int) < (x.length : Int) := by omega
  have hx' : x.length ≤ 1000 := by omega
  have HX := Lib.hid hx'
  have HA0 : Hid (addC Dg m st x = (if appC m st (enc Dg x).length = 0 then syncC (appS m st (enc Dg x).length (fnL (enc Dg x))) else appC m st (enc Dg x).length)) := Lib.hid (by unfold addC; rw [if_neg hx])
  have HS0 : Hid (addS Dg m st x = (if appC m st (enc Dg x).length = 0 then syncS (appS m st (enc Dg x).length (fnL (enc Dg x))) else appS m st (enc Dg x).length (fnL (enc Dg x)))) := Lib.hid (by unfold addS; rw [if_neg hx])
  clear hx hx'
  go_enter Tryd.func10, Tryd.ntmps10
  go_wp2_with fail
  refine HBK.out.mono ?_
  rintro _ w1 ⟨rfl, rfl⟩
  clear HBK
  go_upto_region 5 with fail
  refine region_mix (fun W => W.cell? ⟨g, 0, none⟩ = some (.pointer (some p))) [(0, true), (1, true), (2, true), (3, true), (4, true), (5, false), (6, false), (7, true)] (by kernel_rfl) (by kernel_rfl) c0 ?_
  refine m_val rfl (by rfl) (.pointer (some ⟨g, 0, none⟩)) (fun W hW => by go_simp) ?_
  simp only [Act.put, List.setIfInBounds_toArray, List.set_cons_zero, List.set_cons_succ]
  refine m_val rfl (by rfl) (.pointer (some ⟨g, 0, none⟩)) (fun W hW => by go_simp) ?_
  simp only [Act.put, List.setIfInBounds_toArray, List.set_cons_zero, List.set_cons_succ]
  refine m_val rfl (by rfl) (.pointer (some ⟨g, 0, none⟩)) (fun W hW => by go_simp) ?_
  simp only [Act.put, List.setIfInBounds_toArray, List.set_cons_zero, List.set_cons_succ]
  refine m_val rfl (by rfl) (.pointer (some p)) (fun W hW => by go_simp) ?_
  simp only [Act.put, List.setIfInBounds_toArray, List.set_cons_zero, List.set_cons_succ]
  refine m_val rfl (by rfl) (.slice A x.length c) (fun W hW => by go_simp) ?_
  simp only [Act.put, List.setIfInBounds_toArray, List.set_cons_zero, List.set_cons_succ]
  have hd : Below w1.heap.size w1 w1.drew := ⟨rfl, rfl, rfl, Nat.le_refl _, fun _ _ => rfl⟩
  have H1 := Lib.hid (H0.out.below hd)
  have HBV1 := Lib.hid (HBV.out.below hd)
  have HK1 := Lib.hid (HK.out.below hd (Nat.le_refl _))
  have HSZ1 := Lib.hid hd.size
  clear hd c0
  generalize w1.drew = W0 at *
  refine m_go rfl ?_
  go_wp2_with fail
  refine (jenc HK1.out HBV1.out.slice HX.out).mono ?_
  rintro _ w2 ⟨ev, rfl, hev, hb2⟩
  have H2 := Lib.hid (H1.out.below hb2)
  have HEV := Lib.hid hev
  have HBV2 := Lib.hid (HBV1.out.below hb2)
  have hsh := hev
  obtain ⟨eA, ec, rfl, -, -⟩ := hsh
  generalize (enc Dg x).length = n at *
  generalize fnL (enc Dg x) = e at *
  have c2 := H2.out.oj.row.cell (i := 0) (by omega)
  rw [jrP0] at c2
  clear hev hb2 H1 HBV1 HK1
  go_wp2_with fail
  refine m_on c2 ?_
  refine m_go rfl ?_
  go_wp2_with fail
  refine (append_any H2.out.rs n e _ (HEV.out.apart (fun b hb hf => by have := rep_lt H0.out.rs b hf; have := HSZ1.out; omega))).mono ?_
  rintro _ w3 ⟨rfl, hm3⟩
  obtain ⟨F3, h3⟩ := H2.out.move HAB.out HJLT.out hm3
  have H3 := Lib.hid h3
  have HBV3 : Hid (BytesIn w3 (fun b => ¬ F b ∧ ¬ FJ b) x.length (fnL x) (.slice A x.length c)) := Lib.hid (by
    obtain ⟨F', _, hl, _⟩ := hm3
    exact HBV2.out.keep (fun b hlt hb => hl.block b hlt hb.1))
  have c3 := h3.oj.row.cell (i := 0) (by omega)
  rw [jrP0] at c3
  have HCC := Lib.hid (app_codes m st n)
  generalize appC m st n = C at *
  generalize appS m st n e = st1 at *
  clear h3 hm3 H2 HBV2 HEV c2
  go_wp2_with fail
  refine m_on c3 ?_
  refine m_val rfl (by rfl) (.int .i64 C) (fun W hW => by go_simp) ?_
  simp only [Act.put, List.setIfInBounds_toArray, List.set_cons_zero, List.set_cons_succ]
  refine m_end ?_
  rcases HCC.out with rfl | rfl | rfl
  · rw [if_pos rfl] at HA0 HS0
    have HSY := Lib.hid (sync_any H3.out.rs)
    clear HCC
    go_wp2_with fail
    refine HSY.out.mono ?_
    rintro _ w4 ⟨rfl, hm4⟩
    obtain ⟨F4, h4⟩ := H3.out.move HAB.out HJLT.out hm4
    have H4 := Lib.hid h4
    have HBV4 : Hid (BytesIn w4 (fun b => ¬ F b ∧ ¬ FJ b) x.length (fnL x) (.slice A x.length c)) := Lib.hid (HBV.out.keep (fun b hlt hb => h4.lv.block b hlt hb.1))
    have HCC := Lib.hid (sync_codes st1)
    obtain ⟨VA, vc, hvs⟩ := h4.oj.recs.shape
    subst hvs
    have c4 := h4.oj.row.cell (i := 1) (by omega)
    rw [jrP1] at c4
    have f4 := h4.oj.row.frozen 1
    generalize syncC st1 = C at *
    generalize syncS st1 = st2 at *
    clear h4 hm4 HSY H3 HBV3 c3
    rcases HCC.out with rfl | rfl
    · have HLq : Hid (addL Dg m st L x = L ++ [x]) := Lib.hid (by unfold addL; rw [HA0.out, if_pos rfl])
      clear HCC
      go_upto_region 9 with fail
      refine region_mix_tail (fun W => W.cell? ⟨g, 1, none⟩ = some (.slice VA L.length vc)) 11 [(0, true), (1, true), (2, true), (3, true), (4, true), (5, true), (6, false), (7, false), (8, false), (9, true), (10, true)] (by kernel_rfl) (by rfl) (by kernel_rfl) c4 ?_
      refine m_val rfl (by rfl) (.pointer (some ⟨g, 0, none⟩)) (fun W hW => by go_simp) ?_
      simp only [Act.put, List.setIfInBounds_toArray, List.set_cons_zero, List.set_cons_succ]
      refine m_val rfl (by rfl) (.pointer (some ⟨g, 0, none⟩)) (fun W hW => by go_simp) ?_
      simp only [Act.put, List.setIfInBounds_toArray, List.set_cons_zero, List.set_cons_succ]
      refine m_val rfl (by rfl) (.pointer (some ⟨g, 0, none⟩)) (fun W hW => by go_simp) ?_
      simp only [Act.put, List.setIfInBounds_toArray, List.set_cons_zero, List.set_cons_succ]
      refine m_val rfl (by rfl) (.pointer (some ⟨g, 1, none⟩)) (fun W hW => by go_simp) ?_
      simp only [Act.put, List.setIfInBounds_toArray, List.set_cons_zero, List.set_cons_succ]
      refine m_val rfl (by rfl) (.slice VA L.length vc) (fun W hW => by go_simp) ?_
      simp only [Act.put, List.setIfInBounds_toArray, List.set_cons_zero, List.set_cons_succ]
      refine m_val rfl (by rfl) (.slice A x.length c) (fun W hW => by go_simp) ?_
      simp only [Act.put, List.setIfInBounds_toArray, List.set_cons_zero, List.set_cons_succ]
      have hd : Below w4.heap.size w4 w4.drew := ⟨rfl, rfl, rfl, Nat.le_refl _, fun _ _ => rfl⟩
      have H5 := Lib.hid (H4.out.below hd)
      have HBV5 := Lib.hid (HBV4.out.below hd)
      have HSZ5 := Lib.hid hd.size
      clear hd c4 f4 H4 HBV4
      generalize w4.drew = W5 at *
      refine m_go rfl ?_
      go_wp2_with fail
      refine (jcopy HBV5.out.slice (by have := HX.out; omega)).mono ?_
      rintro _ w6 ⟨g6, rfl, ho6, hb6⟩
      have HKIT := Lib.hid (snoc_kit H5.out.oj.recs ho6 hb6)
      have c6 := (H5.out.oj.below hb6).row.cell (i := 1) (by omega)
      rw [jrP1] at c6
      have HB6 := Lib.hid hb6
      clear ho6 hb6
      go_wp2_with fail
      refine m_on c6 ?_
      refine m_go rfl ?_
      go_wp2_with fail
      obtain ⟨rs, hO7, hl7, hK7, hR7, hU7, hone7, hW7, hown7⟩ := HKIT.out
      have c7 := (H5.out.oj.below hW7).row.cell (i := 1) (by omega)
      rw [jrP1] at c7
      refine m_on c7 ?_
      have HO7 := Lib.hid hO7
      have HL7 := Lib.hid hl7
      have HK7 := Lib.hid hK7
      have HR7 := Lib.hid hR7
      have HU7 := Lib.hid hU7
      have HONE7 := Lib.hid hone7
      have HW7 := Lib.hid hW7
      have HOWN7 := Lib.hid hown7
      clear hO7 hl7 hK7 hR7 hU7 hone7 hW7 hown7 c7 c6 HKIT HB6 HBV5
      generalize w6.alloc (.cells #[.slice (some ⟨g6, 0, none⟩) x.length x.length] 35) = W7 at *
      refine m_go rfl ?_
      go_wp2_with (at_builtin
                   refine append_vals (by rfl) (.tmp 31) (.tmp 34) 34 (by rfl) 0 35 (.slice none 0 0) 24 Tryd.underlying34 (by kernel_rfl) (by rfl) (by omega) rs _ (by rfl) HO7.out w6.heap.size 0 1 1 [.slice (some ⟨g6, 0, none⟩) x.length x.length] (by rfl) rfl (fun j u hj => by match j, hj with | 0, hj => simp at hj; rw [← hj]; exact HONE7.out) (fun u hu => by rw [List.mem_singleton.1 hu]; rfl) (by have := HL7.out; have := HLL.out; omega) (Nat.zero_le _) ?_
                   intro v8 w8 ho8 hg8 hv8
                   have hr8 := recs_snoc HL7.out HK7.out HR7.out HU7.out ho8 hg8 hv8 (.inr HW7.out.size)
                   have hl8 : Cache.Leaves (fun b => FJ b ∧ b ≠ g) W5 w8 := ⟨hg8.os.trans HW7.out.os, hg8.tape.trans HW7.out.tape, hg8.output.trans HW7.out.output, Nat.le_trans HW7.out.size hg8.size, fun b hlt hn => (hg8.block b (Nat.lt_of_lt_of_le hlt HW7.out.size) (fun e => hn (HOWN7.out b e.symm).1)).trans (HW7.out.block b hlt)⟩
                   have HFR := Lib.hid (H5.out.oj.fresh (W2 := w8) (V' := v8) (L' := L ++ [x]) (K := fun b => (FJ b ∨ W5.heap.size ≤ b) ∧ b < w8.heap.size) hl8 (hr8.less (fun b _ hb => by
                     rcases hb with hb | hb
                     · exact ⟨.inl hb.1, hb.2⟩
                     · exact ⟨.inr hb, fun e => by have := H5.out.oj.lt g H5.out.oj.fg; omega⟩)) (fun b hlt hb => ⟨hb, hlt⟩) (fun b hb => hb.2))
                   have HLV8 := Lib.hid hl8
                   have r8 := H5.out.oj.row.of_block (hl8.block g (H5.out.oj.lt g H5.out.oj.fg) (fun h => h.2 rfl))
                   have c8 := r8.cell (i := 1) (by omega)
                   rw [jrP1] at c8
                   have f8 := r8.frozen 1
                   have hsh8 := HFR.out.1.recs.shape
                   rw [List.length_append, List.length_singleton] at hsh8
                   obtain ⟨A8, d8, hs8⟩ := hsh8
                   subst hs8
                   clear ho8 hg8 hv8 hr8 hl8 r8 HO7 HL7 HK7 HR7 HU7 HONE7 HW7 HOWN7)
      refine m_on c8 ?_
      refine m_val rfl (by rfl) (.pointer (some ⟨g, 0, none⟩)) (fun W hW => by go_simp) ?_
      simp only [Act.put, List.setIfInBounds_toArray, List.set_cons_zero, List.set_cons_succ]
      refine m_val rfl (by rfl) (.pointer (some ⟨g, 1, none⟩)) (fun W hW => by go_simp) ?_
      simp only [Act.put, List.setIfInBounds_toArray, List.set_cons_zero, List.set_cons_succ]
      refine m_end ?_
      dsimp only
      go_wp2_with fail
      refine NoPanic.normal ?_
      have HH := Lib.hid (jheed HFR.out.1 0)
      clear c8 f8
      go_wp2_with fail
      refine HH.out.mono ?_
      rintro _ w9 ⟨rfl, hsame, -, -⟩
      obtain rfl := hsame (by simp)
      clear hsame HH
      go_wp2
      go_ret
      rw [HA0.out, HS0.out, HLq.out]
      obtain ⟨k1, k2, k3, k4⟩ := H5.out.both HAB.out HJLT.out (F2 := fun b => (FJ b ∨ W5.heap.size ≤ b) ∧ b < w8.heap.size) HFR.out.2 (fun b hb => hb.1)
      exact ⟨rfl, F4, _, _, k1, fun _ => HFR.out.1, fun h => absurd h (by decide), k2, k3, k4⟩
    · have HH := Lib.hid (jheed H4.out.oj 8)
      clear c4 f4 HCC
      go_wp2_with fail
      refine HH.out.mono ?_
      rintro _ w5 ⟨rfl, -, hbrk, hl5⟩
      have HB5 := Lib.hid (hbrk (by decide))
      have HL5 := Lib.hid hl5
      clear hbrk hl5 HH
      go_wp2
      go_ret
      rw [HA0.out, HS0.out]
      obtain ⟨k1, k2, k3, k4⟩ := H4.out.both HAB.out HJLT.out (F2 := FJ) HL5.out (fun b hb => .inl hb)
      exact ⟨rfl, F4, FJ, _, k1, fun h => absurd rfl h, fun _ => HB5.out, k2, k3, k4⟩
  · rw [if_neg (by decide)] at HA0 HS0
    have HLq : Hid (addL Dg m st L x = L) := Lib.hid (by unfold addL; rw [HA0.out, if_neg (by decide)])
    have HH := Lib.hid (jheed H3.out.oj 7)
    clear c3 HCC
    go_wp2_with fail
    refine HH.out.mono ?_
    rintro _ w4 ⟨rfl, hsame, -, -⟩
    obtain rfl := hsame (by simp)
    clear hsame HH
    go_wp2
    go_ret
    rw [HA0.out, HS0.out, HLq.out]
    obtain ⟨k1, k2, k3, k4⟩ := H3.out.both (W' := w4) HAB.out HJLT.out (F2 := FJ) (Cache.Leaves.refl _ _) (fun b hb => .inl hb)
    exact ⟨rfl, F3, FJ, V, k1, fun _ => H3.out.oj, fun h => absurd h (by decide), k2, k3, k4⟩
  · rw [if_neg (by decide)] at HA0 HS0
    have HH := Lib.hid (jheed H3.out.oj 8)
    clear c3 HCC
    go_wp2_with fail
    refine HH.out.mono ?_
    rintro _ w4 ⟨rfl, -, hbrk, hl4⟩
    have HB4 := Lib.hid (hbrk (by decide))
    have HL4 := Lib.hid hl4
    clear hbrk hl4 HH
    go_wp2
    go_ret
    rw [HA0.out, HS0.out]
    obtain ⟨k1, k2, k3, k4⟩ := H3.out.both HAB.out HJLT.out (F2 := FJ) HL4.out (fun b hb => .inl hb)
    exact ⟨rfl, F3, FJ, V, k1, fun h => absurd rfl h, fun _ => HB4.out, k2, k3, k4⟩
end Go.Proofs.YtpnkcacmmjmehaaDoor.Jour
