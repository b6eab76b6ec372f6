/-
  What Put does to the program's table of strings.
-/
import Derived.Test.YtmoepcobhapghaaTabStepS
import Derived.BigQuiet
import Derived.Test.YtmoepcobhapghaaFirst
namespace Go.Proofs.Ytmoepcobhapghaa.Cache
open Go Go.RowKit Go.Proofs.Ytmoepcobhapghaa.Aid

theorem info_putKS : (Try.prog.info? 9).map (fun i => (i.zero, i.size, i.bytes)) = some (some (.string ByteArray.empty), 1, 16) := by kernel_rfl
section
variable {W W' : World} {F : Nat → Prop} {v : Value} {m N : Nat} {l : List (ByteArray × (Int × Int))} {g b : Nat} {Kv : Value} {xs : List ByteArray} {f : ByteArray → Option Value}
theorem RepInS.fp (h : RepInS W F v m l g b Kv) : RepInS W (fpT g b Kv) v m l g b Kv := { h with foot := fun _ => Iff.rfl }
theorem RepInS.old (h : RepInS W F v m l g b Kv) (k : ByteArray) (x : (Int × Int)) (hp : k ∈ keysL l) (hw : PcS W' m g b Kv (keysL l) (setF (fun k => (getL l k).map spanV) k (spanV x)) l.length) : RepInS W' F v m (setL l k x) g b Kv :=
  { ptr := h.ptr
    foot := h.foot
    row := hw.row
    keys := by rw [keys_set]; exact hw.keys
    map := by
      have := hw.map.congr (g := fun c => (getL (setL l k x) c).map spanV) (fun c _ => by
        rw [get_setL l k c x hp]
        unfold setF
        split <;> rfl)
      rwa [← len_set l k x] at this
    ok := by rw [keys_set]; exact h.ok
    nodup := by rw [keys_set]; exact h.nodup
    len := by rw [len_set]; exact h.len
    most := h.most
    gb := hw.gb
    kg := hw.kg
    kb := hw.kb }
theorem RepInS.new (h : RepInS W F v m l g b Kv) (k : ByteArray) (x : (Int × Int)) (hk : okS k) (hp : k ∉ keysL l) (hl : l.length + 1 ≤ m) {r : Value} (hw : PcS W' m g b r (keysL l ++ [k]) (setF (fun k => (getL l k).map spanV) k (spanV x)) (l.length + 1)) : RepInS W' (fpT g b r) v m (l ++ [(k, x)]) g b r := by
  have e : keysL (l ++ [(k, x)]) = keysL l ++ [k] := List.map_append
  exact {
    ptr := h.ptr
    foot := fun _ => Iff.rfl
    row := hw.row
    keys := by rw [e]; exact hw.keys
    map := by
      have := hw.map.congr (g := fun c => (getL (l ++ [(k, x)]) c).map spanV) (fun c _ => by
        rw [get_snoc l k c x hp]
        unfold setF
        split <;> rfl)
      rwa [show l.length + 1 = (l ++ [(k, x)]).length by simp] at this
    ok := fun c hc => by
      rw [e] at hc
      rcases List.mem_append.1 hc with h1 | h1
      · exact h.ok c h1
      · rw [List.mem_singleton.1 h1]; exact hk
    nodup := by
      rw [e]
      refine List.nodup_append.2 ⟨h.nodup, by simp, fun a ha c hc => ?_⟩
      rw [List.mem_singleton.1 hc]
      exact fun e => hp (e ▸ ha)
    len := by rw [List.length_append]; exact hl
    most := h.most
    gb := hw.gb
    kg := hw.kg
    kb := hw.kb }
set_option maxRecDepth 100000 in
set_option maxHeartbeats 2000000 in
theorem put_inS {w : World} (k : ByteArray) (x : (Int × Int)) (hk : okS k) (h : RepInS w F v m l g b Kv) :
    Calls Try.prog 20 #[v, Value.string k, spanV x] w fun e w' => e = .returned (.tuple #[Value.string (goneK ByteArray.empty m (keysL l) k), .bool (goneB m (keysL l) k)]) ∧ Moved RepOwnS F w w' v m (putL m l k x) := by
  obtain ⟨W0, hW0⟩ : ∃ W0, W0 = (w.alloc (.cells #[.int .i64 x.1, .int .i64 x.2] 51)) := ⟨_, rfl⟩
  have hb0 : Below w.heap.size w W0 := by
    rw [hW0]
    exact (Below.refl _ _).alloc (Nat.le_refl _) _
  have hr0 : W0.rowIs w.heap.size 51 2 (fun j => if j = 0 then .int .i64 x.1 else .int .i64 x.2) := by
    rw [hW0]
    refine World.rowIs_alloc _ _ _ _ (fun i hi => ?_)
    simp at hi
    rcases (show i = 0 ∨ i = 1 by omega) with rfl | rfl <;> rfl
  have h0 := h.below hb0
  have hG := get_inS k hk h0
  have hgb := h.most
  obtain rfl := h.ptr
  obtain ⟨u1, hu1⟩ : ∃ u1, u1 = ((getL l k).getD ((0 : Int), (0 : Int))).1 := ⟨_, rfl⟩
  obtain ⟨u2, hu2⟩ : ∃ u2, u2 = ((getL l k).getD ((0 : Int), (0 : Int))).2 := ⟨_, rfl⟩
  rw [show spanV ((getL l k).getD ((0 : Int), (0 : Int))) = .agg #[.int .i64 u1, .int .i64 u2] from by rw [hu1, hu2]; rfl] at hG
  clear hu1 hu2
  rw [show spanV x = .agg #[.int .i64 x.1, .int .i64 x.2] from rfl]
  have HD : Hid (∀ w1 nq, Below W0.heap.size W0 w1 → RepInS ((w1.alloc (.cells #[.int .i64 u1, .int .i64 u2] 51)).drewN nq) F (.pointer (some ⟨g, 0, none⟩)) m l g b Kv ∧ Below W0.heap.size W0 ((w1.alloc (.cells #[.int .i64 u1, .int .i64 u2] 51)).drewN nq)) := Lib.hid (fun w1 nq hb => by
    have hb1 := below_drewN (hb.alloc hb.size (.cells #[.int .i64 u1, .int .i64 u2] 51)) nq
    exact ⟨h0.below hb1, hb1⟩)
  have HB0 := Lib.hid hb0
  have HFf : Hid (∀ x, x < W0.heap.size → fpT g b Kv x → F x) := Lib.hid (fun x _ hx => (h.foot x).2 hx)
  have HFw2 : Hid (∀ x, fpT g b Kv x → F x ∨ w.heap.size ≤ x) := Lib.hid (fun x hx => .inl ((h.foot x).2 hx))
  have HFw : Hid (¬ F w.heap.size) := Lib.hid (fun hf => Nat.lt_irrefl _ (h.lt _ hf))
  have HR0 := Lib.hid hr0
  have hkl : (keysL l).length = l.length := keys_len l
  have hlen : l.length ≤ m := h.len
  obtain ⟨A, c, hv, hc, hsh⟩ := h.keys.shape
  rw [mapLenS, hkl] at hv hc
  have HV := Lib.hid hv
  have HC : Hid (∀ w1, Below W0.heap.size W0 w1 → (w1.alloc (.cells #[.int .i64 u1, .int .i64 u2] 51)).cell? ⟨g, 0, none⟩ = some (.int .i64 (m : Int)) ∧ (w1.alloc (.cells #[.int .i64 u1, .int .i64 u2] 51)).cell? ⟨g, 2, none⟩ = some (.slice A l.length c)) := Lib.hid (fun w1 hb => by
    have h1 := h0.below (hb.alloc hb.size (.cells #[.int .i64 u1, .int .i64 u2] 51))
    have e2 := h1.row.cell (i := 2) (by omega)
    rw [show tabQS m b Kv 2 = Kv from rfl, hv] at e2
    exact ⟨h1.row.cell (i := 0) (by omega), e2⟩)
  clear hv hc hsh
  cases hp : hasK (keysL l) k with
  | true =>
    rw [hp] at hG
    have HG := Lib.hid hG
    have HK := Lib.hid hk
    have HM := Lib.hid (mem_keys.1 hp)
    have HS : Hid (((fun k => (getL l k).map spanV) k).isSome = true) := Lib.hid (by rw [Option.isSome_map, get_some, hp])
    have HX : Hid (goneK ByteArray.empty m (keysL l) k = ByteArray.empty ∧ goneB m (keysL l) k = false ∧ putL m l k x = setL l k x) := Lib.hid (by
      have e : goneB m (keysL l) k = false := by unfold goneB; rw [hp]; rfl
      exact ⟨gone_not e, e, by unfold putL; rw [if_pos hp]⟩)
    clear hG hk hp h h0 hb0
    clear hr0
    rw [HX.out.1, HX.out.2.1, HX.out.2.2]
    go_enter Try.func20, Try.ntmps20
    go_wp2_with fail
    rw [← hW0]
    refine HG.out.mono ?_
    rintro e w1 ⟨rfl, hb⟩
    have HD1 : Hid (∀ nq, RepInS ((w1.alloc (.cells #[.int .i64 u1, .int .i64 u2] 51)).drewN nq) F (.pointer (some ⟨g, 0, none⟩)) m l g b Kv ∧ Below W0.heap.size W0 ((w1.alloc (.cells #[.int .i64 u1, .int .i64 u2] 51)).drewN nq)) := Lib.hid (fun nq => HD.out w1 nq hb)
    clear HC HD hb HG
    go_wp2_with fail
    go_quiet (fail)
    have hW := HD1.out nq
    generalize (w1.alloc (.cells #[.int .i64 u1, .int .i64 u2] 51)).drewN nq = W at *
    have HT := Lib.hid hW.1
    have HB := Lib.hid hW.2
    clear hW HD1
    go_wp2_with fail
    have HP : Hid (PcS W m g b Kv (keysL l) (fun k => (getL l k).map spanV) l.length) := Lib.hid HT.out.pc
    have HL : Hid (Leaves F W0 W) := Lib.hid (Leaves.of_below HB.out)
    clear HB
    refine (eqselfS k _).mono ?_
    rintro e w3 ⟨rfl, hb3⟩
    have h3 := HP.out.below hb3
    have HL3 : Hid (Leaves F W0 w3) := Lib.hid (HL.out.trans (Leaves.of_below (F := F) hb3) (fun x hx _ => hx))
    have c1 := h3.row.cell (i := 1) (by omega)
    rw [show tabQS m b Kv 1 = .map (some b) from rfl] at c1
    have HP3 := Lib.hid h3
    have HR3 := Lib.hid (HR0.out.of_block (HL3.out.block _ HR0.out.lt HFw.out))
    clear h3 hb3 HP HL
    go_wp2_with fail
    refine region_tail 6 (by kernel_rfl) (by kernel_rfl) ?_
    simp only [List.take_succ_cons, List.take_zero, List.drop_succ_cons, List.drop_zero]
    have m3 : w3.drew.rowIs w.heap.size 51 2 _ := HR3.out
    have d1 : w3.drew.cell? ⟨g, 1, none⟩ = some (.map (some b)) := c1
    repeat (first
      | (refine still_row (by rfl) 51 (.tmp 5) (by rfl) w.heap.size 0 _ 2 2 _ m3 (by rfl) _ Try.underlying51 rfl (by kernel_rfl) (by omega) ?_)
      | still_step)
    refine wpStill_nil ?_
    have HP5 : Hid (PcS w3.drew m g b Kv (keysL l) (fun k => (getL l k).map spanV) l.length) := Lib.hid (HP3.out.keep (fun _ _ => rfl))
    go_wp2_with (at_mapUpdate
                 refine map_store (by rfl) (.tmp 58) (.tmp 59) (.tmp 60) 63 (by rfl) keyIsS Try.underlying63 HP5.out.map (by first | omega | (have := HLb.out; omega)) (by rfl) k HK.out (by rfl) (spanV x) (by rfl) ?_
                 intro w4 hm4 hg4
                 have HP4 := Lib.hid (HP5.out.mapped hm4 hg4)
                 have HL4 : Hid (Leaves F W0 w4) := Lib.hid (HL3.out.drew.trans (leaves_grown hg4 (fun x e => .inr (.inl (Option.some.inj e).symm))) (fun x hx hx0 => HFf.out x hx0 hx))
                 clear hm4 hg4 HP3 HP5 HL3 c1 d1 m3 HR3)
    go_ret2
    refine ⟨by rfl, F, ⟨g, b, Kv, HT.out.old k x HM.out ?_⟩, (Leaves.of_below HB0.out).trans HL4.out (fun x hx _ => hx), fun _ hx => .inl hx⟩
    have h4 := HP4.out
    rwa [if_pos HS.out] at h4
  | false =>
    rw [hp] at hG
    have hN : k ∉ keysL l := not_has hp
    by_cases hfull : l.length = m
    · obtain ⟨k0, hk0⟩ : ∃ k0, (keysL l)[0]? = some k0 := ⟨(keysL l)[0]'(by omega), List.getElem?_eq_getElem (by omega)⟩
      have HX : Hid (goneK ByteArray.empty m (keysL l) k = k0 ∧ goneB m (keysL l) k = true ∧ putL m l k x = cutI l 0 ++ [(k, x)]) := Lib.hid (by
        have e : goneB m (keysL l) k = true := by unfold goneB; rw [hp, hkl, decide_eq_true hfull]; rfl
        refine ⟨?_, e, ?_⟩
        · rw [gone_head e, List.headD_eq_head?_getD, List.head?_eq_getElem?, hk0]; rfl
        · unfold putL roomK
          rw [if_neg (by rw [hp]; exact Bool.false_ne_true), if_pos hfull, cut_zero])
      have HN := Lib.hid hN
      have HG := Lib.hid hG
      have HK := Lib.hid hk
      have HK0 := Lib.hid hk0
      have qf : ((l.length : Int) == (m : Int)) = true := by rw [hfull]; exact beq_self_eq_true _
      have HFU := Lib.hid hfull
      clear hG hk hk0 hN hp h h0 hb0 hfull
      clear hr0
      rw [HX.out.1, HX.out.2.1, HX.out.2.2]
      go_enter Try.func20, Try.ntmps20
      go_wp2_with fail
      rw [← hW0]
      refine HG.out.mono ?_
      rintro e w1 ⟨rfl, hb⟩
      obtain ⟨c0, c2⟩ := HC.out w1 hb
      have HD1 : Hid (∀ nq, RepInS ((w1.alloc (.cells #[.int .i64 u1, .int .i64 u2] 51)).drewN nq) F (.pointer (some ⟨g, 0, none⟩)) m l g b Kv ∧ Below W0.heap.size W0 ((w1.alloc (.cells #[.int .i64 u1, .int .i64 u2] 51)).drewN nq)) := Lib.hid (fun nq => HD.out w1 nq hb)
      clear HC HD hb HG
      go_wp2_with fail
      go_quiet (fail)
      have hW := HD1.out nq
      generalize (w1.alloc (.cells #[.int .i64 u1, .int .i64 u2] 51)).drewN nq = V at *
      have HT := Lib.hid hW.1
      have HLc : Hid (Leaves F W0 V) := Lib.hid (Leaves.of_below hW.2)
      clear hW HD1 c0 c2
      have hl0 : 0 < l.length := by have := HFU.out; omega
      have c2 := HT.out.row.cell (i := 2) (by omega)
      rw [show tabQS m b Kv 2 = Kv from rfl, HV.out] at c2
      obtain ⟨gk, o, hA, d0⟩ : ∃ gk o, A = some ⟨gk, o, none⟩ ∧ V.cell? ⟨gk, o, none⟩ = some (Value.string k0) := by
        obtain ⟨A', c', hv', hc', hsh⟩ := HT.out.keys.shape
        rw [mapLenS, hkl] at hv' hc'
        rw [HV.out] at hv'
        injection hv' with e1 e2 e3
        obtain ⟨gk, o, e, _, _, _, hcell, _⟩ := hsh (by omega)
        refine ⟨gk, o, e1.trans e, ?_⟩
        have := hcell 0 (Value.string k0) (by rw [List.getElem?_map, HK0.out]; rfl)
        simpa using this
      subst hA
      have i1 : (0 : Int) < (l.length : Int) := by omega
      have HS0 : Hid (((fun k => (getL l k).map spanV) k0).isSome = true) := Lib.hid (by rw [Option.isSome_map, get_some]; exact mem_keys.2 (List.mem_of_getElem? HK0.out))
      clear hl0
      go_wp2_with fail
      refine (remove_inS HT.out.pc 0 k0 HK0.out (HT.out.ok k0 (List.mem_of_getElem? HK0.out)) HS0.out (by rw [hkl]; omega)).mono ?_
      rintro e W ⟨rfl, K1, hp2, hl2, hv2⟩
      have HT1 := Lib.hid (HT.out.cut HK0.out hp2 hv2)
      have HL : Hid (Leaves F W0 W) := Lib.hid (HLc.out.trans (HT.out.leaves hl2) (fun x hx _ => hx))
      have HNM : Hid (k ∉ keysL (cutI l 0)) := Lib.hid (by rw [keys_cut]; exact fun h => HN.out (cut_sub h))
      have HLN : Hid ((cutI l 0).length + 1 ≤ m) := Lib.hid (by
        have h1 := HFU.out
        have h2 := cut_len (c := l) (i := 0) (by omega)
        omega)
      have HOW := Lib.hid hv2
      clear hp2 hl2 hv2 HT HLc c2 d0 HS0
      obtain ⟨A1, c1, hv1, _, _⟩ := HT1.out.keys.shape
      rw [mapLenS] at hv1
      obtain ⟨n1, hn1⟩ : ∃ n1, n1 = (keysL (cutI l 0)).length := ⟨_, rfl⟩
      rw [← hn1] at hv1
      have hn2 : n1 = (cutI l 0).length := by rw [hn1, keys_len]
      have hn3 := HLN.out
      have c2 := HT1.out.row.cell (i := 2) (by omega)
      rw [show tabQS m b K1 2 = K1 from rfl, hv1] at c2
      have HV1 := Lib.hid hv1
      have HN2 : Hid (n1 = (cutI l 0).length) := Lib.hid hn2
      have HLb : Hid ((cutI l 0).length + 1 ≤ 1000000) := Lib.hid (by omega)
      have HPa : Hid (PcS (W.alloc (.cells #[Value.string k] 9)) m g b K1 (keysL (cutI l 0)) (fun k => (getL (cutI l 0) k).map spanV) (cutI l 0).length) := Lib.hid (HT1.out.pc.below ((Below.refl _ _).alloc (Nat.le_refl _) _))
      have HOa : Hid (OwnQ (W.alloc (.cells #[Value.string k] 9)) 0 9 (.slice A1 n1 c1) ((keysL (cutI l 0)).map (Value.string))) := Lib.hid (by have := HPa.out.keys; rwa [hv1] at this)
      have HCk : Hid (∀ (j : Nat) (u : Value), [Value.string k][j]? = some u → (W.alloc (.cells #[Value.string k] 9)).cell? ⟨W.heap.size, 0 + j, none⟩ = some u) := Lib.hid (fun j u hj => by
        have h1 := (W.rowIs_alloc #[Value.string k] 9 (fun _ => Value.string k) (fun i hi => by simp at hi; subst hi; rfl))
        have hj' : j = 0 := by have := (List.getElem?_eq_some_iff.1 hj).1; simpa using this
        subst hj'
        have h2 := h1.cell (i := 0) (by simp)
        simp only [List.getElem?_cons_zero, Option.some.injEq] at hj
        rw [← hj]
        exact h2)
      have HLa : Hid (Leaves F W0 (W.alloc (.cells #[Value.string k] 9))) := Lib.hid (HL.out.trans (Leaves.of_below (F := F) ((Below.refl _ _).alloc (Nat.le_refl _) _)) (fun x hx _ => hx))
      have HSz : Hid (W0.heap.size ≤ (W.alloc (.cells #[Value.string k] 9)).heap.size) := Lib.hid HLa.out.size
      clear hv1 hn1 hn2 hn3 HL
      go_wp2_with (at_builtin
                   refine append_q (by rfl) (.tmp 47) (.tmp 49) 42 (by rfl) 0 9 _ _ Try.underlying42 info_putKS (by rfl) (by omega) ((keysL (cutI l 0)).map (Value.string)) _ (by rfl) HOa.out W.heap.size 0 1 1 [Value.string k] (by rfl) rfl HCk.out (fun u hu => by rw [List.mem_singleton.1 hu]; rfl) (by rw [mapLenS, keys_len]; exact HLb.out) (Nat.zero_le _) ?_
                   intro r w2 hown2 hg2 hr2
                   rw [← HV1.out] at hg2 hr2
                   have hown3 : OwnQ w2 0 9 r ((keysL (cutI l 0) ++ [k]).map (Value.string)) := by rw [List.map_append]; exact hown2
                   have h3 := HPa.out.keyed hown3 hg2 hr2
                   have hgg : w2.heap[g]? = _ := hg2.block g HPa.out.row.lt (fun e => HPa.out.kg e.symm)
                   have hrow3 := HPa.out.row.of_block hgg
                   have c3 := hrow3.cell (i := 2) (by omega)
                   have z3 := hrow3.frozen 2
                   have HL : Hid (Leaves F W0 (w2.setCell ⟨g, 2, none⟩ r)) := Lib.hid ((HLa.out.trans (leaves_grown (F := fpT g b Kv) hg2 (fun x e => .inr (.inr (Eq.trans (Eq.symm (HOW.out : K1.ownBlock = Kv.ownBlock)) e)))) (fun x hx hx0 => HFf.out x hx0 hx)).trans (leaves_cell (F := fpT g b Kv) w2 ⟨g, 2, none⟩ r (.inl rfl)) (fun x hx hx0 => HFf.out x hx0 hx))
                   have HP := Lib.hid h3
                   have HR2 : Hid (r.ownBlock = Kv.ownBlock ∨ ∃ z, r.ownBlock = some z ∧ W0.heap.size ≤ z) := Lib.hid (by
                     rcases hr2 with e | e
                     · exact .inl (e.trans HOW.out)
                     · exact .inr ⟨_, e, HSz.out⟩)
                   obtain ⟨A2, c2', hv2, _, _⟩ := hown2.shape
                   obtain ⟨n2, hn4⟩ : ∃ n2, n2 = (List.map (Value.string) (keysL (cutI l 0)) ++ [Value.string k]).length := ⟨_, rfl⟩
                   rw [← hn4] at hv2
                   clear hown2 hown3 hg2 hr2 h3 hgg hrow3 HPa HOa HCk HLa HSz c2 HV1 hn4
                   subst hv2)
      refine (eqselfS k _).mono ?_
      rintro e w3 ⟨rfl, hb3⟩
      have h3 := HP.out.below hb3
      have HL3 : Hid (Leaves F W0 w3) := Lib.hid (HL.out.trans (Leaves.of_below (F := F) hb3) (fun x hx _ => hx))
      have c1 := h3.row.cell (i := 1) (by omega)
      rw [show tabQS m b (.slice A2 n2 c2') 1 = .map (some b) from rfl] at c1
      have HP3 := Lib.hid h3
      have HR3 := Lib.hid (HR0.out.of_block (HL3.out.block _ HR0.out.lt HFw.out))
      clear h3 hb3 HP HL
      go_wp2_with fail
      refine region_tail 6 (by kernel_rfl) (by kernel_rfl) ?_
      simp only [List.take_succ_cons, List.take_zero, List.drop_succ_cons, List.drop_zero]
      have m3 : w3.drew.rowIs w.heap.size 51 2 _ := HR3.out
      have d1 : w3.drew.cell? ⟨g, 1, none⟩ = some (.map (some b)) := c1
      repeat (first
        | (refine still_row (by rfl) 51 (.tmp 5) (by rfl) w.heap.size 0 _ 2 2 _ m3 (by rfl) _ Try.underlying51 rfl (by kernel_rfl) (by omega) ?_)
        | still_step)
      refine wpStill_nil ?_
      have HP5 : Hid (PcS w3.drew m g b (.slice A2 n2 c2') (keysL (cutI l 0) ++ [k]) (fun k => (getL (cutI l 0) k).map spanV) (cutI l 0).length) := Lib.hid (HP3.out.keep (fun _ _ => rfl))
      go_wp2_with (at_mapUpdate
                   refine map_store (by rfl) (.tmp 58) (.tmp 59) (.tmp 60) 63 (by rfl) keyIsS Try.underlying63 HP5.out.map (by first | omega | (have := HLb.out; omega)) (by rfl) k HK.out (by rfl) (spanV x) (by rfl) ?_
                   intro w4 hm4 hg4
                   have HP4 := Lib.hid (HP5.out.mapped hm4 hg4)
                   have HL4 : Hid (Leaves F W0 w4) := Lib.hid (HL3.out.drew.trans (leaves_grown hg4 (fun x e => .inr (.inl (Option.some.inj e).symm))) (fun x hx hx0 => HFf.out x hx0 hx))
                   clear hm4 hg4 HP3 HP5 HL3 c1 d1 m3 HR3)
      go_ret2
      refine ⟨by rfl, fpT g b (.slice A2 n2 c2'), ⟨g, b, _, HT1.out.new k x HK.out HNM.out HLN.out ?_⟩, (Leaves.of_below HB0.out).trans HL4.out (fun x hx _ => hx), fun y hy => ?_⟩
      · have h4 := HP4.out
        have e4 : ¬ ((fun k => (getL (cutI l 0) k).map spanV) k).isSome = true := by
          show ¬ ((getL (cutI l 0) k).map spanV).isSome = true
          rw [get_none HNM.out]
          exact Bool.false_ne_true
        rwa [if_neg e4] at h4
      · have hs := HB0.out.size
        rcases hy with e | e | e
        · exact HFw2.out y (.inl e)
        · exact HFw2.out y (.inr (.inl e))
        · rcases HR2.out with h5 | ⟨z, h5, h6⟩
          · exact HFw2.out y (.inr (.inr (h5 ▸ e)))
          · rw [h5] at e
            have := Option.some.inj e
            exact .inr (by omega)
    · have HX : Hid (goneK ByteArray.empty m (keysL l) k = ByteArray.empty ∧ goneB m (keysL l) k = false ∧ putL m l k x = l ++ [(k, x)]) := Lib.hid (by
        have e : goneB m (keysL l) k = false := by unfold goneB; rw [hkl, decide_eq_false hfull, Bool.and_false]
        refine ⟨gone_not e, e, ?_⟩
        unfold putL roomK
        rw [if_neg (by rw [hp]; exact Bool.false_ne_true), if_neg hfull])
      have HNM := Lib.hid hN
      have HG := Lib.hid hG
      have HK := Lib.hid hk
      have HLN : Hid (l.length + 1 ≤ m) := Lib.hid (by omega)
      have qf : ((l.length : Int) == (m : Int)) = false := by simp; omega
      clear hG hk hN hp h h0 hb0
      clear hr0
      rw [HX.out.1, HX.out.2.1, HX.out.2.2]
      go_enter Try.func20, Try.ntmps20
      go_wp2_with fail
      rw [← hW0]
      refine HG.out.mono ?_
      rintro e w1 ⟨rfl, hb⟩
      obtain ⟨c0, c2⟩ := HC.out w1 hb
      have HD1 : Hid (∀ nq, RepInS ((w1.alloc (.cells #[.int .i64 u1, .int .i64 u2] 51)).drewN nq) F (.pointer (some ⟨g, 0, none⟩)) m l g b Kv ∧ Below W0.heap.size W0 ((w1.alloc (.cells #[.int .i64 u1, .int .i64 u2] 51)).drewN nq)) := Lib.hid (fun nq => HD.out w1 nq hb)
      clear HC HD hb HG
      go_wp2_with fail
      go_quiet (fail)
      have hW := HD1.out nq
      generalize (w1.alloc (.cells #[.int .i64 u1, .int .i64 u2] 51)).drewN nq = W at *
      have HT1 := Lib.hid hW.1
      have HL : Hid (Leaves F W0 W) := Lib.hid (Leaves.of_below hW.2)
      clear hW HD1 c0 c2
      obtain ⟨A1, c1, hv1, _, _⟩ := HT1.out.keys.shape
      rw [mapLenS] at hv1
      obtain ⟨n1, hn1⟩ : ∃ n1, n1 = (keysL l).length := ⟨_, rfl⟩
      rw [← hn1] at hv1
      have hn2 : n1 = l.length := by rw [hn1, keys_len]
      have hn3 := HLN.out
      have c2 := HT1.out.row.cell (i := 2) (by omega)
      rw [show tabQS m b Kv 2 = Kv from rfl, hv1] at c2
      have HV1 := Lib.hid hv1
      have HN2 : Hid (n1 = l.length) := Lib.hid hn2
      have HLb : Hid (l.length + 1 ≤ 1000000) := Lib.hid (by omega)
      have HPa : Hid (PcS (W.alloc (.cells #[Value.string k] 9)) m g b Kv (keysL l) (fun k => (getL l k).map spanV) l.length) := Lib.hid (HT1.out.pc.below ((Below.refl _ _).alloc (Nat.le_refl _) _))
      have HOa : Hid (OwnQ (W.alloc (.cells #[Value.string k] 9)) 0 9 (.slice A1 n1 c1) ((keysL l).map (Value.string))) := Lib.hid (by have := HPa.out.keys; rwa [hv1] at this)
      have HCk : Hid (∀ (j : Nat) (u : Value), [Value.string k][j]? = some u → (W.alloc (.cells #[Value.string k] 9)).cell? ⟨W.heap.size, 0 + j, none⟩ = some u) := Lib.hid (fun j u hj => by
        have h1 := (W.rowIs_alloc #[Value.string k] 9 (fun _ => Value.string k) (fun i hi => by simp at hi; subst hi; rfl))
        have hj' : j = 0 := by have := (List.getElem?_eq_some_iff.1 hj).1; simpa using this
        subst hj'
        have h2 := h1.cell (i := 0) (by simp)
        simp only [List.getElem?_cons_zero, Option.some.injEq] at hj
        rw [← hj]
        exact h2)
      have HLa : Hid (Leaves F W0 (W.alloc (.cells #[Value.string k] 9))) := Lib.hid (HL.out.trans (Leaves.of_below (F := F) ((Below.refl _ _).alloc (Nat.le_refl _) _)) (fun x hx _ => hx))
      have HSz : Hid (W0.heap.size ≤ (W.alloc (.cells #[Value.string k] 9)).heap.size) := Lib.hid HLa.out.size
      clear hv1 hn1 hn2 hn3 HL
      go_wp2_with (at_builtin
                   refine append_q (by rfl) (.tmp 47) (.tmp 49) 42 (by rfl) 0 9 _ _ Try.underlying42 info_putKS (by rfl) (by omega) ((keysL l).map (Value.string)) _ (by rfl) HOa.out W.heap.size 0 1 1 [Value.string k] (by rfl) rfl HCk.out (fun u hu => by rw [List.mem_singleton.1 hu]; rfl) (by rw [mapLenS, keys_len]; exact HLb.out) (Nat.zero_le _) ?_
                   intro r w2 hown2 hg2 hr2
                   rw [← HV1.out] at hg2 hr2
                   have hown3 : OwnQ w2 0 9 r ((keysL l ++ [k]).map (Value.string)) := by rw [List.map_append]; exact hown2
                   have h3 := HPa.out.keyed hown3 hg2 hr2
                   have hgg : w2.heap[g]? = _ := hg2.block g HPa.out.row.lt (fun e => HPa.out.kg e.symm)
                   have hrow3 := HPa.out.row.of_block hgg
                   have c3 := hrow3.cell (i := 2) (by omega)
                   have z3 := hrow3.frozen 2
                   have HL : Hid (Leaves F W0 (w2.setCell ⟨g, 2, none⟩ r)) := Lib.hid ((HLa.out.trans (leaves_grown (F := fpT g b Kv) hg2 (fun x e => .inr (.inr (Eq.trans (Eq.symm (rfl : Kv.ownBlock = Kv.ownBlock)) e)))) (fun x hx hx0 => HFf.out x hx0 hx)).trans (leaves_cell (F := fpT g b Kv) w2 ⟨g, 2, none⟩ r (.inl rfl)) (fun x hx hx0 => HFf.out x hx0 hx))
                   have HP := Lib.hid h3
                   have HR2 : Hid (r.ownBlock = Kv.ownBlock ∨ ∃ z, r.ownBlock = some z ∧ W0.heap.size ≤ z) := Lib.hid (by
                     rcases hr2 with e | e
                     · exact .inl (e.trans rfl)
                     · exact .inr ⟨_, e, HSz.out⟩)
                   obtain ⟨A2, c2', hv2, _, _⟩ := hown2.shape
                   obtain ⟨n2, hn4⟩ : ∃ n2, n2 = (List.map (Value.string) (keysL l) ++ [Value.string k]).length := ⟨_, rfl⟩
                   rw [← hn4] at hv2
                   clear hown2 hown3 hg2 hr2 h3 hgg hrow3 HPa HOa HCk HLa HSz c2 HV1 hn4
                   subst hv2)
      refine (eqselfS k _).mono ?_
      rintro e w3 ⟨rfl, hb3⟩
      have h3 := HP.out.below hb3
      have HL3 : Hid (Leaves F W0 w3) := Lib.hid (HL.out.trans (Leaves.of_below (F := F) hb3) (fun x hx _ => hx))
      have c1 := h3.row.cell (i := 1) (by omega)
      rw [show tabQS m b (.slice A2 n2 c2') 1 = .map (some b) from rfl] at c1
      have HP3 := Lib.hid h3
      have HR3 := Lib.hid (HR0.out.of_block (HL3.out.block _ HR0.out.lt HFw.out))
      clear h3 hb3 HP HL
      go_wp2_with fail
      refine region_tail 6 (by kernel_rfl) (by kernel_rfl) ?_
      simp only [List.take_succ_cons, List.take_zero, List.drop_succ_cons, List.drop_zero]
      have m3 : w3.drew.rowIs w.heap.size 51 2 _ := HR3.out
      have d1 : w3.drew.cell? ⟨g, 1, none⟩ = some (.map (some b)) := c1
      repeat (first
        | (refine still_row (by rfl) 51 (.tmp 5) (by rfl) w.heap.size 0 _ 2 2 _ m3 (by rfl) _ Try.underlying51 rfl (by kernel_rfl) (by omega) ?_)
        | still_step)
      refine wpStill_nil ?_
      have HP5 : Hid (PcS w3.drew m g b (.slice A2 n2 c2') (keysL l ++ [k]) (fun k => (getL l k).map spanV) l.length) := Lib.hid (HP3.out.keep (fun _ _ => rfl))
      go_wp2_with (at_mapUpdate
                   refine map_store (by rfl) (.tmp 58) (.tmp 59) (.tmp 60) 63 (by rfl) keyIsS Try.underlying63 HP5.out.map (by first | omega | (have := HLb.out; omega)) (by rfl) k HK.out (by rfl) (spanV x) (by rfl) ?_
                   intro w4 hm4 hg4
                   have HP4 := Lib.hid (HP5.out.mapped hm4 hg4)
                   have HL4 : Hid (Leaves F W0 w4) := Lib.hid (HL3.out.drew.trans (leaves_grown hg4 (fun x e => .inr (.inl (Option.some.inj e).symm))) (fun x hx hx0 => HFf.out x hx0 hx))
                   clear hm4 hg4 HP3 HP5 HL3 c1 d1 m3 HR3)
      go_ret2
      refine ⟨by rfl, fpT g b (.slice A2 n2 c2'), ⟨g, b, _, HT1.out.new k x HK.out HNM.out HLN.out ?_⟩, (Leaves.of_below HB0.out).trans HL4.out (fun x hx _ => hx), fun y hy => ?_⟩
      · have h4 := HP4.out
        have e4 : ¬ ((fun k => (getL l k).map spanV) k).isSome = true := by
          show ¬ ((getL l k).map spanV).isSome = true
          rw [get_none HNM.out]
          exact Bool.false_ne_true
        rwa [if_neg e4] at h4
      · have hs := HB0.out.size
        rcases hy with e | e | e
        · exact HFw2.out y (.inl e)
        · exact HFw2.out y (.inr (.inl e))
        · rcases HR2.out with h5 | ⟨z, h5, h6⟩
          · exact HFw2.out y (.inr (.inr (h5 ▸ e)))
          · rw [h5] at e
            have := Option.some.inj e
            exact .inr (by omega)
end
end Go.Proofs.Ytmoepcobhapghaa.Cache
