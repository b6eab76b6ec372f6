/-
  The program's own journal: read.
-/
import Derived.Test.YtpnkcacmmjmehaaDoorJrScan
import Derived.Test.YtpnkcacmmjmehaaDoorRegionInv
import Derived.Deep.CutBlock
import Derived.WalkMore
import Derived.Laws.Cover3
namespace Go.Proofs.YtpnkcacmmjmehaaDoor.Jour
open Go Go.RowKit Go.Proofs.YtpnkcacmmjmehaaDoor.Aid Go.Proofs.YtpnkcacmmjmehaaDoor.Sha Go.Proofs.YtpnkcacmmjmehaaDoor.Cache Go.Proofs.YtpnkcacmmjmehaaDoor.Store

/-- 'b[lo:hi]', and where it begins. -/
theorem mid_run {P : Program} (t e : TypeId) (hu : P.underlying t = some (.slice e)) (hsz : (P.info? e).map (·.size) = some 1) (sb so M c lo hi : Nat) (h1 : lo ≤ hi) (h2 : hi ≤ c) :
    ∃ o : Nat, (lo < hi → o = so + lo) ∧ ∀ (W : World), (Instr.sliceAt t (.slice (some ⟨sb, so, none⟩) M c) (some (.int .i64 (lo : Int))) (some (.int .i64 (hi : Int))) none).run P W = .ok (.slice (some ⟨sb, o, none⟩) (hi - lo) (c - lo)) W := by
  refine ⟨if c = lo then so else so + lo, fun h => by rw [if_neg (by omega)], fun W => ?_⟩
  cases hq : P.info? e with
  | none => simp [hq] at hsz
  | some i =>
    have hs : i.size = 1 := by simpa [hq] using hsz
    by_cases hck : c = lo
    · simp [Instr.sliceAt, Instr.slice, Instr.sliceBounds, Instr.sliceBound, asIntOf, Sem.run_bind, run_underlying hu W, Result.andThen, sizeOf, typeInfo, hq, hck, h1, show hi ≤ lo by omega]
    · simp [Instr.sliceAt, Instr.slice, Instr.sliceBounds, Instr.sliceBound, asIntOf, Sem.run_bind, run_underlying hu W, Result.andThen, sizeOf, typeInfo, hq, hs, Addr.add_mid, hck, h1, h2]
theorem load_ten {P : Program} {w : World} {ops : Array Oper} {rest : List Oper} {op : Oper} {a : Act} {Q : Exit → Act → World → Prop} (hgd : op.guard = none) (ty : TypeId) (x : Operand) (ho : op.op = .load ty x) (sb so m : Nat) (e : Nat → BitVec 8) (hc : ∀ j, j < m → w.cell? ⟨sb, so + j, none⟩ = some (.int .u8 ((e j).toNat : Int)))
    (hx : a.eval x = .pointer (some ⟨sb, so, none⟩)) (d : TypeDesc) (hu : P.underlying ty = some d) (hd : d.isRow = true) (hi : (P.info? ty).map (·.size) = some m)
    (hK : wpList P ops Q rest (a.put op.dst (.agg (byteCells m e))) w) : wpList P ops Q (op :: rest) a w := by
  refine wpList_load_mid hgd ty x ho sb so hx ((List.range m).map fun j => .int .u8 ((e j).toNat : Int)) d (fun j v hj => ?_) hu hd (by simpa using hi) hK
  have hjm : j < m := by have := (List.getElem?_eq_some_iff.1 hj).1; simpa using this
  rw [List.getElem?_map, List.getElem?_range hjm] at hj
  simp only [Option.map_some, Option.some.injEq] at hj
  rw [← hj]
  exact hc j hjm
def postH (rv rst pt : Value) (x t : By) (i : Nat) (v : Value) (_ : World) : Prop :=
  match i with
  | 0 => v = rv
  | 1 => v = .agg (byteCells 10 (fnL (hdr x)))
  | 2 => v = rst
  | 3 => v = pt
  | 4 => v = .agg (byteCells 10 (fnL t))
  | 5 => v = .bool (!sameUpto (fnL (hdr x)) (fnL t) 10)
  | _ + 6 => True
theorem hdr_same (x t : By) (W : World) : (Op.equalIn 10000 56 (.agg (byteCells 10 (fnL (hdr x)))) (.agg (byteCells 10 (fnL t)))).run Tryd.prog W = .ok (sameUpto (fnL (hdr x)) (fnL t) 10) W :=
  run_equalIn_bytes (P := Tryd.prog) (len := 10) 9998 Tryd.underlying56 Tryd.underlying5 (by kernel_rfl) (byteCells 10 (fnL (hdr x))) (byteCells 10 (fnL t)) (fnL (hdr x)) (fnL t) (fun i hi => cellsOf_at 10 _ i hi) (fun i hi => cellsOf_at 10 _ i hi) W
/-- While bytes are read: R is read, t is left. -/
structure ReadSt (w W : World) (P : Nat → Prop) (b t : By) (R : List By) (rest V : Value) : Prop where
  bel : Below w.heap.size w W
  len : 10 * R.length + t.length ≤ b.length
  bytes : BytesIn w P t.length (fnL t) rest
  recs : RecsOwn W (fun k => w.heap.size ≤ k) R V
  scan : scan Dg b = (scan Dg t).map (fun q => (R ++ q.1, q.2))
  small : ∀ x ∈ R, x.length ≤ 1000
/-- A copy of a record was made, and a slice that holds it. -/
theorem read_snoc {w W w3 : World} {R : List By} {V : Value} {x : By} {g3 : Nat} (hW : Below w.heap.size w W) (hR : RecsOwn W (fun k => w.heap.size ≤ k) R V) (ho : Own w3 W.heap.size x.length (fnL x) (.slice (some ⟨g3, 0, none⟩) x.length x.length)) (hb : Below W.heap.size W w3) :
    ∃ rs, OwnV (w3.alloc (.cells #[.slice (some ⟨g3, 0, none⟩) x.length x.length] 35)) 0 35 V rs ∧ rs.length = R.length ∧ (∀ b, V.ownBlock = some b → w.heap.size ≤ b) ∧
      (∀ (i : Nat) (y : By) (q : Value), R[i]? = some y → rs[i]? = some q → BytesIn (w3.alloc (.cells #[.slice (some ⟨g3, 0, none⟩) x.length x.length] 35)) (fun b => w.heap.size ≤ b ∧ V.ownBlock ≠ some b) y.length (fnL y) q) ∧
      BytesIn (w3.alloc (.cells #[.slice (some ⟨g3, 0, none⟩) x.length x.length] 35)) (fun b => w.heap.size ≤ b ∧ V.ownBlock ≠ some b) x.length (fnL x) (.slice (some ⟨g3, 0, none⟩) x.length x.length) ∧
      (w3.alloc (.cells #[.slice (some ⟨g3, 0, none⟩) x.length x.length] 35)).cell? ⟨w3.heap.size, 0, none⟩ = some (.slice (some ⟨g3, 0, none⟩) x.length x.length) ∧
      Below w.heap.size w (w3.alloc (.cells #[.slice (some ⟨g3, 0, none⟩) x.length x.length] 35)) ∧ w.heap.size ≤ (w3.alloc (.cells #[.slice (some ⟨g3, 0, none⟩) x.length x.length] 35)).heap.size := by
  obtain ⟨rs, h1, h2, h3, h4⟩ := hR
  have hb4 : Below W.heap.size W (w3.alloc (.cells #[.slice (some ⟨g3, 0, none⟩) x.length x.length] 35)) := hb.alloc hb.size _
  have hb5 : Below w3.heap.size w3 (w3.alloc (.cells #[.slice (some ⟨g3, 0, none⟩) x.length x.length] 35)) := (Below.refl _ _).alloc (Nat.le_refl _) _
  have hbw := hW.trans (hb4.mono hW.size)
  obtain ⟨hr, hge⟩ := row_of_own ho
  have hu : BytesIn w3 (fun b => w.heap.size ≤ b ∧ V.ownBlock ≠ some b) x.length (fnL x) (.slice (some ⟨g3, 0, none⟩) x.length x.length) := ⟨_, _, rfl, Nat.le_refl _, fun _ => ⟨g3, 0, rfl, ⟨Nat.le_trans hW.size hge, fun e => by have := (h1.lt g3 e).2; omega⟩, fun j hj => by rw [Nat.zero_add]; exact hr.cell hj⟩⟩
  refine ⟨rs, h1.below hb4, h2, h3, fun i y q hy hq => (h4 i y q hy hq).below hb4, hu.below hb5, ?_, hbw, hbw.size⟩
  exact (cell_of_row _ _ 0 _ _ _ (heap_alloc_new w3 _)).trans rfl
set_option maxRecDepth 100000 in
set_option maxHeartbeats 1000000 in
theorem jread {w : World} (hk : Consts w) {P : Nat → Prop} {b : By} {bv : Value} (hb : BytesIn w P b.length (fnL b) bv) (hn : b.length ≤ 1048576) :
    Calls Tryd.prog 15 #[bv] w fun y w' => Below w.heap.size w w' ∧ ((scan Dg b = none ∧ y = .returned (.tuple #[.slice none 0 0, .int .i64 0, .int .i64 9])) ∨
      ∃ R t V, scan Dg b = some (R, t) ∧ y = .returned (.tuple #[V, .int .i64 ((b.length - t.length : Nat) : Int), .int .i64 0]) ∧ RecsOwn w' (fun k => w.heap.size ≤ k) R V ∧ t.length ≤ b.length ∧ 10 * R.length ≤ b.length ∧ ∀ x ∈ R, x.length ≤ 1000) := by
  have H0 : Hid (ReadSt w w P b b [] bv (.slice none 0 0)) := Lib.hid ⟨Below.refl _ _, by simp, hb, RecsOwn.nil _ _, by cases scan Dg b <;> simp, fun x hx => by cases hx⟩
  have HK := Lib.hid hk
  obtain ⟨A, c, rfl, -, -⟩ := hb
  have HN := Lib.hid hn
  clear hk hn
  go_enter Tryd.func15, Tryd.ntmps15
  go_wp2
  go_step3
  go_wp2
  go_step3
  go_wp2
  go_loopw [5, 6] (fun V rest wr => ∃ (t : By) (R : List By) (A' : Option Addr) (c' : Nat), rest = .slice A' t.length c' ∧ Hid (ReadSt w wr P b t R rest V)) (fun _ r _ => match r with | .slice _ M _ => M | _ => 0)
  case atStart => exact ⟨b, [], A, c, rfl, H0⟩
  case round =>
    clear H0
    obtain ⟨t, R, A', c', rfl, hS⟩ := hrel
    have hlen := hS.out.len
    have hw : wrap64 ((b.length : Int) - (t.length : Int)) = ((b.length - t.length : Nat) : Int) := by unfold wrap64; have := HN.out; omega
    have HLN := Lib.hid hlen
    clear hlen
    by_cases h0 : 0 < t.length
    rotate_left
    · have q0 : ¬ (0 : Int) < (t.length : Int) := by omega
      have e0 : t = [] := List.eq_nil_of_length_eq_zero (by omega)
      have HF : Hid (scan Dg b = some (R, t)) := Lib.hid (by rw [hS.out.scan, e0, scan_empty]; simp)
      clear e0 h0
      go_wp2
      try rw [Exit.noGoto_ret]
      try rw [hw]
      go_ret3
      exact ⟨hS.out.bel, .inr ⟨R, t, _, HF.out, rfl, hS.out.recs, by have := HLN.out; omega, by have := HLN.out; omega, hS.out.small⟩⟩
    have q0 : (0 : Int) < (t.length : Int) := by omega
    have hS1 := hS.out.bytes.slice
    have HSZ := Lib.hid (jsize (slice_below hS1 hS.out.bel) (by have := HLN.out; have := HN.out; omega))
    clear hS1
    go_wp2_with fail
    refine HSZ.out.mono ?_
    rintro _ w1 ⟨rfl, hb1⟩
    have HB1 := Lib.hid hb1
    have HW1 := Lib.hid (hS.out.bel.trans (hb1.mono hS.out.bel.size))
    have HR1 := Lib.hid (hS.out.recs.keep (fun k hk _ => hb1.block k hk))
    clear hb1 HSZ
    by_cases h1 : 1010 < sizeN t
    · have q1 : (1010 : Int) < (sizeN t : Int) := by omega
      have HF : Hid (scan Dg b = none) := Lib.hid (by rw [hS.out.scan, scan_big Dg h1]; rfl)
      go_wp2
      try rw [Exit.noGoto_ret]
      try rw [hw]
      go_ret3
      exact ⟨HW1.out, .inl ⟨HF.out, rfl⟩⟩
    have q1 : ¬ (1010 : Int) < (sizeN t : Int) := by omega
    by_cases h2 : t.length < sizeN t
    · have q2 : (t.length : Int) < (sizeN t : Int) := by omega
      have HF : Hid (scan Dg b = some (R, t)) := Lib.hid (by rw [hS.out.scan, scan_short Dg h0 h1 h2]; simp)
      go_wp2
      try rw [Exit.noGoto_ret]
      try rw [hw]
      go_ret3
      exact ⟨HW1.out, .inr ⟨R, t, _, HF.out, rfl, HR1.out, by have := HLN.out; omega, by have := HLN.out; omega, hS.out.small⟩⟩
    have q2 : ¬ (t.length : Int) < (sizeN t : Int) := by omega
    have hge := size_ge t
    obtain ⟨sb, so, rfl, hcl⟩ := BytesIn.at_ hS.out.bytes h0
    have hcap : t.length ≤ c' := by obtain ⟨A1, c1, he, hc, -⟩ := hS.out.bytes; cases he; exact hc
    have hsb : ∃ k, P k ∧ k = sb := by obtain ⟨A1, c1, he, -, hr⟩ := hS.out.bytes; cases he; obtain ⟨s1, o1, he1, hp, -⟩ := hr h0; cases he1; exact ⟨_, hp, rfl⟩
    obtain ⟨k, hPs, hke⟩ := hsb
    rw [hke] at hPs
    clear hke
    obtain ⟨o1, ho1, hcut1⟩ := mid_run (P := Tryd.prog) 35 5 Tryd.underlying35 (by kernel_rfl) sb so t.length c' 10 (sizeN t) hge (by omega)
    obtain ⟨o2, ho2, hcut2⟩ := from_run (P := Tryd.prog) 35 5 Tryd.underlying35 (by kernel_rfl) sb so t.length c' (sizeN t) (by omega) hcap
    have hxl := rec_len (b := t) (by omega)
    rw [← hxl] at hcut1
    have HX : Hid (BytesIn w P (recN t).length (fnL (recN t)) (.slice (some ⟨sb, o1, none⟩) (recN t).length (c' - 10))) := Lib.hid ⟨_, _, rfl, by omega, fun hx0 => ⟨sb, o1, rfl, hPs, fun j hj => by
      rw [ho1 (by omega), Nat.add_assoc, hcl (10 + j) (by omega)]
      unfold recN
      rw [fnL_take _ _ _ (by omega), fnL_drop]⟩⟩
    have HT : Hid (BytesIn w P (t.drop (sizeN t)).length (fnL (t.drop (sizeN t))) (.slice (some ⟨sb, o2, none⟩) (t.drop (sizeN t)).length (c' - sizeN t))) := Lib.hid ⟨_, _, rfl, by rw [List.length_drop]; omega, fun hx0 => ⟨sb, o2, rfl, hPs, fun j hj => by
      rw [List.length_drop] at hx0 hj
      rw [ho2 (by omega), Nat.add_assoc, hcl (sizeN t + j) (by omega), fnL_drop]⟩⟩
    have HSC := Lib.hid (scan_rec h1 (by omega))
    have HXS : Hid ((recN t).length ≤ 1000) := Lib.hid (by omega)
    have HDL : Hid ((t.drop (sizeN t)).length = t.length - sizeN t) := Lib.hid List.length_drop
    have hcut2' : ∀ W, (Instr.sliceAt 35 (.slice (some ⟨sb, so, none⟩) t.length c') (some (.int .i64 (sizeN t : Int))) none none).run Tryd.prog W = .ok (.slice (some ⟨sb, o2, none⟩) (t.drop (sizeN t)).length (c' - sizeN t)) W := fun W => by rw [HDL.out]; exact hcut2 _ _ W rfl
    have HCL := Lib.hid hcl
    have HGE := Lib.hid hge
    have HSLT := Lib.hid (block_lt_of_cell (hcl 0 h0))
    have HN10 : Hid ((sizeN t : Int) = ((recN t).length : Int) + 10) := Lib.hid (by omega)
    simp only [Int.cast_ofNat_Int] at hcut1
    clear hcl hge hcap hxl hcut2 ho1 ho2 hPs
    obtain ⟨x, hx⟩ : ∃ x, x = recN t := ⟨_, rfl⟩
    obtain ⟨t', ht'⟩ : ∃ t', t' = t.drop (sizeN t) := ⟨_, rfl⟩
    simp only [← hx, ← ht'] at HX HT HSC HXS HDL hcut1 hcut2' HN10
    clear hx ht'
    go_upto_region 9 with fail
    have HWB : Hid (∀ W, Below w1.drew.heap.size w1.drew W → Consts W ∧ SliceOf W W.heap.size x.length (fnL x) (.slice (some ⟨sb, o1, none⟩) x.length (c' - 10)) ∧ ∀ j, j < 10 → W.cell? ⟨sb, so + j, none⟩ = some (.int .u8 ((fnL t j).toNat : Int))) := Lib.hid fun W hW => by
      have h1 := HW1.out.trans ((undrew hW).mono HW1.out.size)
      exact ⟨HK.out.below h1 (Nat.le_refl _), (HX.out.below h1).slice, fun j hj => (h1.cell (p := ⟨sb, so + j, none⟩) HSLT.out).trans (HCL.out j (by have := HGE.out; omega))⟩
    have hT10 : 10 ≤ t.length := by have := HGE.out; omega
    have HA : Hid (∀ (W : World), (Instr.arrayAt 56 (.slice (some ⟨sb, so, none⟩) t.length c')).run Tryd.prog W = .ok (.pointer (some ⟨sb, so, none⟩)) W) := Lib.hid (fun W => run_arrayAt W _ _ 10 _ t.length c' Tryd.underlying56 hT10)
    clear hT10
    refine region_inv_all (postH (.slice (some ⟨sb, o1, none⟩) x.length (c' - 10)) (.slice (some ⟨sb, so, none⟩) t.length c') (.pointer (some ⟨sb, so, none⟩)) x t) 6 (by kernel_rfl) (by kernel_rfl) (by kernel_rfl) (fun _ _ _ _ _ h => h) ?_ ?_
    · refine ⟨⟨⟨⟨⟨⟨trivial, ?_⟩, ?_⟩, ?_⟩, ?_⟩, ?_⟩, ?_⟩
      · refine ⟨_, rfl, fun xs W hW hd => ?_⟩
        clear hd
        simp only [fillI, List.take, List.setIfInBounds_toArray, List.set_cons_zero, List.set_cons_succ, Nat.reduceAdd, Nat.zero_add]
        go_wp2_with fail
        refine ⟨_, by (simp only [upd, Nat.reduceEqDiff, reduceIte]; rfl), ?_, ?_⟩
        · rfl
        · exact Below.refl _ _
      · refine ⟨_, rfl, fun xs W hW hd => ?_⟩
        have h0 : xs 0 = .slice (some ⟨sb, o1, none⟩) x.length (c' - 10) := hd 0 (by kernel_rfl)
        have HH := Lib.hid (jhead (HWB.out W hW).1 (HWB.out W hW).2.1 HXS.out)
        clear hd
        rw [upd_self h0]
        simp only [fillI, List.take, List.setIfInBounds_toArray, List.set_cons_zero, List.set_cons_succ, Nat.reduceAdd, Nat.zero_add, upd, Nat.reduceEqDiff, reduceIte]
        go_wp2_with fail
        refine HH.out.mono ?_
        rintro _ W2 ⟨rfl, hb2⟩
        go_wp2_with fail
        refine ⟨_, by (simp only [upd, Nat.reduceEqDiff, reduceIte]; rfl), ?_, ?_⟩
        · rfl
        · exact hb2
      · refine ⟨_, rfl, fun xs W hW hd => ?_⟩
        clear hd
        simp only [fillI, List.take, List.setIfInBounds_toArray, List.set_cons_zero, List.set_cons_succ, Nat.reduceAdd, Nat.zero_add]
        go_wp2_with fail
        refine ⟨_, by (simp only [upd, Nat.reduceEqDiff, reduceIte]; rfl), ?_, ?_⟩
        · rfl
        · exact Below.refl _ _
      · refine ⟨_, rfl, fun xs W hW hd => ?_⟩
        have h2 : xs 2 = .slice (some ⟨sb, so, none⟩) t.length c' := hd 2 (by kernel_rfl)
        have hA := HA.out
        clear hd
        rw [upd_self h2]
        simp only [fillI, List.take, List.setIfInBounds_toArray, List.set_cons_zero, List.set_cons_succ, Nat.reduceAdd, Nat.zero_add, upd, Nat.reduceEqDiff, reduceIte]
        go_wp2_with fail
        refine ⟨_, by (simp only [upd, Nat.reduceEqDiff, reduceIte]; rfl), ?_, ?_⟩
        · rfl
        · exact Below.refl _ _
      · refine ⟨_, rfl, fun xs W hW hd => ?_⟩
        have h3 : xs 3 = .pointer (some ⟨sb, so, none⟩) := hd 3 (by kernel_rfl)
        have HC := Lib.hid (HWB.out W hW).2.2
        clear hd
        rw [upd_self h3]
        simp only [fillI, List.take, List.setIfInBounds_toArray, List.set_cons_zero, List.set_cons_succ, Nat.reduceAdd, Nat.zero_add, upd, Nat.reduceEqDiff, reduceIte]
        refine load_ten (by rfl) 56 (.tmp 29) (by rfl) sb so 10 (fnL t) HC.out (by rfl) _ Tryd.underlying56 rfl (by kernel_rfl) ?_
        refine ⟨_, by (simp only [upd, Nat.reduceEqDiff, reduceIte]; rfl), ?_, ?_⟩
        · rfl
        · exact Below.refl _ _
      · refine ⟨_, rfl, fun xs W hW hd => ?_⟩
        have h1 : xs 1 = .agg (byteCells 10 (fnL (hdr x))) := hd 1 (by kernel_rfl)
        have h4 : xs 4 = .agg (byteCells 10 (fnL t)) := hd 4 (by kernel_rfl)
        have hN := hdr_same x t W
        clear hd
        rw [upd_self h1, upd_self h4]
        simp only [fillI, List.take, List.setIfInBounds_toArray, List.set_cons_zero, List.set_cons_succ, Nat.reduceAdd, Nat.zero_add, upd, Nat.reduceEqDiff, reduceIte]
        go_wp2_with fail
        refine ⟨_, by (simp only [upd, Nat.reduceEqDiff, reduceIte]; rfl), ?_, ?_⟩
        · rfl
        · exact Below.refl _ _
    · intro xs W hW hp
      have h5 : xs 5 = .bool (!sameUpto (fnL (hdr x)) (fnL t) 10) := hp 5 (by omega)
      have hWW := undrew hW
      have HWS := Lib.hid (HW1.out.trans (hWW.mono HW1.out.size))
      have HR2 := Lib.hid (HR1.out.keep (fun k hk _ => hWW.block k hk))
      clear hp hW hWW HWB HA
      rw [upd_self h5]
      simp only [fillI, List.take, List.setIfInBounds_toArray, List.set_cons_zero, List.set_cons_succ, Nat.reduceAdd, Nat.zero_add, upd, Nat.reduceEqDiff, reduceIte]
      generalize xs 0 = y0
      generalize xs 1 = y1
      generalize xs 2 = y2
      generalize xs 3 = y3
      generalize xs 4 = y4
      clear h5 hcut1 HCL HSLT HR1 HW1 HB1
      cases hsm : sameUpto (fnL (hdr x)) (fnL t) 10 with
      | false =>
        have HF : Hid (scan Dg b = none) := Lib.hid (by rw [hS.out.scan, HSC.out, hsm]; rfl)
        clear HSC hsm
        go_wp2
        try rw [Exit.noGoto_ret]
        go_ret3
        exact ⟨HWS.out, .inl ⟨HF.out, rfl⟩⟩
      | true =>
        have HF : Hid (scan Dg b = (scan Dg t').map (fun q => ((R ++ [x]) ++ q.1, q.2))) := Lib.hid (by
          rw [hS.out.scan, HSC.out, hsm, if_pos rfl]
          cases scan Dg t' <;> simp)
        clear HSC hsm
        have HCP := Lib.hid (jcopy (HX.out.below HWS.out).slice (by have := HXS.out; omega))
        go_wp2_with fail
        refine HCP.out.mono ?_
        rintro _ w3 ⟨g3, rfl, ho3, hb3⟩
        have hkey := read_snoc HWS.out HR2.out ho3 hb3
        obtain ⟨rs, hO4, hl4, hK4, hR4, hU4, hone4, hW4, hkz⟩ := hkey
        have HO4 := Lib.hid hO4
        have HL4 := Lib.hid hl4
        have HK4 := Lib.hid hK4
        have HR4 := Lib.hid hR4
        have HU4 := Lib.hid hU4
        have HONE4 := Lib.hid hone4
        have HW4 := Lib.hid hW4
        have HKZ := Lib.hid hkz
        clear hO4 hl4 hK4 hR4 hU4 hone4 hW4 hkz ho3 hb3 HCP HR2
        go_wp2_with (at_builtin
                     refine append_vals (by rfl) (.tmp 32) (.tmp 35) 34 (by rfl) 0 35 (.slice none 0 0) 24 Tryd.underlying34 (by kernel_rfl) (by rfl) (by omega) rs _ (by rfl) HO4.out w3.heap.size 0 1 1 [.slice (some ⟨g3, 0, none⟩) x.length x.length] (by rfl) rfl (fun j u hj => by match j, hj with | 0, hj => simp at hj; rw [← hj]; exact HONE4.out) (fun u hu => by rw [List.mem_singleton.1 hu]; rfl) (by have := HL4.out; have := HLN.out; have := HN.out; omega) (Nat.zero_le _) ?_
                     intro v5 w5 ho5 hg5 hv5
                     have HR5 := Lib.hid (recs_snoc HL4.out HK4.out HR4.out HU4.out ho5 hg5 hv5 HKZ.out)
                     have HW5 : Hid (Below w.heap.size w w5) := Lib.hid (HW4.out.trans ⟨hg5.os, hg5.tape, hg5.output, hg5.size, fun k hk => hg5.block k (Nat.lt_of_lt_of_le hk HW4.out.size) (fun e => by have := HK4.out k e.symm; omega)⟩)
                     clear ho5 hg5 hv5 HO4 HL4 HK4 HR4 HU4 HONE4 HW4 HKZ)
        refine ⟨⟨t', R ++ [x], _, _, rfl, Lib.hid ⟨HW5.out, ?_, HT.out, HR5.out, HF.out, fun y hy => ?_⟩⟩, ?_⟩
        · have := HLN.out; have := HDL.out; have := HGE.out; rw [List.length_append, List.length_singleton]; omega
        · rcases List.mem_append.1 hy with h | h
          · exact hS.out.small y h
          · rw [List.mem_singleton.1 h]; exact HXS.out
        · show t'.length < t.length
          have := HDL.out; have := HGE.out; omega
end Go.Proofs.YtpnkcacmmjmehaaDoor.Jour
