/-
  The program's own journal: read. The program's own journal: Open. The program's own journal: Add. The program's own journal: Only. The program's own store and journal, as the law of layer 14 wants them.
-/
import Derived.Test.YtebchoeeohmlaaaDoorBd40
import Derived.Test.YtebchoeeohmlaaaDoorBd06
import Derived.Test.YtebchoeeohmlaaaDoorBd42
import Derived.Deep.CutBlock
import Derived.WalkMore
import Derived.Laws.Cover3
namespace Go.Proofs.YtebchoeeohmlaaaDoor.Jour
open Go Go.RowKit Go.Proofs.YtebchoeeohmlaaaDoor.Aid Go.Proofs.YtebchoeeohmlaaaDoor.Sha Go.Proofs.YtebchoeeohmlaaaDoor.Cache Go.Proofs.YtebchoeeohmlaaaDoor.Store

/-- 'b[lo:hi]', and where it begins. -/
theorem mid_run {P : Program} (t e : TypeId) (hu : P.underlying t = some (.slice e)) (hsz : (P.info? e).map (·.size) = some 1) (sb so M c lo hi : Nat) (h1 : lo ≤ hi) (h2 : hi ≤ c) :
    ∃ o : Nat, (lo < hi → o = so + lo) ∧ ∀ (W : World), (Instr.sliceAt t (.slice (some ⟨sb, so, none⟩) M c) (some (.int .i64 (lo : Int))) (some (.int .i64 (hi : Int))) none).run P W = .ok (.slice (some ⟨sb, o, none⟩) (hi - lo) (c - lo)) W := by
  refine ⟨if c = lo then so else so + lo, fun h => by rw [if_neg (by omega)], fun W => ?_⟩
  cases hq : P.info? e with
  | none => simp [hq] at hsz
  | some i =>
    have hs : i.size = 1 := by simpa [hq] using hsz
    by_cases hck : c = lo
    · simp [Instr.sliceAt, Instr.slice, Instr.sliceBounds, Instr.sliceBound, asIntOf, Sem.run_bind, run_underlying hu W, Result.andThen, sizeOf, typeInfo, hq, hck, h1, show hi ≤ lo by omega]
    · simp [Instr.sliceAt, Instr.slice, Instr.sliceBounds, Instr.sliceBound, asIntOf, Sem.run_bind, run_underlying hu W, Result.andThen, sizeOf, typeInfo, hq, hs, Addr.add_mid, hck, h1, h2]
theorem load_ten {P : Program} {w : World} {ops : Array Oper} {rest : List Oper} {op : Oper} {a : Act} {Q : Exit → Act → World → Prop} (hgd : op.guard = none) (ty : TypeId) (x : Operand) (ho : op.op = .load ty x) (sb so m : Nat) (e : Nat → BitVec 8) (hc : ∀ j, j < m → w.cell? ⟨sb, so + j, none⟩ = some (.int .u8 ((e j).toNat : Int)))
    (hx : a.eval x = .pointer (some ⟨sb, so, none⟩)) (d : TypeDesc) (hu : P.underlying ty = some d) (hd : d.isRow = true) (hi : (P.info? ty).map (·.size) = some m)
    (hK : wpList P ops Q rest (a.put op.dst (.agg (byteCells m e))) w) : wpList P ops Q (op :: rest) a w := by
  refine wpList_load_mid hgd ty x ho sb so hx ((List.range m).map fun j => .int .u8 ((e j).toNat : Int)) d (fun j v hj => ?_) hu hd (by simpa using hi) hK
  have hjm : j < m := by have := (List.getElem?_eq_some_iff.1 hj).1; simpa using this
  rw [List.getElem?_map, List.getElem?_range hjm] at hj
  simp only [Option.map_some, Option.some.injEq] at hj
  rw [← hj]
  exact hc j hjm
def postH (rv rst pt : Value) (x t : By) (i : Nat) (v : Value) (_ : World) : Prop :=
  match i with
  | 0 => v = rv
  | 1 => v = .agg (byteCells 10 (fnL (hdr x)))
  | 2 => v = rst
  | 3 => v = pt
  | 4 => v = .agg (byteCells 10 (fnL t))
  | 5 => v = .bool (!sameUpto (fnL (hdr x)) (fnL t) 10)
  | _ + 6 => True
theorem hdr_same (x t : By) (W : World) : (Op.equalIn 10000 135 (.agg (byteCells 10 (fnL (hdr x)))) (.agg (byteCells 10 (fnL t)))).run Tryd.prog W = .ok (sameUpto (fnL (hdr x)) (fnL t) 10) W :=
  run_equalIn_bytes (P := Tryd.prog) (len := 10) 9998 Tryd.underlying135 Tryd.underlying5 (by kernel_rfl) (byteCells 10 (fnL (hdr x))) (byteCells 10 (fnL t)) (fnL (hdr x)) (fnL t) (fun i hi => cellsOf_at 10 _ i hi) (fun i hi => cellsOf_at 10 _ i hi) W
/-- While bytes are read: R is read, t is left. -/
structure ReadSt (w W : World) (P : Nat → Prop) (b t : By) (R : List By) (rest V : Value) : Prop where
  bel : Below w.heap.size w W
  len : 10 * R.length + t.length ≤ b.length
  bytes : BytesIn w P t.length (fnL t) rest
  recs : RecsOwn W (fun k => w.heap.size ≤ k) R V
  scan : scan Dg b = (scan Dg t).map (fun q => (R ++ q.1, q.2))
  small : ∀ x ∈ R, x.length ≤ 1000
/-- A copy of a record was made, and a slice that holds it. -/
theorem read_snoc {w W w3 : World} {R : List By} {V : Value} {x : By} {g3 : Nat} (hW : Below w.heap.size w W) (hR : RecsOwn W (fun k => w.heap.size ≤ k) R V) (ho : Own w3 W.heap.size x.length (fnL x) (.slice (some ⟨g3, 0, none⟩) x.length x.length)) (hb : Below W.heap.size W w3) :
    ∃ rs, OwnV (w3.alloc (.cells #[.slice (some ⟨g3, 0, none⟩) x.length x.length] 23)) 0 23 V rs ∧ rs.length = R.length ∧ (∀ b, V.ownBlock = some b → w.heap.size ≤ b) ∧
      (∀ (i : Nat) (y : By) (q : Value), R[i]? = some y → rs[i]? = some q → BytesIn (w3.alloc (.cells #[.slice (some ⟨g3, 0, none⟩) x.length x.length] 23)) (fun b => w.heap.size ≤ b ∧ V.ownBlock ≠ some b) y.length (fnL y) q) ∧
      BytesIn (w3.alloc (.cells #[.slice (some ⟨g3, 0, none⟩) x.length x.length] 23)) (fun b => w.heap.size ≤ b ∧ V.ownBlock ≠ some b) x.length (fnL x) (.slice (some ⟨g3, 0, none⟩) x.length x.length) ∧
      (w3.alloc (.cells #[.slice (some ⟨g3, 0, none⟩) x.length x.length] 23)).cell? ⟨w3.heap.size, 0, none⟩ = some (.slice (some ⟨g3, 0, none⟩) x.length x.length) ∧
      Below w.heap.size w (w3.alloc (.cells #[.slice (some ⟨g3, 0, none⟩) x.length x.length] 23)) ∧ w.heap.size ≤ (w3.alloc (.cells #[.slice (some ⟨g3, 0, none⟩) x.length x.length] 23)).heap.size := by
  obtain ⟨rs, h1, h2, h3, h4⟩ := hR
  have hb4 : Below W.heap.size W (w3.alloc (.cells #[.slice (some ⟨g3, 0, none⟩) x.length x.length] 23)) := hb.alloc hb.size _
  have hb5 : Below w3.heap.size w3 (w3.alloc (.cells #[.slice (some ⟨g3, 0, none⟩) x.length x.length] 23)) := (Below.refl _ _).alloc (Nat.le_refl _) _
  have hbw := hW.trans (hb4.mono hW.size)
  obtain ⟨hr, hge⟩ := row_of_own ho
  have hu : BytesIn w3 (fun b => w.heap.size ≤ b ∧ V.ownBlock ≠ some b) x.length (fnL x) (.slice (some ⟨g3, 0, none⟩) x.length x.length) := ⟨_, _, rfl, Nat.le_refl _, fun _ => ⟨g3, 0, rfl, ⟨Nat.le_trans hW.size hge, fun e => by have := (h1.lt g3 e).2; omega⟩, fun j hj => by rw [Nat.zero_add]; exact hr.cell hj⟩⟩
  refine ⟨rs, h1.below hb4, h2, h3, fun i y q hy hq => (h4 i y q hy hq).below hb4, hu.below hb5, ?_, hbw, hbw.size⟩
  exact (cell_of_row _ _ 0 _ _ _ (heap_alloc_new w3 _)).trans rfl
set_option maxRecDepth 100000 in
set_option maxHeartbeats 1000000 in
theorem jread {w : World} (hk : Consts w) {P : Nat → Prop} {b : By} {bv : Value} (hb : BytesIn w P b.length (fnL b) bv) (hn : b.length ≤ 1048576) :
    Calls Tryd.prog 71 #[bv] w fun y w' => Below w.heap.size w w' ∧ ((scan Dg b = none ∧ y = .returned (.tuple #[.slice none 0 0, .int .i64 0, .int .i64 9])) ∨
      ∃ R t V, scan Dg b = some (R, t) ∧ y = .returned (.tuple #[V, .int .i64 ((b.length - t.length : Nat) : Int), .int .i64 0]) ∧ RecsOwn w' (fun k => w.heap.size ≤ k) R V ∧ t.length ≤ b.length ∧ 10 * R.length ≤ b.length ∧ ∀ x ∈ R, x.length ≤ 1000) := by
  have H0 : Hid (ReadSt w w P b b [] bv (.slice none 0 0)) := Lib.hid ⟨Below.refl _ _, by simp, hb, RecsOwn.nil _ _, by cases scan Dg b <;> simp, fun x hx => by cases hx⟩
  have HK := Lib.hid hk
  obtain ⟨A, c, rfl, -, -⟩ := hb
  have HN := Lib.hid hn
  clear hk hn
  go_enter Tryd.func71, Tryd.ntmps71
  go_wp2
  go_step3
  go_wp2
  go_step3
  go_wp2
  go_loopw [5, 6] (fun V rest wr => ∃ (t : By) (R : List By) (A' : Option Addr) (c' : Nat), rest = .slice A' t.length c' ∧ Hid (ReadSt w wr P b t R rest V)) (fun _ r _ => match r with | .slice _ M _ => M | _ => 0)
  case atStart => exact ⟨b, [], A, c, rfl, H0⟩
  case round =>
    clear H0
    obtain ⟨t, R, A', c', rfl, hS⟩ := hrel
    have hlen := hS.out.len
    have hw : wrap64 ((b.length : Int) - (t.length : Int)) = ((b.length - t.length : Nat) : Int) := by unfold wrap64; have := HN.out; omega
    have HLN := Lib.hid hlen
    clear hlen
    by_cases h0 : 0 < t.length
    rotate_left
    · have q0 : ¬ (0 : Int) < (t.length : Int) := by omega
      have e0 : t = [] := List.eq_nil_of_length_eq_zero (by omega)
      have HF : Hid (scan Dg b = some (R, t)) := Lib.hid (by rw [hS.out.scan, e0, scan_empty]; simp)
      clear e0 h0
      go_wp2
      try rw [Exit.noGoto_ret]
      try rw [hw]
      go_ret3
      exact ⟨hS.out.bel, .inr ⟨R, t, _, HF.out, rfl, hS.out.recs, by have := HLN.out; omega, by have := HLN.out; omega, hS.out.small⟩⟩
    have q0 : (0 : Int) < (t.length : Int) := by omega
    have hS1 := hS.out.bytes.slice
    have HSZ := Lib.hid (jsize (slice_below hS1 hS.out.bel) (by have := HLN.out; have := HN.out; omega))
    clear hS1
    go_wp2_with fail
    refine HSZ.out.mono ?_
    rintro _ w1 ⟨rfl, hb1⟩
    have HB1 := Lib.hid hb1
    have HW1 := Lib.hid (hS.out.bel.trans (hb1.mono hS.out.bel.size))
    have HR1 := Lib.hid (hS.out.recs.keep (fun k hk _ => hb1.block k hk))
    clear hb1 HSZ
    by_cases h1 : 1010 < sizeN t
    · have q1 : (1010 : Int) < (sizeN t : Int) := by omega
      have HF : Hid (scan Dg b = none) := Lib.hid (by rw [hS.out.scan, scan_big Dg h1]; rfl)
      go_wp2
      try rw [Exit.noGoto_ret]
      try rw [hw]
      go_ret3
      exact ⟨HW1.out, .inl ⟨HF.out, rfl⟩⟩
    have q1 : ¬ (1010 : Int) < (sizeN t : Int) := by omega
    by_cases h2 : t.length < sizeN t
    · have q2 : (t.length : Int) < (sizeN t : Int) := by omega
      have HF : Hid (scan Dg b = some (R, t)) := Lib.hid (by rw [hS.out.scan, scan_short Dg h0 h1 h2]; simp)
      go_wp2
      try rw [Exit.noGoto_ret]
      try rw [hw]
      go_ret3
      exact ⟨HW1.out, .inr ⟨R, t, _, HF.out, rfl, HR1.out, by have := HLN.out; omega, by have := HLN.out; omega, hS.out.small⟩⟩
    have q2 : ¬ (t.length : Int) < (sizeN t : Int) := by omega
    have hge := size_ge t
    obtain ⟨sb, so, rfl, hcl⟩ := BytesIn.at_ hS.out.bytes h0
    have hcap : t.length ≤ c' := by obtain ⟨A1, c1, he, hc, -⟩ := hS.out.bytes; cases he; exact hc
    have hsb : ∃ k, P k ∧ k = sb := by obtain ⟨A1, c1, he, -, hr⟩ := hS.out.bytes; cases he; obtain ⟨s1, o1, he1, hp, -⟩ := hr h0; cases he1; exact ⟨_, hp, rfl⟩
    obtain ⟨k, hPs, hke⟩ := hsb
    rw [hke] at hPs
    clear hke
    obtain ⟨o1, ho1, hcut1⟩ := mid_run (P := Tryd.prog) 23 5 Tryd.underlying23 (by kernel_rfl) sb so t.length c' 10 (sizeN t) hge (by omega)
    obtain ⟨o2, ho2, hcut2⟩ := from_run (P := Tryd.prog) 23 5 Tryd.underlying23 (by kernel_rfl) sb so t.length c' (sizeN t) (by omega) hcap
    have hxl := rec_len (b := t) (by omega)
    rw [← hxl] at hcut1
    have HX : Hid (BytesIn w P (recN t).length (fnL (recN t)) (.slice (some ⟨sb, o1, none⟩) (recN t).length (c' - 10))) := Lib.hid ⟨_, _, rfl, by omega, fun hx0 => ⟨sb, o1, rfl, hPs, fun j hj => by
      rw [ho1 (by omega), Nat.add_assoc, hcl (10 + j) (by omega)]
      unfold recN
      rw [fnL_take _ _ _ (by omega), fnL_drop]⟩⟩
    have HT : Hid (BytesIn w P (t.drop (sizeN t)).length (fnL (t.drop (sizeN t))) (.slice (some ⟨sb, o2, none⟩) (t.drop (sizeN t)).length (c' - sizeN t))) := Lib.hid ⟨_, _, rfl, by rw [List.length_drop]; omega, fun hx0 => ⟨sb, o2, rfl, hPs, fun j hj => by
      rw [List.length_drop] at hx0 hj
      rw [ho2 (by omega), Nat.add_assoc, hcl (sizeN t + j) (by omega), fnL_drop]⟩⟩
    have HSC := Lib.hid (scan_rec h1 (by omega))
    have HXS : Hid ((recN t).length ≤ 1000) := Lib.hid (by omega)
    have HDL : Hid ((t.drop (sizeN t)).length = t.length - sizeN t) := Lib.hid List.length_drop
    have hcut2' : ∀ W, (Instr.sliceAt 23 (.slice (some ⟨sb, so, none⟩) t.length c') (some (.int .i64 (sizeN t : Int))) none none).run Tryd.prog W = .ok (.slice (some ⟨sb, o2, none⟩) (t.drop (sizeN t)).length (c' - sizeN t)) W := fun W => by rw [HDL.out]; exact hcut2 _ _ W rfl
    have HCL := Lib.hid hcl
    have HGE := Lib.hid hge
    have HSLT := Lib.hid (block_lt_of_cell (hcl 0 h0))
    have HN10 : Hid ((sizeN t : Int) = ((recN t).length : Int) + 10) := Lib.hid (by omega)
    simp only [Int.cast_ofNat_Int] at hcut1
    clear hcl hge hcap hxl hcut2 ho1 ho2 hPs
    obtain ⟨x, hx⟩ : ∃ x, x = recN t := ⟨_, rfl⟩
    obtain ⟨t', ht'⟩ : ∃ t', t' = t.drop (sizeN t) := ⟨_, rfl⟩
    simp only [← hx, ← ht'] at HX HT HSC HXS HDL hcut1 hcut2' HN10
    clear hx ht'
    go_upto_region 9 with fail
    have HWB : Hid (∀ W, Below w1.drew.heap.size w1.drew W → Consts W ∧ SliceOf W W.heap.size x.length (fnL x) (.slice (some ⟨sb, o1, none⟩) x.length (c' - 10)) ∧ ∀ j, j < 10 → W.cell? ⟨sb, so + j, none⟩ = some (.int .u8 ((fnL t j).toNat : Int))) := Lib.hid fun W hW => by
      have h1 := HW1.out.trans ((undrew hW).mono HW1.out.size)
      exact ⟨HK.out.below h1 (Nat.le_refl _), (HX.out.below h1).slice, fun j hj => (h1.cell (p := ⟨sb, so + j, none⟩) HSLT.out).trans (HCL.out j (by have := HGE.out; omega))⟩
    have hT10 : 10 ≤ t.length := by have := HGE.out; omega
    have HA : Hid (∀ (W : World), (Instr.arrayAt 135 (.slice (some ⟨sb, so, none⟩) t.length c')).run Tryd.prog W = .ok (.pointer (some ⟨sb, so, none⟩)) W) := Lib.hid (fun W => run_arrayAt W _ _ 10 _ t.length c' Tryd.underlying135 hT10)
    clear hT10
    refine region_inv_all (postH (.slice (some ⟨sb, o1, none⟩) x.length (c' - 10)) (.slice (some ⟨sb, so, none⟩) t.length c') (.pointer (some ⟨sb, so, none⟩)) x t) 6 (by kernel_rfl) (by kernel_rfl) (by kernel_rfl) (fun _ _ _ _ _ h => h) ?_ ?_
    · refine ⟨⟨⟨⟨⟨⟨trivial, ?_⟩, ?_⟩, ?_⟩, ?_⟩, ?_⟩, ?_⟩
      · refine ⟨_, rfl, fun xs W hW hd => ?_⟩
        clear hd
        simp only [fillI, List.take, List.setIfInBounds_toArray, List.set_cons_zero, List.set_cons_succ, Nat.reduceAdd, Nat.zero_add]
        go_wp2_with fail
        refine ⟨_, by (simp only [upd, Nat.reduceEqDiff, reduceIte]; rfl), ?_, ?_⟩
        · rfl
        · exact Below.refl _ _
      · refine ⟨_, rfl, fun xs W hW hd => ?_⟩
        have h0 : xs 0 = .slice (some ⟨sb, o1, none⟩) x.length (c' - 10) := hd 0 (by kernel_rfl)
        have HH := Lib.hid (jhead (HWB.out W hW).1 (HWB.out W hW).2.1 HXS.out)
        clear hd
        rw [upd_self h0]
        simp only [fillI, List.take, List.setIfInBounds_toArray, List.set_cons_zero, List.set_cons_succ, Nat.reduceAdd, Nat.zero_add, upd, Nat.reduceEqDiff, reduceIte]
        go_wp2_with fail
        refine HH.out.mono ?_
        rintro _ W2 ⟨rfl, hb2⟩
        go_wp2_with fail
        refine ⟨_, by (simp only [upd, Nat.reduceEqDiff, reduceIte]; rfl), ?_, ?_⟩
        · rfl
        · exact hb2
      · refine ⟨_, rfl, fun xs W hW hd => ?_⟩
        clear hd
        simp only [fillI, List.take, List.setIfInBounds_toArray, List.set_cons_zero, List.set_cons_succ, Nat.reduceAdd, Nat.zero_add]
        go_wp2_with fail
        refine ⟨_, by (simp only [upd, Nat.reduceEqDiff, reduceIte]; rfl), ?_, ?_⟩
        · rfl
        · exact Below.refl _ _
      · refine ⟨_, rfl, fun xs W hW hd => ?_⟩
        have h2 : xs 2 = .slice (some ⟨sb, so, none⟩) t.length c' := hd 2 (by kernel_rfl)
        have hA := HA.out
        clear hd
        rw [upd_self h2]
        simp only [fillI, List.take, List.setIfInBounds_toArray, List.set_cons_zero, List.set_cons_succ, Nat.reduceAdd, Nat.zero_add, upd, Nat.reduceEqDiff, reduceIte]
        go_wp2_with fail
        refine ⟨_, by (simp only [upd, Nat.reduceEqDiff, reduceIte]; rfl), ?_, ?_⟩
        · rfl
        · exact Below.refl _ _
      · refine ⟨_, rfl, fun xs W hW hd => ?_⟩
        have h3 : xs 3 = .pointer (some ⟨sb, so, none⟩) := hd 3 (by kernel_rfl)
        have HC := Lib.hid (HWB.out W hW).2.2
        clear hd
        rw [upd_self h3]
        simp only [fillI, List.take, List.setIfInBounds_toArray, List.set_cons_zero, List.set_cons_succ, Nat.reduceAdd, Nat.zero_add, upd, Nat.reduceEqDiff, reduceIte]
        refine load_ten (by rfl) 135 (.tmp 29) (by rfl) sb so 10 (fnL t) HC.out (by rfl) _ Tryd.underlying135 rfl (by kernel_rfl) ?_
        refine ⟨_, by (simp only [upd, Nat.reduceEqDiff, reduceIte]; rfl), ?_, ?_⟩
        · rfl
        · exact Below.refl _ _
      · refine ⟨_, rfl, fun xs W hW hd => ?_⟩
        have h1 : xs 1 = .agg (byteCells 10 (fnL (hdr x))) := hd 1 (by kernel_rfl)
        have h4 : xs 4 = .agg (byteCells 10 (fnL t)) := hd 4 (by kernel_rfl)
        have hN := hdr_same x t W
        clear hd
        rw [upd_self h1, upd_self h4]
        simp only [fillI, List.take, List.setIfInBounds_toArray, List.set_cons_zero, List.set_cons_succ, Nat.reduceAdd, Nat.zero_add, upd, Nat.reduceEqDiff, reduceIte]
        go_wp2_with fail
        refine ⟨_, by (simp only [upd, Nat.reduceEqDiff, reduceIte]; rfl), ?_, ?_⟩
        · rfl
        · exact Below.refl _ _
    · intro xs W hW hp
      have h5 : xs 5 = .bool (!sameUpto (fnL (hdr x)) (fnL t) 10) := hp 5 (by omega)
      have hWW := undrew hW
      have HWS := Lib.hid (HW1.out.trans (hWW.mono HW1.out.size))
      have HR2 := Lib.hid (HR1.out.keep (fun k hk _ => hWW.block k hk))
      clear hp hW hWW HWB HA
      rw [upd_self h5]
      simp only [fillI, List.take, List.setIfInBounds_toArray, List.set_cons_zero, List.set_cons_succ, Nat.reduceAdd, Nat.zero_add, upd, Nat.reduceEqDiff, reduceIte]
      generalize xs 0 = y0
      generalize xs 1 = y1
      generalize xs 2 = y2
      generalize xs 3 = y3
      generalize xs 4 = y4
      clear h5 hcut1 HCL HSLT HR1 HW1 HB1
      cases hsm : sameUpto (fnL (hdr x)) (fnL t) 10 with
      | false =>
        have HF : Hid (scan Dg b = none) := Lib.hid (by rw [hS.out.scan, HSC.out, hsm]; rfl)
        clear HSC hsm
        go_wp2
        try rw [Exit.noGoto_ret]
        go_ret3
        exact ⟨HWS.out, .inl ⟨HF.out, rfl⟩⟩
      | true =>
        have HF : Hid (scan Dg b = (scan Dg t').map (fun q => ((R ++ [x]) ++ q.1, q.2))) := Lib.hid (by
          rw [hS.out.scan, HSC.out, hsm, if_pos rfl]
          cases scan Dg t' <;> simp)
        clear HSC hsm
        have HCP := Lib.hid (jcopy (HX.out.below HWS.out).slice (by have := HXS.out; omega))
        go_wp2_with fail
        refine HCP.out.mono ?_
        rintro _ w3 ⟨g3, rfl, ho3, hb3⟩
        have hkey := read_snoc HWS.out HR2.out ho3 hb3
        obtain ⟨rs, hO4, hl4, hK4, hR4, hU4, hone4, hW4, hkz⟩ := hkey
        have HO4 := Lib.hid hO4
        have HL4 := Lib.hid hl4
        have HK4 := Lib.hid hK4
        have HR4 := Lib.hid hR4
        have HU4 := Lib.hid hU4
        have HONE4 := Lib.hid hone4
        have HW4 := Lib.hid hW4
        have HKZ := Lib.hid hkz
        clear hO4 hl4 hK4 hR4 hU4 hone4 hW4 hkz ho3 hb3 HCP HR2
        go_wp2_with (at_builtin
                     refine append_vals (by rfl) (.tmp 32) (.tmp 35) 80 (by rfl) 0 23 (.slice none 0 0) 24 Tryd.underlying80 (by kernel_rfl) (by rfl) (by omega) rs _ (by rfl) HO4.out w3.heap.size 0 1 1 [.slice (some ⟨g3, 0, none⟩) x.length x.length] (by rfl) rfl (fun j u hj => by match j, hj with | 0, hj => simp at hj; rw [← hj]; exact HONE4.out) (fun u hu => by rw [List.mem_singleton.1 hu]; rfl) (by have := HL4.out; have := HLN.out; have := HN.out; omega) (Nat.zero_le _) ?_
                     intro v5 w5 ho5 hg5 hv5
                     have HR5 := Lib.hid (recs_snoc HL4.out HK4.out HR4.out HU4.out ho5 hg5 hv5 HKZ.out)
                     have HW5 : Hid (Below w.heap.size w w5) := Lib.hid (HW4.out.trans ⟨hg5.os, hg5.tape, hg5.output, hg5.size, fun k hk => hg5.block k (Nat.lt_of_lt_of_le hk HW4.out.size) (fun e => by have := HK4.out k e.symm; omega)⟩)
                     clear ho5 hg5 hv5 HO4 HL4 HK4 HR4 HU4 HONE4 HW4 HKZ)
        refine ⟨⟨t', R ++ [x], _, _, rfl, Lib.hid ⟨HW5.out, ?_, HT.out, HR5.out, HF.out, fun y hy => ?_⟩⟩, ?_⟩
        · have := HLN.out; have := HDL.out; have := HGE.out; rw [List.length_append, List.length_singleton]; omega
        · rcases List.mem_append.1 hy with h | h
          · exact hS.out.small y h
          · rw [List.mem_singleton.1 h]; exact HXS.out
        · show t'.length < t.length
          have := HDL.out; have := HGE.out; omega
end Go.Proofs.YtebchoeeohmlaaaDoor.Jour
namespace Go.Proofs.YtebchoeeohmlaaaDoor.Jour
open Go Go.RowKit Go.Proofs.YtebchoeeohmlaaaDoor.Aid Go.Proofs.YtebchoeeohmlaaaDoor.Cache Go.Proofs.YtebchoeeohmlaaaDoor.Store
open Go.Proofs.YtebchoeeohmlaaaDoor.Sha (Consts)

theorem own_in {W : World} {base n : Nat} {e f : Nat → BitVec 8} {v : Value} (h : Own W base n e v) (he : ∀ j, j < n → e j = f j) : BytesIn W (fun k => base ≤ k) n f v := by
  rcases h.form with ⟨rfl, rfl⟩ | ⟨g, cap, cur, rfl, hb, _, hm, hh, _, hc⟩
  · exact ⟨none, 0, rfl, Nat.le_refl _, fun h => by omega⟩
  · exact ⟨_, _, rfl, hm, fun _ => ⟨g, 0, rfl, hb, fun j hj => by rw [Nat.zero_add, cell_of_row W g j cur _ _ hh, hc j hj, he j hj]⟩⟩
theorem bytes_at (st : St) (j : Nat) (hj : j < st.n) : fnL (bytesL st) j = st.e j := by
  show (bytesL st).getD j 0 = _
  rw [List.getD_eq_getElem?_getD]
  simp [bytesL, hj]
/-- The error that Open has of the store. -/
def openC (m : Nat) (st : St) (t : By) : Int := if t = [] then 0 else repC m st (st.n - t.length)
/-- What Open leaves and answers. -/
def OpenPost (w : World) (F : Nat → Prop) (v : Value) (m : Nat) (st : St) (y : Ending) (w' : World) : Prop :=
  (scan Dg (bytesL st) = none ∧ y = .returned (.tuple #[.pointer none, .int .i64 9]) ∧ RepOwn w' F v m st ∧ Cache.Leaves F w w') ∨
  ∃ R t F', scan Dg (bytesL st) = some (R, t) ∧ RepOwn w' F' v m (openS m st t) ∧ Cache.Leaves F w w' ∧ (∀ b, F' b → F b ∨ w.heap.size ≤ b) ∧ (10 * R.length ≤ st.n ∧ ∀ x ∈ R, x.length ≤ 1000) ∧
    ((openC m st t ≠ 0 ∧ y = .returned (.tuple #[.pointer none, .int .i64 (openC m st t)])) ∨
     (openC m st t = 0 ∧ ∃ p FJ, y = .returned (.tuple #[.pointer (some p), .int .i64 0]) ∧ RepJO w' FJ (.pointer (some p)) v R ∧ (∀ b, FJ b → ¬ F' b) ∧ ∀ b, FJ b → w.heap.size ≤ b))
theorem jopen_nil (w : World) : Calls Tryd.prog 51 #[.pointer none] w fun x w' => x = .returned (.tuple #[.pointer none, .int .i64 1]) ∧ Below w.heap.size w w' := by
  go_enter Tryd.func51, Tryd.ntmps51
  go_wp2
  go_ret2
  exact ⟨rfl, Below.refl _ _⟩
/-- A journal of its own, at its birth. -/
theorem born {w3 : World} {K : Nat → Prop} {v V : Value} {R : List By} (hr : RecsOwn w3 K R V) (hK : ∀ b, K b → b < w3.heap.size) : RepJO (w3.alloc (.cells #[v, V] 129)) (fun b => K b ∨ b = w3.heap.size) (.pointer (some ⟨w3.heap.size, 0, none⟩)) v R := by
  have hb : Below w3.heap.size w3 (w3.alloc (.cells #[v, V] 129)) := (Below.refl _ _).alloc (Nat.le_refl _) _
  refine ⟨w3.heap.size, V, rfl, row_new w3 _ _ 2 _ rfl (fun i hi => by match i, hi with | 0, _ => rfl | 1, _ => rfl), .inr rfl, fun b hb' => ?_, ?_⟩
  · have := hb.size
    rcases hb' with h | h
    · have := hK b h; omega
    · rw [h]; simp
  · exact (hr.keep (fun b hlt _ => hb.block b hlt)).less (fun b _ hb' => ⟨.inl hb', by have := hK b hb'; omega⟩)
set_option maxRecDepth 100000 in
set_option maxHeartbeats 1000000 in
theorem jopen {w : World} (hk : Consts w) {F : Nat → Prop} {v : Value} {m : Nat} {st : St} (h : RepOwn w F v m st) :
    Calls Tryd.prog 51 #[v] w (OpenPost w F v m st) := by
  have HK := Lib.hid hk
  have HRD := Lib.hid (read_any h)
  obtain ⟨g, Bv, z, rfl, h⟩ := h
  have HM : Hid (st.n ≤ 1048576) := Lib.hid (by have := h.ok.n; have := h.ok.m; omega)
  have HOK := Lib.hid h.ok
  have HLT := Lib.hid h.lt
  clear h hk
  unfold OpenPost
  go_enter Tryd.func51, Tryd.ntmps51
  go_wp2_with fail
  refine HRD.out.mono ?_
  rintro _ w1 ⟨bv, rfl, hr1, hb1, ho1⟩
  have HR1 := Lib.hid hr1
  have HB1 := Lib.hid hb1
  have HO1 := Lib.hid ho1
  have hin := own_in ho1 (f := fnL (bytesL st)) (fun j hj => (bytes_at st j hj).symm)
  rw [← bytes_len st] at hin
  have HRead := Lib.hid (jread (HK.out.below hb1 (Nat.le_refl _)) hin (by rw [bytes_len]; exact HM.out))
  obtain ⟨A, c, hsh, hcap, hA⟩ := own_shape ho1
  subst hsh
  have HCAP := Lib.hid hcap
  clear hr1 hb1 ho1 hin HRD hcap
  go_wp2_with fail
  refine HRead.out.mono ?_
  rintro _ w2 ⟨hb2, hy⟩
  have HR2 : Hid (RepOwn w2 F (.pointer (some ⟨g, 0, none⟩)) m st) := Lib.hid (by obtain ⟨g', Bv', z', hv', h'⟩ := HR1.out; exact ⟨g', Bv', z', hv', h'.below hb2⟩)
  have HB2 := Lib.hid hb2
  have HL2 : Hid (Cache.Leaves F w w2) := Lib.hid (Cache.Leaves.of_below (HB1.out.trans (hb2.mono HB1.out.size)))
  clear HRead hb2 HR1
  rcases hy with ⟨hs, rfl⟩ | ⟨R, t, V, hs, rfl, hrec, htl, hRl, hsm⟩
  · have HS := Lib.hid hs
    clear hs
    go_wp2
    go_ret2
    exact .inl ⟨HS.out, rfl, HR2.out, HL2.out⟩
  · obtain ⟨VA, vc, hvs⟩ := hrec.shape
    subst hvs
    have HS := Lib.hid hs
    have HREC := Lib.hid (hrec.less (K' := fun b => w1.heap.size ≤ b ∧ b < w2.heap.size) (fun b hlt hb => ⟨hb, hlt⟩))
    rw [bytes_len] at htl hRl
    have HSM := Lib.hid hsm
    have HRL := Lib.hid hRl
    have HTL := Lib.hid htl
    have hwl : ((bytesL st).length - t.length : Nat) = st.n - t.length := by rw [bytes_len]
    rw [hwl]
    clear hs hrec hsm hRl hwl
    by_cases ht : t = []
    · have HT := Lib.hid ht
      have q : ¬ (((st.n - t.length : Nat) : Int) < (st.n : Int)) := by rw [ht]; simp
      have HOS : Hid (openS m st t = st) := Lib.hid (by unfold openS; rw [if_pos ht])
      have HOC : Hid (openC m st t = 0) := Lib.hid (by unfold openC; rw [if_pos ht])
      have HN := Lib.hid (born (v := .pointer (some ⟨g, 0, none⟩)) HREC.out (fun b hb => hb.2))
      have HB3 : Hid (Below w2.heap.size w2 (w2.alloc (.cells #[.pointer (some ⟨g, 0, none⟩), .slice VA R.length vc] 129))) := Lib.hid ((Below.refl _ _).alloc (Nat.le_refl _) _)
      clear ht htl
      go_wp2
      go_ret2
      refine .inr ⟨R, t, F, HS.out, ?_, HL2.out.trans (Cache.Leaves.of_below (F := F) HB3.out) (fun x hx _ => hx), fun b hb => .inl hb, ⟨HRL.out, HSM.out⟩, .inr ⟨HOC.out, _, _, rfl, HN.out, fun b hb hF => ?_, fun b hb => ?_⟩⟩
      · rw [HOS.out]
        obtain ⟨g', Bv', z', hv', h'⟩ := HR2.out
        exact ⟨g', Bv', z', hv', h'.below HB3.out⟩
      · have h1 := HLT.out b hF
        have h2 := HB1.out.size
        have h3 := HB2.out.size
        rcases hb with hb | hb
        · omega
        · omega
      · have h2 := HB1.out.size
        have h3 := HB2.out.size
        rcases hb with hb | hb
        · omega
        · omega
    · have hpos : 0 < t.length := Nat.pos_of_ne_zero (fun h => ht (List.eq_nil_of_length_eq_zero h))
      have q : ((st.n - t.length : Nat) : Int) < (st.n : Int) := by omega
      have HOS : Hid (openS m st t = repS m st (st.n - t.length) st.e) := Lib.hid (by unfold openS; rw [if_neg ht])
      have HOC : Hid (openC m st t = repC m st (st.n - t.length)) := Lib.hid (by unfold openC; rw [if_neg ht])
      have HAP : Hid (Apart w2 F (st.n - t.length) st.e (.slice A (st.n - t.length) c)) := Lib.hid (by
        rcases HO1.out.form with ⟨he, h0⟩ | ⟨g', cap, cur, he, hge, hlt, hm, hh, _, hc⟩
        · omega
        · cases he
          exact ⟨_, _, rfl, by omega, fun _ => ⟨g', 0, rfl, fun hF => by have := HLT.out g' hF; omega, fun j hj => by
            rw [Nat.zero_add]
            exact (HB2.out.cell (p := ⟨g', j, none⟩) hlt).trans ((cell_of_row w1 g' j cur _ _ hh).trans (hc j (by omega)))⟩⟩)
      have HRP := Lib.hid (replace_any HR2.out (st.n - t.length) st.e _ HAP.out)
      have hcut : ∀ W', (Instr.sliceAt 23 (.slice A st.n c) none (some (.int .i64 ((st.n - t.length : Nat) : Int))) none).run Tryd.prog W' = .ok (.slice A (st.n - t.length) c) W' := fun W' => head_run 23 5 Tryd.underlying23 (by kernel_rfl) A hA st.n c (st.n - t.length) (by have := HCAP.out; omega) .i64 W'
      have HPC : Hid (repC m st (st.n - t.length) = 0 ∨ repC m st (st.n - t.length) = 8) := Lib.hid (by
        unfold repC
        by_cases hp : power st = true
        · rw [if_pos hp, if_pos (by have := HOK.out.n; omega)]; exact .inl rfl
        · rw [if_neg hp]; exact .inr rfl)
      clear ht htl hpos
      generalize repC m st (st.n - t.length) = C at *
      go_wp2_with fail
      refine HRP.out.mono ?_
      rintro _ w3 ⟨rfl, F3, h3, hl3, hf3⟩
      have H3 := Lib.hid h3
      have HL3 := Lib.hid hl3
      have HF3 := Lib.hid hf3
      have HLW : Hid (Cache.Leaves F w w3) := Lib.hid (HL2.out.trans hl3 (fun x hx _ => hx))
      have HSZ : Hid (w.heap.size ≤ w1.heap.size ∧ w1.heap.size ≤ w2.heap.size ∧ w2.heap.size ≤ w3.heap.size) := Lib.hid ⟨HB1.out.size, HB2.out.size, hl3.size⟩
      have hrec3 : RecsOwn w3 (fun b => w1.heap.size ≤ b ∧ b < w2.heap.size) R (.slice VA R.length vc) := HREC.out.keep (fun b hlt hb => hl3.block b hlt (fun hF => by have := HLT.out b hF; have := HSZ.out; omega))
      have HREC3 := Lib.hid hrec3
      clear h3 hl3 hf3 hrec3 HRP hcut HAP
      rcases HPC.out with h0 | h8
      · subst h0
        have HN := Lib.hid (born (v := .pointer (some ⟨g, 0, none⟩)) HREC3.out (fun b hb => by have := HSZ.out; omega))
        have HB4 : Hid (Below w3.heap.size w3 (w3.alloc (.cells #[.pointer (some ⟨g, 0, none⟩), .slice VA R.length vc] 129))) := Lib.hid ((Below.refl _ _).alloc (Nat.le_refl _) _)
        clear HPC
        go_wp2
        go_ret2
        refine .inr ⟨R, t, F3, HS.out, ?_, HLW.out.trans (Cache.Leaves.of_below (F := F) HB4.out) (fun x hx _ => hx), fun b hb => (HF3.out b hb).imp_right (fun h => by have := HSZ.out; omega), ⟨HRL.out, HSM.out⟩, .inr ⟨HOC.out, _, _, rfl, HN.out, fun b hb hF => ?_, fun b hb => ?_⟩⟩
        · rw [HOS.out]
          obtain ⟨g', Bv', z', hv', h'⟩ := H3.out
          exact ⟨g', Bv', z', hv', h'.below HB4.out⟩
        · have h1 := HF3.out b hF
          have h4 : b < w3.heap.size := by obtain ⟨g', Bv', z', hv', h'⟩ := H3.out; exact h'.lt b hF
          have h2 := HSZ.out
          rcases hb with hb | hb
          · rcases h1 with h1 | h1
            · have := HLT.out b h1; omega
            · omega
          · omega
        · have h2 := HSZ.out
          rcases hb with hb | hb
          · omega
          · omega
      · subst h8
        clear HPC
        go_wp2
        go_ret2
        refine .inr ⟨R, t, F3, HS.out, ?_, HLW.out, fun b hb => (HF3.out b hb).imp_right (fun h => by have := HSZ.out; omega), ⟨HRL.out, HSM.out⟩, .inl ⟨by rw [HOC.out]; decide, by rw [HOC.out]; rfl⟩⟩
        rw [HOS.out]
        exact H3.out
end Go.Proofs.YtebchoeeohmlaaaDoor.Jour
namespace Go.Proofs.YtebchoeeohmlaaaDoor.Jour
open Go Go.RowKit Go.Proofs.YtebchoeeohmlaaaDoor.Aid Go.Proofs.YtebchoeeohmlaaaDoor.Cache Go.Proofs.YtebchoeeohmlaaaDoor.Store
open Go.Proofs.YtebchoeeohmlaaaDoor.Sha (Consts)

/-- While a call on a journal goes on: the store stands for st, and only its blocks were touched. -/
structure OnSt (w W : World) (F FJ F1 : Nat → Prop) (g : Nat) (s V : Value) (m : Nat) (st : St) (L : List By) : Prop where
  rs : RepOwn W F1 s m st
  oj : OwnJ W FJ g s V L
  lv : Cache.Leaves F w W
  f1 : ∀ b, F1 b → F b ∨ w.heap.size ≤ b
section
variable {w W W' : World} {F FJ F1 : Nat → Prop} {g m : Nat} {s V : Value} {st st' : St} {L : List By}
theorem rep_lt (h : RepOwn W F s m st) : ∀ b, F b → b < W.heap.size := by obtain ⟨_, _, _, _, h⟩ := h; exact h.lt
theorem rep_keep (h : RepOwn W F s m st) (hk : ∀ b, F b → W'.heap[b]? = W.heap[b]?) : RepOwn W' F s m st := by obtain ⟨g, Bv, z, hv, h⟩ := h; exact ⟨g, Bv, z, hv, h.kept hk⟩
theorem OnSt.below (h : OnSt w W F FJ F1 g s V m st L) (hb : Below W.heap.size W W') : OnSt w W' F FJ F1 g s V m st L :=
  ⟨rep_keep h.rs (fun b hf => hb.block b (rep_lt h.rs b hf)), h.oj.below hb, h.lv.trans (Cache.Leaves.of_below (F := F) hb) (fun _ hx _ => hx), h.f1⟩
theorem OnSt.ab (h : OnSt w W F FJ F1 g s V m st L) (hab : ∀ b, FJ b → ¬ F b) (hlt : ∀ b, FJ b → b < w.heap.size) : ∀ b, FJ b → ¬ F1 b := fun b hj hf => by
  rcases h.f1 b hf with h1 | h1
  · exact hab b hj h1
  · have := hlt b hj; omega
theorem OnSt.move (h : OnSt w W F FJ F1 g s V m st L) (hab : ∀ b, FJ b → ¬ F b) (hlt : ∀ b, FJ b → b < w.heap.size) (hm : Moved RepOwn F1 W W' s m st') : ∃ F2, OnSt w W' F FJ F2 g s V m st' L := by
  obtain ⟨F2, h1, h2, h3⟩ := hm
  have hsz := h.lv.size
  refine ⟨F2, h1, h.oj.kept (fun b hb => h2.block b (h.oj.lt b hb) (h.ab hab hlt b hb)), h.lv.trans h2 (fun x hx hlt' => (h.f1 x hx).resolve_right (fun h => by omega)), fun b hb => ?_⟩
  rcases h3 b hb with h4 | h4
  · exact h.f1 b h4
  · exact .inr (Nat.le_trans hsz h4)
end
section
variable {w W W' : World} {F FJ F1 : Nat → Prop} {g m : Nat} {s V : Value} {st : St} {L : List By}
theorem OnSt.both (h : OnSt w W F FJ F1 g s V m st L) (hab : ∀ b, FJ b → ¬ F b) (hlt : ∀ b, FJ b → b < w.heap.size) {F2 : Nat → Prop} (hl : Cache.Leaves FJ W W') (h2 : ∀ b, F2 b → FJ b ∨ W.heap.size ≤ b) :
    RepOwn W' F1 s m st ∧ (∀ b, F2 b → ¬ F1 b) ∧ Cache.Leaves (fun b => F b ∨ FJ b) w W' ∧ ∀ b, F1 b ∨ F2 b → (F b ∨ FJ b) ∨ w.heap.size ≤ b := by
  have hd := h.ab hab hlt
  have hsz := h.lv.size
  refine ⟨rep_keep h.rs (fun b hf => hl.block b (rep_lt h.rs b hf) (fun hj => hd b hj hf)), fun b hb hf => ?_, (h.lv.mono (F' := fun b => F b ∨ FJ b) (fun _ _ hx => .inl hx)).trans hl (fun _ hx _ => .inr hx), fun b hb => ?_⟩
  · rcases h2 b hb with h3 | h3
    · exact hd b h3 hf
    · have := rep_lt h.rs b hf; omega
  · rcases hb with hb | hb
    · exact (h.f1 b hb).imp_left .inl
    · rcases h2 b hb with h3 | h3
      · exact .inl (.inr h3)
      · exact .inr (Nat.le_trans hsz h3)
end
/-- A copy of a record was made, and a slice that holds it. -/
theorem snoc_kit {W w3 : World} {K : Nat → Prop} {R : List By} {V : Value} {x : By} {g3 : Nat} (hR : RecsOwn W K R V) (ho : Own w3 W.heap.size x.length (fnL x) (.slice (some ⟨g3, 0, none⟩) x.length x.length)) (hb : Below W.heap.size W w3) :
    ∃ rs, OwnV (w3.alloc (.cells #[.slice (some ⟨g3, 0, none⟩) x.length x.length] 23)) 0 23 V rs ∧ rs.length = R.length ∧ (∀ b, V.ownBlock = some b → K b ∨ W.heap.size ≤ b) ∧
      (∀ (i : Nat) (y : By) (q : Value), R[i]? = some y → rs[i]? = some q → BytesIn (w3.alloc (.cells #[.slice (some ⟨g3, 0, none⟩) x.length x.length] 23)) (fun b => (K b ∨ W.heap.size ≤ b) ∧ V.ownBlock ≠ some b) y.length (fnL y) q) ∧
      BytesIn (w3.alloc (.cells #[.slice (some ⟨g3, 0, none⟩) x.length x.length] 23)) (fun b => (K b ∨ W.heap.size ≤ b) ∧ V.ownBlock ≠ some b) x.length (fnL x) (.slice (some ⟨g3, 0, none⟩) x.length x.length) ∧
      (w3.alloc (.cells #[.slice (some ⟨g3, 0, none⟩) x.length x.length] 23)).cell? ⟨w3.heap.size, 0, none⟩ = some (.slice (some ⟨g3, 0, none⟩) x.length x.length) ∧
      Below W.heap.size W (w3.alloc (.cells #[.slice (some ⟨g3, 0, none⟩) x.length x.length] 23)) ∧ ∀ b, V.ownBlock = some b → K b ∧ b < W.heap.size := by
  obtain ⟨rs, h1, h2, h3, h4⟩ := hR
  have hb4 : Below W.heap.size W (w3.alloc (.cells #[.slice (some ⟨g3, 0, none⟩) x.length x.length] 23)) := hb.alloc hb.size _
  have hb5 : Below w3.heap.size w3 (w3.alloc (.cells #[.slice (some ⟨g3, 0, none⟩) x.length x.length] 23)) := (Below.refl _ _).alloc (Nat.le_refl _) _
  obtain ⟨hr, hge⟩ := row_of_own ho
  have hu : BytesIn w3 (fun b => (K b ∨ W.heap.size ≤ b) ∧ V.ownBlock ≠ some b) x.length (fnL x) (.slice (some ⟨g3, 0, none⟩) x.length x.length) := ⟨_, _, rfl, Nat.le_refl _, fun _ => ⟨g3, 0, rfl, ⟨.inr hge, fun e => by have := (h1.lt g3 e).2; omega⟩, fun j hj => by rw [Nat.zero_add]; exact hr.cell hj⟩⟩
  refine ⟨rs, h1.below hb4, h2, fun b hb' => .inl (h3 b hb'), fun i y q hy hq => ((h4 i y q hy hq).below hb4).less (fun _ _ hb' => ⟨.inl hb'.1, hb'.2⟩), hu.below hb5, ?_, hb4, fun b hb' => ⟨h3 b hb', (h1.lt b hb').2⟩⟩
  exact (cell_of_row _ _ 0 _ _ _ (heap_alloc_new w3 _)).trans rfl
theorem app_codes (m : Nat) (st : St) (n : Nat) : appC m st n = 0 ∨ appC m st n = 7 ∨ appC m st n = 8 := by
  unfold appC
  split
  · split
    · exact .inl rfl
    · exact .inr (.inl rfl)
  · exact .inr (.inr rfl)
theorem sync_codes (st : St) : syncC st = 0 ∨ syncC st = 8 := by
  unfold syncC
  split
  · exact .inl rfl
  · exact .inr rfl
theorem jadd_broken {w : World} {F : Nat → Prop} {g : Nat} {V : Value} {L : List By} (h : OwnJ w F g (.pointer none) V L) (bv : Value) :
    Calls Tryd.prog 56 #[.pointer (some ⟨g, 0, none⟩), bv] w fun y w' => y = .returned (.int .i64 8) ∧ w' = w := by
  have HB := Lib.hid (jbroken h)
  clear h
  go_enter Tryd.func56, Tryd.ntmps56
  go_wp2_with fail
  refine HB.out.mono ?_
  rintro _ w1 ⟨rfl, rfl⟩
  go_wp2
  go_ret
  exact ⟨rfl, rfl⟩
/-- What Add leaves and answers. -/
def AddPost (w : World) (F FJ : Nat → Prop) (g : Nat) (s : Value) (m : Nat) (st : St) (L : List By) (x : By) (y : Ending) (w' : World) : Prop :=
  y = .returned (.int .i64 (addC Dg m st x)) ∧ ∃ F' FJ' V', RepOwn w' F' s m (addS Dg m st x) ∧ (addC Dg m st x ≠ 8 → OwnJ w' FJ' g s V' (addL Dg m st L x)) ∧ (addC Dg m st x = 8 → OwnJ w' FJ' g (.pointer none) V' L) ∧ (∀ b, FJ' b → ¬ F' b) ∧ Cache.Leaves (fun b => F b ∨ FJ b) w w' ∧ (∀ b, F' b ∨ FJ' b → (F b ∨ FJ b) ∨ w.heap.size ≤ b)
set_option maxRecDepth 100000 in
set_option maxHeartbeats 1000000 in
theorem jadd {w : World} (hk : Consts w) {F FJ : Nat → Prop} {g m : Nat} {p : Addr} {V : Value} {st : St} {L : List By} (h : RepOwn w F (.pointer (some p)) m st) (hj : OwnJ w FJ g (.pointer (some p)) V L) (hab : ∀ b, FJ b → ¬ F b)
    (x : By) (bv : Value) (hb : BytesIn w (fun b => ¬ F b ∧ ¬ FJ b) x.length (fnL x) bv) (hL : L.length ≤ 100000) :
    Calls Tryd.prog 56 #[.pointer (some ⟨g, 0, none⟩), bv] w (AddPost w F FJ g (.pointer (some p)) m st L x) := by
  have HBK := Lib.hid (jbroken hj)
  have H0 : Hid (OnSt w w F FJ F g (.pointer (some p)) V m st L) := Lib.hid ⟨h, hj, Cache.Leaves.refl _ _, fun b hb => .inl hb⟩
  have HK := Lib.hid hk
  have HAB := Lib.hid hab
  have HBV := Lib.hid hb
  have HLL := Lib.hid hL
  have c0 := hj.row.cell (i := 0) (by omega)
  rw [jrP0] at c0
  obtain ⟨A, c, rfl, -, -⟩ := hb
  have HJLT := Lib.hid hj.lt
  clear h hj hk hab hL
  unfold AddPost
  by_cases hx : 1000 < x.length
  · have q : (1000 : Int) < (x.length : Int) := by omega
    have HC : Hid (addC Dg m st x = 7) := Lib.hid (by unfold addC; rw [if_pos hx])
    have HS : Hid (addS Dg m st x = st) := Lib.hid (by unfold addS; rw [if_pos hx])
    have HLq : Hid (addL Dg m st L x = L) := Lib.hid (by unfold addL; rw [HC.out, if_neg (by decide)])
    go_enter Tryd.func56, Tryd.ntmps56
    go_wp2_with fail
    refine HBK.out.mono ?_
    rintro _ w1 ⟨rfl, rfl⟩
    go_wp2
    go_ret
    rw [HC.out, HS.out, HLq.out]
    exact ⟨rfl, F, FJ, V, H0.out.rs, fun _ => H0.out.oj, fun h => absurd h (by decide), HAB.out, Cache.Leaves.refl _ _, fun b hb => .inl hb⟩
  have q : ¬ (1000 : Int) < (x.length : Int) := by omega
  have hx' : x.length ≤ 1000 := by omega
  have HX := Lib.hid hx'
  have HA0 : Hid (addC Dg m st x = (if appC m st (enc Dg x).length = 0 then syncC (appS m st (enc Dg x).length (fnL (enc Dg x))) else appC m st (enc Dg x).length)) := Lib.hid (by unfold addC; rw [if_neg hx])
  have HS0 : Hid (addS Dg m st x = (if appC m st (enc Dg x).length = 0 then syncS (appS m st (enc Dg x).length (fnL (enc Dg x))) else appS m st (enc Dg x).length (fnL (enc Dg x)))) := Lib.hid (by unfold addS; rw [if_neg hx])
  clear hx hx'
  go_enter Tryd.func56, Tryd.ntmps56
  go_wp2_with fail
  refine HBK.out.mono ?_
  rintro _ w1 ⟨rfl, rfl⟩
  clear HBK
  go_upto_region 5 with fail
  refine region_mix (fun W => W.cell? ⟨g, 0, none⟩ = some (.pointer (some p))) [(0, true), (1, true), (2, true), (3, true), (4, true), (5, false), (6, false), (7, true)] (by kernel_rfl) (by kernel_rfl) c0 ?_
  refine m_val rfl (by rfl) (.pointer (some ⟨g, 0, none⟩)) (fun W hW => by go_simp) ?_
  simp only [Act.put, List.setIfInBounds_toArray, List.set_cons_zero, List.set_cons_succ]
  refine m_val rfl (by rfl) (.pointer (some ⟨g, 0, none⟩)) (fun W hW => by go_simp) ?_
  simp only [Act.put, List.setIfInBounds_toArray, List.set_cons_zero, List.set_cons_succ]
  refine m_val rfl (by rfl) (.pointer (some ⟨g, 0, none⟩)) (fun W hW => by go_simp) ?_
  simp only [Act.put, List.setIfInBounds_toArray, List.set_cons_zero, List.set_cons_succ]
  refine m_val rfl (by rfl) (.pointer (some p)) (fun W hW => by go_simp) ?_
  simp only [Act.put, List.setIfInBounds_toArray, List.set_cons_zero, List.set_cons_succ]
  refine m_val rfl (by rfl) (.slice A x.length c) (fun W hW => by go_simp) ?_
  simp only [Act.put, List.setIfInBounds_toArray, List.set_cons_zero, List.set_cons_succ]
  have hd : Below w1.heap.size w1 w1.drew := ⟨rfl, rfl, rfl, Nat.le_refl _, fun _ _ => rfl⟩
  have H1 := Lib.hid (H0.out.below hd)
  have HBV1 := Lib.hid (HBV.out.below hd)
  have HK1 := Lib.hid (HK.out.below hd (Nat.le_refl _))
  have HSZ1 := Lib.hid hd.size
  clear hd c0
  generalize w1.drew = W0 at *
  refine m_go rfl ?_
  go_wp2_with fail
  refine (jenc HK1.out HBV1.out.slice HX.out).mono ?_
  rintro _ w2 ⟨ev, rfl, hev, hb2⟩
  have H2 := Lib.hid (H1.out.below hb2)
  have HEV := Lib.hid hev
  have HBV2 := Lib.hid (HBV1.out.below hb2)
  have hsh := hev
  obtain ⟨eA, ec, rfl, -, -⟩ := hsh
  generalize (enc Dg x).length = n at *
  generalize fnL (enc Dg x) = e at *
  have c2 := H2.out.oj.row.cell (i := 0) (by omega)
  rw [jrP0] at c2
  clear hev hb2 H1 HBV1 HK1
  go_wp2_with fail
  refine m_on c2 ?_
  refine m_go rfl ?_
  go_wp2_with fail
  refine (append_any H2.out.rs n e _ (HEV.out.apart (fun b hb hf => by have := rep_lt H0.out.rs b hf; have := HSZ1.out; omega))).mono ?_
  rintro _ w3 ⟨rfl, hm3⟩
  obtain ⟨F3, h3⟩ := H2.out.move HAB.out HJLT.out hm3
  have H3 := Lib.hid h3
  have HBV3 : Hid (BytesIn w3 (fun b => ¬ F b ∧ ¬ FJ b) x.length (fnL x) (.slice A x.length c)) := Lib.hid (by
    obtain ⟨F', _, hl, _⟩ := hm3
    exact HBV2.out.keep (fun b hlt hb => hl.block b hlt hb.1))
  have c3 := h3.oj.row.cell (i := 0) (by omega)
  rw [jrP0] at c3
  have HCC := Lib.hid (app_codes m st n)
  generalize appC m st n = C at *
  generalize appS m st n e = st1 at *
  clear h3 hm3 H2 HBV2 HEV c2
  go_wp2_with fail
  refine m_on c3 ?_
  refine m_val rfl (by rfl) (.int .i64 C) (fun W hW => by go_simp) ?_
  simp only [Act.put, List.setIfInBounds_toArray, List.set_cons_zero, List.set_cons_succ]
  refine m_end ?_
  rcases HCC.out with rfl | rfl | rfl
  · rw [if_pos rfl] at HA0 HS0
    have HSY := Lib.hid (sync_any H3.out.rs)
    clear HCC
    go_wp2_with fail
    refine HSY.out.mono ?_
    rintro _ w4 ⟨rfl, hm4⟩
    obtain ⟨F4, h4⟩ := H3.out.move HAB.out HJLT.out hm4
    have H4 := Lib.hid h4
    have HBV4 : Hid (BytesIn w4 (fun b => ¬ F b ∧ ¬ FJ b) x.length (fnL x) (.slice A x.length c)) := Lib.hid (HBV.out.keep (fun b hlt hb => h4.lv.block b hlt hb.1))
    have HCC := Lib.hid (sync_codes st1)
    obtain ⟨VA, vc, hvs⟩ := h4.oj.recs.shape
    subst hvs
    have c4 := h4.oj.row.cell (i := 1) (by omega)
    rw [jrP1] at c4
    have f4 := h4.oj.row.frozen 1
    generalize syncC st1 = C at *
    generalize syncS st1 = st2 at *
    clear h4 hm4 HSY H3 HBV3 c3
    rcases HCC.out with rfl | rfl
    · have HLq : Hid (addL Dg m st L x = L ++ [x]) := Lib.hid (by unfold addL; rw [HA0.out, if_pos rfl])
      clear HCC
      go_upto_region 9 with fail
      refine region_mix_tail (fun W => W.cell? ⟨g, 1, none⟩ = some (.slice VA L.length vc)) 11 [(0, true), (1, true), (2, true), (3, true), (4, true), (5, true), (6, false), (7, false), (8, false), (9, true), (10, true)] (by kernel_rfl) (by rfl) (by kernel_rfl) c4 ?_
      refine m_val rfl (by rfl) (.pointer (some ⟨g, 0, none⟩)) (fun W hW => by go_simp) ?_
      simp only [Act.put, List.setIfInBounds_toArray, List.set_cons_zero, List.set_cons_succ]
      refine m_val rfl (by rfl) (.pointer (some ⟨g, 0, none⟩)) (fun W hW => by go_simp) ?_
      simp only [Act.put, List.setIfInBounds_toArray, List.set_cons_zero, List.set_cons_succ]
      refine m_val rfl (by rfl) (.pointer (some ⟨g, 0, none⟩)) (fun W hW => by go_simp) ?_
      simp only [Act.put, List.setIfInBounds_toArray, List.set_cons_zero, List.set_cons_succ]
      refine m_val rfl (by rfl) (.pointer (some ⟨g, 1, none⟩)) (fun W hW => by go_simp) ?_
      simp only [Act.put, List.setIfInBounds_toArray, List.set_cons_zero, List.set_cons_succ]
      refine m_val rfl (by rfl) (.slice VA L.length vc) (fun W hW => by go_simp) ?_
      simp only [Act.put, List.setIfInBounds_toArray, List.set_cons_zero, List.set_cons_succ]
      refine m_val rfl (by rfl) (.slice A x.length c) (fun W hW => by go_simp) ?_
      simp only [Act.put, List.setIfInBounds_toArray, List.set_cons_zero, List.set_cons_succ]
      have hd : Below w4.heap.size w4 w4.drew := ⟨rfl, rfl, rfl, Nat.le_refl _, fun _ _ => rfl⟩
      have H5 := Lib.hid (H4.out.below hd)
      have HBV5 := Lib.hid (HBV4.out.below hd)
      have HSZ5 := Lib.hid hd.size
      clear hd c4 f4 H4 HBV4
      generalize w4.drew = W5 at *
      refine m_go rfl ?_
      go_wp2_with fail
      refine (jcopy HBV5.out.slice (by have := HX.out; omega)).mono ?_
      rintro _ w6 ⟨g6, rfl, ho6, hb6⟩
      have HKIT := Lib.hid (snoc_kit H5.out.oj.recs ho6 hb6)
      have c6 := (H5.out.oj.below hb6).row.cell (i := 1) (by omega)
      rw [jrP1] at c6
      have HB6 := Lib.hid hb6
      clear ho6 hb6
      go_wp2_with fail
      refine m_on c6 ?_
      refine m_go rfl ?_
      go_wp2_with fail
      obtain ⟨rs, hO7, hl7, hK7, hR7, hU7, hone7, hW7, hown7⟩ := HKIT.out
      have c7 := (H5.out.oj.below hW7).row.cell (i := 1) (by omega)
      rw [jrP1] at c7
      refine m_on c7 ?_
      have HO7 := Lib.hid hO7
      have HL7 := Lib.hid hl7
      have HK7 := Lib.hid hK7
      have HR7 := Lib.hid hR7
      have HU7 := Lib.hid hU7
      have HONE7 := Lib.hid hone7
      have HW7 := Lib.hid hW7
      have HOWN7 := Lib.hid hown7
      clear hO7 hl7 hK7 hR7 hU7 hone7 hW7 hown7 c7 c6 HKIT HB6 HBV5
      generalize w6.alloc (.cells #[.slice (some ⟨g6, 0, none⟩) x.length x.length] 23) = W7 at *
      refine m_go rfl ?_
      go_wp2_with (at_builtin
                   refine append_vals (by rfl) (.tmp 31) (.tmp 34) 80 (by rfl) 0 23 (.slice none 0 0) 24 Tryd.underlying80 (by kernel_rfl) (by rfl) (by omega) rs _ (by rfl) HO7.out w6.heap.size 0 1 1 [.slice (some ⟨g6, 0, none⟩) x.length x.length] (by rfl) rfl (fun j u hj => by match j, hj with | 0, hj => simp at hj; rw [← hj]; exact HONE7.out) (fun u hu => by rw [List.mem_singleton.1 hu]; rfl) (by have := HL7.out; have := HLL.out; omega) (Nat.zero_le _) ?_
                   intro v8 w8 ho8 hg8 hv8
                   have hr8 := recs_snoc HL7.out HK7.out HR7.out HU7.out ho8 hg8 hv8 (.inr HW7.out.size)
                   have hl8 : Cache.Leaves (fun b => FJ b ∧ b ≠ g) W5 w8 := ⟨hg8.os.trans HW7.out.os, hg8.tape.trans HW7.out.tape, hg8.output.trans HW7.out.output, Nat.le_trans HW7.out.size hg8.size, fun b hlt hn => (hg8.block b (Nat.lt_of_lt_of_le hlt HW7.out.size) (fun e => hn (HOWN7.out b e.symm).1)).trans (HW7.out.block b hlt)⟩
                   have HFR := Lib.hid (H5.out.oj.fresh (W2 := w8) (V' := v8) (L' := L ++ [x]) (K := fun b => (FJ b ∨ W5.heap.size ≤ b) ∧ b < w8.heap.size) hl8 (hr8.less (fun b _ hb => by
                     rcases hb with hb | hb
                     · exact ⟨.inl hb.1, hb.2⟩
                     · exact ⟨.inr hb, fun e => by have := H5.out.oj.lt g H5.out.oj.fg; omega⟩)) (fun b hlt hb => ⟨hb, hlt⟩) (fun b hb => hb.2))
                   have HLV8 := Lib.hid hl8
                   have r8 := H5.out.oj.row.of_block (hl8.block g (H5.out.oj.lt g H5.out.oj.fg) (fun h => h.2 rfl))
                   have c8 := r8.cell (i := 1) (by omega)
                   rw [jrP1] at c8
                   have f8 := r8.frozen 1
                   have hsh8 := HFR.out.1.recs.shape
                   rw [List.length_append, List.length_singleton] at hsh8
                   obtain ⟨A8, d8, hs8⟩ := hsh8
                   subst hs8
                   clear ho8 hg8 hv8 hr8 hl8 r8 HO7 HL7 HK7 HR7 HU7 HONE7 HW7 HOWN7)
      refine m_on c8 ?_
      refine m_val rfl (by rfl) (.pointer (some ⟨g, 0, none⟩)) (fun W hW => by go_simp) ?_
      simp only [Act.put, List.setIfInBounds_toArray, List.set_cons_zero, List.set_cons_succ]
      refine m_val rfl (by rfl) (.pointer (some ⟨g, 1, none⟩)) (fun W hW => by go_simp) ?_
      simp only [Act.put, List.setIfInBounds_toArray, List.set_cons_zero, List.set_cons_succ]
      refine m_end ?_
      dsimp only
      go_wp2_with fail
      refine NoPanic.normal ?_
      have HH := Lib.hid (jheed HFR.out.1 0)
      clear c8 f8
      go_wp2_with fail
      refine HH.out.mono ?_
      rintro _ w9 ⟨rfl, hsame, -, -⟩
      obtain rfl := hsame (by simp)
      clear hsame HH
      go_wp2
      go_ret
      rw [HA0.out, HS0.out, HLq.out]
      obtain ⟨k1, k2, k3, k4⟩ := H5.out.both HAB.out HJLT.out (F2 := fun b => (FJ b ∨ W5.heap.size ≤ b) ∧ b < w8.heap.size) HFR.out.2 (fun b hb => hb.1)
      exact ⟨rfl, F4, _, _, k1, fun _ => HFR.out.1, fun h => absurd h (by decide), k2, k3, k4⟩
    · have HH := Lib.hid (jheed H4.out.oj 8)
      clear c4 f4 HCC
      go_wp2_with fail
      refine HH.out.mono ?_
      rintro _ w5 ⟨rfl, -, hbrk, hl5⟩
      have HB5 := Lib.hid (hbrk (by decide))
      have HL5 := Lib.hid hl5
      clear hbrk hl5 HH
      go_wp2
      go_ret
      rw [HA0.out, HS0.out]
      obtain ⟨k1, k2, k3, k4⟩ := H4.out.both HAB.out HJLT.out (F2 := FJ) HL5.out (fun b hb => .inl hb)
      exact ⟨rfl, F4, FJ, _, k1, fun h => absurd rfl h, fun _ => HB5.out, k2, k3, k4⟩
  · rw [if_neg (by decide)] at HA0 HS0
    have HLq : Hid (addL Dg m st L x = L) := Lib.hid (by unfold addL; rw [HA0.out, if_neg (by decide)])
    have HH := Lib.hid (jheed H3.out.oj 7)
    clear c3 HCC
    go_wp2_with fail
    refine HH.out.mono ?_
    rintro _ w4 ⟨rfl, hsame, -, -⟩
    obtain rfl := hsame (by simp)
    clear hsame HH
    go_wp2
    go_ret
    rw [HA0.out, HS0.out, HLq.out]
    obtain ⟨k1, k2, k3, k4⟩ := H3.out.both (W' := w4) HAB.out HJLT.out (F2 := FJ) (Cache.Leaves.refl _ _) (fun b hb => .inl hb)
    exact ⟨rfl, F3, FJ, V, k1, fun _ => H3.out.oj, fun h => absurd h (by decide), k2, k3, k4⟩
  · rw [if_neg (by decide)] at HA0 HS0
    have HH := Lib.hid (jheed H3.out.oj 8)
    clear c3 HCC
    go_wp2_with fail
    refine HH.out.mono ?_
    rintro _ w4 ⟨rfl, -, hbrk, hl4⟩
    have HB4 := Lib.hid (hbrk (by decide))
    have HL4 := Lib.hid hl4
    clear hbrk hl4 HH
    go_wp2
    go_ret
    rw [HA0.out, HS0.out]
    obtain ⟨k1, k2, k3, k4⟩ := H3.out.both HAB.out HJLT.out (F2 := FJ) HL4.out (fun b hb => .inl hb)
    exact ⟨rfl, F3, FJ, V, k1, fun h => absurd rfl h, fun _ => HB4.out, k2, k3, k4⟩
end Go.Proofs.YtebchoeeohmlaaaDoor.Jour
namespace Go.Proofs.YtebchoeeohmlaaaDoor.Jour
open Go Go.RowKit Go.Proofs.YtebchoeeohmlaaaDoor.Aid Go.Proofs.YtebchoeeohmlaaaDoor.Cache Go.Proofs.YtebchoeeohmlaaaDoor.Store
open Go.Proofs.YtebchoeeohmlaaaDoor.Sha (Consts)

theorem jonly_broken {w : World} {F : Nat → Prop} {g : Nat} {V : Value} {L : List By} (h : OwnJ w F g (.pointer none) V L) (v : Value) :
    Calls Tryd.prog 55 #[.pointer (some ⟨g, 0, none⟩), v] w fun y w' => y = .returned (.int .i64 8) ∧ w' = w := by
  have HB := Lib.hid (jbroken h)
  clear h
  go_enter Tryd.func55, Tryd.ntmps55
  go_wp2_with fail
  refine HB.out.mono ?_
  rintro _ w1 ⟨rfl, rfl⟩
  go_wp2
  go_ret
  exact ⟨rfl, rfl⟩
/-- What Only leaves and answers. -/
def OnlyPost (w : World) (F FJ : Nat → Prop) (g : Nat) (s : Value) (m : Nat) (st : St) (L M : List By) (y : Ending) (w' : World) : Prop :=
  y = .returned (.int .i64 (onlyC Dg m st M)) ∧ ∃ F' FJ' V', RepOwn w' F' s m (onlyS Dg m st M) ∧ (onlyC Dg m st M ≠ 8 → OwnJ w' FJ' g s V' (onlyL Dg m st L M)) ∧ (onlyC Dg m st M = 8 → OwnJ w' FJ' g (.pointer none) V' L) ∧ (∀ b, FJ' b → ¬ F' b) ∧ Cache.Leaves (fun b => F b ∨ FJ b) w w' ∧ (∀ b, F' b ∨ FJ' b → (F b ∨ FJ b) ∨ w.heap.size ≤ b)
theorem encAll_le {M : List By} (h : ∀ x ∈ M, x.length ≤ 1000) : (encAll Dg M).length ≤ 1010 * M.length := by
  induction M with
  | nil => exact Nat.le_refl _
  | cons x M ih =>
    have h1 := h x (List.mem_cons_self ..)
    have h2 := ih (fun y hy => h y (List.mem_cons_of_mem _ hy))
    rw [encAll, List.length_append, enc_len dg_len, List.length_cons]
    omega
theorem rep_codes (m : Nat) (st : St) (n : Nat) : repC m st n = 0 ∨ repC m st n = 7 ∨ repC m st n = 8 := by
  unfold repC
  split
  · split
    · exact .inl rfl
    · exact .inr (.inl rfl)
  · exact .inr (.inr rfl)
theorem encAll_step {M : List By} {k : Nat} {x : By} (h : M[k]? = some x) : encAll Dg (M.take (k + 1)) = encAll Dg (M.take k) ++ enc Dg x := by
  obtain ⟨hk, rfl⟩ := List.getElem?_eq_some_iff.1 h
  rw [List.take_succ_eq_append_getElem hk, encAll_append, encAll_one]
set_option maxRecDepth 100000 in
set_option maxHeartbeats 1000000 in
theorem jonly {w : World} (hk : Consts w) {F FJ : Nat → Prop} {g m : Nat} {p : Addr} {V : Value} {st : St} {L : List By} (h : RepOwn w F (.pointer (some p)) m st) (hj : OwnJ w FJ g (.pointer (some p)) V L) (hab : ∀ b, FJ b → ¬ F b)
    (M : List By) (v : Value) (hM : PartsP w (fun b => ¬ F b ∧ ¬ FJ b) M v) (hn : M.length ≤ 1000) (hs : ∀ x ∈ M, x.length ≤ 1000000) :
    Calls Tryd.prog 55 #[.pointer (some ⟨g, 0, none⟩), v] w (OnlyPost w F FJ g (.pointer (some p)) m st L M) := by
  have HBK := Lib.hid (jbroken hj)
  have H0 : Hid (OnSt w w F FJ F g (.pointer (some p)) V m st L) := Lib.hid ⟨h, hj, Cache.Leaves.refl _ _, fun b hb => .inl hb⟩
  have HK := Lib.hid hk
  have HAB := Lib.hid hab
  have HP := Lib.hid hM
  have HS := Lib.hid hs
  obtain ⟨A, c, rfl, -⟩ := hM
  have HJLT := Lib.hid hj.lt
  have HNN := Lib.hid hn
  clear h hj hk hab hn hs
  unfold OnlyPost
  go_enter Tryd.func55, Tryd.ntmps55
  go_wp2_with fail
  refine HBK.out.mono ?_
  rintro _ w1 ⟨rfl, rfl⟩
  clear HBK
  go_wp2
  go_loopw [15] (fun iv wr => ∃ k : Nat, k ≤ M.length ∧ iv = .int .i64 (k : Int) ∧ wr = w1 ∧ Hid (∀ j x, j < k → M[j]? = some x → x.length ≤ 1000)) (fun i _ => M.length - (intOf i).toNat)
  case atStart => exact ⟨0, by omega, rfl, rfl, Lib.hid (fun j x hj => by omega)⟩
  case round =>
    obtain ⟨k, hk, rfl, rfl, hsm⟩ := hrel
    by_cases hlt : k < M.length
    · obtain ⟨sb, so, A', c', rfl, ca, hx⟩ := PartsP.at_ HP.out k hlt
      have hXk := List.getElem?_eq_getElem hlt
      generalize M[k] = x at *
      have HXk := Lib.hid hXk
      have q0 : (0 : Int) ≤ (k : Int) := by omega
      have q1 : (k : Int) < (M.length : Int) := by omega
      clear hx hXk
      by_cases hbig : 1000 < x.length
      · have q2 : (1000 : Int) < (x.length : Int) := by omega
        have HE : Hid (∃ x ∈ M, 1000 < x.length) := Lib.hid ⟨x, List.mem_of_getElem? HXk.out, hbig⟩
        have HC : Hid (onlyC Dg m st M = 7) := Lib.hid (by unfold onlyC; rw [if_pos HE.out])
        have HSS : Hid (onlyS Dg m st M = st) := Lib.hid (by unfold onlyS; rw [if_pos HE.out])
        have HLq : Hid (onlyL Dg m st L M = L) := Lib.hid (by unfold onlyL; rw [HC.out, if_neg (by decide)])
        go_wp2
        go_ret
        rw [HC.out, HSS.out, HLq.out]
        exact ⟨rfl, F, FJ, V, H0.out.rs, fun _ => H0.out.oj, fun h => absurd h (by decide), HAB.out, Cache.Leaves.refl _ _, fun b hb => .inl hb⟩
      · have q2 : ¬ (1000 : Int) < (x.length : Int) := by omega
        have hw : wrap64 ((k : Int) + 1) = (k : Int) + 1 := by unfold wrap64; have := HNN.out; omega
        have HS2 : Hid (∀ j x, j < k + 1 → M[j]? = some x → x.length ≤ 1000) := Lib.hid (fun j y hj hy => by
          by_cases hjk : j = k
          · subst hjk
            rw [HXk.out] at hy
            cases hy
            omega
          · exact hsm.out j y (by omega) hy)
        clear hsm hbig
        go_wp2
        rw [hw]
        exact ⟨⟨k + 1, by omega, congrArg (Value.int .i64) (by omega), trivial, HS2⟩, by show M.length - ((k : Int) + 1).toNat < M.length - (k : Int).toNat; omega⟩
    · obtain rfl : k = M.length := by omega
      have HSM : Hid (∀ x ∈ M, x.length ≤ 1000) := Lib.hid (fun x hx => by
        obtain ⟨j, hj⟩ := List.mem_iff_getElem?.1 hx
        exact hsm.out j x (List.getElem?_eq_some_iff.1 hj).1 hj)
      have q1 : ¬ (M.length : Int) < (M.length : Int) := by omega
      clear hsm
      have HC0 : Hid (onlyC Dg m st M = repC m st (encAll Dg M).length) := Lib.hid (by unfold onlyC; rw [if_neg (fun ⟨x, hx, hb⟩ => by have := HSM.out x hx; omega)])
      have HS0 : Hid (onlyS Dg m st M = repS m st (encAll Dg M).length (fnL (encAll Dg M))) := Lib.hid (by unfold onlyS; rw [if_neg (fun ⟨x, hx, hb⟩ => by have := HSM.out x hx; omega)])
      clear hk hlt
      obtain ⟨w0, rfl⟩ : ∃ w0, w0 = wr := ⟨_, rfl⟩
      go_wp2
      go_loopw [7, 25] (fun v iv wr => ∃ k : Nat, k ≤ M.length ∧ iv = .int .i64 (k : Int) ∧ Hid (Own wr w0.heap.size (encAll Dg (M.take k)).length (fnL (encAll Dg (M.take k))) v ∧ Below w0.heap.size w0 wr)) (fun _ i _ => M.length - (intOf i).toNat)
      case atStart => exact ⟨0, by omega, rfl, Lib.hid ⟨⟨by simp [encAll], .inl ⟨rfl, by simp [encAll]⟩⟩, Below.refl _ _⟩⟩
      case round =>
        obtain ⟨k, hk, rfl, hO⟩ := hrel
        by_cases hlt : k < M.length
        · obtain ⟨sb, so, A', c', rfl, ca, hx⟩ := PartsP.at_ HP.out k hlt
          have HXk := Lib.hid (List.getElem?_eq_getElem hlt)
          have HXs := Lib.hid (HSM.out _ (List.getElem_mem hlt))
          generalize M[k] = x at *
          have ca' := (hO.out.2.cell (p := ⟨sb, so + k, none⟩) (block_lt_of_cell ca)).trans ca
          have HX := Lib.hid (hx.below hO.out.2)
          have q0 : (0 : Int) ≤ (k : Int) := by omega
          have q1 : (k : Int) < (M.length : Int) := by omega
          have hw : wrap64 ((k : Int) + 1) = (k : Int) + 1 := by unfold wrap64; have := HNN.out; omega
          have HSTEP := Lib.hid (encAll_step HXk.out)
          have HLE : Hid ((encAll Dg (M.take k)).length ≤ 1010000) := Lib.hid (by
            have := encAll_le (M := M.take k) (fun y hy => HSM.out y (List.mem_of_mem_take hy))
            have h2 : (M.take k).length ≤ M.length := by rw [List.length_take]; omega
            have h3 := HNN.out
            omega)
          clear ca hx
          go_wp2_with fail
          refine (jenc (HK.out.below hO.out.2 (Nat.le_refl _)) HX.out.slice HXs.out).mono ?_
          rintro _ wa ⟨ev, rfl, hev, hba⟩
          have HEV := Lib.hid hev
          have HOA := Lib.hid (hO.out.1.below hba)
          have HBA := Lib.hid (hO.out.2.trans (hba.mono hO.out.2.size))
          have hsh := hev
          obtain ⟨eA, ec, rfl, -, -⟩ := hsh
          clear hev hba hO ca'
          go_wp2_with (at_builtin
                       refine append_bytes (by rfl) (.tmp 29) (.tmp 31) (by rfl) w0.heap.size (encAll Dg (M.take k)).length (fnL (encAll Dg (M.take k))) _ (by rfl) HOA.out _ (enc Dg x).length (fnL (enc Dg x)) _ (by rfl) HEV.out.slice (by have := HLE.out; rw [enc_len dg_len]; have := HXs.out; omega) HBA.out.size ?_
                       intro vb wb hob hgb hvb
                       have HOB : Hid (Own wb w0.heap.size (encAll Dg (M.take (k + 1))).length (fnL (encAll Dg (M.take (k + 1)))) vb) := Lib.hid (by
                         rw [HSTEP.out, fnL_app, List.length_append]
                         exact hob)
                       have HBB : Hid (Below w0.heap.size w0 wb) := Lib.hid (HBA.out.trans ⟨hgb.os, hgb.tape, hgb.output, hgb.size, fun b hlt => hgb.block b (Nat.lt_of_lt_of_le hlt HBA.out.size) (fun e => by have := (HOA.out.lt e.symm).1; omega)⟩)
                       clear hob hgb hvb)
          rw [hw]
          exact ⟨⟨k + 1, by omega, congrArg (Value.int .i64) (by omega), Lib.hid ⟨HOB.out, HBB.out⟩⟩, by show M.length - ((k : Int) + 1).toNat < M.length - (k : Int).toNat; omega⟩
        · obtain rfl : k = M.length := by omega
          have q1 : ¬ (M.length : Int) < (M.length : Int) := by omega
          rw [List.take_length] at hO
          have H1 := Lib.hid (H0.out.below hO.out.2)
          have HAP : Hid (Apart wr F (encAll Dg M).length (fnL (encAll Dg M)) u7) := Lib.hid ((own_in hO.out.1 (fun _ _ => rfl)).apart (fun b hb hf => by have := rep_lt H0.out.rs b hf; omega))
          have HPQ : Hid (PartsP wr (fun b => ¬ F b ∧ ¬ FJ b) M (.slice A M.length c)) := Lib.hid (HP.out.below hO.out.2)
          have c0 := H1.out.oj.row.cell (i := 0) (by omega)
          rw [jrP0] at c0
          have HRP := Lib.hid (replace_any H1.out.rs (encAll Dg M).length (fnL (encAll Dg M)) u7 HAP.out)
          clear hO HAP hk hlt HP
          generalize (encAll Dg M).length = n at *
          generalize fnL (encAll Dg M) = e at *
          go_wp2_with fail
          refine HRP.out.mono ?_
          rintro _ w3 ⟨rfl, hm3⟩
          obtain ⟨F3, h3⟩ := H1.out.move HAB.out HJLT.out hm3
          have H3 := Lib.hid h3
          have HP3 : Hid (PartsP w3 (fun b => ¬ F b ∧ ¬ FJ b) M (.slice A M.length c)) := Lib.hid (by
            obtain ⟨F', _, hl, _⟩ := hm3
            exact HPQ.out.keep (fun b hlt hb => hl.block b hlt hb.1))
          have HCC := Lib.hid (rep_codes m st n)
          have hrow := h3.oj.row
          generalize repC m st n = C at *
          generalize repS m st n e = st1 at *
          clear hm3 H1 HPQ HRP c0 h3
          rcases HCC.out with rfl | rfl | rfl
          · have HLq : Hid (onlyL Dg m st L M = M) := Lib.hid (by unfold onlyL; rw [HC0.out, if_pos rfl])
            clear HCC hrow
            go_wp2_with fail
            refine (jcopyAll HP3.out (by have := HNN.out; omega) HS.out).mono ?_
            rintro _ w4 ⟨v4, rfl, hr4, hb4⟩
            have hl4 : Cache.Leaves (fun b => FJ b ∧ b ≠ g) w3 w4 := Cache.Leaves.of_below hb4
            have HFR := Lib.hid (H3.out.oj.fresh (W2 := w4) (V' := v4) (L' := M) (K := fun b => (FJ b ∨ w3.heap.size ≤ b) ∧ b < w4.heap.size) hl4 (hr4.less (fun b _ hb => ⟨.inr hb, fun e => by have := H3.out.oj.lt g H3.out.oj.fg; omega⟩)) (fun b hlt hb => ⟨hb, hlt⟩) (fun b hb => hb.2))
            have r4 := H3.out.oj.row.of_block (hb4.block g (H3.out.oj.lt g H3.out.oj.fg))
            have c4 := r4.cell (i := 1) (by omega)
            rw [jrP1] at c4
            have f4 := r4.frozen 1
            obtain ⟨A4, d4, hs4⟩ := HFR.out.1.recs.shape
            subst hs4
            clear hr4 hb4 hl4 r4
            go_wp2_with fail
            have HH := Lib.hid (jheed HFR.out.1 0)
            refine HH.out.mono ?_
            rintro _ w5 ⟨rfl, hsame, -, -⟩
            obtain rfl := hsame (by simp)
            clear hsame HH
            go_wp2
            go_ret
            rw [HC0.out, HS0.out, HLq.out]
            obtain ⟨k1, k2, k3, k4⟩ := H3.out.both HAB.out HJLT.out (F2 := fun b => (FJ b ∨ w3.heap.size ≤ b) ∧ b < w4.heap.size) HFR.out.2 (fun b hb => hb.1)
            exact ⟨rfl, F3, _, _, k1, fun _ => HFR.out.1, fun h => absurd h (by decide), k2, k3, k4⟩
          · have HLq : Hid (onlyL Dg m st L M = L) := Lib.hid (by unfold onlyL; rw [HC0.out, if_neg (by decide)])
            have HH := Lib.hid (jheed H3.out.oj 7)
            clear HCC hrow
            go_wp2_with fail
            refine HH.out.mono ?_
            rintro _ w4 ⟨rfl, hsame, -, -⟩
            obtain rfl := hsame (by simp)
            clear hsame HH
            go_wp2
            go_ret
            rw [HC0.out, HS0.out, HLq.out]
            obtain ⟨k1, k2, k3, k4⟩ := H3.out.both (W' := w4) HAB.out HJLT.out (F2 := FJ) (Cache.Leaves.refl _ _) (fun b hb => .inl hb)
            exact ⟨rfl, F3, FJ, V, k1, fun _ => H3.out.oj, fun h => absurd h (by decide), k2, k3, k4⟩
          · have HH := Lib.hid (jheed H3.out.oj 8)
            clear HCC hrow
            go_wp2_with fail
            refine HH.out.mono ?_
            rintro _ w4 ⟨rfl, -, hbrk, hl4⟩
            have HB4 := Lib.hid (hbrk (by decide))
            have HL4 := Lib.hid hl4
            clear hbrk hl4 HH
            go_wp2
            go_ret
            rw [HC0.out, HS0.out]
            obtain ⟨k1, k2, k3, k4⟩ := H3.out.both HAB.out HJLT.out (F2 := FJ) HL4.out (fun b hb => .inl hb)
            exact ⟨rfl, F3, FJ, V, k1, fun h => absurd rfl h, fun _ => HB4.out, k2, k3, k4⟩
end Go.Proofs.YtebchoeeohmlaaaDoor.Jour
namespace Go.Proofs.YtebchoeeohmlaaaDoor.Jour
open Go Go.RowKit Go.Proofs.YtebchoeeohmlaaaDoor.Aid Go.Proofs.YtebchoeeohmlaaaDoor.Cache Go.Proofs.YtebchoeeohmlaaaDoor.Store
open Go.Proofs.YtebchoeeohmlaaaDoor.Sha (Consts)

/-- A journal that is not broken. -/
def RepJ2 (W : World) (F : Nat → Prop) (j s : Value) (L : List By) : Prop := (∃ p, s = .pointer (some p)) ∧ RepJO W F j s L
theorem rep_ptr {W : World} {F : Nat → Prop} {v : Value} {m : Nat} {s : St} (h : RepOwn W F v m s) : ∃ p, v = .pointer (some p) := by obtain ⟨g, Bv, z, hv, h⟩ := h; exact ⟨_, hv⟩
theorem journalOwn {w0 : World} (hk : Consts w0) : JourHas w0 RepOwn RepJ2 Dg where
  dlen := dg_len
  keep := fun W W' F v m s h hk => rep_keep h hk
  lt := rep_lt
  ok := fun h => by obtain ⟨g, Bv, z, hv, h⟩ := h; exact h.ok
  keepJ := fun h hk => by obtain ⟨hp, g, V, hj, h⟩ := h; exact ⟨hp, g, V, hj, h.kept hk⟩
  ltJ := fun h => by obtain ⟨hp, g, V, hj, h⟩ := h; exact h.lt
  new := fun room w h => (new_ok room w h).mono fun x w' ⟨v, F, h1, h2, h3, h4⟩ => by
    obtain ⟨p, rfl⟩ := rep_ptr h2
    exact ⟨p, F, h1, h2, h3, h4⟩
  fuse := fun k h h1 h2 => fuse_any h k h1 h2
  crash := fun k h h1 h2 => crash_any h k h1 h2
  read := fun {w F v m s} h => (read_any h).mono fun x w' ⟨bv, hx, hr, hb, ho⟩ => by
    obtain ⟨A, c, rfl, -, -⟩ := own_shape ho
    exact ⟨A, c, F, hx, hr, Cache.Leaves.of_below hb, fun b hf => .inl hf⟩
  open_nil := jopen_nil
  open_up := fun {w F s m st R t} hb h hs hbu hd _ => (jopen (hk.below hb (Nat.le_refl _)) h).mono fun x w' hp => by
    have hok : st.ok m := by obtain ⟨g, Bv, z, hv, h⟩ := h; exact h.ok
    rcases hp with ⟨h1, _⟩ | ⟨R', t', F', h1, h2, h3, h4, _, h6⟩
    · rw [hs] at h1; cases h1
    · rw [hs] at h1
      cases h1
      have h0 : openC m st t = 0 := by
        unfold openC
        by_cases ht : t = []
        · rw [if_pos ht]
        · have hpw : power st = true := by unfold power; rw [hbu, hd]; rfl
          rw [if_neg ht]
          unfold repC
          rw [if_pos hpw, if_pos (by have := hok.n; omega)]
      rcases h6 with ⟨h7, _⟩ | ⟨_, p, FJ, hx, hj, hd', hge⟩
      · exact absurd h0 h7
      · exact ⟨p, F', FJ, hx, h2, ⟨rep_ptr h, hj⟩, hd', h3, fun b hb => hb.elim (h4 b) (fun h => .inr (hge b h))⟩
  add := fun {w F FJ s j m st L} x bv hb h hj hab hbv _ _ hL => by
    obtain ⟨⟨p, rfl⟩, g, V, rfl, ho⟩ := hj
    exact (jadd (hk.below hb (Nat.le_refl _)) h ho hab x bv hbv (by omega)).mono fun y w' ⟨h1, F', FJ', V', h2, h3, _, h5, h6, h7⟩ => ⟨h1, F', FJ', h2, fun hne => ⟨⟨p, rfl⟩, g, V', rfl, h3 hne⟩, h5, h6, h7⟩
  only := fun {w F FJ s j m st L} M v hb h hj hab hM hn hs _ => by
    obtain ⟨⟨p, rfl⟩, g, V, rfl, ho⟩ := hj
    exact (jonly (hk.below hb (Nat.le_refl _)) h ho hab M v hM (by omega) (fun x hx => by have := hs x hx; omega)).mono fun y w' ⟨h1, F', FJ', V', h2, h3, _, h5, h6, h7⟩ => ⟨h1, F', FJ', h2, fun hne => ⟨⟨p, rfl⟩, g, V', rfl, h3 hne⟩, h5, h6, h7⟩
  recs := fun {w FJ s j L} hj hL hs => by
    obtain ⟨hp, g, V, rfl, ho⟩ := hj
    exact (jrecs ho (by omega) (fun x hx => by have := hs x hx; omega)).mono fun y w' ⟨v, h1, hb, hP⟩ => ⟨v, FJ, h1, ⟨hp, g, V, rfl, ho.below hb⟩, Cache.Leaves.of_below hb, fun b hb' => .inl hb', hP.less (fun b _ hb' => ⟨hb', fun hf => by have := ho.lt b hf; omega⟩)⟩
end Go.Proofs.YtebchoeeohmlaaaDoor.Jour
