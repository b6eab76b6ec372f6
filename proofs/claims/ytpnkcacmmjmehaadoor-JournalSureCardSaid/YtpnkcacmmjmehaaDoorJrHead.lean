/-
  The program's own journal: copyOf, sizeOf, header, encoded.
-/
import Derived.Test.YtpnkcacmmjmehaaDoorJourHas
import Derived.Test.YtpnkcacmmjmehaaDoorShaSum
import Derived.Test.YtpnkcacmmjmehaaDoorCopyB
import Derived.Test.YtpnkcacmmjmehaaDoorCutRun
import Derived.Deep.QuietTactic
import Derived.BigQuiet
import Derived.OwnWalk
namespace Go.Proofs.YtpnkcacmmjmehaaDoor.Jour
open Go Go.RowKit Go.Proofs.YtpnkcacmmjmehaaDoor.Aid Go.Proofs.YtpnkcacmmjmehaaDoor.Sha Go.Proofs.YtpnkcacmmjmehaaDoor.Cache Go.Proofs.YtpnkcacmmjmehaaDoor.Store

/-- The first eight bytes of the digest. -/
def Dg (x : By) : By := (List.range 8).map (digest (fnL x) x.length)
theorem dg_len (x : By) : (Dg x).length = 8 := by simp [Dg]
theorem fnL_app (a b : By) : fnL (a ++ b) = cat (fnL a) a.length (fnL b) := by
  funext j
  unfold fnL cat
  by_cases h : j < a.length
  · rw [if_pos h]
    show (a ++ b).getD j 0 = a.getD j 0
    rw [List.getD_eq_getElem?_getD, List.getElem?_append_left h, List.getD_eq_getElem?_getD]
  · rw [if_neg h]
    show (a ++ b).getD j 0 = b.getD (j - a.length) 0
    rw [List.getD_eq_getElem?_getD, List.getElem?_append_right (by omega), List.getD_eq_getElem?_getD]
/-- The header's bytes. -/
def hdr (x : By) : By := head x ++ Dg (head x ++ x)
theorem hdr_len (x : By) : (hdr x).length = 10 := by simp [hdr, head, dg_len]
theorem enc_hdr (x : By) : enc Dg x = hdr x ++ x := by unfold enc hdr; rw [List.append_assoc]
section
variable {w : World} {ops : Array Oper} {rest : List Oper} {op : Oper} {a : Act} {Q : Exit → Act → World → Prop}
theorem run_append_none' (ty : TypeId) (g n c : Nat) (A : Option Addr) : (Builtin.append_ #[35, 35] ty #[.slice (some ⟨g, 0, none⟩) n n, .slice A 0 c]).run Tryd.prog w = .ok (.slice (some ⟨g, 0, none⟩) n n) w := by
  obtain ⟨i, hi, hz⟩ := Option.map_eq_some_iff.1 info_u8
  cases A with
  | none => simp [Builtin.append_, run_underlying Tryd.underlying35, sizeOf, typeInfo, hi, Builtin.lenOf, Builtin.firstCells, storeCells]
  | some x => simp [Builtin.append_, run_underlying Tryd.underlying35, sizeOf, typeInfo, hi, Builtin.lenOf, Builtin.firstCells, loadCells, loadCellsFrom, storeCells]
/-- 'append(v, x...)', v full: new memory, where there is anything in x; else v itself. -/
theorem append_full (hgd : op.guard = none) (s x : Operand) (ho : op.op = .call { callee := .builtin .append, args := #[s, x], argTypes := #[35, 35] })
    (g n : Nat) (e : Nat → BitVec 8) (hs : a.eval s = .slice (some ⟨g, 0, none⟩) n n) (hc : ∀ j, j < n → w.cell? ⟨g, j, none⟩ = some (.int .u8 ((e j).toNat : Int)))
    (gs m : Nat) (f : Nat → BitVec 8) (u : Value) (hx : a.eval x = u) (hu : SliceOf w gs m f u) (hnm : n + m ≤ 1000000) (K : Nat → Prop) (hK1 : K g) (hK2 : ∀ b, w.heap.size ≤ b → K b)
    (hK : ∀ v' w', BytesIn w' K (n + m) (cat e n f) v' → Below w.heap.size w w' → wpList Tryd.prog ops Q rest (a.put op.dst v') w') : wpList Tryd.prog ops Q (op :: rest) a w := by
  obtain ⟨A, c, rfl, hc', hr⟩ := hu
  obtain ⟨i, hi, hz⟩ := Option.map_eq_some_iff.1 info_u8
  simp only [Prod.mk.injEq] at hz
  refine wpList_plain hgd fun K' hK' => ?_
  by_cases hm : 0 < m
  · obtain ⟨sb, so, rfl, _, hcell⟩ := hr hm
    have hrun := run_append_grow (P := Tryd.prog) w 35 op.type 5 i (.int .u8 0) Tryd.underlying35 hi hz.1 ⟨g, 0, none⟩ n n ((List.range n).map fun j => Value.int .u8 ((e j).toNat : Int)) (by simp [hz.2.1]) (fun j y hy => by
      have hj : j < n := by have := (List.getElem?_eq_some_iff.1 hy).1; simpa using this
      rw [List.getElem?_map, List.getElem?_range hj] at hy
      simp only [Option.map_some, Option.some.injEq] at hy
      rw [Addr.add_mid, Nat.zero_add, hc j hj, hy]) ⟨sb, so, none⟩ m c ((List.range m).map fun j => Value.int .u8 ((f j).toNat : Int)) (by simp [hz.2.1]) (fun j y hy => by
      have hj : j < m := by have := (List.getElem?_eq_some_iff.1 hy).1; simpa using this
      rw [List.getElem?_map, List.getElem?_range hj] at hy
      simp only [Option.map_some, Option.some.injEq] at hy
      rw [Addr.add_mid, hcell j hj, hy]) (by omega) (by omega) (growslice_fits (by omega) (by rw [hz.2.2]; omega))
    have hge := grownCap_ge w (n + m) n 5
    unfold Oper.wp execOp
    simp only [ho, resolve, invoke, builtin, Sem.run_bind, Sem.run_pure, Result.andThen_ok, List.map_toArray, List.map_cons, List.map_nil, hs, hx, hrun]
    refine hK' _ _ (hK _ _ ⟨_, _, rfl, hge, fun _ => ⟨w.heap.size, 0, rfl, hK2 _ (Nat.le_refl _), fun j hj => ?_⟩⟩ ⟨rfl, rfl, rfl, by simp, fun k hk => heap_alloc_old w.drew _ hk⟩)
    rw [Nat.zero_add]
    refine (cell_of_row (w.drew.alloc _) w.heap.size j _ _ _ (heap_alloc_new w.drew _)).trans ?_
    rw [Array.getElem?_append_left (by simp; omega), List.append_toArray, map_cat]
    simp [hj]
  · obtain rfl : m = 0 := by omega
    have hrun := run_append_none' (w := w) op.type g n c A
    unfold Oper.wp execOp
    simp only [ho, resolve, invoke, builtin, Sem.run_bind, Sem.run_pure, Result.andThen_ok, List.map_toArray, List.map_cons, List.map_nil, hs, hx, hrun]
    refine hK' _ _ (hK _ _ ⟨_, _, rfl, Nat.le_refl _, fun h0 => ⟨g, 0, rfl, hK1, fun j hj => ?_⟩⟩ (Below.refl _ _))
    rw [Nat.zero_add, hc j (by omega)]
    unfold cat
    rw [if_pos (by omega)]
end
/-- copyOf: as many bytes of the call's own. -/
theorem jcopy {w : World} {gs n : Nat} {e : Nat → BitVec 8} {bv : Value} (hb : SliceOf w gs n e bv) (hn : n ≤ 1099511627776) :
    Calls Tryd.prog 23 #[bv] w fun x w' => ∃ g, x = .returned (.slice (some ⟨g, 0, none⟩) n n) ∧ Own w' w.heap.size n e (.slice (some ⟨g, 0, none⟩) n n) ∧ Below w.heap.size w w' := by
  have HB := Lib.hid hb
  have HN := Lib.hid hn
  obtain ⟨A, c, rfl, -, -⟩ := hb
  clear hn
  go_enter Tryd.func23, Tryd.ntmps23
  go_wp2_with (first
    | (refine make_own (by rfl) (.tmp 5) (.tmp 5) (by rfl) .i64 .i64 n (by rfl) (by rfl) HN.out ?_
       intro w1 ho1 hb1
       have HO1 := Lib.hid ho1
       have HB1 := Lib.hid hb1
       have HS1 := Lib.hid (slice_below HB.out hb1)
       clear ho1 hb1)
    | (refine copy_all (by rfl) (.tmp 7) (.tmp 8) (by rfl) w.heap.size n w.heap.size gs _ e HO1.out (by rfl) HN.out _ (by rfl) HS1.out ?_
       intro w2 ho2 hon
       have HO2 := Lib.hid ho2
       have HB2 : Hid (Below w.heap.size w w2) := Lib.hid ⟨hon.os.trans HB1.out.os, hon.tape.trans HB1.out.tape, hon.output.trans HB1.out.output, by rw [hon.size]; exact HB1.out.size, fun b hlt => (hon.block b (Nat.ne_of_lt hlt)).trans (HB1.out.block b hlt)⟩
       clear ho2 hon))
  go_ret
  exact ⟨_, rfl, HO2.out, HB2.out⟩
/-- sizeOf: a header and what its first two bytes tell; a header, where they are not there. -/
def sizeN (b : By) : Nat := if b.length < 2 then 10 else 10 + (256 * (fnL b 0).toNat + (fnL b 1).toNat)
theorem jsize {w : World} {gs : Nat} {b : By} {bv : Value} (hb : SliceOf w gs b.length (fnL b) bv) (hn : b.length ≤ 1099511627776) :
    Calls Tryd.prog 27 #[bv] w fun x w' => x = .returned (.int .i64 (sizeN b : Int)) ∧ Below w.heap.size w w' := by
  obtain ⟨A, c, rfl, hc, hr⟩ := hb
  by_cases h2 : b.length < 2
  · have q : (b.length : Int) < 2 := by omega
    have hs : sizeN b = 10 := by unfold sizeN; rw [if_pos h2]
    rw [hs]
    clear hr
    go_enter Tryd.func27, Tryd.ntmps27
    go_wp2
    go_ret
    exact ⟨rfl, Below.refl _ _⟩
  · have q : ¬ (b.length : Int) < 2 := by omega
    obtain ⟨sb, so, rfl, _, hcell⟩ := hr (by omega)
    have c0 := hcell 0 (by omega)
    have c1 := hcell 1 (by omega)
    rw [Nat.add_zero] at c0
    have l0 : (0 : Int) < (b.length : Int) := by omega
    have l1 : (1 : Int) < (b.length : Int) := by omega
    have hs : sizeN b = 10 + (256 * (fnL b 0).toNat + (fnL b 1).toNat) := by unfold sizeN; rw [if_neg h2]
    rw [hs]
    have b0 := (fnL b 0).isLt
    have b1 := (fnL b 1).isLt
    clear hr hcell
    generalize (fnL b 0).toNat = x0 at *
    generalize (fnL b 1).toNat = x1 at *
    go_enter Tryd.func27, Tryd.ntmps27
    go_wp2_with fail
    go_quiet (fail)
    rw [show (10 : Int) + (x0 : Int) * 256 + (x1 : Int) = ((10 + (256 * x0 + x1) : Nat) : Int) by omega]
    go_wp2
    go_ret
    exact ⟨rfl, ⟨rfl, rfl, rfl, Nat.le_refl _, fun _ _ => rfl⟩⟩
theorem hd_cells (x : By) (hx : x.length ≤ 1000) (i : Nat) (hi : i < 10) : (#[Value.int .u8 ((x.length : Int) / 256), .int .u8 ((x.length : Int) % 256), .int .u8 0, .int .u8 0, .int .u8 0, .int .u8 0, .int .u8 0, .int .u8 0, .int .u8 0, .int .u8 0] : Array Value)[i]? = some (.int .u8 ((fnL (head x) i).toNat : Int)) := by
  have h0 : (((BitVec.ofNat 8 (x.length / 256)).toNat : Nat) : Int) = (x.length : Int) / 256 := by rw [BitVec.toNat_ofNat]; omega
  have h1 : (((BitVec.ofNat 8 (x.length % 256)).toNat : Nat) : Int) = (x.length : Int) % 256 := by rw [BitVec.toNat_ofNat]; omega
  match i, hi with
  | 0, _ => exact congrArg (fun z => some (Value.int .u8 z)) h0.symm
  | 1, _ => exact congrArg (fun z => some (Value.int .u8 z)) h1.symm
  | 2, _ => rfl
  | 3, _ => rfl
  | 4, _ => rfl
  | 5, _ => rfl
  | 6, _ => rfl
  | 7, _ => rfl
  | 8, _ => rfl
  | 9, _ => rfl
theorem zeros10 (i : Nat) (hi : i < 10) : (#[Value.int .u8 0, .int .u8 0, .int .u8 0, .int .u8 0, .int .u8 0, .int .u8 0, .int .u8 0, .int .u8 0, .int .u8 0, .int .u8 0] : Array Value)[i]? = some (.int .u8 0) := by
  match i, hi with
  | 0, _ => rfl
  | 1, _ => rfl
  | 2, _ => rfl
  | 3, _ => rfl
  | 4, _ => rfl
  | 5, _ => rfl
  | 6, _ => rfl
  | 7, _ => rfl
  | 8, _ => rfl
  | 9, _ => rfl
theorem head_start (w : World) (x : By) (hx : x.length ≤ 1000) :
    ((w.alloc (.cells #[Value.int .u8 0, .int .u8 0, .int .u8 0, .int .u8 0, .int .u8 0, .int .u8 0, .int .u8 0, .int .u8 0, .int .u8 0, .int .u8 0] 56)).alloc (.cells #[Value.int .u8 ((x.length : Int) / 256), .int .u8 ((x.length : Int) % 256), .int .u8 0, .int .u8 0, .int .u8 0, .int .u8 0, .int .u8 0, .int .u8 0, .int .u8 0, .int .u8 0] 56)).rowIs (w.heap.size + 1) 56 10 (fun j => .int .u8 ((fnL (head x) j).toNat : Int)) ∧
    ((w.alloc (.cells #[Value.int .u8 0, .int .u8 0, .int .u8 0, .int .u8 0, .int .u8 0, .int .u8 0, .int .u8 0, .int .u8 0, .int .u8 0, .int .u8 0] 56)).alloc (.cells #[Value.int .u8 ((x.length : Int) / 256), .int .u8 ((x.length : Int) % 256), .int .u8 0, .int .u8 0, .int .u8 0, .int .u8 0, .int .u8 0, .int .u8 0, .int .u8 0, .int .u8 0] 56)).rowIs w.heap.size 56 10 (fun _ => .int .u8 0) ∧
    Below w.heap.size w ((w.alloc (.cells #[Value.int .u8 0, .int .u8 0, .int .u8 0, .int .u8 0, .int .u8 0, .int .u8 0, .int .u8 0, .int .u8 0, .int .u8 0, .int .u8 0] 56)).alloc (.cells #[Value.int .u8 ((x.length : Int) / 256), .int .u8 ((x.length : Int) % 256), .int .u8 0, .int .u8 0, .int .u8 0, .int .u8 0, .int .u8 0, .int .u8 0, .int .u8 0, .int .u8 0] 56)) ∧
    ((w.alloc (.cells #[Value.int .u8 0, .int .u8 0, .int .u8 0, .int .u8 0, .int .u8 0, .int .u8 0, .int .u8 0, .int .u8 0, .int .u8 0, .int .u8 0] 56)).alloc (.cells #[Value.int .u8 ((x.length : Int) / 256), .int .u8 ((x.length : Int) % 256), .int .u8 0, .int .u8 0, .int .u8 0, .int .u8 0, .int .u8 0, .int .u8 0, .int .u8 0, .int .u8 0] 56)).heap.size = w.heap.size + 2 := by
  refine ⟨?_, ?_, ((Below.refl _ _).alloc (by simp) _).alloc (by simp) _, by simp⟩
  · have := row_new (w.alloc (.cells #[Value.int .u8 0, .int .u8 0, .int .u8 0, .int .u8 0, .int .u8 0, .int .u8 0, .int .u8 0, .int .u8 0, .int .u8 0, .int .u8 0] 56)) _ 56 10 _ (by rfl) (hd_cells x hx)
    rw [show (w.alloc (.cells #[Value.int .u8 0, .int .u8 0, .int .u8 0, .int .u8 0, .int .u8 0, .int .u8 0, .int .u8 0, .int .u8 0, .int .u8 0, .int .u8 0] 56)).heap.size = w.heap.size + 1 by simp] at this
    exact this
  · exact (row_new w _ 56 10 _ (by rfl) zeros10).alloc _
theorem dg_at (y : By) (k : Nat) (hk : k < 8) : fnL (Dg y) k = digest (fnL y) y.length k := by
  show (Dg y).getD k 0 = _
  rw [List.getD_eq_getElem?_getD]
  simp [Dg, hk]
theorem hdr_at (x : By) (j : Nat) (hj : j < 10) : fnL (hdr x) j = if 2 ≤ j ∧ j < 2 + 8 then digest (cat (fnL (head x)) 2 (fnL x)) (2 + x.length) (j - 2) else fnL (head x) j := by
  unfold hdr
  rw [fnL_app]
  unfold cat
  have hl : (head x).length = 2 := rfl
  rw [hl]
  by_cases h : j < 2
  · rw [if_pos h, if_neg (by omega)]
  · rw [if_neg h, if_pos (by omega), dg_at _ _ (by omega), fnL_app, List.length_append, hl]
    rfl
set_option maxRecDepth 100000 in
set_option maxHeartbeats 1000000 in
/-- header: the length, and the first bytes of the digest. -/
theorem jhead {w : World} (hk : Consts w) {gs : Nat} {x : By} {bv : Value} (hb : SliceOf w gs x.length (fnL x) bv) (hx : x.length ≤ 1000) :
    Calls Tryd.prog 28 #[bv] w fun y w' => y = .returned (.agg (byteCells 10 (fnL (hdr x)))) ∧ Below w.heap.size w w' := by
  have HB := Lib.hid hb
  have HK := Lib.hid hk
  have HS := Lib.hid (head_start w x hx)
  obtain ⟨A, c, rfl, -, -⟩ := hb
  clear hk
  go_enter Tryd.func28, Tryd.ntmps28
  go_upto_region 2 with fail
  generalize ((w.alloc (.cells #[Value.int .u8 0, .int .u8 0, .int .u8 0, .int .u8 0, .int .u8 0, .int .u8 0, .int .u8 0, .int .u8 0, .int .u8 0, .int .u8 0] 56)).alloc (.cells #[Value.int .u8 ((x.length : Int) / 256), .int .u8 ((x.length : Int) % 256), .int .u8 0, .int .u8 0, .int .u8 0, .int .u8 0, .int .u8 0, .int .u8 0, .int .u8 0, .int .u8 0] 56)) = W1 at *
  have HB1 := Lib.hid (slice_below HB.out HS.out.2.2.1)
  go_wp2_with (refine append_full (by rfl) (.tmp 13) (.tmp 14) (by rfl) (w.heap.size + 1) 2 (fnL (head x)) (by rfl) (fun j hj => HS.out.1.cell (by omega)) _ x.length (fnL x) _ (by rfl) HB1.out (by omega) (fun _ => True) trivial (fun _ _ => trivial) ?_
               intro v2 w2 hv2 hb2
               have HV2 := Lib.hid hv2.slice
               have HB2 := Lib.hid hb2
               have hsh := hv2
               obtain ⟨A2, c2, hss, -, -⟩ := hsh
               subst hss
               clear hv2 hb2)
  have HW2 : Hid (Below w.heap.size w w2) := Lib.hid (HS.out.2.2.1.trans (HB2.out.mono (by have := HS.out.2.2.2; omega)))
  refine (sum_any (cat (fnL (head x)) 2 (fnL x)) (2 + x.length) _ _ w2 (HK.out.below HW2.out (Nat.le_refl _)) HV2.out (by omega)).mono ?_
  rintro _ w3 ⟨rfl, hb3⟩
  have hW13 := HB2.out.trans (hb3.mono HB2.out.size)
  have HR1 := Lib.hid (HS.out.1.of_block (hW13.block _ HS.out.1.lt))
  have HR0 := Lib.hid (HS.out.2.1.of_block (hW13.block _ HS.out.2.1.lt))
  have HW3 := Lib.hid (HW2.out.trans (hb3.mono HW2.out.size))
  have HZ3 : Hid (w.heap.size + 2 ≤ w3.heap.size) := Lib.hid (by have := hW13.size; have := HS.out.2.2.2; omega)
  clear hb3 hW13
  go_wp2_with (refine store_whole (by rfl) 59 (.tmp 4) (.tmp 16) (by rfl) w3.heap.size _ 32 (fun _ => .int .u8 0) (fun j => .int .u8 ((digest (cat (fnL (head x)) 2 (fnL x)) (2 + x.length) j).toNat : Int)) (row_new w3 _ _ 32 _ (by rfl) (zeros32 _ (by rfl))) (by rfl) _ (by rfl) (by kernel_rfl) (size_cellsOf _ _) (cellsOf_at _ _) (fun _ _ => rfl) ?_
               intro w4 hr4 ho4)
  have hb34 : Below w3.heap.size w3 w4 := ho4.below ((Below.refl _ _).alloc (Nat.le_refl _) _) (Nat.le_refl _)
  have HR4 := Lib.hid hr4
  have HR14 := Lib.hid (HR1.out.of_block (hb34.block _ HR1.out.lt))
  have HR04 := Lib.hid (HR0.out.of_block (hb34.block _ HR0.out.lt))
  have HW4 := Lib.hid (HW3.out.trans (hb34.mono HW3.out.size))
  clear hr4 ho4 hb34 HR1 HR0 HW3 HW2 HS HB2 HV2 HB1
  refine region_tail 2 (by kernel_rfl) (by kernel_rfl) ?_
  simp only [List.take_succ_cons, List.take_zero, List.drop_succ_cons, List.drop_zero]
  repeat still_step
  refine wpStill_nil ?_
  refine copy_row (by rfl) (.tmp 17) (.tmp 18) _ _ (by rfl) 5 Tryd.underlying35 (by kernel_rfl) (w.heap.size + 1) 2 _ 10 _ (w := w4.drew) HR14.out 8 8 (by rfl) (by omega) w3.heap.size 0 32 32 (by rfl) (fun j => .int .u8 ((digest (cat (fnL (head x)) 2 (fnL x)) (2 + x.length) j).toNat : Int)) (fun j hj => by rw [Nat.zero_add]; exact HR4.out.cell hj) (fun _ _ => rfl) 8 (by rfl) ?_
  intro w5 hr5 ho5
  have HR5 : Hid (w5.rowIs (w.heap.size + 1) 56 10 (fun j => .int .u8 ((fnL (hdr x) j).toNat : Int))) := Lib.hid (hr5.congr (fun i hi => by
    rw [hdr_at x i hi]
    by_cases h : 2 ≤ i ∧ i < 2 + 8
    · rw [if_pos h, if_pos h]
    · rw [if_neg h, if_neg h]))
  have HR05 : Hid (w5.rowIs w.heap.size 56 10 (fun _ => .int .u8 0)) := Lib.hid (HR04.out.of_block (ho5.block _ (by omega)))
  have HW5 := Lib.hid (ho5.below (B := w.heap.size) (w0 := w) (w := w4.drew) ⟨HW4.out.os, HW4.out.tape, HW4.out.output, HW4.out.size, HW4.out.block⟩ (by omega))
  clear hr5 ho5
  go_wp2_with (first
    | (refine load_whole (by rfl) 56 (.tmp 3) (by rfl) (w.heap.size + 1) _ 10 _ HR5.out (by rfl) _ Tryd.underlying56 rfl (by kernel_rfl) ?_)
    | (refine store_whole (by rfl) 56 (.tmp 2) (.tmp 20) (by rfl) w.heap.size _ 10 _ (fun j => .int .u8 ((fnL (hdr x) j).toNat : Int)) HR05.out (by rfl) _ (by rfl) (by kernel_rfl) (size_cellsOf _ _) (cellsOf_at _ _) (fun _ _ => rfl) ?_
       intro w6 hr6 ho6
       have HB6 := Lib.hid (ho6.below HW5.out (Nat.le_refl _))))
  exact bodyPost_ret (results_row rfl _ w.heap.size _ _ _ _ (by rfl) hr6 Tryd.underlying56 rfl (by kernel_rfl)) rfl ⟨rfl, HB6.out⟩
set_option maxRecDepth 100000 in
/-- encoded: header and record. -/
theorem jenc {w : World} (hk : Consts w) {gs : Nat} {x : By} {bv : Value} (hb : SliceOf w gs x.length (fnL x) bv) (hx : x.length ≤ 1000) :
    Calls Tryd.prog 18 #[bv] w fun y w' => ∃ v, y = .returned v ∧ BytesIn w' (fun b => w.heap.size ≤ b) (enc Dg x).length (fnL (enc Dg x)) v ∧ Below w.heap.size w w' := by
  have HH := Lib.hid (jhead hk hb hx)
  have HB := Lib.hid hb
  obtain ⟨A, c, rfl, -, -⟩ := hb
  clear hk
  go_enter Tryd.func18, Tryd.ntmps18
  go_wp2_with fail
  refine HH.out.mono ?_
  rintro _ w1 ⟨rfl, hb1⟩
  have HB1 := Lib.hid hb1
  have HS1 := Lib.hid (slice_below HB.out hb1)
  clear hb1
  go_wp2_with (first
    | (refine store_whole (by rfl) 56 (.tmp 3) (.tmp 5) (by rfl) w1.heap.size _ 10 (fun _ => .int .u8 0) (fun j => .int .u8 ((fnL (hdr x) j).toNat : Int)) (row_new w1 _ _ 10 _ (by rfl) zeros10) (by rfl) _ (by rfl) (by kernel_rfl) (size_cellsOf _ _) (cellsOf_at _ _) (fun _ _ => rfl) ?_
       intro w2 hr2 ho2
       have hb2 : Below w1.heap.size w1 w2 := ho2.below ((Below.refl _ _).alloc (Nat.le_refl _) _) (Nat.le_refl _)
       have HR2 := Lib.hid hr2
       have HS2 := Lib.hid (slice_below HS1.out hb2)
       have HW2 := Lib.hid (HB1.out.trans (hb2.mono HB1.out.size))
       clear hr2 ho2 hb2)
    | (refine append_full (by rfl) (.tmp 6) (.tmp 7) (by rfl) w1.heap.size 10 (fnL (hdr x)) (by rfl) (fun j hj => HR2.out.cell hj) _ x.length (fnL x) _ (by rfl) HS2.out (by omega) (fun b => w.heap.size ≤ b) HB1.out.size (fun b hb => Nat.le_trans HW2.out.size hb) ?_
       intro v3 w3 hv3 hb3
       have HV3 := Lib.hid hv3
       have HW3 := Lib.hid (HW2.out.trans (hb3.mono HW2.out.size))
       obtain ⟨A3, c3, hss, -, -⟩ := hv3
       subst hss
       clear hb3))
  go_ret
  refine ⟨_, rfl, ?_, HW3.out⟩
  rw [enc_hdr, fnL_app, List.length_append, hdr_len]
  exact HV3.out
end Go.Proofs.YtpnkcacmmjmehaaDoor.Jour
