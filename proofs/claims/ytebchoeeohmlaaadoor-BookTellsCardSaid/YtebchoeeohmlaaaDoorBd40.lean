/-
  The program's own journal: copyOf, sizeOf, header, encoded. The program's own journal: copyOfAll; records in memory of a footprint. The program's own journal: where it lies; broken, heed, Records. The program's own journal: how bytes are read, record by record (pure); one record more in a list.
-/
import Derived.Test.YtebchoeeohmlaaaDoorBd09
import Derived.Test.YtebchoeeohmlaaaDoorBd39
import Derived.Test.YtebchoeeohmlaaaDoorBd23
import Derived.Test.YtebchoeeohmlaaaDoorBd01
import Derived.Test.YtebchoeeohmlaaaDoorBd10
import Derived.Deep.QuietTactic
import Derived.BigQuiet
import Derived.OwnWalk
namespace Go.Proofs.YtebchoeeohmlaaaDoor.Jour
open Go Go.RowKit Go.Proofs.YtebchoeeohmlaaaDoor.Aid Go.Proofs.YtebchoeeohmlaaaDoor.Sha Go.Proofs.YtebchoeeohmlaaaDoor.Cache Go.Proofs.YtebchoeeohmlaaaDoor.Store

/-- The first eight bytes of the digest. -/
def Dg (x : By) : By := (List.range 8).map (digest (fnL x) x.length)
theorem dg_len (x : By) : (Dg x).length = 8 := by simp [Dg]
theorem fnL_app (a b : By) : fnL (a ++ b) = cat (fnL a) a.length (fnL b) := by
  funext j
  unfold fnL cat
  by_cases h : j < a.length
  · rw [if_pos h]
    show (a ++ b).getD j 0 = a.getD j 0
    rw [List.getD_eq_getElem?_getD, List.getElem?_append_left h, List.getD_eq_getElem?_getD]
  · rw [if_neg h]
    show (a ++ b).getD j 0 = b.getD (j - a.length) 0
    rw [List.getD_eq_getElem?_getD, List.getElem?_append_right (by omega), List.getD_eq_getElem?_getD]
/-- The header's bytes. -/
def hdr (x : By) : By := head x ++ Dg (head x ++ x)
theorem hdr_len (x : By) : (hdr x).length = 10 := by simp [hdr, head, dg_len]
theorem enc_hdr (x : By) : enc Dg x = hdr x ++ x := by unfold enc hdr; rw [List.append_assoc]
section
variable {w : World} {ops : Array Oper} {rest : List Oper} {op : Oper} {a : Act} {Q : Exit → Act → World → Prop}
theorem run_append_none' (ty : TypeId) (g n c : Nat) (A : Option Addr) : (Builtin.append_ #[23, 23] ty #[.slice (some ⟨g, 0, none⟩) n n, .slice A 0 c]).run Tryd.prog w = .ok (.slice (some ⟨g, 0, none⟩) n n) w := by
  obtain ⟨i, hi, hz⟩ := Option.map_eq_some_iff.1 info_u8
  cases A with
  | none => simp [Builtin.append_, run_underlying Tryd.underlying23, sizeOf, typeInfo, hi, Builtin.lenOf, Builtin.firstCells, storeCells]
  | some x => simp [Builtin.append_, run_underlying Tryd.underlying23, sizeOf, typeInfo, hi, Builtin.lenOf, Builtin.firstCells, loadCells, loadCellsFrom, storeCells]
/-- 'append(v, x...)', v full: new memory, where there is anything in x; else v itself. -/
theorem append_full (hgd : op.guard = none) (s x : Operand) (ho : op.op = .call { callee := .builtin .append, args := #[s, x], argTypes := #[23, 23] })
    (g n : Nat) (e : Nat → BitVec 8) (hs : a.eval s = .slice (some ⟨g, 0, none⟩) n n) (hc : ∀ j, j < n → w.cell? ⟨g, j, none⟩ = some (.int .u8 ((e j).toNat : Int)))
    (gs m : Nat) (f : Nat → BitVec 8) (u : Value) (hx : a.eval x = u) (hu : SliceOf w gs m f u) (hnm : n + m ≤ 1000000) (K : Nat → Prop) (hK1 : K g) (hK2 : ∀ b, w.heap.size ≤ b → K b)
    (hK : ∀ v' w', BytesIn w' K (n + m) (cat e n f) v' → Below w.heap.size w w' → wpList Tryd.prog ops Q rest (a.put op.dst v') w') : wpList Tryd.prog ops Q (op :: rest) a w := by
  obtain ⟨A, c, rfl, hc', hr⟩ := hu
  obtain ⟨i, hi, hz⟩ := Option.map_eq_some_iff.1 info_u8
  simp only [Prod.mk.injEq] at hz
  refine wpList_plain hgd fun K' hK' => ?_
  by_cases hm : 0 < m
  · obtain ⟨sb, so, rfl, _, hcell⟩ := hr hm
    have hrun := run_append_grow (P := Tryd.prog) w 23 op.type 5 i (.int .u8 0) Tryd.underlying23 hi hz.1 ⟨g, 0, none⟩ n n ((List.range n).map fun j => Value.int .u8 ((e j).toNat : Int)) (by simp [hz.2.1]) (fun j y hy => by
      have hj : j < n := by have := (List.getElem?_eq_some_iff.1 hy).1; simpa using this
      rw [List.getElem?_map, List.getElem?_range hj] at hy
      simp only [Option.map_some, Option.some.injEq] at hy
      rw [Addr.add_mid, Nat.zero_add, hc j hj, hy]) ⟨sb, so, none⟩ m c ((List.range m).map fun j => Value.int .u8 ((f j).toNat : Int)) (by simp [hz.2.1]) (fun j y hy => by
      have hj : j < m := by have := (List.getElem?_eq_some_iff.1 hy).1; simpa using this
      rw [List.getElem?_map, List.getElem?_range hj] at hy
      simp only [Option.map_some, Option.some.injEq] at hy
      rw [Addr.add_mid, hcell j hj, hy]) (by omega) (by omega) (growslice_fits (by omega) (by rw [hz.2.2]; omega))
    have hge := grownCap_ge w (n + m) n 5
    unfold Oper.wp execOp
    simp only [ho, resolve, invoke, builtin, Sem.run_bind, Sem.run_pure, Result.andThen_ok, List.map_toArray, List.map_cons, List.map_nil, hs, hx, hrun]
    refine hK' _ _ (hK _ _ ⟨_, _, rfl, hge, fun _ => ⟨w.heap.size, 0, rfl, hK2 _ (Nat.le_refl _), fun j hj => ?_⟩⟩ ⟨rfl, rfl, rfl, by simp, fun k hk => heap_alloc_old w.drew _ hk⟩)
    rw [Nat.zero_add]
    refine (cell_of_row (w.drew.alloc _) w.heap.size j _ _ _ (heap_alloc_new w.drew _)).trans ?_
    rw [Array.getElem?_append_left (by simp; omega), List.append_toArray, map_cat]
    simp [hj]
  · obtain rfl : m = 0 := by omega
    have hrun := run_append_none' (w := w) op.type g n c A
    unfold Oper.wp execOp
    simp only [ho, resolve, invoke, builtin, Sem.run_bind, Sem.run_pure, Result.andThen_ok, List.map_toArray, List.map_cons, List.map_nil, hs, hx, hrun]
    refine hK' _ _ (hK _ _ ⟨_, _, rfl, Nat.le_refl _, fun h0 => ⟨g, 0, rfl, hK1, fun j hj => ?_⟩⟩ (Below.refl _ _))
    rw [Nat.zero_add, hc j (by omega)]
    unfold cat
    rw [if_pos (by omega)]
end
/-- copyOf: as many bytes of the call's own. -/
theorem jcopy {w : World} {gs n : Nat} {e : Nat → BitVec 8} {bv : Value} (hb : SliceOf w gs n e bv) (hn : n ≤ 1099511627776) :
    Calls Tryd.prog 79 #[bv] w fun x w' => ∃ g, x = .returned (.slice (some ⟨g, 0, none⟩) n n) ∧ Own w' w.heap.size n e (.slice (some ⟨g, 0, none⟩) n n) ∧ Below w.heap.size w w' := by
  have HB := Lib.hid hb
  have HN := Lib.hid hn
  obtain ⟨A, c, rfl, -, -⟩ := hb
  clear hn
  go_enter Tryd.func79, Tryd.ntmps79
  go_wp2_with (first
    | (refine make_own (by rfl) (.tmp 5) (.tmp 5) (by rfl) .i64 .i64 n (by rfl) (by rfl) HN.out ?_
       intro w1 ho1 hb1
       have HO1 := Lib.hid ho1
       have HB1 := Lib.hid hb1
       have HS1 := Lib.hid (slice_below HB.out hb1)
       clear ho1 hb1)
    | (refine copy_all (by rfl) (.tmp 7) (.tmp 8) (by rfl) w.heap.size n w.heap.size gs _ e HO1.out (by rfl) HN.out _ (by rfl) HS1.out ?_
       intro w2 ho2 hon
       have HO2 := Lib.hid ho2
       have HB2 : Hid (Below w.heap.size w w2) := Lib.hid ⟨hon.os.trans HB1.out.os, hon.tape.trans HB1.out.tape, hon.output.trans HB1.out.output, by rw [hon.size]; exact HB1.out.size, fun b hlt => (hon.block b (Nat.ne_of_lt hlt)).trans (HB1.out.block b hlt)⟩
       clear ho2 hon))
  go_ret
  exact ⟨_, rfl, HO2.out, HB2.out⟩
/-- sizeOf: a header and what its first two bytes tell; a header, where they are not there. -/
def sizeN (b : By) : Nat := if b.length < 2 then 10 else 10 + (256 * (fnL b 0).toNat + (fnL b 1).toNat)
theorem jsize {w : World} {gs : Nat} {b : By} {bv : Value} (hb : SliceOf w gs b.length (fnL b) bv) (hn : b.length ≤ 1099511627776) :
    Calls Tryd.prog 83 #[bv] w fun x w' => x = .returned (.int .i64 (sizeN b : Int)) ∧ Below w.heap.size w w' := by
  obtain ⟨A, c, rfl, hc, hr⟩ := hb
  by_cases h2 : b.length < 2
  · have q : (b.length : Int) < 2 := by omega
    have hs : sizeN b = 10 := by unfold sizeN; rw [if_pos h2]
    rw [hs]
    clear hr
    go_enter Tryd.func83, Tryd.ntmps83
    go_wp2
    go_ret
    exact ⟨rfl, Below.refl _ _⟩
  · have q : ¬ (b.length : Int) < 2 := by omega
    obtain ⟨sb, so, rfl, _, hcell⟩ := hr (by omega)
    have c0 := hcell 0 (by omega)
    have c1 := hcell 1 (by omega)
    rw [Nat.add_zero] at c0
    have l0 : (0 : Int) < (b.length : Int) := by omega
    have l1 : (1 : Int) < (b.length : Int) := by omega
    have hs : sizeN b = 10 + (256 * (fnL b 0).toNat + (fnL b 1).toNat) := by unfold sizeN; rw [if_neg h2]
    rw [hs]
    have b0 := (fnL b 0).isLt
    have b1 := (fnL b 1).isLt
    clear hr hcell
    generalize (fnL b 0).toNat = x0 at *
    generalize (fnL b 1).toNat = x1 at *
    go_enter Tryd.func83, Tryd.ntmps83
    go_wp2_with fail
    go_quiet (fail)
    rw [show (10 : Int) + (x0 : Int) * 256 + (x1 : Int) = ((10 + (256 * x0 + x1) : Nat) : Int) by omega]
    go_wp2
    go_ret
    exact ⟨rfl, ⟨rfl, rfl, rfl, Nat.le_refl _, fun _ _ => rfl⟩⟩
theorem hd_cells (x : By) (hx : x.length ≤ 1000) (i : Nat) (hi : i < 10) : (#[Value.int .u8 ((x.length : Int) / 256), .int .u8 ((x.length : Int) % 256), .int .u8 0, .int .u8 0, .int .u8 0, .int .u8 0, .int .u8 0, .int .u8 0, .int .u8 0, .int .u8 0] : Array Value)[i]? = some (.int .u8 ((fnL (head x) i).toNat : Int)) := by
  have h0 : (((BitVec.ofNat 8 (x.length / 256)).toNat : Nat) : Int) = (x.length : Int) / 256 := by rw [BitVec.toNat_ofNat]; omega
  have h1 : (((BitVec.ofNat 8 (x.length % 256)).toNat : Nat) : Int) = (x.length : Int) % 256 := by rw [BitVec.toNat_ofNat]; omega
  match i, hi with
  | 0, _ => exact congrArg (fun z => some (Value.int .u8 z)) h0.symm
  | 1, _ => exact congrArg (fun z => some (Value.int .u8 z)) h1.symm
  | 2, _ => rfl
  | 3, _ => rfl
  | 4, _ => rfl
  | 5, _ => rfl
  | 6, _ => rfl
  | 7, _ => rfl
  | 8, _ => rfl
  | 9, _ => rfl
theorem zeros10 (i : Nat) (hi : i < 10) : (#[Value.int .u8 0, .int .u8 0, .int .u8 0, .int .u8 0, .int .u8 0, .int .u8 0, .int .u8 0, .int .u8 0, .int .u8 0, .int .u8 0] : Array Value)[i]? = some (.int .u8 0) := by
  match i, hi with
  | 0, _ => rfl
  | 1, _ => rfl
  | 2, _ => rfl
  | 3, _ => rfl
  | 4, _ => rfl
  | 5, _ => rfl
  | 6, _ => rfl
  | 7, _ => rfl
  | 8, _ => rfl
  | 9, _ => rfl
theorem head_start (w : World) (x : By) (hx : x.length ≤ 1000) :
    ((w.alloc (.cells #[Value.int .u8 0, .int .u8 0, .int .u8 0, .int .u8 0, .int .u8 0, .int .u8 0, .int .u8 0, .int .u8 0, .int .u8 0, .int .u8 0] 135)).alloc (.cells #[Value.int .u8 ((x.length : Int) / 256), .int .u8 ((x.length : Int) % 256), .int .u8 0, .int .u8 0, .int .u8 0, .int .u8 0, .int .u8 0, .int .u8 0, .int .u8 0, .int .u8 0] 135)).rowIs (w.heap.size + 1) 135 10 (fun j => .int .u8 ((fnL (head x) j).toNat : Int)) ∧
    ((w.alloc (.cells #[Value.int .u8 0, .int .u8 0, .int .u8 0, .int .u8 0, .int .u8 0, .int .u8 0, .int .u8 0, .int .u8 0, .int .u8 0, .int .u8 0] 135)).alloc (.cells #[Value.int .u8 ((x.length : Int) / 256), .int .u8 ((x.length : Int) % 256), .int .u8 0, .int .u8 0, .int .u8 0, .int .u8 0, .int .u8 0, .int .u8 0, .int .u8 0, .int .u8 0] 135)).rowIs w.heap.size 135 10 (fun _ => .int .u8 0) ∧
    Below w.heap.size w ((w.alloc (.cells #[Value.int .u8 0, .int .u8 0, .int .u8 0, .int .u8 0, .int .u8 0, .int .u8 0, .int .u8 0, .int .u8 0, .int .u8 0, .int .u8 0] 135)).alloc (.cells #[Value.int .u8 ((x.length : Int) / 256), .int .u8 ((x.length : Int) % 256), .int .u8 0, .int .u8 0, .int .u8 0, .int .u8 0, .int .u8 0, .int .u8 0, .int .u8 0, .int .u8 0] 135)) ∧
    ((w.alloc (.cells #[Value.int .u8 0, .int .u8 0, .int .u8 0, .int .u8 0, .int .u8 0, .int .u8 0, .int .u8 0, .int .u8 0, .int .u8 0, .int .u8 0] 135)).alloc (.cells #[Value.int .u8 ((x.length : Int) / 256), .int .u8 ((x.length : Int) % 256), .int .u8 0, .int .u8 0, .int .u8 0, .int .u8 0, .int .u8 0, .int .u8 0, .int .u8 0, .int .u8 0] 135)).heap.size = w.heap.size + 2 := by
  refine ⟨?_, ?_, ((Below.refl _ _).alloc (by simp) _).alloc (by simp) _, by simp⟩
  · have := row_new (w.alloc (.cells #[Value.int .u8 0, .int .u8 0, .int .u8 0, .int .u8 0, .int .u8 0, .int .u8 0, .int .u8 0, .int .u8 0, .int .u8 0, .int .u8 0] 135)) _ 135 10 _ (by rfl) (hd_cells x hx)
    rw [show (w.alloc (.cells #[Value.int .u8 0, .int .u8 0, .int .u8 0, .int .u8 0, .int .u8 0, .int .u8 0, .int .u8 0, .int .u8 0, .int .u8 0, .int .u8 0] 135)).heap.size = w.heap.size + 1 by simp] at this
    exact this
  · exact (row_new w _ 135 10 _ (by rfl) zeros10).alloc _
theorem dg_at (y : By) (k : Nat) (hk : k < 8) : fnL (Dg y) k = digest (fnL y) y.length k := by
  show (Dg y).getD k 0 = _
  rw [List.getD_eq_getElem?_getD]
  simp [Dg, hk]
theorem hdr_at (x : By) (j : Nat) (hj : j < 10) : fnL (hdr x) j = if 2 ≤ j ∧ j < 2 + 8 then digest (cat (fnL (head x)) 2 (fnL x)) (2 + x.length) (j - 2) else fnL (head x) j := by
  unfold hdr
  rw [fnL_app]
  unfold cat
  have hl : (head x).length = 2 := rfl
  rw [hl]
  by_cases h : j < 2
  · rw [if_pos h, if_neg (by omega)]
  · rw [if_neg h, if_pos (by omega), dg_at _ _ (by omega), fnL_app, List.length_append, hl]
    rfl
set_option maxRecDepth 100000 in
set_option maxHeartbeats 1000000 in
/-- header: the length, and the first bytes of the digest. -/
theorem jhead {w : World} (hk : Consts w) {gs : Nat} {x : By} {bv : Value} (hb : SliceOf w gs x.length (fnL x) bv) (hx : x.length ≤ 1000) :
    Calls Tryd.prog 84 #[bv] w fun y w' => y = .returned (.agg (byteCells 10 (fnL (hdr x)))) ∧ Below w.heap.size w w' := by
  have HB := Lib.hid hb
  have HK := Lib.hid hk
  have HS := Lib.hid (head_start w x hx)
  obtain ⟨A, c, rfl, -, -⟩ := hb
  clear hk
  go_enter Tryd.func84, Tryd.ntmps84
  go_upto_region 2 with fail
  generalize ((w.alloc (.cells #[Value.int .u8 0, .int .u8 0, .int .u8 0, .int .u8 0, .int .u8 0, .int .u8 0, .int .u8 0, .int .u8 0, .int .u8 0, .int .u8 0] 135)).alloc (.cells #[Value.int .u8 ((x.length : Int) / 256), .int .u8 ((x.length : Int) % 256), .int .u8 0, .int .u8 0, .int .u8 0, .int .u8 0, .int .u8 0, .int .u8 0, .int .u8 0, .int .u8 0] 135)) = W1 at *
  have HB1 := Lib.hid (slice_below HB.out HS.out.2.2.1)
  go_wp2_with (refine append_full (by rfl) (.tmp 13) (.tmp 14) (by rfl) (w.heap.size + 1) 2 (fnL (head x)) (by rfl) (fun j hj => HS.out.1.cell (by omega)) _ x.length (fnL x) _ (by rfl) HB1.out (by omega) (fun _ => True) trivial (fun _ _ => trivial) ?_
               intro v2 w2 hv2 hb2
               have HV2 := Lib.hid hv2.slice
               have HB2 := Lib.hid hb2
               have hsh := hv2
               obtain ⟨A2, c2, hss, -, -⟩ := hsh
               subst hss
               clear hv2 hb2)
  have HW2 : Hid (Below w.heap.size w w2) := Lib.hid (HS.out.2.2.1.trans (HB2.out.mono (by have := HS.out.2.2.2; omega)))
  refine (sum_any (cat (fnL (head x)) 2 (fnL x)) (2 + x.length) _ _ w2 (HK.out.below HW2.out (Nat.le_refl _)) HV2.out (by omega)).mono ?_
  rintro _ w3 ⟨rfl, hb3⟩
  have hW13 := HB2.out.trans (hb3.mono HB2.out.size)
  have HR1 := Lib.hid (HS.out.1.of_block (hW13.block _ HS.out.1.lt))
  have HR0 := Lib.hid (HS.out.2.1.of_block (hW13.block _ HS.out.2.1.lt))
  have HW3 := Lib.hid (HW2.out.trans (hb3.mono HW2.out.size))
  have HZ3 : Hid (w.heap.size + 2 ≤ w3.heap.size) := Lib.hid (by have := hW13.size; have := HS.out.2.2.2; omega)
  clear hb3 hW13
  go_wp2_with (refine store_whole (by rfl) 137 (.tmp 4) (.tmp 16) (by rfl) w3.heap.size _ 32 (fun _ => .int .u8 0) (fun j => .int .u8 ((digest (cat (fnL (head x)) 2 (fnL x)) (2 + x.length) j).toNat : Int)) (row_new w3 _ _ 32 _ (by rfl) (zeros32 _ (by rfl))) (by rfl) _ (by rfl) (by kernel_rfl) (size_cellsOf _ _) (cellsOf_at _ _) (fun _ _ => rfl) ?_
               intro w4 hr4 ho4)
  have hb34 : Below w3.heap.size w3 w4 := ho4.below ((Below.refl _ _).alloc (Nat.le_refl _) _) (Nat.le_refl _)
  have HR4 := Lib.hid hr4
  have HR14 := Lib.hid (HR1.out.of_block (hb34.block _ HR1.out.lt))
  have HR04 := Lib.hid (HR0.out.of_block (hb34.block _ HR0.out.lt))
  have HW4 := Lib.hid (HW3.out.trans (hb34.mono HW3.out.size))
  clear hr4 ho4 hb34 HR1 HR0 HW3 HW2 HS HB2 HV2 HB1
  refine region_tail 2 (by kernel_rfl) (by kernel_rfl) ?_
  simp only [List.take_succ_cons, List.take_zero, List.drop_succ_cons, List.drop_zero]
  repeat still_step
  refine wpStill_nil ?_
  refine copy_row (by rfl) (.tmp 17) (.tmp 18) _ _ (by rfl) 5 Tryd.underlying23 (by kernel_rfl) (w.heap.size + 1) 2 _ 10 _ (w := w4.drew) HR14.out 8 8 (by rfl) (by omega) w3.heap.size 0 32 32 (by rfl) (fun j => .int .u8 ((digest (cat (fnL (head x)) 2 (fnL x)) (2 + x.length) j).toNat : Int)) (fun j hj => by rw [Nat.zero_add]; exact HR4.out.cell hj) (fun _ _ => rfl) 8 (by rfl) ?_
  intro w5 hr5 ho5
  have HR5 : Hid (w5.rowIs (w.heap.size + 1) 135 10 (fun j => .int .u8 ((fnL (hdr x) j).toNat : Int))) := Lib.hid (hr5.congr (fun i hi => by
    rw [hdr_at x i hi]
    by_cases h : 2 ≤ i ∧ i < 2 + 8
    · rw [if_pos h, if_pos h]
    · rw [if_neg h, if_neg h]))
  have HR05 : Hid (w5.rowIs w.heap.size 135 10 (fun _ => .int .u8 0)) := Lib.hid (HR04.out.of_block (ho5.block _ (by omega)))
  have HW5 := Lib.hid (ho5.below (B := w.heap.size) (w0 := w) (w := w4.drew) ⟨HW4.out.os, HW4.out.tape, HW4.out.output, HW4.out.size, HW4.out.block⟩ (by omega))
  clear hr5 ho5
  go_wp2_with (first
    | (refine load_whole (by rfl) 135 (.tmp 3) (by rfl) (w.heap.size + 1) _ 10 _ HR5.out (by rfl) _ Tryd.underlying135 rfl (by kernel_rfl) ?_)
    | (refine store_whole (by rfl) 135 (.tmp 2) (.tmp 20) (by rfl) w.heap.size _ 10 _ (fun j => .int .u8 ((fnL (hdr x) j).toNat : Int)) HR05.out (by rfl) _ (by rfl) (by kernel_rfl) (size_cellsOf _ _) (cellsOf_at _ _) (fun _ _ => rfl) ?_
       intro w6 hr6 ho6
       have HB6 := Lib.hid (ho6.below HW5.out (Nat.le_refl _))))
  exact bodyPost_ret (results_row rfl _ w.heap.size _ _ _ _ (by rfl) hr6 Tryd.underlying135 rfl (by kernel_rfl)) rfl ⟨rfl, HB6.out⟩
set_option maxRecDepth 100000 in
/-- encoded: header and record. -/
theorem jenc {w : World} (hk : Consts w) {gs : Nat} {x : By} {bv : Value} (hb : SliceOf w gs x.length (fnL x) bv) (hx : x.length ≤ 1000) :
    Calls Tryd.prog 75 #[bv] w fun y w' => ∃ v, y = .returned v ∧ BytesIn w' (fun b => w.heap.size ≤ b) (enc Dg x).length (fnL (enc Dg x)) v ∧ Below w.heap.size w w' := by
  have HH := Lib.hid (jhead hk hb hx)
  have HB := Lib.hid hb
  obtain ⟨A, c, rfl, -, -⟩ := hb
  clear hk
  go_enter Tryd.func75, Tryd.ntmps75
  go_wp2_with fail
  refine HH.out.mono ?_
  rintro _ w1 ⟨rfl, hb1⟩
  have HB1 := Lib.hid hb1
  have HS1 := Lib.hid (slice_below HB.out hb1)
  clear hb1
  go_wp2_with (first
    | (refine store_whole (by rfl) 135 (.tmp 3) (.tmp 5) (by rfl) w1.heap.size _ 10 (fun _ => .int .u8 0) (fun j => .int .u8 ((fnL (hdr x) j).toNat : Int)) (row_new w1 _ _ 10 _ (by rfl) zeros10) (by rfl) _ (by rfl) (by kernel_rfl) (size_cellsOf _ _) (cellsOf_at _ _) (fun _ _ => rfl) ?_
       intro w2 hr2 ho2
       have hb2 : Below w1.heap.size w1 w2 := ho2.below ((Below.refl _ _).alloc (Nat.le_refl _) _) (Nat.le_refl _)
       have HR2 := Lib.hid hr2
       have HS2 := Lib.hid (slice_below HS1.out hb2)
       have HW2 := Lib.hid (HB1.out.trans (hb2.mono HB1.out.size))
       clear hr2 ho2 hb2)
    | (refine append_full (by rfl) (.tmp 6) (.tmp 7) (by rfl) w1.heap.size 10 (fnL (hdr x)) (by rfl) (fun j hj => HR2.out.cell hj) _ x.length (fnL x) _ (by rfl) HS2.out (by omega) (fun b => w.heap.size ≤ b) HB1.out.size (fun b hb => Nat.le_trans HW2.out.size hb) ?_
       intro v3 w3 hv3 hb3
       have HV3 := Lib.hid hv3
       have HW3 := Lib.hid (HW2.out.trans (hb3.mono HW2.out.size))
       obtain ⟨A3, c3, hss, -, -⟩ := hv3
       subst hss
       clear hb3))
  go_ret
  refine ⟨_, rfl, ?_, HW3.out⟩
  rw [enc_hdr, fnL_app, List.length_append, hdr_len]
  exact HV3.out
end Go.Proofs.YtebchoeeohmlaaaDoor.Jour
namespace Go.Proofs.YtebchoeeohmlaaaDoor.Jour
open Go Go.RowKit Go.Proofs.YtebchoeeohmlaaaDoor.Aid Go.Proofs.YtebchoeeohmlaaaDoor.Sha Go.Proofs.YtebchoeeohmlaaaDoor.Cache Go.Proofs.YtebchoeeohmlaaaDoor.Store

/-- Records in blocks of K; no record lies where the list lies. -/
def RecsOwn (W : World) (K : Nat → Prop) (L : List By) (V : Value) : Prop :=
  ∃ rs, OwnV W 0 23 V rs ∧ rs.length = L.length ∧ (∀ b, V.ownBlock = some b → K b) ∧ ∀ (i : Nat) (x : By) (u : Value), L[i]? = some x → rs[i]? = some u → BytesIn W (fun b => K b ∧ V.ownBlock ≠ some b) x.length (fnL x) u
theorem RecsOwn.keep {W W' : World} {K : Nat → Prop} {L : List By} {V : Value} (h : RecsOwn W K L V) (hk : ∀ b, b < W.heap.size → K b → W'.heap[b]? = W.heap[b]?) : RecsOwn W' K L V := by
  obtain ⟨rs, h1, h2, h3, h4⟩ := h
  exact ⟨rs, h1.keep (fun b hb => hk b (h1.lt b hb).2 (h3 b hb)), h2, h3, fun i x u hx hu => (h4 i x u hx hu).keep (fun b hlt hb => hk b hlt hb.1)⟩
theorem RecsOwn.less {W : World} {K K' : Nat → Prop} {L : List By} {V : Value} (h : RecsOwn W K L V) (hk : ∀ b, b < W.heap.size → K b → K' b) : RecsOwn W K' L V := by
  obtain ⟨rs, h1, h2, h3, h4⟩ := h
  exact ⟨rs, h1, h2, fun b hb => hk b (h1.lt b hb).2 (h3 b hb), fun i x u hx hu => (h4 i x u hx hu).less (fun b hlt hb => ⟨hk b hlt hb.1, hb.2⟩)⟩
theorem RecsOwn.parts {W : World} {K : Nat → Prop} {L : List By} {V : Value} (h : RecsOwn W K L V) : PartsP W K L V := by
  obtain ⟨rs, h1, h2, h3, h4⟩ := h
  exact parts_own h1 h2 (fun i x u hx hu => (h4 i x u hx hu).less (fun _ _ hb => hb.1)) (fun _ h => h) h3
theorem RecsOwn.nil (W : World) (K : Nat → Prop) : RecsOwn W K [] (.slice none 0 0) := ⟨[], OwnV.nil _ _ _, rfl, fun b hb => (by cases hb), fun i x u hx => (by simp at hx)⟩
theorem RecsOwn.shape {W : World} {K : Nat → Prop} {L : List By} {V : Value} (h : RecsOwn W K L V) : ∃ A c, V = .slice A L.length c := by
  obtain ⟨rs, h1, h2, _⟩ := h
  obtain ⟨A, c, hv, _⟩ := h1.shape
  exact ⟨A, c, by rw [hv, h2]⟩
/-- While copies are laid: k of them. -/
def CopySt (w W : World) (g : Nat) (M : List By) (k : Nat) : Prop :=
  ∃ f : Nat → Value, W.rowIs g 23 M.length f ∧ Below w.heap.size w W ∧ ∀ (j : Nat) (x : By), j < k → M[j]? = some x → BytesIn W (fun b => w.heap.size ≤ b ∧ b ≠ g) x.length (fnL x) (f j)
theorem CopySt.done {w W : World} {g : Nat} {M : List By} (h : CopySt w W g M M.length) (hg : w.heap.size ≤ g) (hm : M.length ≤ 100000) : RecsOwn W (fun b => w.heap.size ≤ b) M (.slice (some ⟨g, 0, none⟩) M.length M.length) := by
  obtain ⟨f, hr, hb, hx⟩ := h
  have hl : ((List.range M.length).map f).length = M.length := by simp
  have own : OwnV W 0 23 (.slice (some ⟨g, 0, none⟩) M.length M.length) ((List.range M.length).map f) := by
    refine ⟨by simp, .inr ⟨g, M.length, cellsOf M.length f, by simp, Nat.zero_le _, row_heap hr, by simp, by simp only [maxLen]; omega, by simp [size_cellsOf], ?_⟩⟩
    simp only [cellsOf, hl, Nat.mul_one]
    exact List.take_of_length_le (by simp)
  refine ⟨_, own, hl, fun b hb => ?_, fun i x u hix hu => ?_⟩
  · have : g = b := by simpa [Value.ownBlock] using hb
    rw [← this]; exact hg
  · have hi := (List.getElem?_eq_some_iff.1 hix).1
    rw [List.getElem?_map, List.getElem?_range hi] at hu
    simp only [Option.map_some, Option.some.injEq] at hu
    subst hu
    refine (hx i x hi hix).less (fun b _ hb => ⟨hb.1, fun h => hb.2 ?_⟩)
    have : g = b := by simpa [Value.ownBlock] using h
    exact this.symm
theorem CopySt.put {w W W1 : World} {g k : Nat} {M : List By} {u : Value} {x : By} (h : CopySt w W g M k) (hb : Below W.heap.size W W1) (hg : w.heap.size ≤ g) (hx : M[k]? = some x) (hu : BytesIn W1 (fun b => W.heap.size ≤ b) x.length (fnL x) u) (hw : g < W.heap.size) : CopySt w (W1.setCell ⟨g, k, none⟩ u) g M (k + 1) := by
  obtain ⟨f, hr, hb0, hf⟩ := h
  have oth : ∀ b, b ≠ g → (W1.setCell ⟨g, k, none⟩ u).heap[b]? = W1.heap[b]? := fun b hb => heap_setCell_other _ _ _ _ (by simpa using hb)
  have hsz : (W1.setCell ⟨g, k, none⟩ u).heap.size = W1.heap.size := by simp [World.setCell]
  have hsz0 := hb0.size
  have hsz1 := hb.size
  refine ⟨_, (hr.of_block (hb.block g hw)).set k u, ⟨hb.os.trans hb0.os, hb.tape.trans hb0.tape, hb.output.trans hb0.output, by rw [hsz]; omega, fun b hlt => (oth b (by omega)).trans ((hb.block b (by omega)).trans (hb0.block b hlt))⟩, fun j y hj hy => ?_⟩
  by_cases hjk : j = k
  · subst hjk
    rw [hx] at hy
    cases hy
    rw [if_pos rfl]
    exact (hu.keep (fun b _ hb => oth b (by omega))).less (fun b _ hb => ⟨by omega, by omega⟩)
  · rw [if_neg hjk]
    exact ((hf j y (by omega) hy).below hb).keep (fun b _ hb => oth b hb.2)
set_option maxRecDepth 100000 in
set_option maxHeartbeats 1000000 in
/-- copyOfAll: copies of all, in memory of their own. -/
theorem jcopyAll {w : World} {P : Nat → Prop} {M : List By} {v : Value} (hM : PartsP w P M v) (hl : M.length ≤ 100000) (hs : ∀ x ∈ M, x.length ≤ 1000000) :
    Calls Tryd.prog 73 #[v] w fun y w' => ∃ V, y = .returned V ∧ RecsOwn w' (fun b => w.heap.size ≤ b) M V ∧ Below w.heap.size w w' := by
  obtain ⟨i5, hi5, hz5⟩ := Option.map_eq_some_iff.1 (show (Tryd.prog.info? 23).map (fun i => (i.zero, i.size, i.bytes)) = some (some (.slice none 0 0), 1, 24) by kernel_rfl)
  simp only [Prod.mk.injEq] at hz5
  have HP := Lib.hid hM
  have HS := Lib.hid hs
  obtain ⟨A, c, rfl, -⟩ := hM
  have HL := Lib.hid hl
  clear hl hs
  go_enter Tryd.func73, Tryd.ntmps73
  go_wp2_with (refine wpList_make_row w (by rfl) (.tmp 7) (.tmp 7) 80 (by rfl) 23 i5 (.slice none 0 0) Tryd.underlying80 hi5 hz5.1 hz5.2.1 (by rfl) .i64 .i64 M.length (by rfl) (by rfl) (by rw [hz5.2.2]; have := HL.out; omega) (by have := HL.out; omega) ?_)
  have HC0 : Hid (CopySt w (w.alloc (.cells (madeCells #[.slice none 0 0] M.length) 23)) w.heap.size M 0) := Lib.hid ⟨fun _ => .slice none 0 0, row_new w _ _ M.length _ (by simp [madeCells]) (fun j hj => by simp [madeCells, hj, Nat.mod_one]), (Below.refl _ _).alloc (Nat.le_refl _) _, fun j x hj => by omega⟩
  have HG0 : Hid (w.heap.size < (w.alloc (.cells (madeCells #[.slice none 0 0] M.length) 23)).heap.size) := Lib.hid (by simp)
  generalize (w.alloc (.cells (madeCells #[.slice none 0 0] M.length) 23)) = W0 at *
  go_loopw [11] (fun iv wr => ∃ k : Nat, k ≤ M.length ∧ iv = .int .i64 (k : Int) ∧ Hid (CopySt w wr w.heap.size M k ∧ w.heap.size < wr.heap.size)) (fun i _ => M.length - (intOf i).toNat)
  case atStart => exact ⟨0, by omega, rfl, Lib.hid ⟨HC0.out, HG0.out⟩⟩
  case round =>
    clear HC0 HG0
    obtain ⟨k, hk, rfl, hC⟩ := hrel
    by_cases hlt : k < M.length
    · obtain ⟨sb, so, A', c', rfl, ca, hx⟩ := PartsP.at_ HP.out k hlt
      have HXk := Lib.hid (List.getElem?_eq_getElem hlt)
      have HXs := Lib.hid (HS.out _ (List.getElem_mem hlt))
      generalize M[k] = x at *
      have hbw : Below w.heap.size w wr := by obtain ⟨f, -, h, -⟩ := hC.out.1; exact h
      have ca' := (hbw.cell (p := ⟨sb, so + k, none⟩) (block_lt_of_cell ca)).trans ca
      have HX := Lib.hid (hx.below hbw)
      have q0 : (0 : Int) ≤ (k : Int) := by omega
      have q1 : (k : Int) < (M.length : Int) := by omega
      clear ca hx hbw
      go_wp2_with fail
      refine (jcopy HX.out.slice (by have := HXs.out; omega)).mono ?_
      rintro _ w1 ⟨g1, rfl, ho1, hb1⟩
      have HN := Lib.hid (hC.out.1.put (u := .slice (some ⟨g1, 0, none⟩) x.length x.length) hb1 (Nat.le_refl _) HXk.out (by
        obtain ⟨hr, hge⟩ := row_of_own ho1
        exact ⟨_, _, rfl, Nat.le_refl _, fun _ => ⟨g1, 0, rfl, hge, fun j hj => by rw [Nat.zero_add]; exact hr.cell hj⟩⟩) hC.out.2)
      have HG1 : Hid (w.heap.size < w1.heap.size) := Lib.hid (Nat.lt_of_lt_of_le hC.out.2 hb1.size)
      have HG2 : Hid (w.heap.size < (w1.setCell ⟨w.heap.size, k, none⟩ (.slice (some ⟨g1, 0, none⟩) x.length x.length)).heap.size) := Lib.hid (by rw [show (w1.setCell ⟨w.heap.size, k, none⟩ (.slice (some ⟨g1, 0, none⟩) x.length x.length)).heap.size = w1.heap.size by simp [World.setCell]]; exact HG1.out)
      obtain ⟨f, hr, -, -⟩ := hC.out.1
      have hr1 := hr.of_block (hb1.block _ hC.out.2)
      have d0 := hr1.cell hlt
      have f0 := hr1.frozen k
      have z1 : k < M.length := hlt
      have hw : wrap64 ((k : Int) + 1) = (k : Int) + 1 := by unfold wrap64; have := HL.out; omega
      clear hr hr1 ho1 hb1 ca' hC
      go_wp2
      rw [hw]
      exact ⟨⟨k + 1, by omega, congrArg (Value.int .i64) (by omega), Lib.hid ⟨HN.out, HG2.out⟩⟩, by show M.length - ((k : Int) + 1).toNat < M.length - (k : Int).toNat; omega⟩
    · obtain rfl : k = M.length := by omega
      have q1 : ¬ (M.length : Int) < (M.length : Int) := by omega
      have HE := Lib.hid (hC.out.1.done (Nat.le_refl _) HL.out)
      have HB : Hid (Below w.heap.size w wr) := Lib.hid (by obtain ⟨f, -, h, -⟩ := hC.out.1; exact h)
      clear hC
      go_wp2
      go_ret
      exact ⟨_, rfl, HE.out, HB.out⟩
end Go.Proofs.YtebchoeeohmlaaaDoor.Jour
namespace Go.Proofs.YtebchoeeohmlaaaDoor.Jour
open Go Go.RowKit Go.Proofs.YtebchoeeohmlaaaDoor.Aid Go.Proofs.YtebchoeeohmlaaaDoor.Sha Go.Proofs.YtebchoeeohmlaaaDoor.Cache Go.Proofs.YtebchoeeohmlaaaDoor.Store

def jrP (s V : Value) (i : Nat) : Value := if i = 0 then s else V
theorem jrP0 (s V : Value) : jrP s V 0 = s := rfl
theorem jrP1 (s V : Value) : jrP s V 1 = V := rfl
structure OwnJ (W : World) (F : Nat → Prop) (g : Nat) (s V : Value) (L : List By) : Prop where
  row : W.rowIs g 129 2 (jrP s V)
  fg : F g
  lt : ∀ b, F b → b < W.heap.size
  recs : RecsOwn W (fun b => F b ∧ b ≠ g) L V
/-- A journal on a store s; a broken one has none. -/
def RepJO (W : World) (F : Nat → Prop) (j s : Value) (L : List By) : Prop := ∃ g V, j = .pointer (some ⟨g, 0, none⟩) ∧ OwnJ W F g s V L
section
variable {W W' : World} {F F' : Nat → Prop} {g : Nat} {s V : Value} {L : List By}
theorem OwnJ.kept (h : OwnJ W F g s V L) (hk : ∀ b, F b → W'.heap[b]? = W.heap[b]?) : OwnJ W' F g s V L :=
  ⟨h.row.of_block (hk g h.fg), h.fg, fun b hb => by
    have h1 := hk b hb
    rw [Array.getElem?_eq_getElem (h.lt b hb)] at h1
    exact (Array.getElem?_eq_some_iff.1 h1).1, h.recs.keep (fun b _ hb => hk b hb.1)⟩
theorem OwnJ.below (h : OwnJ W F g s V L) (hb : Below W.heap.size W W') : OwnJ W' F g s V L := h.kept (fun b hf => hb.block b (h.lt b hf))
/-- The store is let go of. -/
theorem OwnJ.brk (h : OwnJ W F g s V L) : OwnJ (W.setCell ⟨g, 0, none⟩ (.pointer none)) F g (.pointer none) V L ∧ Cache.Leaves F W (W.setCell ⟨g, 0, none⟩ (.pointer none)) := by
  have oth : ∀ b, b ≠ g → (W.setCell ⟨g, 0, none⟩ (.pointer none)).heap[b]? = W.heap[b]? := fun b hb => heap_setCell_other _ _ _ _ (by simpa using hb)
  have hsz : (W.setCell ⟨g, 0, none⟩ (.pointer none)).heap.size = W.heap.size := by simp [World.setCell]
  exact ⟨⟨(h.row.set 0 (.pointer none)).congr (fun i hi => by match i, hi with | 0, _ => rfl | 1, _ => rfl), h.fg, fun b hb => by rw [hsz]; exact h.lt b hb, h.recs.keep (fun b _ hb => oth b hb.2)⟩, ⟨rfl, rfl, rfl, by rw [hsz]; exact Nat.le_refl _, fun b _ hn => oth b (fun e => hn (e ▸ h.fg))⟩⟩
/-- Other records in the place of the old ones. -/
theorem OwnJ.fresh {W2 : World} {V' : Value} {L' : List By} {K : Nat → Prop} (h : OwnJ W F g s V L) (hb : Cache.Leaves (fun b => F b ∧ b ≠ g) W W2) (hr : RecsOwn W2 (fun b => (F b ∨ W.heap.size ≤ b) ∧ b ≠ g) L' V') (hK : ∀ b, b < W2.heap.size → F b ∨ W.heap.size ≤ b → K b) (hlt : ∀ b, K b → b < W2.heap.size) :
    OwnJ (W2.setCell ⟨g, 1, none⟩ V') K g s V' L' ∧ Cache.Leaves F W (W2.setCell ⟨g, 1, none⟩ V') := by
  have oth : ∀ b, b ≠ g → (W2.setCell ⟨g, 1, none⟩ V').heap[b]? = W2.heap[b]? := fun b hb => heap_setCell_other _ _ _ _ (by simpa using hb)
  have hsz : (W2.setCell ⟨g, 1, none⟩ V').heap.size = W2.heap.size := by simp [World.setCell]
  have hg : W2.heap[g]? = W.heap[g]? := hb.block g (h.lt g h.fg) (fun x => x.2 rfl)
  refine ⟨⟨((h.row.of_block hg).set 1 V').congr (fun i hi => by match i, hi with | 0, _ => rfl | 1, _ => rfl), hK g (Nat.lt_of_lt_of_le (h.lt g h.fg) hb.size) (.inl h.fg), fun b hb' => by rw [hsz]; exact hlt b hb', ?_⟩, ⟨hb.os, hb.tape, hb.output, by rw [hsz]; exact hb.size, fun b hlt' hn => (oth b (fun e => hn (e ▸ h.fg))).trans (hb.block b hlt' (fun x => hn x.1))⟩⟩
  exact (hr.keep (fun b _ hb' => oth b hb'.2)).less (fun b hlt' hb' => ⟨hK b (by rw [← hsz]; exact hlt') hb'.1, hb'.2⟩)
end
theorem jbroken {w : World} {F : Nat → Prop} {g : Nat} {p : Option Addr} {V : Value} {L : List By} (h : OwnJ w F g (.pointer p) V L) :
    Calls Tryd.prog 74 #[.pointer (some ⟨g, 0, none⟩)] w fun x w' => x = .returned (.bool p.isNone) ∧ w' = w := by
  have c0 := h.row.cell (i := 0) (by omega)
  rw [jrP0] at c0
  clear h
  cases p with
  | none =>
    go_enter Tryd.func74, Tryd.ntmps74
    go_wp2
    go_ret
    exact ⟨rfl, rfl⟩
  | some a =>
    go_enter Tryd.func74, Tryd.ntmps74
    go_wp2
    go_ret
    exact ⟨rfl, rfl⟩
/-- heed: a journal breaks on any error but a lack of room. -/
theorem jheed {w : World} {F : Nat → Prop} {g : Nat} {s V : Value} {L : List By} (h : OwnJ w F g s V L) (e : Int) :
    Calls Tryd.prog 76 #[.pointer (some ⟨g, 0, none⟩), .int .i64 e] w fun x w' => x = .returned (.int .i64 e) ∧ (e = 0 ∨ e = 7 → w' = w) ∧ (¬ (e = 0 ∨ e = 7) → OwnJ w' F g (.pointer none) V L) ∧ Cache.Leaves F w w' := by
  have HB := Lib.hid h.brk
  have c0 := h.row.cell (i := 0) (by omega)
  have f0 := h.row.frozen 0
  rw [jrP0] at c0
  clear h
  by_cases h0 : e = 0
  · subst h0
    go_enter Tryd.func76, Tryd.ntmps76
    go_wp2
    go_ret
    exact ⟨rfl, fun _ => rfl, fun hn => absurd (by simp) hn, Cache.Leaves.refl _ _⟩
  · by_cases h7 : e = 7
    · subst h7
      go_enter Tryd.func76, Tryd.ntmps76
      go_wp2
      go_ret
      exact ⟨rfl, fun _ => rfl, fun hn => absurd (by simp) hn, Cache.Leaves.refl _ _⟩
    · have q0 : (e != 0) = true := by simp [h0]
      have q7 : (e != 7) = true := by simp [h7]
      have HN : Hid (¬ (e = 0 ∨ e = 7)) := Lib.hid (fun h => h.elim h0 h7)
      clear h0 h7
      go_enter Tryd.func76, Tryd.ntmps76
      go_wp2
      go_ret
      exact ⟨rfl, fun hn => absurd hn HN.out, fun _ => HB.out.1, HB.out.2⟩
theorem jrecs {w : World} {F : Nat → Prop} {g : Nat} {s V : Value} {L : List By} (h : OwnJ w F g s V L) (hl : L.length ≤ 100000) (hs : ∀ x ∈ L, x.length ≤ 1000000) :
    Calls Tryd.prog 52 #[.pointer (some ⟨g, 0, none⟩)] w fun y w' => ∃ v, y = .returned v ∧ Below w.heap.size w w' ∧ PartsP w' (fun b => w.heap.size ≤ b) L v := by
  have c1 := h.row.cell (i := 1) (by omega)
  rw [jrP1] at c1
  have HC := Lib.hid (jcopyAll h.recs.parts hl hs)
  clear h hl hs
  go_enter Tryd.func52, Tryd.ntmps52
  go_wp2_with fail
  refine HC.out.mono ?_
  rintro _ w1 ⟨v, rfl, hr, hb⟩
  have HR := Lib.hid hr.parts
  have HB := Lib.hid hb
  clear hr hb HC
  go_wp2
  go_ret
  exact ⟨_, rfl, HB.out, HR.out⟩
end Go.Proofs.YtebchoeeohmlaaaDoor.Jour
namespace Go.Proofs.YtebchoeeohmlaaaDoor.Jour
open Go Go.RowKit Go.Proofs.YtebchoeeohmlaaaDoor.Aid Go.Proofs.YtebchoeeohmlaaaDoor.Sha Go.Proofs.YtebchoeeohmlaaaDoor.Cache Go.Proofs.YtebchoeeohmlaaaDoor.Store

theorem scanF_more (D : By → By) : ∀ (n k : Nat) (b : By), b.length ≤ n → n ≤ k → scanF D k b = scanF D n b
  | 0, k, b, hb, _ => by
    obtain rfl : b = [] := List.eq_nil_of_length_eq_zero (by omega)
    rw [scan_nil, scan_nil]
  | n + 1, k, b, hb, hk => by
    obtain ⟨k', rfl⟩ : ∃ k', k = k' + 1 := ⟨k - 1, by omega⟩
    match b, hb with
    | [], _ => rw [scan_nil, scan_nil]
    | [h], _ => rfl
    | h :: l :: r, hb =>
      have ih := scanF_more D n k' (r.drop (8 + (256 * h.toNat + l.toNat))) (by simp at hb ⊢; omega) (by omega)
      rw [scanF, scanF, ih]
theorem scan_empty (D : By → By) : scan D [] = some ([], []) := rfl
theorem scan_big (D : By → By) {b : By} (h : 1010 < sizeN b) : scan D b = none := by
  match b, h with
  | [], h => exact absurd h (by unfold sizeN; rw [if_pos (by simp)]; omega)
  | [x], h => exact absurd h (by unfold sizeN; rw [if_pos (by simp)]; omega)
  | x :: l :: r, h =>
    have hs : sizeN (x :: l :: r) = 10 + (256 * x.toNat + l.toNat) := by unfold sizeN; rw [if_neg (by simp)]; rfl
    rw [hs] at h
    show scanF D (r.length + 1 + 1) (x :: l :: r) = none
    rw [scanF, if_pos (by omega)]
theorem scan_short (D : By → By) {b : By} (h0 : 0 < b.length) (h1 : ¬ 1010 < sizeN b) (h2 : b.length < sizeN b) : scan D b = some ([], b) := by
  match b, h0, h1, h2 with
  | [x], _, _, _ => rfl
  | x :: l :: r, _, h1, h2 =>
    have hs : sizeN (x :: l :: r) = 10 + (256 * x.toNat + l.toNat) := by unfold sizeN; rw [if_neg (by simp)]; rfl
    rw [hs] at h1 h2
    simp only [List.length_cons] at h2
    show scanF D (r.length + 1 + 1) (x :: l :: r) = _
    rw [scanF, if_neg (by omega), if_pos (by omega)]
/-- The first record of bytes. -/
def recN (b : By) : By := (b.drop 10).take (sizeN b - 10)
theorem fnL_take (b : By) (n j : Nat) (h : j < n) : fnL (b.take n) j = fnL b j := by
  show (b.take n).getD j 0 = b.getD j 0
  rw [List.getD_eq_getElem?_getD, List.getD_eq_getElem?_getD, List.getElem?_take_of_lt h]
theorem fnL_drop (b : By) (n j : Nat) : fnL (b.drop n) j = fnL b (n + j) := by
  show (b.drop n).getD j 0 = b.getD (n + j) 0
  rw [List.getD_eq_getElem?_getD, List.getD_eq_getElem?_getD, List.getElem?_drop]
theorem rec_len {b : By} (h2 : sizeN b ≤ b.length) : (recN b).length = sizeN b - 10 := by
  unfold recN
  rw [List.length_take, List.length_drop]
  omega
theorem size_ge (b : By) : 10 ≤ sizeN b := by unfold sizeN; split <;> omega
theorem scan_rec {b : By} (h1 : ¬ 1010 < sizeN b) (h2 : sizeN b ≤ b.length) : scan Dg b = if sameUpto (fnL (hdr (recN b))) (fnL b) 10 = true then (scan Dg (b.drop (sizeN b))).map (fun p => (recN b :: p.1, p.2)) else none := by
  have hrl := rec_len h2
  have hge := size_ge b
  match b, h1, h2, hrl, hge with
  | [], _, h2, _, hge => simp at h2; omega
  | [x], _, h2, _, hge => simp at h2; omega
  | x :: l :: r, h1, h2, hrl, _ =>
    have hs : sizeN (x :: l :: r) = 10 + (256 * x.toNat + l.toNat) := by unfold sizeN; rw [if_neg (by simp)]; rfl
    have hx := x.isLt
    have hl := l.isLt
    rw [hs] at hrl h1 h2
    have h2' := h2
    simp only [List.length_cons] at h2'
    have hr : recN (x :: l :: r) = (r.drop 8).take (256 * x.toNat + l.toNat) := by unfold recN; rw [hs, Nat.add_sub_cancel_left]; rfl
    have hd : (x :: l :: r).drop (sizeN (x :: l :: r)) = r.drop (8 + (256 * x.toNat + l.toNat)) := by
      rw [hs, show 10 + (256 * x.toNat + l.toNat) = (8 + (256 * x.toNat + l.toNat)) + 1 + 1 by omega, List.drop_succ_cons, List.drop_succ_cons]
    have hh : head (recN (x :: l :: r)) = [x, l] := by
      unfold head
      rw [hrl, show 10 + (256 * x.toNat + l.toNat) - 10 = 256 * x.toNat + l.toNat by omega]
      congr 1
      · apply BitVec.eq_of_toNat_eq; rw [BitVec.toNat_ofNat]; omega
      · congr 1; apply BitVec.eq_of_toNat_eq; rw [BitVec.toNat_ofNat]; omega
    have hk : sameUpto (fnL (hdr (recN (x :: l :: r)))) (fnL (x :: l :: r)) 10 = true ↔ r.take 8 = Dg (x :: l :: recN (x :: l :: r)) := by
      have e1 : hdr (recN (x :: l :: r)) = x :: l :: Dg (x :: l :: recN (x :: l :: r)) := by unfold hdr; rw [hh]; rfl
      have e2 : (x :: l :: r).take 10 = x :: l :: r.take 8 := rfl
      unfold sameUpto
      rw [decide_eq_true_iff]
      constructor
      · intro h
        have : hdr (recN (x :: l :: r)) = (x :: l :: r).take 10 := rec_eq (by rw [hdr_len, List.length_take, List.length_cons, List.length_cons]; omega) (fun j hj => by
          rw [hdr_len] at hj
          rw [fnL_take _ _ _ hj]
          exact h j hj)
        rw [e1, e2] at this
        simp only [List.cons.injEq, true_and] at this
        exact this.symm
      · intro h j hj
        rw [← fnL_take (x :: l :: r) 10 j hj, e1, e2, h]
    rw [hd]
    show scanF Dg (r.length + 1 + 1) (x :: l :: r) = _
    rw [scanF, if_neg (by omega), if_neg (by omega), ← hr]
    by_cases h : r.take 8 = Dg (x :: l :: recN (x :: l :: r))
    · rw [if_pos h, if_pos (hk.2 h), scanF_more Dg (r.drop (8 + (256 * x.toNat + l.toNat))).length (r.length + 1) _ (Nat.le_refl _) (by rw [List.length_drop]; omega)]
      rfl
    · rw [if_neg h, if_neg (fun h' => h (hk.1 h'))]
/-- A record more. -/
theorem recs_snoc {W1 W2 : World} {K : Nat → Prop} {L : List By} {V V' : Value} {rs : List Value} {x : By} {u : Value} (h2 : rs.length = L.length) (h3 : ∀ b, V.ownBlock = some b → K b)
    (h4 : ∀ (i : Nat) (y : By) (q : Value), L[i]? = some y → rs[i]? = some q → BytesIn W1 (fun b => K b ∧ V.ownBlock ≠ some b) y.length (fnL y) q) (hu : BytesIn W1 (fun b => K b ∧ V.ownBlock ≠ some b) x.length (fnL x) u)
    (ho : OwnV W2 0 23 V' (rs ++ [u])) (hg : W1.grownBy W2 V.ownBlock) (hv : V'.ownBlock = V.ownBlock ∨ V'.ownBlock = some W1.heap.size) (hK : K W1.heap.size) : RecsOwn W2 K (L ++ [x]) V' := by
  refine ⟨rs ++ [u], ho, by simp [h2], fun b hb => ?_, fun i y q hy hq => ?_⟩
  · rcases hv with hv | hv
    · exact h3 b (hv ▸ hb)
    · rw [hv] at hb; cases hb; exact hK
  · have key : BytesIn W1 (fun b => K b ∧ V.ownBlock ≠ some b) y.length (fnL y) q := by
      by_cases hi : i < L.length
      · rw [List.getElem?_append_left hi] at hy
        rw [List.getElem?_append_left (by omega)] at hq
        exact h4 i y q hy hq
      · rw [List.getElem?_append_right (by omega)] at hy
        rw [List.getElem?_append_right (by omega), h2] at hq
        have h0 : i - L.length = 0 := by
          have := (List.getElem?_eq_some_iff.1 hy).1
          simp at this; omega
        rw [h0] at hy hq
        simp at hy hq
        subst hy hq
        exact hu
    have key2 : BytesIn W1 (fun b => K b ∧ V'.ownBlock ≠ some b ∧ V.ownBlock ≠ some b) y.length (fnL y) q := key.less (fun b hlt hb => ⟨hb.1, fun e => by
      rcases hv with hv | hv
      · exact hb.2 (hv ▸ e)
      · rw [hv] at e; cases e; omega, hb.2⟩)
    exact (key2.keep (fun b hlt hb => hg.block b hlt (fun e => hb.2.2 e.symm))).less (fun b _ hb => ⟨hb.1, hb.2.1⟩)
end Go.Proofs.YtebchoeeohmlaaaDoor.Jour
