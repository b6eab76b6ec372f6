/-
  What seal.keyed does: it gives two functions, which carry the two keys of a key and a label with them.
-/
import Derived.Test.YtfjoflpidmjkbaaDoorSealPlain
import Derived.Test.YtfjoflpidmjkbaaDoorSealParts
import Derived.Test.YtfjoflpidmjkbaaDoorRefXored
namespace Go.Proofs.YtfjoflpidmjkbaaDoor.Seal
open Go Go.RowKit Go.Proofs.YtfjoflpidmjkbaaDoor.Aid Go.Proofs.YtfjoflpidmjkbaaDoor.Sha Go.Proofs.YtfjoflpidmjkbaaDoor.Mac Go.Proofs.YtfjoflpidmjkbaaDoor.Aes Go.Proofs.YtfjoflpidmjkbaaDoor.Ctr

section
variable {P : Program} {w : World} {ops : Array Oper} {rest : List Oper} {op : Oper} {a : Act}
theorem range_bytes {sb so m : Nat} {e : Nat → BitVec 8} (h : ∀ j, j < m → w.cell? ⟨sb, so + j, none⟩ = some (.int .u8 ((e j).toNat : Int))) : w.rangeAt sb so ((List.range m).map fun j => Value.int .u8 ((e j).toNat : Int)) := by
  intro j v hv
  have hj : j < m := by have := (List.getElem?_eq_some_iff.1 hv).1; simpa using this
  rw [h j hj]
  simpa [hj] using hv
/-- A load of as many bytes as an array has, wherever they lie. -/
theorem load_bytes {Q : Exit → Act → World → Prop} (hgd : op.guard = none) (ty : TypeId) (x : Operand) (ho : op.op = .load ty x) (sb so m : Nat) (e : Nat → BitVec 8) (hc : ∀ j, j < m → w.cell? ⟨sb, so + j, none⟩ = some (.int .u8 ((e j).toNat : Int)))
    (hx : a.eval x = .pointer (some ⟨sb, so, none⟩)) (d : TypeDesc) (hu : P.underlying ty = some d) (hd : d.isRow = true) (hi : (P.info? ty).map (·.size) = some m)
    (hK : wpList P ops Q rest (a.put op.dst (.agg (byteRow m e))) w) : wpList P ops Q (op :: rest) a w :=
  wpList_load_mid hgd ty x ho sb so hx _ d (range_bytes hc) hu hd (by simpa using hi) hK
theorem still_bytes {Q : Act → Prop} (hgd : op.guard = none) (ty : TypeId) (x : Operand) (ho : op.op = .load ty x) (sb so m : Nat) (e : Nat → BitVec 8) (hc : ∀ j, j < m → w.cell? ⟨sb, so + j, none⟩ = some (.int .u8 ((e j).toNat : Int)))
    (hx : a.eval x = .pointer (some ⟨sb, so, none⟩)) (d : TypeDesc) (hu : P.underlying ty = some d) (hd : d.isRow = true) (hi : (P.info? ty).map (·.size) = some m)
    (h : wpStill P ops w Q rest (a.put op.dst (.agg (byteRow m e)))) : wpStill P ops w Q (op :: rest) a :=
  still_load hgd ty x ho sb so hx _ d (range_bytes hc) hu hd (by simpa using hi) h
end

theorem run_arrayAt' {P : Program} (arr e : TypeId) (n : Nat) (a : Option Addr) (len cap : Nat) (W : World) (h : P.underlying arr = some (.array n e)) (hn : n ≤ len) : (Instr.arrayAt arr (.slice a len cap)).run P W = .ok (.pointer a) W := by
  simp [Instr.arrayAt, run_underlying h, Nat.not_lt.2 hn]
/-- The two keys, where the two functions hold them. -/
structure Keyed (ks : Nat → BitVec 8) (be ba : Nat) (w : World) : Prop where
  enc : RowB w be 22 16 ks
  auth : ∃ g, w.cell? ⟨ba, 0, none⟩ = some (.slice (some ⟨g, 16, none⟩) 32 32) ∧ SliceOf w w.heap.size 32 (authB ks) (.slice (some ⟨g, 16, none⟩) 32 32)
theorem Keyed.below {ks : Nat → BitVec 8} {be ba : Nat} {w w' : World} (h : Keyed ks be ba w) (hb : Below w.heap.size w w') : Keyed ks be ba w' := by
  obtain ⟨g, h1, h2⟩ := h.auth
  exact ⟨World.rowIs.of_block h.enc (hb.block _ (World.rowIs.lt h.enc)), g, (hb.cell (p := ⟨ba, 0, none⟩) (block_lt_of_cell h1)).trans h1, slice_any (slice_below h2 hb) (Nat.le_refl _)⟩
def flipF (be : Nat) : Value := .func (.func 20) #[] #[.pointer (some ⟨be, 0, none⟩)]
def codeF (ba : Nat) : Value := .func (.func 22) #[] #[.pointer (some ⟨ba, 0, none⟩)]

set_option maxRecDepth 100000 in
set_option maxHeartbeats 1000000 in
theorem keyed_any (key : Nat → BitVec 8) (s : ByteArray) (hs : s.size ≤ 1000) (C : Array Value) (hC : C.size = 16) (hc : ∀ i, i < 16 → C[i]? = some (.int .u8 ((key i).toNat : Int))) (w : World) (hk : Consts w) :
    Calls Tryd.prog 13 #[.agg C, .string s] w fun x w' => ∃ be ba, x = .returned (.tuple #[flipF be, codeF ba]) ∧ Keyed (keysB key s) be ba w' ∧ Below w.heap.size w w' := by
  have h1 : ∃ w1, w1 = w.alloc (.cells C 23) ∧ SliceOf w1 w1.heap.size 16 key (.slice (some ⟨w.heap.size, 0, none⟩) 16 16) ∧ Below w.heap.size w w1 := by
    have hr := row_new w C 23 16 (fun j => .int .u8 ((key j).toNat : Int)) hC hc
    exact ⟨_, rfl, ⟨_, 16, rfl, by omega, fun _ => ⟨w.heap.size, 0, rfl, by simp, fun j hj => by rw [Nat.zero_add]; exact hr.cell hj⟩⟩, (Below.refl _ _).alloc (Nat.le_refl _) _⟩
  obtain ⟨w1, hw1, hs1, hb1⟩ := h1
  have k1 := fun b W => all_run (P := Tryd.prog) 23 5 16 Tryd.underlying23 (by kernel_rfl) b 0 W
  have hps : (pre ++ s).size ≤ 100000 := by rw [ByteArray.size_append]; show 9 + s.size ≤ _; omega
  clear hc hC
  go_enter Tryd.func13, Tryd.ntmps13
  go_wp2_with fail
  rw [← hw1]
  refine (expand_any key (some ⟨w.heap.size, 0, none⟩) 16 16 (pre ++ s) 48 w1 (hk.below hb1 (Nat.le_refl _)) hs1 (by omega) hps (by omega)).mono ?_
  rintro x w2 ⟨v2, rfl, hown2, hb2⟩
  obtain ⟨ks, hks⟩ : ∃ ks, ks = keysB key s := ⟨_, rfl⟩
  rw [show output (padKey key 16) (strByte (pre ++ s)) (pre ++ s).size = ks from hks.symm] at hown2
  have Hks := Lib.hid hks
  rcases hown2.form with ⟨_, h0⟩ | ⟨g, cap, cur, rfl, hg1, hg2, hcap, hh, hcur, hce⟩
  · omega
  have ce : ∀ j, j < 48 → w2.cell? ⟨g, 0 + j, none⟩ = some (.int .u8 ((ks j).toNat : Int)) := fun j hj => by rw [Nat.zero_add, cell_of_row w2 g j cur _ _ hh]; exact hce j hj
  have hb2' := hb1.trans (hb2.mono hb1.size)
  have k2 := fun W => head3_run (P := Tryd.prog) 25 5 Tryd.underlying25 (by kernel_rfl) g 0 48 cap 16 16 (by omega) (by omega) 16 16 .i64 .i64 W rfl rfl
  obtain ⟨o3, _, hA3, k3⟩ := cut3_run (P := Tryd.prog) 25 5 Tryd.underlying25 (by kernel_rfl) g 0 48 cap 16 48 48 (by omega) (by omega) (by omega)
  obtain rfl := hA3 (by omega)
  have k3' := fun W => k3 16 48 48 .i64 .i64 .i64 W rfl rfl rfl
  have k4 := fun W => run_arrayAt' (P := Tryd.prog) 22 5 16 (some ⟨g, 0, none⟩) 16 16 W Tryd.underlying22 (by omega)
  have Hce := Lib.hid ce
  clear hs1 hb1 hw1 hown2 hb2 hh hcur hce hA3 k3 k1 ce hks hg1 hcap hps
  go_wp2_with (first
    | (refine load_bytes (by rfl) 22 (.tmp 19) (by rfl) g 0 16 ks (fun j hj => Hce.out j (by omega)) (by rfl) _ Tryd.underlying22 rfl (by kernel_rfl) ?_)
    | (refine store_whole (by rfl) 22 (.tmp 8) (.tmp 20) (by rfl) w2.heap.size _ 16 (fun _ => .int .u8 0) (fun j => .int .u8 ((ks j).toNat : Int)) (by exact row_new w2 _ _ 16 _ (by rfl) (zeros16 _ (by rfl))) (by rfl) _ (by rfl) (by kernel_rfl) (size_cellsOf _ _) (cellsOf_at _ _) (fun _ _ => rfl) ?_
       intro w3 hr3 ho3))
  have hb3 : Below w.heap.size w w3 := ho3.below (hb2'.alloc hb2'.size _) hb2'.size
  have b23 : Below w2.heap.size w2 w3 := ho3.below ((Below.refl _ _).alloc (Nat.le_refl _) _) (Nat.le_refl _)
  have b24 := b23.alloc b23.size (.cells #[.slice (some ⟨g, 16, none⟩) 32 32] 25)
  go_ret2
  refine ⟨w2.heap.size, w3.heap.size, rfl, ⟨?_, g, ?_, ⟨_, 32, rfl, Nat.le_refl _, fun _ => ⟨g, 16, rfl, ?_, fun j hj => ?_⟩⟩⟩, hb3.alloc hb3.size _⟩
  · rw [← Hks.out]
    exact World.rowIs.alloc hr3 _
  · rw [World.cell?_alloc_new]; rfl
  · have := b24.size; omega
  · have h1 := Hce.out (16 + j) (by omega)
    rw [Nat.zero_add] at h1
    rw [b24.cell (p := ⟨g, 16 + j, none⟩) hg2, h1, Hks.out]
    rfl
end Go.Proofs.YtfjoflpidmjkbaaDoor.Seal
