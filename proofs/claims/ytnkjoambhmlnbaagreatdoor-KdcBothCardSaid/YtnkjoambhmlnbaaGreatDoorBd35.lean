/-
  What the two functions of seal.keyed do: they flip, and tell the code, each by its own key. What seal.Seal does: the sealed form, or why not. What seal.Open does: the plaintext of a sealed form, or why not. What seal.Seal and seal.Open do of any arguments, in one form each.
-/
import Derived.Test.YtnkjoambhmlnbaaGreatDoorBd31
import Derived.Test.YtnkjoambhmlnbaaGreatDoorBd34
import Derived.Test.YtnkjoambhmlnbaaGreatDoorBd36
namespace Go.Proofs.YtnkjoambhmlnbaaGreatDoor.Seal
open Go Go.RowKit Go.Proofs.YtnkjoambhmlnbaaGreatDoor.Aid Go.Proofs.YtnkjoambhmlnbaaGreatDoor.Sha Go.Proofs.YtnkjoambhmlnbaaGreatDoor.Mac Go.Proofs.YtnkjoambhmlnbaaGreatDoor.Aes Go.Proofs.YtnkjoambhmlnbaaGreatDoor.Ctr Go.Proofs.YtnkjoambhmlnbaaGreatDoor.Law01

set_option maxRecDepth 100000 in
set_option maxHeartbeats 1000000 in
theorem flipOf_any (ks first e : Nat → BitVec 8) (be sb so c1 n d : Nat) (B : Option Addr) (w : World) (hk : RowB w be 24 16 ks) (hf : ∀ j, j < 16 → w.cell? ⟨sb, so + j, none⟩ = some (.int .u8 ((first j).toNat : Int)))
    (hs : SliceOf w w.heap.size n e (.slice B n d)) (hn : n ≤ 1000) :
    Calls Tryz.prog 74 #[.slice (some ⟨sb, so, none⟩) 16 c1, .slice B n d, .pointer (some ⟨be, 0, none⟩)] w fun x w' => ∃ A' c', x = .returned (.slice A' n c') ∧ SliceOf w' w'.heap.size n (flipB ks first e) (.slice A' n c') ∧ Below w.heap.size w w' := by
  have k4 := fun W => run_arrayAt' (P := Tryz.prog) 24 5 16 (some ⟨sb, so, none⟩) 16 c1 W Tryz.underlying24 (by omega)
  have hk1 : RowB w.drew be 24 16 ks := hk
  have hf1 : ∀ j, j < 16 → w.drew.cell? ⟨sb, so + j, none⟩ = some (.int .u8 ((first j).toNat : Int)) := hf
  have hs1 : SliceOf w.drew w.drew.heap.size n e (.slice B n d) := hs
  have hb1 : Below w.heap.size w w.drew := (Below.refl _ _).drew
  have HF := Lib.hid hf1
  clear hk hf hs hf1
  go_enter Tryz.func74, Tryz.ntmps74
  go_wp2
  refine region_tail 5 (by kernel_rfl) (by kernel_rfl) ?_
  generalize w.drew = w1 at *
  refine still_bytes (by rfl) 24 (.tmp 2) (by rfl) be 0 16 ks (fun j hj => by rw [Nat.zero_add]; exact World.rowIs.cell hk1 hj) (by rfl) _ Tryz.underlying24 rfl (by kernel_rfl) ?_
  repeat still_step
  refine still_bytes (by rfl) 24 (.tmp 8) (by rfl) sb so 16 first HF.out (by rfl) _ Tryz.underlying24 rfl (by kernel_rfl) ?_
  repeat still_step
  refine wpStill_nil ?_
  go_wp2_with fail
  refine (ctrFlip_any ks first e _ _ (size_cellsOf _ _) (cellsOf_at _ _) (size_cellsOf _ _) (cellsOf_at _ _) B n d w1 hs1 hn).mono ?_
  rintro x w2 ⟨A', c', rfl, hsl, hb2⟩
  go_wp2
  go_ret
  exact ⟨A', c', rfl, hsl, hb1.trans (hb2.mono hb1.size)⟩

set_option maxRecDepth 100000 in
set_option maxHeartbeats 1000000 in
theorem codeOf_any (ks : Nat → BitVec 8) (be ba k : Nat) (m : Nat → Nat) (e : Nat → Nat → BitVec 8) (v : Value) (w : World) (hc : Consts w) (hk : Keyed ks be ba w) (hp : PartsOf w k m e v) (hoff : off m k ≤ 1000000) (hkk : k ≤ 1000000) :
    Calls Tryz.prog 76 #[v, .pointer (some ⟨ba, 0, none⟩)] w fun x w' => x = .returned (.agg (byteCells 32 (code (authB ks) 32 (catAll m e k) (off m k)))) ∧ Below w.heap.size w w' := by
  have h1 : ∃ w1, w1 = w.alloc (.cells (Array.replicate 32 (.int .u8 0)) 101) ∧ w1.rowIs w.heap.size 101 32 (fun _ => .int .u8 0) ∧ Below w.heap.size w w1 :=
    ⟨_, rfl, row_new w _ _ 32 _ (by simp) (zeros32 _ rfl), (Below.refl _ _).alloc (Nat.le_refl _) _⟩
  obtain ⟨w1, hw1, hr1, hb1⟩ := h1
  have hc1 := hc.below hb1 (Nat.le_refl _)
  obtain ⟨g, hg1, hs1⟩ := hk.auth
  have hga : ∀ o, (w.alloc o).cell? ⟨ba, 0, none⟩ = some (.slice (some ⟨g, 16, none⟩) 32 32) := fun o => (((Below.refl w.heap.size w).alloc (Nat.le_refl _) o).cell (p := ⟨ba, 0, none⟩) (block_lt_of_cell hg1)).trans hg1
  have hs1 := slice_any (slice_below hs1 hb1) (Nat.le_refl _)
  have hp1 : PartsOf w1 k m e v := by
    obtain ⟨A, c, rfl, h⟩ := hp
    refine ⟨A, c, rfl, fun h0 => ?_⟩
    obtain ⟨sb, so, hA, h⟩ := h h0
    refine ⟨sb, so, hA, fun i hi => ?_⟩
    obtain ⟨u, hu, hs⟩ := h i hi
    exact ⟨u, (hb1.cell (p := ⟨sb, so + i, none⟩) (block_lt_of_cell hu)).trans hu, slice_any (slice_below hs hb1) (Nat.le_refl _)⟩
  have hmac := mac_any (authB ks) (some ⟨g, 16, none⟩) 32 32 w1.heap.size k m e v w1 hc1 hs1 (by omega) hp1 hoff hkk
  have Hmac := Lib.hid hmac
  clear hk hc hc1 hs1 hp hp1 hmac hg1
  go_enter Tryz.func76, Tryz.ntmps76
  go_wp2_with fail
  change Calls Tryz.prog 77 _ (w.alloc (.cells (Array.replicate 32 (.int .u8 0)) 101)) _
  rw [← hw1]
  refine Hmac.out.mono ?_
  rintro x w2 ⟨rfl, hb2⟩
  have hr2 := hr1.of_block (hb2.block _ hr1.lt)
  have hb2' := hb1.trans (hb2.mono hb1.size)
  clear hr1 hb1 hb2 hw1 hga Hmac
  go_wp2_with (refine store_whole (by rfl) 101 (.tmp 3) (.tmp 6) (by rfl) w.heap.size _ 32 _ (fun t => .int .u8 ((code (authB ks) 32 (catAll m e k) (off m k) t).toNat : Int)) hr2 (by rfl) _ (by rfl) (by kernel_rfl) (size_cellsOf _ _) (cellsOf_at _ _) (fun _ _ => rfl) ?_
               intro w3 hr3 ho3)
  exact bodyPost_ret (results_row rfl _ w.heap.size _ _ _ _ (by rfl) hr3 Tryz.underlying101 rfl (by kernel_rfl)) rfl ⟨rfl, ho3.below hb2' (Nat.le_refl _)⟩
end Go.Proofs.YtnkjoambhmlnbaaGreatDoor.Seal
namespace Go.Proofs.YtnkjoambhmlnbaaGreatDoor.Seal
open Go Go.RowKit Go.Proofs.YtnkjoambhmlnbaaGreatDoor.Aid Go.Proofs.YtnkjoambhmlnbaaGreatDoor.Sha Go.Proofs.YtnkjoambhmlnbaaGreatDoor.Mac Go.Proofs.YtnkjoambhmlnbaaGreatDoor.Aes Go.Proofs.YtnkjoambhmlnbaaGreatDoor.Ctr Go.Proofs.YtnkjoambhmlnbaaGreatDoor.Law01

/-- m bytes of e from place o on, in f. -/
def putB (f : Nat → BitVec 8) (o m : Nat) (e : Nat → BitVec 8) (j : Nat) : BitVec 8 := if o ≤ j ∧ j < o + m then e (j - o) else f j
section
variable {w : World} {ops : Array Oper} {rest : List Oper} {op : Oper} {a : Act} {Q : Exit → Act → World → Prop}
/-- 'copy(dst, src)': as many bytes as dst has, dst a part of a row. -/
theorem copy_bytes (hgd : op.guard = none) (d s : Operand) (ho : op.op = .call { callee := .builtin .copy, args := #[d, s], argTypes := #[28, 28] })
    (g o t N m cd : Nat) (f e : Nat → BitVec 8) (h : RowB w g t N f) (o' : Nat) (hd : a.eval d = .slice (some ⟨g, o', none⟩) m cd) (ho' : 0 < m → o' = o) (hN : o + m ≤ N) (gs : Nat) (v : Value) (hs : a.eval s = v) (hv : SliceOf w gs m e v)
    (hK : ∀ w', RowB w' g t N (putB f o m e) → Only g w w' → wpList Tryz.prog ops Q rest (a.put op.dst (.int .i64 (m : Int))) w') : wpList Tryz.prog ops Q (op :: rest) a w := by
  obtain ⟨A, c, rfl, hc, hr⟩ := hv
  by_cases h0 : 0 < m
  · obtain ⟨sb, so, rfl, _, hcell⟩ := hr h0
    obtain rfl := ho' h0
    refine copy_row hgd d s _ _ ho 5 Tryz.underlying28 (by kernel_rfl) g o' _ N _ h m cd hd hN sb so m c hs (fun j => .int .u8 ((e j).toNat : Int)) hcell (fun _ _ => rfl) m (Nat.min_self m).symm ?_
    intro w' hr' ho'
    refine hK w' (hr'.congr (fun i hi => ?_)) ho'
    unfold putB
    by_cases hi' : o' ≤ i ∧ i < o' + m
    · rw [if_pos hi', if_pos hi']
    · rw [if_neg hi', if_neg hi']
  · obtain rfl : m = 0 := by omega
    refine wpList_copy_nothing hgd d s _ _ ho 5 Tryz.underlying28 (by kernel_rfl) _ A 0 cd 0 c hd hs (by rfl) ?_
    exact hK w (World.rowIs.congr h (fun i _ => by unfold putB; rw [if_neg (by omega)])) ⟨rfl, rfl, rfl, rfl, fun _ _ => rfl⟩
theorem make_bytes (hgd : op.guard = none) (l c : Operand) (ho : op.op = .makeSlice 28 l c) (kl kc : IntKind) (n : Nat) (hl : a.eval l = .int kl (n : Int)) (hc : a.eval c = .int kc (n : Int)) (hn : n ≤ 1099511627776)
    (hK : ∀ w', RowB w' w.heap.size 5 n (fun _ => 0) → Below w.heap.size w w' → wpList Tryz.prog ops Q rest (a.put op.dst (.slice (some ⟨w.heap.size, 0, none⟩) n n)) w') : wpList Tryz.prog ops Q (op :: rest) a w := by
  obtain ⟨i5, hi5, hz5⟩ := Option.map_eq_some_iff.1 info_u8
  simp only [Prod.mk.injEq] at hz5
  refine wpList_make_row w hgd l c 28 ho 5 i5 (.int .u8 0) Tryz.underlying28 hi5 hz5.1 hz5.2.1 (by rfl) kl kc n hl hc (by rw [hz5.2.2]; omega) (by omega) ?_
  refine hK _ (row_new w _ _ n _ (by simp [madeCells]) (fun j hj => ?_)) ((Below.refl _ _).alloc (Nat.le_refl _) _)
  simp [madeCells, hj, Nat.mod_one]
end

/-- The code of two parts is that of both, one behind the other. -/
theorem code_two (K a b : Nat → BitVec 8) (l x y : Nat) : code K l (catAll (three x y 0) (three a b (fun _ => 0)) 2) (off (three x y 0) 2) = code K l (cat a x b) (x + y) := by
  rw [show off (three x y 0) 2 = x + y by show 0 + x + y = _; omega]
  refine code_congr _ _ _ _ _ _ (fun _ _ => rfl) (fun j hj => ?_)
  show cat (cat (fun _ => 0) 0 a) (0 + x) b j = _
  rw [Nat.zero_add]
  by_cases h1 : j < x
  · rw [cat_lt _ _ _ _ h1, cat_lt _ _ _ _ h1, cat_ge _ _ _ _ (by omega), Nat.sub_zero]
  · rw [cat_ge _ _ _ _ (by omega), cat_ge _ _ _ _ (by omega)]
theorem put_in (f e : Nat → BitVec 8) (o m j : Nat) (h : o ≤ j ∧ j < o + m) : putB f o m e j = e (j - o) := by unfold putB; rw [if_pos h]
theorem put_out (f e : Nat → BitVec 8) (o m j : Nat) (h : ¬ (o ≤ j ∧ j < o + m)) : putB f o m e j = f j := by unfold putB; rw [if_neg h]
/-- The three parts, put one behind the other, are the sealed form. -/
theorem put_form (z ks first e : Nat → BitVec 8) (n j : Nat) (hj : j < 48 + n) : putB (putB (putB z 0 16 first) 16 n (flipB ks first e)) (16 + n) 32 (code (authB ks) 32 (cat first 16 (flipB ks first e)) (16 + n)) j = formB ks first e n j := by
  by_cases h1 : j < 16
  · rw [put_out _ _ _ _ _ (by omega), put_out _ _ _ _ _ (by omega), put_in _ _ _ _ _ (by omega), form_first _ _ _ _ _ h1, Nat.sub_zero]
  · by_cases h2 : j < 16 + n
    · rw [put_out _ _ _ _ _ (by omega), put_in _ _ _ _ _ (by omega), ← form_mid ks first e n (j - 16) (by omega), show 16 + (j - 16) = j by omega]
    · rw [put_in _ _ _ _ _ (by omega)]
      have := form_code ks first e n (j - (16 + n))
      rw [show 16 + n + (j - (16 + n)) = j by omega] at this
      exact this.symm
/-- A part of a row, as a slice. -/
theorem row_slice {w : World} {g t N : Nat} {f : Nat → BitVec 8} (h : RowB w g t N f) (o m c : Nat) (o' : Nat) (ho : 0 < m → o' = o) (hm : o + m ≤ N) (hc : m ≤ c) : SliceOf w w.heap.size m (fun j => f (o + j)) (.slice (some ⟨g, o', none⟩) m c) :=
  ⟨_, _, rfl, hc, fun h0 => ⟨g, o, by rw [ho h0], by have := World.rowIs.lt h; omega, fun j hj => World.rowIs.cell h (by omega)⟩⟩

set_option maxRecDepth 100000 in
theorem seal_arg (s : ByteArray) (h : ¬ (1 ≤ s.size ∧ s.size ≤ 40)) (C F : Array Value) (B : Option Addr) (n d : Nat) (w : World) :
    Calls Tryz.prog 25 #[.agg C, .string s, .agg F, .slice B n d] w fun x w' => x = .returned (.tuple #[.slice none 0 0, .int .i64 1]) ∧ Below w.heap.size w w' := by
  have e0 : decide (1 ≤ s.size ∧ s.size ≤ 40) = false := decide_eq_false h
  have hb : Below w.heap.size w ((w.alloc (.cells C 25)).alloc (.cells F 25)) := ((Below.refl _ _).alloc (Nat.le_refl _) _).alloc (by simp) _
  go_enter Tryz.func25, Tryz.ntmps25
  go_wp2_with (go_at_call 47
               refine (valid_any s _).mono ?_
               rintro x w1 ⟨rfl, rfl⟩
               rw [e0])
  go_ret2
  exact ⟨rfl, hb⟩
set_option maxRecDepth 100000 in
theorem seal_full (s : ByteArray) (h : 1 ≤ s.size ∧ s.size ≤ 40) (C F : Array Value) (B : Option Addr) (n d : Nat) (hn : 1000 < n) (w : World) :
    Calls Tryz.prog 25 #[.agg C, .string s, .agg F, .slice B n d] w fun x w' => x = .returned (.tuple #[.slice none 0 0, .int .i64 7]) ∧ Below w.heap.size w w' := by
  have e0 : decide (1 ≤ s.size ∧ s.size ≤ 40) = true := decide_eq_true h
  have hb : Below w.heap.size w ((w.alloc (.cells C 25)).alloc (.cells F 25)) := ((Below.refl _ _).alloc (Nat.le_refl _) _).alloc (by simp) _
  have q0 : (1000 : Int) < (n : Int) := by omega
  go_enter Tryz.func25, Tryz.ntmps25
  go_wp2_with (go_at_call 47
               refine (valid_any s _).mono ?_
               rintro x w1 ⟨rfl, rfl⟩
               rw [e0])
  go_ret2
  exact ⟨rfl, hb⟩

set_option maxRecDepth 100000 in
set_option maxHeartbeats 2000000 in
theorem seal_ok (key first e : Nat → BitVec 8) (s : ByteArray) (h : 1 ≤ s.size ∧ s.size ≤ 40) (C F : Array Value) (hC : C.size = 16) (hCi : ∀ i, i < 16 → C[i]? = some (.int .u8 ((key i).toNat : Int)))
    (hF : F.size = 16) (hFi : ∀ i, i < 16 → F[i]? = some (.int .u8 ((first i).toNat : Int))) (B : Option Addr) (n d : Nat) (w : World) (hk : Consts w) (hp : SliceOf w w.heap.size n e (.slice B n d)) (hn : n ≤ 1000) :
    Calls Tryz.prog 25 #[.agg C, .string s, .agg F, .slice B n d] w fun x w' => ∃ g, x = .returned (.tuple #[.slice (some ⟨g, 0, none⟩) (48 + n) (48 + n), .int .i64 0]) ∧
      RowB w' g 5 (48 + n) (formB (keysB key s) first e n) ∧ w.heap.size ≤ g ∧ Below w.heap.size w w' := by
  have e0 : decide (1 ≤ s.size ∧ s.size ≤ 40) = true := decide_eq_true h
  have q0 : ¬ (1000 : Int) < (n : Int) := by omega
  have q1 : IntKind.i64.wrap (48 + (n : Int)) = 48 + (n : Int) := IntWalk.i64_in _ (by omega)
  have h1 : ∃ w1, w1 = (w.alloc (.cells C 25)).alloc (.cells F 25) ∧ RowB w1 w.heap.size 25 16 key ∧ RowB w1 (w.heap.size + 1) 25 16 first ∧ Below w.heap.size w w1 := by
    have r2 := row_new (w.alloc (.cells C 25)) F 25 16 (fun j => .int .u8 ((first j).toNat : Int)) hF hFi
    rw [World.size_alloc] at r2
    exact ⟨_, rfl, (row_new w C 25 16 (fun j => .int .u8 ((key j).toNat : Int)) hC hCi).alloc _, r2, ((Below.refl _ _).alloc (Nat.le_refl _) _).alloc (by simp) _⟩
  obtain ⟨w1, hw1, hr1, hr2, hb1⟩ := h1
  have hp1 := slice_any (slice_below hp hb1) (Nat.le_refl _)
  have hk1 := hk.below hb1 (Nat.le_refl _)
  clear hCi hFi hC hF hp hk
  go_enter Tryz.func25, Tryz.ntmps25
  go_wp2_with (first
    | (go_at_call 47
       rw [← hw1]
       clear hw1
       refine (valid_any s w1).mono ?_
       rintro x w2 ⟨rfl, rfl⟩
       rw [e0])
    | (refine load_whole (by rfl) 25 (.tmp 4) (by rfl) _ _ _ _ hr1 (by rfl) _ Tryz.underlying25 rfl (by kernel_rfl) ?_))
  rename_i w1
  refine (keyed_any key s (by omega) _ (size_cellsOf _ _) (cellsOf_at _ _) _ hk1).mono ?_
  rintro x w5 ⟨be, ba, rfl, hkd, hb5⟩
  unfold flipF codeF
  have hr5 := World.rowIs.of_block hr2 (hb5.block _ (World.rowIs.lt hr2))
  have hp5 := slice_any (slice_below hp1 hb5) (Nat.le_refl _)
  have hk5 := hk1.below hb5 (Nat.le_refl _)
  have hb5' := hb1.trans (hb5.mono hb1.size)
  obtain ⟨g, hg⟩ : ∃ g, g = w5.heap.size := ⟨_, rfl⟩
  have hgl := hb5'.size
  have k1 := fun b W => all_run (P := Tryz.prog) 25 5 16 Tryz.underlying25 (by kernel_rfl) b 0 W
  clear hr1 hr2 hp1 hk1 hb1 hb5
  go_wp2_with (at_make
               refine make_bytes (by rfl) (.tmp 31) (.tmp 31) (by rfl) .i64 .i64 (48 + n) (by show Value.int .i64 _ = _; congr 1) (by show Value.int .i64 _ = _; congr 1) (by omega) ?_
               intro w6 hr6 hb6)
  refine (parts_any w5.heap.size 0 (48 + n) (48 + n) (by omega) (by omega) (by omega) w6).mono ?_
  rintro x w7 ⟨o, _, ho, rfl, rfl⟩
  rw [Nat.add_sub_cancel_left] at ho ⊢
  rw [show 0 + (48 + n - 32) = 16 + n by omega]
  have hr7 : RowB w6.drew w5.heap.size 5 (48 + n) (fun _ => 0) := hr6
  have hb7 : Below w5.heap.size w5 w6.drew := hb6.drew
  generalize w6.drew = w7 at *
  have hF7 := World.rowIs.of_block hr5 (hb7.block _ (World.rowIs.lt hr5))
  have hs7 : SliceOf w7 w7.heap.size 16 first (.slice (some ⟨w.heap.size + 1, 0, none⟩) 16 16) := ⟨_, _, rfl, by omega, fun _ => ⟨_, 0, rfl, by have := World.rowIs.lt hF7; omega, fun j hj => by rw [Nat.zero_add]; exact World.rowIs.cell hF7 hj⟩⟩
  clear hr6 hb6 hF7
  go_wp2_with (refine copy_bytes (by rfl) (.tmp 39) (.tmp 40) (by rfl) w5.heap.size 0 5 (48 + n) 16 16 _ first hr7 0 (by rfl) (fun _ => rfl) (by omega) w7.heap.size _ (by rfl) hs7 ?_
               intro w8 hr8 ho8)
  have hb8 : Below w5.heap.size w5 w8 := ho8.below hb7 (Nat.le_refl _)
  refine (flipOf_any (keysB key s) first e be _ 0 16 n d B w8 (hkd.below hb8).enc (fun j hj => by rw [Nat.zero_add, World.rowIs.cell hr8 (by omega), put_in _ _ _ _ _ (by omega)]; rfl) (slice_any (slice_below hp5 hb8) (Nat.le_refl _)) hn).mono ?_
  rintro x w9 ⟨A9, c9, rfl, hs9, hb9⟩
  have hr9 := World.rowIs.of_block hr8 (hb9.block _ (World.rowIs.lt hr8))
  have hb9' := hb8.trans (hb9.mono hb8.size)
  clear hs7 hr7 hb7 hr8 ho8 hb8 hb9 hr5 hp5
  go_wp2_with (refine copy_bytes (by rfl) (.tmp 42) (.tmp 46) (by rfl) w5.heap.size 16 5 (48 + n) n n _ (flipB (keysB key s) first e) hr9 o (by rfl) (fun h => by have := ho h; omega) (by omega) w9.heap.size _ (by rfl) hs9 ?_
               intro w10 hr10 ho10)
  have hb10 : Below w5.heap.size w5 w10 := ho10.below hb9' (Nat.le_refl _)
  have hv0 := SliceOf.congr (e' := first) (row_slice hr10 0 16 16 0 (fun _ => rfl) (by omega) (Nat.le_refl _)) (fun j hj => by rw [put_out _ _ _ _ _ (by omega), put_in _ _ _ _ _ (by omega)]; congr 1; omega)
  have hv1 := SliceOf.congr (e' := flipB (keysB key s) first e) (row_slice hr10 16 n n o (fun h => by have := ho h; omega) (by omega) (Nat.le_refl _)) (fun j hj => by rw [put_in _ _ _ _ _ (by omega)]; congr 1; omega)
  have hpt := Law02.parts_two w10 (three 16 n 0) (three first (flipB (keysB key s) first e) (fun _ => 0)) _ _ hv0 hv1
  have hb11 := hb10.alloc hb10.size (.cells #[.slice (some ⟨w5.heap.size, 0, none⟩) 16 16, .slice (some ⟨w5.heap.size, o, none⟩) n n] 28)
  have hr11 := World.rowIs.alloc hr10 (.cells #[.slice (some ⟨w5.heap.size, 0, none⟩) 16 16, .slice (some ⟨w5.heap.size, o, none⟩) n n] 28)
  generalize w10.alloc (.cells #[.slice (some ⟨w5.heap.size, 0, none⟩) 16 16, .slice (some ⟨w5.heap.size, o, none⟩) n n] 28) = w11 at *
  refine (codeOf_any (keysB key s) be ba 2 _ _ _ w11 (hk5.below hb11 (Nat.le_refl _)) (hkd.below hb11) hpt (show 0 + 16 + n ≤ _ by omega) (by omega)).mono ?_
  rw [code_two]
  obtain ⟨D, hD⟩ : ∃ D, D = code (authB (keysB key s)) 32 (cat first 16 (flipB (keysB key s) first e)) (16 + n) := ⟨_, rfl⟩
  rw [← hD]
  have HD := Lib.hid hD
  rintro x w12 ⟨rfl, hb12⟩
  have hr12 := World.rowIs.of_block hr11 (hb12.block _ (World.rowIs.lt hr11))
  have hb12' := hb11.trans (hb12.mono hb11.size)
  have k2 := fun b W => all_run (P := Tryz.prog) 101 5 32 Tryz.underlying101 (by kernel_rfl) b 0 W
  clear hb9' hr9 hs9 hr10 ho10 hb10 hv0 hv1 hpt hb11 hr11 hb12 hD k1
  go_wp2_with (first
    | (refine store_whole (by rfl) 101 (.tmp 16) (.tmp 52) (by rfl) w12.heap.size _ 32 (fun _ => .int .u8 0) (fun j => .int .u8 ((D j).toNat : Int)) (by exact row_new w12 _ _ 32 _ (by rfl) (zeros32 _ (by rfl))) (by rfl) _ (by rfl) (by kernel_rfl) (size_cellsOf _ _) (cellsOf_at _ _) (fun _ _ => rfl) ?_
       intro w13 hr13 ho13
       have hb13 := ho13.below (hb12'.alloc hb12'.size _) hb12'.size
       have hx13 := ho13.row (World.rowIs.alloc hr12 _) (Nat.ne_of_lt (World.rowIs.lt hr12))
       have hs13 : SliceOf w13 w13.heap.size 32 D (.slice (some ⟨w12.heap.size, 0, none⟩) 32 32) := ⟨_, _, rfl, by omega, fun _ => ⟨_, 0, rfl, by have := World.rowIs.lt hr13; omega, fun j hj => by rw [Nat.zero_add]; exact World.rowIs.cell hr13 hj⟩⟩
       clear ho13 hr12 hb12')
    | (refine copy_bytes (by rfl) (.tmp 53) (.tmp 54) (by rfl) w5.heap.size (16 + n) 5 (48 + n) 32 32 _ D hx13 (16 + n) (by rfl) (fun _ => rfl) (by omega) w13.heap.size _ (by rfl) hs13 ?_
       intro w14 hr14 ho14))
  go_ret2
  refine ⟨w5.heap.size, rfl, World.rowIs.congr hr14 (fun j hj => ?_), hgl, hb5'.trans ((ho14.below hb13 (Nat.le_refl _)).mono hb5'.size)⟩
  rw [HD.out, put_form _ _ _ _ _ _ hj]
end Go.Proofs.YtnkjoambhmlnbaaGreatDoor.Seal
namespace Go.Proofs.YtnkjoambhmlnbaaGreatDoor.Seal
open Go Go.RowKit Go.Proofs.YtnkjoambhmlnbaaGreatDoor.Aid Go.Proofs.YtnkjoambhmlnbaaGreatDoor.Sha Go.Proofs.YtnkjoambhmlnbaaGreatDoor.Mac Go.Proofs.YtnkjoambhmlnbaaGreatDoor.Aes Go.Proofs.YtnkjoambhmlnbaaGreatDoor.Ctr Go.Proofs.YtnkjoambhmlnbaaGreatDoor.Law01

set_option maxRecDepth 100000 in
theorem open_arg (s : ByteArray) (h : ¬ (1 ≤ s.size ∧ s.size ≤ 40)) (C : Array Value) (B : Option Addr) (m d : Nat) (w : World) :
    Calls Tryz.prog 22 #[.agg C, .string s, .slice B m d] w fun x w' => x = .returned (.tuple #[.slice none 0 0, .int .i64 1]) ∧ Below w.heap.size w w' := by
  have e0 : decide (1 ≤ s.size ∧ s.size ≤ 40) = false := decide_eq_false h
  have hb : Below w.heap.size w (w.alloc (.cells C 25)) := (Below.refl _ _).alloc (Nat.le_refl _) _
  go_enter Tryz.func22, Tryz.ntmps22
  go_wp2_with (go_at_call 47
               refine (valid_any s _).mono ?_
               rintro x w1 ⟨rfl, rfl⟩
               rw [e0])
  go_ret2
  exact ⟨rfl, hb⟩
set_option maxRecDepth 100000 in
theorem open_short (s : ByteArray) (h : 1 ≤ s.size ∧ s.size ≤ 40) (C : Array Value) (B : Option Addr) (m d : Nat) (hm : m < 48) (w : World) :
    Calls Tryz.prog 22 #[.agg C, .string s, .slice B m d] w fun x w' => x = .returned (.tuple #[.slice none 0 0, .int .i64 2]) ∧ Below w.heap.size w w' := by
  have e0 : decide (1 ≤ s.size ∧ s.size ≤ 40) = true := decide_eq_true h
  have hb : Below w.heap.size w (w.alloc (.cells C 25)) := (Below.refl _ _).alloc (Nat.le_refl _) _
  have q0 : (m : Int) < 48 := by omega
  go_enter Tryz.func22, Tryz.ntmps22
  go_wp2_with (go_at_call 47
               refine (valid_any s _).mono ?_
               rintro x w1 ⟨rfl, rfl⟩
               rw [e0])
  go_ret2
  exact ⟨rfl, hb⟩
set_option maxRecDepth 100000 in
theorem open_full (s : ByteArray) (h : 1 ≤ s.size ∧ s.size ≤ 40) (C : Array Value) (B : Option Addr) (m d : Nat) (hm : 1048 < m) (w : World) :
    Calls Tryz.prog 22 #[.agg C, .string s, .slice B m d] w fun x w' => x = .returned (.tuple #[.slice none 0 0, .int .i64 7]) ∧ Below w.heap.size w w' := by
  have e0 : decide (1 ≤ s.size ∧ s.size ≤ 40) = true := decide_eq_true h
  have hb : Below w.heap.size w (w.alloc (.cells C 25)) := (Below.refl _ _).alloc (Nat.le_refl _) _
  have q0 : ¬ (m : Int) < 48 := by omega
  have q1 : (1048 : Int) < (m : Int) := by omega
  go_enter Tryz.func22, Tryz.ntmps22
  go_wp2_with (go_at_call 47
               refine (valid_any s _).mono ?_
               rintro x w1 ⟨rfl, rfl⟩
               rw [e0])
  go_ret2
  exact ⟨rfl, hb⟩

/-- A part of bytes that were there, as a slice, in any later world. -/
theorem part_slice {w W : World} {sb so m : Nat} {e : Nat → BitVec 8} (hc : ∀ j, j < m → w.cell? ⟨sb, so + j, none⟩ = some (.int .u8 ((e j).toNat : Int))) (hb : Below w.heap.size w W) (a k c o : Nat) (ho : 0 < k → o = so + a) (hk : a + k ≤ m) (hkc : k ≤ c) :
    SliceOf W W.heap.size k (fun j => e (a + j)) (.slice (some ⟨sb, o, none⟩) k c) := by
  refine ⟨_, _, rfl, hkc, fun h0 => ⟨sb, o, rfl, ?_, fun j hj => ?_⟩⟩
  · have h1 : sb < w.heap.size := block_lt_of_cell (hc 0 (by omega))
    have := hb.size
    omega
  · have h1 := hc (a + j) (by omega)
    rw [ho h0, Nat.add_assoc]
    exact (hb.cell (p := ⟨sb, so + (a + j), none⟩) (block_lt_of_cell h1)).trans h1

/-- What Open answers of bytes that may be a sealed form. -/
def OpenPost (ks e : Nat → BitVec 8) (m : Nat) (w : World) (x : Ending) (w' : World) : Prop :=
  (okB ks e m = true ∧ ∃ A c, x = .returned (.tuple #[.slice A (m - 48) c, .int .i64 0]) ∧ SliceOf w' w'.heap.size (m - 48) (openB ks e) (.slice A (m - 48) c) ∧ Below w.heap.size w w') ∨
  (okB ks e m = false ∧ x = .returned (.tuple #[.slice none 0 0, .int .i64 6]) ∧ Below w.heap.size w w')

set_option maxRecDepth 100000 in
set_option maxHeartbeats 2000000 in
theorem open_ok (key e : Nat → BitVec 8) (s : ByteArray) (h : 1 ≤ s.size ∧ s.size ≤ 40) (C : Array Value) (hC : C.size = 16) (hCi : ∀ i, i < 16 → C[i]? = some (.int .u8 ((key i).toNat : Int)))
    (B : Option Addr) (m d : Nat) (w : World) (hk : Consts w) (hp : SliceOf w w.heap.size m e (.slice B m d)) (hm : 48 ≤ m) (hm2 : m ≤ 1048) :
    Calls Tryz.prog 22 #[.agg C, .string s, .slice B m d] w (OpenPost (keysB key s) e m w) := by
  have e0 : decide (1 ≤ s.size ∧ s.size ≤ 40) = true := decide_eq_true h
  have q0 : ¬ (m : Int) < 48 := by omega
  have q1 : ¬ (1048 : Int) < (m : Int) := by omega
  have h1 : ∃ w1, w1 = w.alloc (.cells C 25) ∧ RowB w1 w.heap.size 25 16 key ∧ Below w.heap.size w w1 :=
    ⟨_, rfl, row_new w C 25 16 (fun j => .int .u8 ((key j).toNat : Int)) hC hCi, (Below.refl _ _).alloc (Nat.le_refl _) _⟩
  obtain ⟨w1, hw1, hr1, hb1⟩ := h1
  have hk1 := hk.below hb1 (Nat.le_refl _)
  obtain ⟨B', d', eB, hmd, hB⟩ := hp
  simp only [Value.slice.injEq, true_and] at eB
  obtain ⟨rfl, rfl⟩ := eB
  obtain ⟨sb, so, rfl, _, hcell⟩ := hB (by omega)
  have hsb : sb < w.heap.size := block_lt_of_cell (hcell 0 (by omega))
  have Hcell := Lib.hid hcell
  clear hCi hC hk hcell hB
  go_enter Tryz.func22, Tryz.ntmps22
  go_wp2_with (first
    | (go_at_call 47
       rw [← hw1]
       clear hw1
       refine (valid_any s w1).mono ?_
       rintro x w2 ⟨rfl, rfl⟩
       rw [e0])
    | (refine load_whole (by rfl) 25 (.tmp 3) (by rfl) _ _ _ _ hr1 (by rfl) _ Tryz.underlying25 rfl (by kernel_rfl) ?_))
  rename_i w1
  refine (keyed_any key s (by omega) _ (size_cellsOf _ _) (cellsOf_at _ _) _ hk1).mono ?_
  rintro x w5 ⟨be, ba, rfl, hkd, hb5⟩
  unfold flipF codeF
  have hk5 := hk1.below hb5 (Nat.le_refl _)
  have hb5' := hb1.trans (hb5.mono hb1.size)
  have hgl := hb5'.size
  clear hr1 hk1 hb1 hb5
  go_wp2_with fail
  refine (parts_any sb so m d (by omega) (by omega) hmd w5).mono ?_
  rintro x w6 ⟨o, _, ho, rfl, rfl⟩
  have hk6 : Consts w5.drew := hk5.drew
  have hkd6 : Keyed (keysB key s) be ba w5.drew := hkd.below (Below.refl _ _).drew
  have hb6 : Below w.heap.size w w5.drew := hb5'.drew
  generalize w5.drew = w6 at *
  clear hk5 hkd hb5' hgl
  go_wp2_with fail
  have hv0 := SliceOf.congr (e' := e) (part_slice Hcell.out hb6 0 16 16 so (fun _ => rfl) (by omega) (Nat.le_refl _)) (fun j hj => by rw [Nat.zero_add])
  have hv1 := part_slice Hcell.out hb6 16 (m - 48) (m - 48) o (fun h => ho (by omega)) (by omega) (Nat.le_refl _)
  have hpt := Law02.parts_two w6 (three 16 (m - 48) 0) (three e (fun j => e (16 + j)) (fun _ => 0)) _ _ hv0 hv1
  have h67 := (Below.refl w6.heap.size w6).alloc (Nat.le_refl _) (.cells #[.slice (some ⟨sb, so, none⟩) 16 16, .slice (some ⟨sb, o, none⟩) (m - 48) (m - 48)] 28)
  generalize w6.alloc (.cells #[.slice (some ⟨sb, so, none⟩) 16 16, .slice (some ⟨sb, o, none⟩) (m - 48) (m - 48)] 28) = w7 at *
  have hb7 := hb6.trans (h67.mono hb6.size)
  have hkd7 := hkd6.below h67
  refine (codeOf_any (keysB key s) be ba 2 _ _ _ w7 (hk6.below h67 (Nat.le_refl _)) hkd7 hpt (show 0 + 16 + (m - 48) ≤ _ by omega) (by omega)).mono ?_
  rw [code_two]
  obtain ⟨D, hD⟩ : ∃ D, D = code (authB (keysB key s)) 32 (cat e 16 (fun j => e (16 + j))) (16 + (m - 48)) := ⟨_, rfl⟩
  rw [← hD]
  have hok : okB (keysB key s) e m = sameBytes 32 32 D (fun j => e (m - 32 + j)) := by
    unfold okB
    refine same_congr (fun j _ => ?_) (fun _ _ => rfl)
    rw [hD, show 16 + (m - 48) = m - 32 by omega]
    refine congrFun (code_congr _ _ _ _ _ _ (fun _ _ => rfl) (fun i hi => ?_)) j
    by_cases h16 : i < 16
    · rw [cat_lt _ _ _ _ h16]
    · rw [cat_ge _ _ _ _ (by omega), show 16 + (i - 16) = i by omega]
  clear hD
  rintro x w8 ⟨rfl, hb8⟩
  have hkd8 := hkd7.below hb8
  have hb8' := hb7.trans (hb8.mono hb7.size)
  have k2 := fun b W => all_run (P := Tryz.prog) 101 5 32 Tryz.underlying101 (by kernel_rfl) b 0 W
  clear hv0 hv1 hpt h67 hb6 hkd6 hk6 hkd7 hb7 hb8
  go_wp2_with (refine store_whole (by rfl) 101 (.tmp 13) (.tmp 39) (by rfl) w8.heap.size _ 32 (fun _ => .int .u8 0) (fun j => .int .u8 ((D j).toNat : Int)) (by exact row_new w8 _ _ 32 _ (by rfl) (zeros32 _ (by rfl))) (by rfl) _ (by rfl) (by kernel_rfl) (size_cellsOf _ _) (cellsOf_at _ _) (fun _ _ => rfl) ?_
               intro w9 hr9 ho9)
  have hb9 := ho9.below (hb8'.alloc hb8'.size _) hb8'.size
  have h89 : Below w8.heap.size w8 w9 := ho9.below ((Below.refl _ _).alloc (Nat.le_refl _) _) (Nat.le_refl _)
  have hkd9 := hkd8.below h89
  have hs9 : SliceOf w9 w9.heap.size 32 D (.slice (some ⟨w8.heap.size, 0, none⟩) 32 32) := ⟨_, _, rfl, by omega, fun _ => ⟨_, 0, rfl, by have := World.rowIs.lt hr9; omega, fun j hj => by rw [Nat.zero_add]; exact World.rowIs.cell hr9 hj⟩⟩
  have hv9 := part_slice Hcell.out hb9 (m - 32) 32 32 (so + (m - 32)) (fun _ => rfl) (by omega) (Nat.le_refl _)
  refine (equal_any _ _ 32 32 32 32 D (fun j => e (m - 32 + j)) _ _ w9 hs9 hv9 (by omega) (by omega)).mono ?_
  rw [← hok]
  rintro x w10 ⟨rfl, q, rfl⟩
  have hkd10 := hkd9.below (below_drewN (Below.refl _ _) q)
  have hb10 := below_drewN hb9 q
  generalize w9.drewN q = w10 at *
  clear hkd8 hb8' k2 hr9 ho9 hb9 h89 hkd9 hs9 hv9 hok
  by_cases hy : okB (keysB key s) e m = true
  · rw [hy]
    go_wp2_with fail
    refine (flipOf_any (keysB key s) e (fun j => e (16 + j)) be sb so 16 (m - 48) (m - 48) _ w10 hkd10.enc (fun j hj => (hb10.cell (p := ⟨sb, so + j, none⟩) hsb).trans (Hcell.out j (by omega))) (part_slice Hcell.out hb10 16 (m - 48) (m - 48) o (fun h => ho (by omega)) (by omega) (Nat.le_refl _)) (by omega)).mono ?_
    rintro x w11 ⟨A11, c11, rfl, hs11, hb11⟩
    go_wp2
    go_ret2
    exact .inl ⟨hy, A11, c11, rfl, hs11, hb10.trans (hb11.mono hb10.size)⟩
  · have hn : okB (keysB key s) e m = false := by simpa using hy
    rw [hn]
    go_wp2
    go_ret2
    exact .inr ⟨hn, rfl, hb10⟩
end Go.Proofs.YtnkjoambhmlnbaaGreatDoor.Seal
namespace Go.Proofs.YtnkjoambhmlnbaaGreatDoor.Law05
open Go Go.RowKit Go.Proofs.YtnkjoambhmlnbaaGreatDoor.Aid Go.Proofs.YtnkjoambhmlnbaaGreatDoor.Sha Go.Proofs.YtnkjoambhmlnbaaGreatDoor.Mac Go.Proofs.YtnkjoambhmlnbaaGreatDoor.Aes Go.Proofs.YtnkjoambhmlnbaaGreatDoor.Ctr Go.Proofs.YtnkjoambhmlnbaaGreatDoor.Law01 Go.Proofs.YtnkjoambhmlnbaaGreatDoor.Seal

/-- What Seal tells: the error, and how many bytes. -/
def sealCode (s : ByteArray) (n : Nat) : Nat := if 1 ≤ s.size ∧ s.size ≤ 40 then (if 1000 < n then 7 else 0) else 1
def sealLen (s : ByteArray) (n : Nat) : Nat := if sealCode s n = 0 then 48 + n else 0
def SealPost (key first e : Nat → BitVec 8) (s : ByteArray) (n : Nat) (w : World) (x : Ending) (w' : World) : Prop :=
  ∃ A c, x = .returned (.tuple #[.slice A (sealLen s n) c, .int .i64 (sealCode s n : Int)]) ∧ SliceOf w' w'.heap.size (sealLen s n) (formB (keysB key s) first e n) (.slice A (sealLen s n) c) ∧ Below w.heap.size w w'
theorem post_err {key first e : Nat → BitVec 8} {s : ByteArray} {n k : Nat} {w : World} {x : Ending} {w' : World} (hc : sealCode s n = k) (hk : k ≠ 0) (h : x = .returned (.tuple #[.slice none 0 0, .int .i64 (k : Int)]) ∧ Below w.heap.size w w') : SealPost key first e s n w x w' := by
  have hl : sealLen s n = 0 := by unfold sealLen; rw [hc, if_neg hk]
  unfold SealPost
  rw [hl, hc]
  exact ⟨none, 0, h.1, SliceOf.nil _ _ _, h.2⟩
theorem post_form {key first e : Nat → BitVec 8} {s : ByteArray} {n : Nat} {w : World} {x : Ending} {w' : World} (hc : sealCode s n = 0) (v : Value) (h : x = .returned (.tuple #[v, .int .i64 0])) (hs : SliceOf w' w'.heap.size (48 + n) (formB (keysB key s) first e n) v) (hb : Below w.heap.size w w') : SealPost key first e s n w x w' := by
  have hl : sealLen s n = 48 + n := by unfold sealLen; rw [hc, if_pos rfl]
  obtain ⟨A, c, rfl⟩ := slice_shape hs
  unfold SealPost
  rw [hl, hc]
  exact ⟨A, c, h, hs, hb⟩
theorem seal_all (key first e : Nat → BitVec 8) (s : ByteArray) (C F : Array Value) (hC : C.size = 16) (hCi : ∀ i, i < 16 → C[i]? = some (.int .u8 ((key i).toNat : Int))) (hF : F.size = 16) (hFi : ∀ i, i < 16 → F[i]? = some (.int .u8 ((first i).toNat : Int))) (B : Option Addr) (n d : Nat) (w : World) (hk : Consts w) (hp : SliceOf w w.heap.size n e (.slice B n d)) :
    Calls Tryz.prog 25 #[.agg C, .string s, .agg F, .slice B n d] w (SealPost key first e s n w) := by
  by_cases h1 : 1 ≤ s.size ∧ s.size ≤ 40
  · by_cases h2 : 1000 < n
    · exact (seal_full s h1 C F B n d h2 w).mono fun x w' h => post_err (k := 7) (by unfold sealCode; rw [if_pos h1, if_pos h2]) (by omega) h
    · refine (seal_ok key first e s h1 C F hC hCi hF hFi B n d w hk hp (by omega)).mono ?_
      rintro x w' ⟨g, hx, hr, _, hb⟩
      exact post_form (by unfold sealCode; rw [if_pos h1, if_neg h2]) _ hx (SliceOf.congr (row_slice hr 0 (48 + n) (48 + n) 0 (fun _ => rfl) (by omega) (Nat.le_refl _)) (fun j _ => by rw [Nat.zero_add])) hb
  · exact (seal_arg s h1 C F B n d w).mono fun x w' h => post_err (k := 1) (by unfold sealCode; rw [if_neg h1]) (by omega) h
/-- What Open tells. -/
def openCode (ks e : Nat → BitVec 8) (s : ByteArray) (m : Nat) : Nat := if 1 ≤ s.size ∧ s.size ≤ 40 then (if m < 48 then 2 else if 1048 < m then 7 else if okB ks e m = true then 0 else 6) else 1
def openLen (ks e : Nat → BitVec 8) (s : ByteArray) (m : Nat) : Nat := if openCode ks e s m = 0 then m - 48 else 0
def OpenAll (ks e : Nat → BitVec 8) (s : ByteArray) (m : Nat) (w : World) (x : Ending) (w' : World) : Prop :=
  ∃ A c, x = .returned (.tuple #[.slice A (openLen ks e s m) c, .int .i64 (openCode ks e s m : Int)]) ∧ SliceOf w' w'.heap.size (openLen ks e s m) (openB ks e) (.slice A (openLen ks e s m) c) ∧ Below w.heap.size w w'
theorem all_err {ks e : Nat → BitVec 8} {s : ByteArray} {m k : Nat} {w : World} {x : Ending} {w' : World} (hc : openCode ks e s m = k) (hk : k ≠ 0) (h : x = .returned (.tuple #[.slice none 0 0, .int .i64 (k : Int)]) ∧ Below w.heap.size w w') : OpenAll ks e s m w x w' := by
  have hl : openLen ks e s m = 0 := by unfold openLen; rw [hc, if_neg hk]
  unfold OpenAll
  rw [hl, hc]
  exact ⟨none, 0, h.1, SliceOf.nil _ _ _, h.2⟩
theorem all_post {ks e : Nat → BitVec 8} {s : ByteArray} {m : Nat} {w : World} {x : Ending} {w' : World} (h1 : 1 ≤ s.size ∧ s.size ≤ 40) (h2 : ¬ m < 48) (h3 : ¬ 1048 < m) (h : OpenPost ks e m w x w') : OpenAll ks e s m w x w' := by
  rcases h with ⟨hok, A, c, hx, hs, hb⟩ | ⟨hno, hx, hb⟩
  · have hc : openCode ks e s m = 0 := by unfold openCode; rw [if_pos h1, if_neg h2, if_neg h3, if_pos hok]
    have hl : openLen ks e s m = m - 48 := by unfold openLen; rw [hc, if_pos rfl]
    unfold OpenAll
    rw [hl, hc]
    exact ⟨A, c, hx, hs, hb⟩
  · exact all_err (k := 6) (by unfold openCode; rw [if_pos h1, if_neg h2, if_neg h3, if_neg (by rw [hno]; simp)]) (by omega) ⟨hx, hb⟩
theorem open_all (key e : Nat → BitVec 8) (s : ByteArray) (C : Array Value) (hC : C.size = 16) (hCi : ∀ i, i < 16 → C[i]? = some (.int .u8 ((key i).toNat : Int))) (B : Option Addr) (m d : Nat) (w : World) (hk : Consts w) (hp : SliceOf w w.heap.size m e (.slice B m d)) :
    Calls Tryz.prog 22 #[.agg C, .string s, .slice B m d] w (OpenAll (keysB key s) e s m w) := by
  by_cases h1 : 1 ≤ s.size ∧ s.size ≤ 40
  · by_cases h2 : m < 48
    · exact (open_short s h1 C B m d h2 w).mono fun x w' h => all_err (k := 2) (by unfold openCode; rw [if_pos h1, if_pos h2]) (by omega) h
    · by_cases h3 : 1048 < m
      · exact (open_full s h1 C B m d h3 w).mono fun x w' h => all_err (k := 7) (by unfold openCode; rw [if_pos h1, if_neg h2, if_pos h3]) (by omega) h
      · exact (open_ok key e s h1 C hC hCi B m d w hk hp (by omega) (by omega)).mono fun x w' h => all_post h1 h2 h3 h
  · exact (open_arg s h1 C B m d w).mono fun x w' h => all_err (k := 1) (by unfold openCode; rw [if_neg h1]) (by omega) h
theorem sealLen_le (s : ByteArray) (n : Nat) : sealLen s n ≤ 48 + n := by unfold sealLen; split <;> omega
theorem openLen_le (ks e : Nat → BitVec 8) (s : ByteArray) (m : Nat) : openLen ks e s m ≤ m := by unfold openLen; split <;> omega
end Go.Proofs.YtnkjoambhmlnbaaGreatDoor.Law05
