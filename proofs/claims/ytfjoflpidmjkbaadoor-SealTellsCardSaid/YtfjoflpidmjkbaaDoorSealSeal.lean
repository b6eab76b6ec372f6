/-
  What seal.Seal does: the sealed form, or why not.
-/
import Derived.Test.YtfjoflpidmjkbaaDoorSealFns
import Derived.Test.YtfjoflpidmjkbaaDoorLit
namespace Go.Proofs.YtfjoflpidmjkbaaDoor.Seal
open Go Go.RowKit Go.Proofs.YtfjoflpidmjkbaaDoor.Aid Go.Proofs.YtfjoflpidmjkbaaDoor.Sha Go.Proofs.YtfjoflpidmjkbaaDoor.Mac Go.Proofs.YtfjoflpidmjkbaaDoor.Aes Go.Proofs.YtfjoflpidmjkbaaDoor.Ctr Go.Proofs.YtfjoflpidmjkbaaDoor.Law01

/-- m bytes of e from place o on, in f. -/
def putB (f : Nat → BitVec 8) (o m : Nat) (e : Nat → BitVec 8) (j : Nat) : BitVec 8 := if o ≤ j ∧ j < o + m then e (j - o) else f j
section
variable {w : World} {ops : Array Oper} {rest : List Oper} {op : Oper} {a : Act} {Q : Exit → Act → World → Prop}
/-- 'copy(dst, src)': as many bytes as dst has, dst a part of a row. -/
theorem copy_bytes (hgd : op.guard = none) (d s : Operand) (ho : op.op = .call { callee := .builtin .copy, args := #[d, s], argTypes := #[25, 25] })
    (g o t N m cd : Nat) (f e : Nat → BitVec 8) (h : RowB w g t N f) (o' : Nat) (hd : a.eval d = .slice (some ⟨g, o', none⟩) m cd) (ho' : 0 < m → o' = o) (hN : o + m ≤ N) (gs : Nat) (v : Value) (hs : a.eval s = v) (hv : SliceOf w gs m e v)
    (hK : ∀ w', RowB w' g t N (putB f o m e) → Only g w w' → wpList Tryd.prog ops Q rest (a.put op.dst (.int .i64 (m : Int))) w') : wpList Tryd.prog ops Q (op :: rest) a w := by
  obtain ⟨A, c, rfl, hc, hr⟩ := hv
  by_cases h0 : 0 < m
  · obtain ⟨sb, so, rfl, _, hcell⟩ := hr h0
    obtain rfl := ho' h0
    refine copy_row hgd d s _ _ ho 5 Tryd.underlying25 (by kernel_rfl) g o' _ N _ h m cd hd hN sb so m c hs (fun j => .int .u8 ((e j).toNat : Int)) hcell (fun _ _ => rfl) m (Nat.min_self m).symm ?_
    intro w' hr' ho'
    refine hK w' (hr'.congr (fun i hi => ?_)) ho'
    unfold putB
    by_cases hi' : o' ≤ i ∧ i < o' + m
    · rw [if_pos hi', if_pos hi']
    · rw [if_neg hi', if_neg hi']
  · obtain rfl : m = 0 := by omega
    refine wpList_copy_nothing hgd d s _ _ ho 5 Tryd.underlying25 (by kernel_rfl) _ A 0 cd 0 c hd hs (by rfl) ?_
    exact hK w (World.rowIs.congr h (fun i _ => by unfold putB; rw [if_neg (by omega)])) ⟨rfl, rfl, rfl, rfl, fun _ _ => rfl⟩
theorem make_bytes (hgd : op.guard = none) (l c : Operand) (ho : op.op = .makeSlice 25 l c) (kl kc : IntKind) (n : Nat) (hl : a.eval l = .int kl (n : Int)) (hc : a.eval c = .int kc (n : Int)) (hn : n ≤ 1099511627776)
    (hK : ∀ w', RowB w' w.heap.size 5 n (fun _ => 0) → Below w.heap.size w w' → wpList Tryd.prog ops Q rest (a.put op.dst (.slice (some ⟨w.heap.size, 0, none⟩) n n)) w') : wpList Tryd.prog ops Q (op :: rest) a w := by
  obtain ⟨i5, hi5, hz5⟩ := Option.map_eq_some_iff.1 info_u8
  simp only [Prod.mk.injEq] at hz5
  refine wpList_make_row w hgd l c 25 ho 5 i5 (.int .u8 0) Tryd.underlying25 hi5 hz5.1 hz5.2.1 (by rfl) kl kc n hl hc (by rw [hz5.2.2]; omega) (by omega) ?_
  refine hK _ (row_new w _ _ n _ (by simp [madeCells]) (fun j hj => ?_)) ((Below.refl _ _).alloc (Nat.le_refl _) _)
  simp [madeCells, hj, Nat.mod_one]
end

/-- The code of two parts is that of both, one behind the other. -/
theorem code_two (K a b : Nat → BitVec 8) (l x y : Nat) : code K l (catAll (three x y 0) (three a b (fun _ => 0)) 2) (off (three x y 0) 2) = code K l (cat a x b) (x + y) := by
  rw [show off (three x y 0) 2 = x + y by show 0 + x + y = _; omega]
  refine code_congr _ _ _ _ _ _ (fun _ _ => rfl) (fun j hj => ?_)
  show cat (cat (fun _ => 0) 0 a) (0 + x) b j = _
  rw [Nat.zero_add]
  by_cases h1 : j < x
  · rw [cat_lt _ _ _ _ h1, cat_lt _ _ _ _ h1, cat_ge _ _ _ _ (by omega), Nat.sub_zero]
  · rw [cat_ge _ _ _ _ (by omega), cat_ge _ _ _ _ (by omega)]
theorem put_in (f e : Nat → BitVec 8) (o m j : Nat) (h : o ≤ j ∧ j < o + m) : putB f o m e j = e (j - o) := by unfold putB; rw [if_pos h]
theorem put_out (f e : Nat → BitVec 8) (o m j : Nat) (h : ¬ (o ≤ j ∧ j < o + m)) : putB f o m e j = f j := by unfold putB; rw [if_neg h]
/-- The three parts, put one behind the other, are the sealed form. -/
theorem put_form (z ks first e : Nat → BitVec 8) (n j : Nat) (hj : j < 48 + n) : putB (putB (putB z 0 16 first) 16 n (flipB ks first e)) (16 + n) 32 (code (authB ks) 32 (cat first 16 (flipB ks first e)) (16 + n)) j = formB ks first e n j := by
  by_cases h1 : j < 16
  · rw [put_out _ _ _ _ _ (by omega), put_out _ _ _ _ _ (by omega), put_in _ _ _ _ _ (by omega), form_first _ _ _ _ _ h1, Nat.sub_zero]
  · by_cases h2 : j < 16 + n
    · rw [put_out _ _ _ _ _ (by omega), put_in _ _ _ _ _ (by omega), ← form_mid ks first e n (j - 16) (by omega), show 16 + (j - 16) = j by omega]
    · rw [put_in _ _ _ _ _ (by omega)]
      have := form_code ks first e n (j - (16 + n))
      rw [show 16 + n + (j - (16 + n)) = j by omega] at this
      exact this.symm
/-- A part of a row, as a slice. -/
theorem row_slice {w : World} {g t N : Nat} {f : Nat → BitVec 8} (h : RowB w g t N f) (o m c : Nat) (o' : Nat) (ho : 0 < m → o' = o) (hm : o + m ≤ N) (hc : m ≤ c) : SliceOf w w.heap.size m (fun j => f (o + j)) (.slice (some ⟨g, o', none⟩) m c) :=
  ⟨_, _, rfl, hc, fun h0 => ⟨g, o, by rw [ho h0], by have := World.rowIs.lt h; omega, fun j hj => World.rowIs.cell h (by omega)⟩⟩

set_option maxRecDepth 100000 in
theorem seal_arg (s : ByteArray) (h : ¬ (1 ≤ s.size ∧ s.size ≤ 40)) (C F : Array Value) (B : Option Addr) (n d : Nat) (w : World) :
    Calls Tryd.prog 7 #[.agg C, .string s, .agg F, .slice B n d] w fun x w' => x = .returned (.tuple #[.slice none 0 0, .int .i64 1]) ∧ Below w.heap.size w w' := by
  have e0 : decide (1 ≤ s.size ∧ s.size ≤ 40) = false := decide_eq_false h
  have hb : Below w.heap.size w ((w.alloc (.cells C 23)).alloc (.cells F 23)) := ((Below.refl _ _).alloc (Nat.le_refl _) _).alloc (by simp) _
  go_enter Tryd.func7, Tryd.ntmps7
  go_wp2_with (go_at_call 12
               refine (valid_any s _).mono ?_
               rintro x w1 ⟨rfl, rfl⟩
               rw [e0])
  go_ret2
  exact ⟨rfl, hb⟩
set_option maxRecDepth 100000 in
theorem seal_full (s : ByteArray) (h : 1 ≤ s.size ∧ s.size ≤ 40) (C F : Array Value) (B : Option Addr) (n d : Nat) (hn : 1000 < n) (w : World) :
    Calls Tryd.prog 7 #[.agg C, .string s, .agg F, .slice B n d] w fun x w' => x = .returned (.tuple #[.slice none 0 0, .int .i64 7]) ∧ Below w.heap.size w w' := by
  have e0 : decide (1 ≤ s.size ∧ s.size ≤ 40) = true := decide_eq_true h
  have hb : Below w.heap.size w ((w.alloc (.cells C 23)).alloc (.cells F 23)) := ((Below.refl _ _).alloc (Nat.le_refl _) _).alloc (by simp) _
  have q0 : (1000 : Int) < (n : Int) := by omega
  go_enter Tryd.func7, Tryd.ntmps7
  go_wp2_with (go_at_call 12
               refine (valid_any s _).mono ?_
               rintro x w1 ⟨rfl, rfl⟩
               rw [e0])
  go_ret2
  exact ⟨rfl, hb⟩

set_option maxRecDepth 100000 in
set_option maxHeartbeats 2000000 in
theorem seal_ok (key first e : Nat → BitVec 8) (s : ByteArray) (h : 1 ≤ s.size ∧ s.size ≤ 40) (C F : Array Value) (hC : C.size = 16) (hCi : ∀ i, i < 16 → C[i]? = some (.int .u8 ((key i).toNat : Int)))
    (hF : F.size = 16) (hFi : ∀ i, i < 16 → F[i]? = some (.int .u8 ((first i).toNat : Int))) (B : Option Addr) (n d : Nat) (w : World) (hk : Consts w) (hp : SliceOf w w.heap.size n e (.slice B n d)) (hn : n ≤ 1000) :
    Calls Tryd.prog 7 #[.agg C, .string s, .agg F, .slice B n d] w fun x w' => ∃ g, x = .returned (.tuple #[.slice (some ⟨g, 0, none⟩) (48 + n) (48 + n), .int .i64 0]) ∧
      RowB w' g 5 (48 + n) (formB (keysB key s) first e n) ∧ w.heap.size ≤ g ∧ Below w.heap.size w w' := by
  have e0 : decide (1 ≤ s.size ∧ s.size ≤ 40) = true := decide_eq_true h
  have q0 : ¬ (1000 : Int) < (n : Int) := by omega
  have q1 : IntKind.i64.wrap (48 + (n : Int)) = 48 + (n : Int) := IntWalk.i64_in _ (by omega)
  have h1 : ∃ w1, w1 = (w.alloc (.cells C 23)).alloc (.cells F 23) ∧ RowB w1 w.heap.size 23 16 key ∧ RowB w1 (w.heap.size + 1) 23 16 first ∧ Below w.heap.size w w1 := by
    have r2 := row_new (w.alloc (.cells C 23)) F 23 16 (fun j => .int .u8 ((first j).toNat : Int)) hF hFi
    rw [World.size_alloc] at r2
    exact ⟨_, rfl, (row_new w C 23 16 (fun j => .int .u8 ((key j).toNat : Int)) hC hCi).alloc _, r2, ((Below.refl _ _).alloc (Nat.le_refl _) _).alloc (by simp) _⟩
  obtain ⟨w1, hw1, hr1, hr2, hb1⟩ := h1
  have hp1 := slice_any (slice_below hp hb1) (Nat.le_refl _)
  have hk1 := hk.below hb1 (Nat.le_refl _)
  clear hCi hFi hC hF hp hk
  go_enter Tryd.func7, Tryd.ntmps7
  go_wp2_with (first
    | (go_at_call 12
       rw [← hw1]
       clear hw1
       refine (valid_any s w1).mono ?_
       rintro x w2 ⟨rfl, rfl⟩
       rw [e0])
    | (refine load_whole (by rfl) 23 (.tmp 4) (by rfl) _ _ _ _ hr1 (by rfl) _ Tryd.underlying23 rfl (by kernel_rfl) ?_))
  rename_i w1
  refine (keyed_any key s (by omega) _ (size_cellsOf _ _) (cellsOf_at _ _) _ hk1).mono ?_
  rintro x w5 ⟨be, ba, rfl, hkd, hb5⟩
  unfold flipF codeF
  have hr5 := World.rowIs.of_block hr2 (hb5.block _ (World.rowIs.lt hr2))
  have hp5 := slice_any (slice_below hp1 hb5) (Nat.le_refl _)
  have hk5 := hk1.below hb5 (Nat.le_refl _)
  have hb5' := hb1.trans (hb5.mono hb1.size)
  obtain ⟨g, hg⟩ : ∃ g, g = w5.heap.size := ⟨_, rfl⟩
  have hgl := hb5'.size
  have k1 := fun b W => all_run (P := Tryd.prog) 23 5 16 Tryd.underlying23 (by kernel_rfl) b 0 W
  clear hr1 hr2 hp1 hk1 hb1 hb5
  go_wp2_with (at_make
               refine make_bytes (by rfl) (.tmp 31) (.tmp 31) (by rfl) .i64 .i64 (48 + n) (by show Value.int .i64 _ = _; congr 1) (by show Value.int .i64 _ = _; congr 1) (by omega) ?_
               intro w6 hr6 hb6)
  refine (parts_any w5.heap.size 0 (48 + n) (48 + n) (by omega) (by omega) (by omega) w6).mono ?_
  rintro x w7 ⟨o, _, ho, rfl, rfl⟩
  rw [Nat.add_sub_cancel_left] at ho ⊢
  rw [show 0 + (48 + n - 32) = 16 + n by omega]
  have hr7 : RowB w6.drew w5.heap.size 5 (48 + n) (fun _ => 0) := hr6
  have hb7 : Below w5.heap.size w5 w6.drew := hb6.drew
  generalize w6.drew = w7 at *
  have hF7 := World.rowIs.of_block hr5 (hb7.block _ (World.rowIs.lt hr5))
  have hs7 : SliceOf w7 w7.heap.size 16 first (.slice (some ⟨w.heap.size + 1, 0, none⟩) 16 16) := ⟨_, _, rfl, by omega, fun _ => ⟨_, 0, rfl, by have := World.rowIs.lt hF7; omega, fun j hj => by rw [Nat.zero_add]; exact World.rowIs.cell hF7 hj⟩⟩
  clear hr6 hb6 hF7
  go_wp2_with (refine copy_bytes (by rfl) (.tmp 39) (.tmp 40) (by rfl) w5.heap.size 0 5 (48 + n) 16 16 _ first hr7 0 (by rfl) (fun _ => rfl) (by omega) w7.heap.size _ (by rfl) hs7 ?_
               intro w8 hr8 ho8)
  have hb8 : Below w5.heap.size w5 w8 := ho8.below hb7 (Nat.le_refl _)
  refine (flipOf_any (keysB key s) first e be _ 0 16 n d B w8 (hkd.below hb8).enc (fun j hj => by rw [Nat.zero_add, World.rowIs.cell hr8 (by omega), put_in _ _ _ _ _ (by omega)]; rfl) (slice_any (slice_below hp5 hb8) (Nat.le_refl _)) hn).mono ?_
  rintro x w9 ⟨A9, c9, rfl, hs9, hb9⟩
  have hr9 := World.rowIs.of_block hr8 (hb9.block _ (World.rowIs.lt hr8))
  have hb9' := hb8.trans (hb9.mono hb8.size)
  clear hs7 hr7 hb7 hr8 ho8 hb8 hb9 hr5 hp5
  go_wp2_with (refine copy_bytes (by rfl) (.tmp 42) (.tmp 46) (by rfl) w5.heap.size 16 5 (48 + n) n n _ (flipB (keysB key s) first e) hr9 o (by rfl) (fun h => by have := ho h; omega) (by omega) w9.heap.size _ (by rfl) hs9 ?_
               intro w10 hr10 ho10)
  have hb10 : Below w5.heap.size w5 w10 := ho10.below hb9' (Nat.le_refl _)
  have hv0 := SliceOf.congr (e' := first) (row_slice hr10 0 16 16 0 (fun _ => rfl) (by omega) (Nat.le_refl _)) (fun j hj => by rw [put_out _ _ _ _ _ (by omega), put_in _ _ _ _ _ (by omega)]; congr 1; omega)
  have hv1 := SliceOf.congr (e' := flipB (keysB key s) first e) (row_slice hr10 16 n n o (fun h => by have := ho h; omega) (by omega) (Nat.le_refl _)) (fun j hj => by rw [put_in _ _ _ _ _ (by omega)]; congr 1; omega)
  have hpt := Law02.parts_two w10 (three 16 n 0) (three first (flipB (keysB key s) first e) (fun _ => 0)) _ _ hv0 hv1
  have hb11 := hb10.alloc hb10.size (.cells #[.slice (some ⟨w5.heap.size, 0, none⟩) 16 16, .slice (some ⟨w5.heap.size, o, none⟩) n n] 25)
  have hr11 := World.rowIs.alloc hr10 (.cells #[.slice (some ⟨w5.heap.size, 0, none⟩) 16 16, .slice (some ⟨w5.heap.size, o, none⟩) n n] 25)
  generalize w10.alloc (.cells #[.slice (some ⟨w5.heap.size, 0, none⟩) 16 16, .slice (some ⟨w5.heap.size, o, none⟩) n n] 25) = w11 at *
  refine (codeOf_any (keysB key s) be ba 2 _ _ _ w11 (hk5.below hb11 (Nat.le_refl _)) (hkd.below hb11) hpt (show 0 + 16 + n ≤ _ by omega) (by omega)).mono ?_
  rw [code_two]
  obtain ⟨D, hD⟩ : ∃ D, D = code (authB (keysB key s)) 32 (cat first 16 (flipB (keysB key s) first e)) (16 + n) := ⟨_, rfl⟩
  rw [← hD]
  have HD := Lib.hid hD
  rintro x w12 ⟨rfl, hb12⟩
  have hr12 := World.rowIs.of_block hr11 (hb12.block _ (World.rowIs.lt hr11))
  have hb12' := hb11.trans (hb12.mono hb11.size)
  have k2 := fun b W => all_run (P := Tryd.prog) 43 5 32 Tryd.underlying43 (by kernel_rfl) b 0 W
  clear hb9' hr9 hs9 hr10 ho10 hb10 hv0 hv1 hpt hb11 hr11 hb12 hD k1
  go_wp2_with (first
    | (refine store_whole (by rfl) 43 (.tmp 16) (.tmp 52) (by rfl) w12.heap.size _ 32 (fun _ => .int .u8 0) (fun j => .int .u8 ((D j).toNat : Int)) (by exact row_new w12 _ _ 32 _ (by rfl) (zeros32 _ (by rfl))) (by rfl) _ (by rfl) (by kernel_rfl) (size_cellsOf _ _) (cellsOf_at _ _) (fun _ _ => rfl) ?_
       intro w13 hr13 ho13
       have hb13 := ho13.below (hb12'.alloc hb12'.size _) hb12'.size
       have hx13 := ho13.row (World.rowIs.alloc hr12 _) (Nat.ne_of_lt (World.rowIs.lt hr12))
       have hs13 : SliceOf w13 w13.heap.size 32 D (.slice (some ⟨w12.heap.size, 0, none⟩) 32 32) := ⟨_, _, rfl, by omega, fun _ => ⟨_, 0, rfl, by have := World.rowIs.lt hr13; omega, fun j hj => by rw [Nat.zero_add]; exact World.rowIs.cell hr13 hj⟩⟩
       clear ho13 hr12 hb12')
    | (refine copy_bytes (by rfl) (.tmp 53) (.tmp 54) (by rfl) w5.heap.size (16 + n) 5 (48 + n) 32 32 _ D hx13 (16 + n) (by rfl) (fun _ => rfl) (by omega) w13.heap.size _ (by rfl) hs13 ?_
       intro w14 hr14 ho14))
  go_ret2
  refine ⟨w5.heap.size, rfl, World.rowIs.congr hr14 (fun j hj => ?_), hgl, hb5'.trans ((ho14.below hb13 (Nat.le_refl _)).mono hb5'.size)⟩
  rw [HD.out, put_form _ _ _ _ _ _ hj]
end Go.Proofs.YtfjoflpidmjkbaaDoor.Seal
