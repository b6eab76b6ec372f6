/-
  The walk of bartizanlaw05.SealTells: for every two words, label and two slices of bytes it returns true, and writes nothing that was there.
-/
import Derived.Test.YtfjoflpidmjkbaaDoorLaw05Back
import Derived.Test.YtfjoflpidmjkbaaDoorRefOpen
namespace Go.Proofs.YtfjoflpidmjkbaaDoor.Law05
open Go Go.RowKit Go.Proofs.YtfjoflpidmjkbaaDoor.Aid Go.Proofs.YtfjoflpidmjkbaaDoor.Sha Go.Proofs.YtfjoflpidmjkbaaDoor.Mac Go.Proofs.YtfjoflpidmjkbaaDoor.Aes Go.Proofs.YtfjoflpidmjkbaaDoor.Ctr Go.Proofs.YtfjoflpidmjkbaaDoor.Law01 Go.Proofs.YtfjoflpidmjkbaaDoor.Seal

/-- What Seal tells: the error, and how many bytes. -/
def sealCode (s : ByteArray) (n : Nat) : Nat := if 1 ≤ s.size ∧ s.size ≤ 40 then (if 1000 < n then 7 else 0) else 1
def sealLen (s : ByteArray) (n : Nat) : Nat := if sealCode s n = 0 then 48 + n else 0
def SealPost (key first e : Nat → BitVec 8) (s : ByteArray) (n : Nat) (w : World) (x : Ending) (w' : World) : Prop :=
  ∃ A c, x = .returned (.tuple #[.slice A (sealLen s n) c, .int .i64 (sealCode s n : Int)]) ∧ SliceOf w' w'.heap.size (sealLen s n) (formB (keysB key s) first e n) (.slice A (sealLen s n) c) ∧ Below w.heap.size w w'
theorem post_err {key first e : Nat → BitVec 8} {s : ByteArray} {n k : Nat} {w : World} {x : Ending} {w' : World} (hc : sealCode s n = k) (hk : k ≠ 0) (h : x = .returned (.tuple #[.slice none 0 0, .int .i64 (k : Int)]) ∧ Below w.heap.size w w') : SealPost key first e s n w x w' := by
  have hl : sealLen s n = 0 := by unfold sealLen; rw [hc, if_neg hk]
  unfold SealPost
  rw [hl, hc]
  exact ⟨none, 0, h.1, SliceOf.nil _ _ _, h.2⟩
theorem post_form {key first e : Nat → BitVec 8} {s : ByteArray} {n : Nat} {w : World} {x : Ending} {w' : World} (hc : sealCode s n = 0) (v : Value) (h : x = .returned (.tuple #[v, .int .i64 0])) (hs : SliceOf w' w'.heap.size (48 + n) (formB (keysB key s) first e n) v) (hb : Below w.heap.size w w') : SealPost key first e s n w x w' := by
  have hl : sealLen s n = 48 + n := by unfold sealLen; rw [hc, if_pos rfl]
  obtain ⟨A, c, rfl⟩ := slice_shape hs
  unfold SealPost
  rw [hl, hc]
  exact ⟨A, c, h, hs, hb⟩
theorem seal_all (key first e : Nat → BitVec 8) (s : ByteArray) (C F : Array Value) (hC : C.size = 16) (hCi : ∀ i, i < 16 → C[i]? = some (.int .u8 ((key i).toNat : Int))) (hF : F.size = 16) (hFi : ∀ i, i < 16 → F[i]? = some (.int .u8 ((first i).toNat : Int))) (B : Option Addr) (n d : Nat) (w : World) (hk : Consts w) (hp : SliceOf w w.heap.size n e (.slice B n d)) :
    Calls Tryd.prog 7 #[.agg C, .string s, .agg F, .slice B n d] w (SealPost key first e s n w) := by
  by_cases h1 : 1 ≤ s.size ∧ s.size ≤ 40
  · by_cases h2 : 1000 < n
    · exact (seal_full s h1 C F B n d h2 w).mono fun x w' h => post_err (k := 7) (by unfold sealCode; rw [if_pos h1, if_pos h2]) (by omega) h
    · refine (seal_ok key first e s h1 C F hC hCi hF hFi B n d w hk hp (by omega)).mono ?_
      rintro x w' ⟨g, hx, hr, _, hb⟩
      exact post_form (by unfold sealCode; rw [if_pos h1, if_neg h2]) _ hx (SliceOf.congr (row_slice hr 0 (48 + n) (48 + n) 0 (fun _ => rfl) (by omega) (Nat.le_refl _)) (fun j _ => by rw [Nat.zero_add])) hb
  · exact (seal_arg s h1 C F B n d w).mono fun x w' h => post_err (k := 1) (by unfold sealCode; rw [if_neg h1]) (by omega) h
theorem refSeal_all (key first e : Nat → BitVec 8) (s : ByteArray) (C F : Array Value) (hC : C.size = 16) (hCi : ∀ i, i < 16 → C[i]? = some (.int .u8 ((key i).toNat : Int))) (hF : F.size = 16) (hFi : ∀ i, i < 16 → F[i]? = some (.int .u8 ((first i).toNat : Int))) (B : Option Addr) (n d : Nat) (w : World) (hp : SliceOf w w.heap.size n e (.slice B n d)) :
    Calls Tryd.prog 8 #[.agg C, .string s, .agg F, .slice B n d] w (SealPost key first e s n w) := by
  by_cases h1 : 1 ≤ s.size ∧ s.size ≤ 40
  · by_cases h2 : 1000 < n
    · exact (refSeal_full s h1 C F B n d h2 w).mono fun x w' h => post_err (k := 7) (by unfold sealCode; rw [if_pos h1, if_pos h2]) (by omega) h
    · refine (refSeal_ok key first e s h1 C F hC hCi hF hFi B n d w hp (by omega)).mono ?_
      rintro x w' ⟨v, hx, hs, hb⟩
      exact post_form (by unfold sealCode; rw [if_pos h1, if_neg h2]) v hx hs hb
  · exact (refSeal_arg s h1 C F B n d w).mono fun x w' h => post_err (k := 1) (by unfold sealCode; rw [if_neg h1]) (by omega) h

/-- What Open tells. -/
def openCode (ks e : Nat → BitVec 8) (s : ByteArray) (m : Nat) : Nat := if 1 ≤ s.size ∧ s.size ≤ 40 then (if m < 48 then 2 else if 1048 < m then 7 else if okB ks e m = true then 0 else 6) else 1
def openLen (ks e : Nat → BitVec 8) (s : ByteArray) (m : Nat) : Nat := if openCode ks e s m = 0 then m - 48 else 0
def OpenAll (ks e : Nat → BitVec 8) (s : ByteArray) (m : Nat) (w : World) (x : Ending) (w' : World) : Prop :=
  ∃ A c, x = .returned (.tuple #[.slice A (openLen ks e s m) c, .int .i64 (openCode ks e s m : Int)]) ∧ SliceOf w' w'.heap.size (openLen ks e s m) (openB ks e) (.slice A (openLen ks e s m) c) ∧ Below w.heap.size w w'
theorem all_err {ks e : Nat → BitVec 8} {s : ByteArray} {m k : Nat} {w : World} {x : Ending} {w' : World} (hc : openCode ks e s m = k) (hk : k ≠ 0) (h : x = .returned (.tuple #[.slice none 0 0, .int .i64 (k : Int)]) ∧ Below w.heap.size w w') : OpenAll ks e s m w x w' := by
  have hl : openLen ks e s m = 0 := by unfold openLen; rw [hc, if_neg hk]
  unfold OpenAll
  rw [hl, hc]
  exact ⟨none, 0, h.1, SliceOf.nil _ _ _, h.2⟩
theorem all_post {ks e : Nat → BitVec 8} {s : ByteArray} {m : Nat} {w : World} {x : Ending} {w' : World} (h1 : 1 ≤ s.size ∧ s.size ≤ 40) (h2 : ¬ m < 48) (h3 : ¬ 1048 < m) (h : OpenPost ks e m w x w') : OpenAll ks e s m w x w' := by
  rcases h with ⟨hok, A, c, hx, hs, hb⟩ | ⟨hno, hx, hb⟩
  · have hc : openCode ks e s m = 0 := by unfold openCode; rw [if_pos h1, if_neg h2, if_neg h3, if_pos hok]
    have hl : openLen ks e s m = m - 48 := by unfold openLen; rw [hc, if_pos rfl]
    unfold OpenAll
    rw [hl, hc]
    exact ⟨A, c, hx, hs, hb⟩
  · exact all_err (k := 6) (by unfold openCode; rw [if_pos h1, if_neg h2, if_neg h3, if_neg (by rw [hno]; simp)]) (by omega) ⟨hx, hb⟩
theorem open_all (key e : Nat → BitVec 8) (s : ByteArray) (C : Array Value) (hC : C.size = 16) (hCi : ∀ i, i < 16 → C[i]? = some (.int .u8 ((key i).toNat : Int))) (B : Option Addr) (m d : Nat) (w : World) (hk : Consts w) (hp : SliceOf w w.heap.size m e (.slice B m d)) :
    Calls Tryd.prog 9 #[.agg C, .string s, .slice B m d] w (OpenAll (keysB key s) e s m w) := by
  by_cases h1 : 1 ≤ s.size ∧ s.size ≤ 40
  · by_cases h2 : m < 48
    · exact (open_short s h1 C B m d h2 w).mono fun x w' h => all_err (k := 2) (by unfold openCode; rw [if_pos h1, if_pos h2]) (by omega) h
    · by_cases h3 : 1048 < m
      · exact (open_full s h1 C B m d h3 w).mono fun x w' h => all_err (k := 7) (by unfold openCode; rw [if_pos h1, if_neg h2, if_pos h3]) (by omega) h
      · exact (open_ok key e s h1 C hC hCi B m d w hk hp (by omega) (by omega)).mono fun x w' h => all_post h1 h2 h3 h
  · exact (open_arg s h1 C B m d w).mono fun x w' h => all_err (k := 1) (by unfold openCode; rw [if_neg h1]) (by omega) h
theorem refOpen_all (key e : Nat → BitVec 8) (s : ByteArray) (C : Array Value) (hC : C.size = 16) (hCi : ∀ i, i < 16 → C[i]? = some (.int .u8 ((key i).toNat : Int))) (B : Option Addr) (m d : Nat) (w : World) (hp : SliceOf w w.heap.size m e (.slice B m d)) :
    Calls Tryd.prog 10 #[.agg C, .string s, .slice B m d] w (OpenAll (keysB key s) e s m w) := by
  by_cases h1 : 1 ≤ s.size ∧ s.size ≤ 40
  · by_cases h2 : m < 48
    · exact (refOpen_short s h1 C B m d h2 w).mono fun x w' h => all_err (k := 2) (by unfold openCode; rw [if_pos h1, if_pos h2]) (by omega) h
    · by_cases h3 : 1048 < m
      · exact (refOpen_full s h1 C B m d h3 w).mono fun x w' h => all_err (k := 7) (by unfold openCode; rw [if_pos h1, if_neg h2, if_pos h3]) (by omega) h
      · exact (refOpen_ok key e s h1 C hC hCi B m d w hp (by omega) (by omega)).mono fun x w' h => all_post h1 h2 h3 h
  · exact (refOpen_arg s h1 C B m d w).mono fun x w' h => all_err (k := 1) (by unfold openCode; rw [if_neg h1]) (by omega) h

theorem sealLen_le (s : ByteArray) (n : Nat) : sealLen s n ≤ 48 + n := by unfold sealLen; split <;> omega
theorem openLen_le (ks e : Nat → BitVec 8) (s : ByteArray) (m : Nat) : openLen ks e s m ≤ m := by unfold openLen; split <;> omega
/-- What lies in memory, whatever was called. -/
structure TellsSt (key first e0 e1 : Nat → BitVec 8) (A0 A1 : Option Addr) (n0 c0 n1 c1 : Nat) (w wr : World) : Prop where
  row : RowB wr w.heap.size 24 32 (fun i => if i < 16 then key i else first (i - 16))
  x0 : wr.cell? ⟨w.heap.size + 1, 0, none⟩ = some (.slice A0 n0 c0)
  x1 : wr.cell? ⟨w.heap.size + 1, 1, none⟩ = some (.slice A1 n1 c1)
  p0 : SliceOf wr wr.heap.size n0 e0 (.slice A0 n0 c0)
  p1 : SliceOf wr wr.heap.size n1 e1 (.slice A1 n1 c1)
  hk : Consts wr
  hb : Below w.heap.size w wr
theorem TellsSt.below {key first e0 e1 : Nat → BitVec 8} {A0 A1 : Option Addr} {n0 c0 n1 c1 : Nat} {w wr wr' : World} (h : TellsSt key first e0 e1 A0 A1 n0 c0 n1 c1 w wr) (hb : Below wr.heap.size wr wr') : TellsSt key first e0 e1 A0 A1 n0 c0 n1 c1 w wr' :=
  ⟨World.rowIs.of_block h.row (hb.block _ (World.rowIs.lt h.row)), (hb.cell (p := ⟨w.heap.size + 1, 0, none⟩) (block_lt_of_cell h.x0)).trans h.x0, (hb.cell (p := ⟨w.heap.size + 1, 1, none⟩) (block_lt_of_cell h.x1)).trans h.x1,
   slice_any (slice_below h.p0 hb) (Nat.le_refl _), slice_any (slice_below h.p1 hb) (Nat.le_refl _), h.hk.below hb (Nat.le_refl _), h.hb.trans (hb.mono h.hb.size)⟩
theorem tells_new (key first e0 e1 : Nat → BitVec 8) (L : Array Value) (hL : L.size = 32) (hLi : ∀ i, i < 32 → L[i]? = some (.int .u8 ((if i < 16 then key i else first (i - 16)).toNat : Int))) (A0 A1 : Option Addr) (n0 c0 n1 c1 : Nat) (w : World) (hk : Consts w)
    (hp0 : SliceOf w w.heap.size n0 e0 (.slice A0 n0 c0)) (hp1 : SliceOf w w.heap.size n1 e1 (.slice A1 n1 c1)) :
    ∃ W, W = (w.alloc (.cells L 24)).alloc (.cells #[.slice A0 n0 c0, .slice A1 n1 c1] 26) ∧ TellsSt key first e0 e1 A0 A1 n0 c0 n1 c1 w W := by
  have hb : Below w.heap.size w ((w.alloc (.cells L 24)).alloc (.cells #[.slice A0 n0 c0, .slice A1 n1 c1] 26)) := ((Below.refl _ _).alloc (Nat.le_refl _) _).alloc (by simp) _
  have hs : (w.alloc (.cells L 24)).heap.size = w.heap.size + 1 := by simp
  have hc : ∀ j, ((w.alloc (.cells L 24)).alloc (.cells #[.slice A0 n0 c0, .slice A1 n1 c1] 26)).cell? ⟨w.heap.size + 1, j, none⟩ = (#[Value.slice A0 n0 c0, .slice A1 n1 c1] : Array Value)[j]? := fun j => by
    rw [← hs, World.cell?_alloc_new]
  exact ⟨_, rfl, (row_new w L 24 32 (fun i => .int .u8 ((if i < 16 then key i else first (i - 16)).toNat : Int)) hL hLi).alloc _, (hc 0).trans rfl, (hc 1).trans rfl, slice_any (slice_below hp0 hb) (Nat.le_refl _), slice_any (slice_below hp1 hb) (Nat.le_refl _), hk.below hb (Nat.le_refl _), hb⟩

set_option maxRecDepth 100000 in
set_option maxHeartbeats 2000000 in
theorem tells_any (key first e0 e1 : Nat → BitVec 8) (L : Array Value) (hL : L.size = 32) (hLi : ∀ i, i < 32 → L[i]? = some (.int .u8 ((if i < 16 then key i else first (i - 16)).toNat : Int))) (s : ByteArray) (A0 A1 : Option Addr) (n0 c0 n1 c1 : Nat) (w : World) (hk : Consts w)
    (hp0 : SliceOf w w.heap.size n0 e0 (.slice A0 n0 c0)) (hp1 : SliceOf w w.heap.size n1 e1 (.slice A1 n1 c1)) :
    Calls Tryd.prog 3 #[.agg L, .string s, .agg #[.slice A0 n0 c0, .slice A1 n1 c1]] w fun x w' => x = .returned (.bool true) ∧ Below w.heap.size w w' := by
  obtain ⟨W, hW, h0⟩ := tells_new key first e0 e1 L hL hLi A0 A1 n0 c0 n1 c1 w hk hp0 hp1
  clear hL hLi hk hp0 hp1
  go_enter Tryd.func3, Tryd.ntmps3
  go_wp2_with fail
  rw [← hW]
  clear hW
  refine (awake_any _ h0.hk).mono ?_
  rintro x w1 ⟨rfl, hb1⟩
  have h1 := Lib.hid (h0.below hb1)
  clear h0 hb1
  have x10 := h1.out.x0
  have x11 := h1.out.x1
  by_cases h : (100 : Int) < (s.size : Int) ∨ (1100 : Int) < (n0 : Int) ∨ (1100 : Int) < (n1 : Int)
  · have hb := h1.out.hb
    by_cases q1 : (100 : Int) < (s.size : Int)
    · clear h
      go_wp2
      go_ret
      exact ⟨rfl, hb⟩
    · by_cases q2 : (1100 : Int) < (n0 : Int)
      · clear h
        go_wp2
        go_ret
        exact ⟨rfl, hb⟩
      · have q3 : (1100 : Int) < (n1 : Int) := by omega
        clear h
        go_wp2
        go_ret
        exact ⟨rfl, hb⟩
  · have q1 : ¬ (100 : Int) < (s.size : Int) := by omega
    have q2 : ¬ (1100 : Int) < (n0 : Int) := by omega
    have q3 : ¬ (1100 : Int) < (n1 : Int) := by omega
    clear h
    have f1 := Lib.hid (fst_word (t := 24) h1.out.row)
    have s1 := Lib.hid (snd_word (t := 24) h1.out.row)
    go_wp2_with (first
      | (refine load_bytes (by rfl) 23 (.tmp 36) (by rfl) w.heap.size 0 16 key f1.out (by rfl) _ Tryd.underlying23 rfl (by kernel_rfl) ?_)
      | (refine load_bytes (by rfl) 23 (.tmp 39) (by rfl) w.heap.size 16 16 first s1.out (by rfl) _ Tryd.underlying23 rfl (by kernel_rfl) ?_))
    refine (seal_all key first e0 s _ _ (size_cellsOf _ _) (cellsOf_at _ _) (size_cellsOf _ _) (cellsOf_at _ _) A0 n0 c0 w1 h1.out.hk h1.out.p0).mono ?_
    rintro x w2 ⟨A2, c2, rfl, hs2, hb2⟩
    have h2 := Lib.hid (h1.out.below hb2)
    have Hs2 := Lib.hid hs2
    clear f1 s1 x10 x11 h1 hb2 hs2
    have x20 := h2.out.x0
    have x21 := h2.out.x1
    have f2 := Lib.hid (fst_word (t := 24) h2.out.row)
    have s2 := Lib.hid (snd_word (t := 24) h2.out.row)
    go_wp2_with (first
      | (refine load_bytes (by rfl) 23 (.tmp 47) (by rfl) w.heap.size 0 16 key f2.out (by rfl) _ Tryd.underlying23 rfl (by kernel_rfl) ?_)
      | (refine load_bytes (by rfl) 23 (.tmp 50) (by rfl) w.heap.size 16 16 first s2.out (by rfl) _ Tryd.underlying23 rfl (by kernel_rfl) ?_))
    refine (refSeal_all key first e0 s _ _ (size_cellsOf _ _) (cellsOf_at _ _) (size_cellsOf _ _) (cellsOf_at _ _) A0 n0 c0 w2 h2.out.p0).mono ?_
    rintro x w3 ⟨A3, c3, rfl, hs3, hb3⟩
    have h3 := Lib.hid (h2.out.below hb3)
    have Hs23 := Lib.hid (slice_any (slice_below Hs2.out hb3) (Nat.le_refl _))
    have Hs3 := Lib.hid hs3
    clear f2 s2 x20 x21 h2 hb3 hs3 Hs2
    have x30 := h3.out.x0
    have x31 := h3.out.x1
    have f3 := Lib.hid (fst_word (t := 24) h3.out.row)
    go_wp2_with (refine load_bytes (by rfl) 23 (.tmp 58) (by rfl) w.heap.size 0 16 key f3.out (by rfl) _ Tryd.underlying23 rfl (by kernel_rfl) ?_)
    refine (open_all key e1 s _ (size_cellsOf _ _) (cellsOf_at _ _) A1 n1 c1 w3 h3.out.hk h3.out.p1).mono ?_
    rintro x w4 ⟨A4, c4, rfl, hs4, hb4⟩
    have h4 := Lib.hid (h3.out.below hb4)
    have Hs24 := Lib.hid (slice_any (slice_below Hs23.out hb4) (Nat.le_refl _))
    have Hs34 := Lib.hid (slice_any (slice_below Hs3.out hb4) (Nat.le_refl _))
    have Hs4 := Lib.hid hs4
    clear f3 x30 x31 h3 hb4 hs4 Hs23 Hs3
    have x40 := h4.out.x0
    have x41 := h4.out.x1
    have f4 := Lib.hid (fst_word (t := 24) h4.out.row)
    go_wp2_with (refine load_bytes (by rfl) 23 (.tmp 67) (by rfl) w.heap.size 0 16 key f4.out (by rfl) _ Tryd.underlying23 rfl (by kernel_rfl) ?_)
    refine (refOpen_all key e1 s _ (size_cellsOf _ _) (cellsOf_at _ _) A1 n1 c1 w4 h4.out.p1).mono ?_
    rintro x w5 ⟨A5, c5, rfl, hs5, hb5⟩
    have hb5' := h4.out.hb.trans (hb5.mono h4.out.hb.size)
    have Hs25 := Lib.hid (slice_any (slice_below Hs24.out hb5) (Nat.le_refl _))
    have Hs35 := Lib.hid (slice_any (slice_below Hs34.out hb5) (Nat.le_refl _))
    have Hs45 := Lib.hid (slice_any (slice_below Hs4.out hb5) (Nat.le_refl _))
    have Hs5 := Lib.hid hs5
    have l0 := sealLen_le s n0
    have l1 := openLen_le (keysB key s) e1 s n1
    obtain ⟨N0, hN0⟩ : ∃ N, N = sealLen s n0 := ⟨_, rfl⟩
    obtain ⟨N1, hN1⟩ : ∃ N, N = openLen (keysB key s) e1 s n1 := ⟨_, rfl⟩
    obtain ⟨K0, hK0⟩ : ∃ K, K = sealCode s n0 := ⟨_, rfl⟩
    obtain ⟨K1, hK1⟩ : ∃ K, K = openCode (keysB key s) e1 s n1 := ⟨_, rfl⟩
    rw [← hN0] at Hs25 Hs35 l0 ⊢
    rw [← hN1] at Hs45 Hs5 l1 ⊢
    rw [← hK0, ← hK1]
    clear hN0 hN1 hK0 hK1 f4 x40 x41 h4 hb5 hs5 Hs24 Hs34 Hs4
    have hm0 : N0 ≤ 1000000 := by omega
    have hm1 : N1 ≤ 1000000 := by omega
    clear l0 l1
    go_wp2_with fail
    refine (same_gen A2 A3 N0 N0 c2 c3 _ _ _ _ w5 Hs25.out Hs35.out hm0 hm0).mono ?_
    rw [same_refl _ _ N0 (fun _ _ => rfl)]
    rintro x w6 ⟨rfl, q, rfl⟩
    have hb6 := below_drewN hb5' q
    have Hs46 : SliceOf (w5.drewN q) (w5.drewN q).heap.size N1 (openB (keysB key s) e1) (.slice A4 N1 c4) := Hs45.out
    have Hs56 : SliceOf (w5.drewN q) (w5.drewN q).heap.size N1 (openB (keysB key s) e1) (.slice A5 N1 c5) := Hs5.out
    generalize w5.drewN q = w6 at *
    clear hb5' Hs25 Hs35 Hs45 Hs5
    go_wp2_with fail
    refine (same_gen A4 A5 N1 N1 c4 c5 _ _ _ _ w6 Hs46 Hs56 hm1 hm1).mono ?_
    rw [same_refl _ _ N1 (fun _ _ => rfl)]
    rintro x w7 ⟨rfl, q7, rfl⟩
    have hb7 := below_drewN hb6 q7
    clear Hs46 Hs56 hb6
    go_wp2
    go_ret
    exact ⟨rfl, hb7⟩
end Go.Proofs.YtfjoflpidmjkbaaDoor.Law05
