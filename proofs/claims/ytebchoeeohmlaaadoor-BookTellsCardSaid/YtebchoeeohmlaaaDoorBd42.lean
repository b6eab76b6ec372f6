/-
  The program's own store: hold, Replace, Crash, Read. The program's own store: Replace. The program's own store: Append.
-/
import Derived.Test.YtebchoeeohmlaaaDoorBd23
import Derived.Test.YtebchoeeohmlaaaDoorBd06
import Derived.Test.YtebchoeeohmlaaaDoorBd01
import Derived.Deep.QuietTactic
import Derived.BigQuiet
namespace Go.Proofs.YtebchoeeohmlaaaDoor.Store
open Go Go.RowKit Go.Proofs.YtebchoeeohmlaaaDoor.Aid Go.Proofs.YtebchoeeohmlaaaDoor.Cache

theorem onlyG (g j : Nat) (u : Value) (W : World) : Only g W (W.setCell ⟨g, j, none⟩ u) :=
  ⟨rfl, rfl, rfl, by simp [World.setCell], fun k hk => Below.heap_setCell W _ u k (by simpa using hk)⟩
theorem onlyG_then {g : Nat} {a b c : World} (h : Only g a b) (k : Only g b c) : Only g a c :=
  ⟨k.os.trans h.os, k.tape.trans h.tape, k.output.trans h.output, k.size.trans h.size, fun x hx => (k.block x hx).trans (h.block x hx)⟩
/-- New bytes in the place of the old ones: in the store's own block, or in a new one. -/
theorem OwnStIn.fresh {W W2 W3 : World} {F : Nat → Prop} {g m n : Nat} {Bv V : Value} {z z' : Int} {s s' : St} {e : Nat → BitVec 8} (h : OwnStIn W F g Bv z m s) (hb : Cache.Leaves (fun b => F b ∧ b ≠ g) W W2) (ho : Own W2 0 n e V) (hV : ∀ b, V.ownBlock = some b → (F b ∧ b ≠ g) ∨ W.heap.size ≤ b) (hn : s'.n = n) (he : s'.e = e)
    (hO : Only g W2 W3) (hrow : W3.rowIs g 101 5 (stP V z' m s')) (hok : s'.ok m) (hz : s'.burn = max z' (-1)) (hlo : -9223372036854775808 ≤ z') :
    Moved RepOwn F W W3 (.pointer (some ⟨g, 0, none⟩)) m s' := by
  have hg := h.lt g h.fg
  have hlt : ∀ b, V.ownBlock = some b → b < W2.heap.size := fun b hb => (ho.lt hb).2
  have hne : ∀ b, V.ownBlock = some b → b ≠ g := fun b hb' => by
    rcases hV b hb' with h1 | h1
    · exact h1.2
    · omega
  refine ⟨fun b => F b ∨ V.ownBlock = some b, ⟨g, V, z', rfl, hrow, .inl h.fg, fun b hb' => ?_, ?_, fun b hb' => ⟨.inr hb', hne b hb'⟩, hok, hz, hlo⟩, ⟨hO.os.trans hb.os, hO.tape.trans hb.tape, hO.output.trans hb.output, by rw [hO.size]; exact hb.size, fun b hlt' hn' => (hO.block b (fun e => hn' (e ▸ h.fg))).trans (hb.block b hlt' (fun hf => hn' hf.1))⟩, fun b hb' => ?_⟩
  · rw [hO.size]
    rcases hb' with h1 | h1
    · exact Nat.lt_of_lt_of_le (h.lt b h1) hb.size
    · exact hlt b h1
  · rw [hn, he]
    exact ho.keep (fun b hb' => hO.block b (hne b hb'))
  · rcases hb' with h1 | h1
    · exact .inl h1
    · exact (hV b h1).imp_left (·.1)
def holdS (s : St) (n : Nat) (e : Nat → BitVec 8) : St := { s with n := n, e := e, sure := n }
set_option maxRecDepth 100000 in
set_option maxHeartbeats 1000000 in
theorem hold_any {w : World} {F : Nat → Prop} {g : Nat} {Bv : Value} {z : Int} {m : Nat} {s : St} (h : OwnStIn w F g Bv z m s) (n : Nat) (e : Nat → BitVec 8) (bv : Value) (gs : Nat) (hb : SliceOf w gs n e bv) (hn : n ≤ m) :
    Calls Tryd.prog 57 #[.pointer (some ⟨g, 0, none⟩), bv] w fun x w' => x = .returned (.tuple #[]) ∧ Moved RepOwn F w w' (.pointer (some ⟨g, 0, none⟩)) m (holdS s n e) := by
  have hok := h.ok
  have hm := hok.m
  have HC := Lib.hid (copy_of hb (by omega))
  have H0 := Lib.hid h
  have HG := Lib.hid (h.lt g h.fg)
  obtain ⟨A, c, rfl, -, -⟩ := hb
  have HOK : Hid ((holdS s n e).ok m) := Lib.hid ⟨Nat.le_refl _, hn, hm, hok.lo, hok.hi⟩
  clear h hok hm hn
  go_enter Tryd.func57, Tryd.ntmps57
  go_wp2_with fail
  refine HC.out.mono ?_
  rintro _ w1 ⟨g1, rfl, ho1, hb1⟩
  have hr1 := H0.out.row.of_block (hb1.block g HG.out)
  have c1 := hr1.cell (i := 1) (by omega)
  have c2 := hr1.cell (i := 2) (by omega)
  have f1 := hr1.frozen 1
  have f2 := hr1.frozen 2
  rw [stP1] at c1
  rw [stP2] at c2
  have HO1 := Lib.hid ho1
  have HB1 := Lib.hid hb1
  have HR1 := Lib.hid hr1
  clear ho1 hb1 hr1
  go_wp2
  have hM := H0.out.fresh (s' := holdS s n e) (z' := z) (Cache.Leaves.of_below HB1.out) (own_base HO1.out (Nat.zero_le _)) (fun b hb' => .inr (HO1.out.lt hb').1) rfl rfl (onlyG_then (onlyG g 1 _ w1) (onlyG g 2 _ _)) (((HR1.out.set 1 (.slice (some ⟨g1, 0, none⟩) n n)).set 2 (.int .i64 (n : Int))).congr (fun i hi => by match i, hi with | 0, _ => rfl | 1, _ => rfl | 2, _ => rfl | 3, _ => rfl | 4, _ => rfl)) HOK.out H0.out.burn H0.out.lo
  exact bodyPost_end (results_none rfl _ _ _) rfl ⟨rfl, hM⟩
theorem crash_endP {W : World} {F : Nat → Prop} {g : Nat} {Bv : Value} {z : Int} {m : Nat} {t : St} (h : OwnStIn W F g Bv z m t) :
    OwnStIn ((W.setCell ⟨g, 3, none⟩ (.bool false)).setCell ⟨g, 4, none⟩ (.int .i64 (-1))) F g Bv (-1) m { t with burn := -1, down := false } ∧
    Cache.Leaves F W ((W.setCell ⟨g, 3, none⟩ (.bool false)).setCell ⟨g, 4, none⟩ (.int .i64 (-1))) := by
  have hok := h.ok
  obtain ⟨h1, l1⟩ := h.put 3 (.bool false) (s' := { t with down := false }) (z' := z) (fun i hi => by match i, hi with | 0, _ => rfl | 1, _ => rfl | 2, _ => rfl | 3, _ => rfl | 4, _ => rfl) rfl rfl ⟨hok.sure, hok.n, hok.m, hok.lo, hok.hi⟩ h.burn h.lo
  obtain ⟨h2, l2⟩ := h1.put 4 (.int .i64 (-1)) (s' := { t with burn := -1, down := false }) (z' := -1) (fun i hi => by match i, hi with | 0, _ => rfl | 1, _ => rfl | 2, _ => rfl | 3, _ => rfl | 4, _ => rfl) rfl rfl ⟨hok.sure, hok.n, hok.m, by show (-1 : Int) ≤ -1; omega, by show (-1 : Int) ≤ _; omega⟩ rfl (by omega)
  exact ⟨h2, l1.trans l2 (fun x hx _ => hx)⟩
set_option maxRecDepth 100000 in
set_option maxHeartbeats 1000000 in
theorem crash_any {w : World} {F : Nat → Prop} {v : Value} {m : Nat} {s : St} (h : RepOwn w F v m s) (k : Int) (hk0 : -9223372036854775808 ≤ k) (hk : k ≤ 9223372036854775807) :
    Calls Tryd.prog 30 #[v, .int .i64 k] w fun e w' => e = .returned (.tuple #[]) ∧ Moved RepOwn F w w' v m (crashS s k) := by
  obtain ⟨g, Bv, z, rfl, h⟩ := h
  have c1 := h.row.cell (i := 1) (by omega)
  have c2 := h.row.cell (i := 2) (by omega)
  rw [stP1] at c1
  rw [stP2] at c2
  obtain ⟨A, c, hB, hc, hA⟩ := own_shape h.own
  subst hB
  have hsure := h.ok.sure
  have hn := h.ok.n
  have hm := h.ok.m
  have HA := Lib.hid h
  have hw : wrap64 ((s.n : Int) - (s.sure : Int)) = (s.n : Int) - (s.sure : Int) := by unfold wrap64; omega
  have hle := crash_le h.ok k
  have KC : Hid (∀ kd W', (Instr.sliceAt 23 (.slice A s.n c) none (some (.int kd (crashN s k : Int))) none).run Tryd.prog W' = .ok (.slice A (crashN s k) c) W') := Lib.hid fun kd W' => head_run 23 5 Tryd.underlying23 (by kernel_rfl) A hA s.n c (crashN s k) (by omega) kd W'
  go_enter Tryd.func30, Tryd.ntmps30
  go_wp2_with fail
  go_quiet (fail)
  have hX : (if 0 < if (s.n : Int) - (s.sure : Int) < k then (s.n : Int) - (s.sure : Int) else k then if (s.n : Int) - (s.sure : Int) < k then (s.n : Int) - (s.sure : Int) else k else 0) = (crashN s k : Int) - (s.sure : Int) := by
    unfold crashN
    split <;> split <;> split <;> omega
  generalize (if 0 < if (s.n : Int) - (s.sure : Int) < k then (s.n : Int) - (s.sure : Int) else k then if (s.n : Int) - (s.sure : Int) < k then (s.n : Int) - (s.sure : Int) else k else 0) = X at *
  generalize (if (s.n : Int) - (s.sure : Int) < k then (s.n : Int) - (s.sure : Int) else k) = Y at *
  have HW : Hid (OwnStIn (w.drewN nq) F g (.slice A s.n c) z m s ∧ Cache.Leaves F w (w.drewN nq)) := Lib.hid ⟨HA.out.kept (fun _ _ => rfl), ⟨rfl, rfl, rfl, Nat.le_refl _, fun _ _ _ => rfl⟩⟩
  generalize w.drewN nq = W at *
  obtain ⟨hW, hLW⟩ := HW.out
  have HL := Lib.hid hLW
  have c1 := hW.row.cell (i := 1) (by omega)
  have c2 := hW.row.cell (i := 2) (by omega)
  rw [stP1] at c1
  rw [stP2] at c2
  have hXN : IntKind.i64.wrap ((s.sure : Int) + X) = (crashN s k : Int) := by rw [IntKind.wrap_i64]; omega
  have HH := Lib.hid (fun (W' : World) (hk' : ∀ b, F b → W'.heap[b]? = W.heap[b]?) => hold_any (hW.kept hk') (crashN s k) s.e (.slice A (crashN s k) c) W'.heap.size (slice_head ((hW.kept hk').own.slice (.inr (Nat.le_refl _))) hle.1) (by omega))
  have HC : Hid (crashS s k = { holdS s (crashN s k) s.e with burn := -1, down := false }) := Lib.hid rfl
  clear HW hLW h HA hw hX hW hle hk0 hk
  generalize crashN s k = N at *
  go_wp2_with fail
  refine region_mix_tail (fun W' => W'.cell? ⟨g, 1, none⟩ = some (.slice A s.n c) ∧ W'.cell? ⟨g, 2, none⟩ = some (.int .i64 (s.sure : Int)) ∧ ∃ q, W' = W.drewN q) 12 [(0, true), (1, true), (2, true), (3, true), (4, true), (5, true), (6, true), (7, true), (8, true), (9, true), (10, true), (11, true)] (by kernel_rfl) (by rfl) (by kernel_rfl) ⟨c1, c2, 1, rfl⟩ ?_
  refine m_val rfl (by rfl) (.pointer (some ⟨g, 0, none⟩)) (fun W' ⟨u1, u2, _⟩ => by go_simp) ?_
  simp only [Act.put, List.setIfInBounds_toArray, List.set_cons_zero, List.set_cons_succ]
  refine m_val rfl (by rfl) (.pointer (some ⟨g, 0, none⟩)) (fun W' ⟨u1, u2, _⟩ => by go_simp) ?_
  simp only [Act.put, List.setIfInBounds_toArray, List.set_cons_zero, List.set_cons_succ]
  refine m_val rfl (by rfl) (.pointer (some ⟨g, 0, none⟩)) (fun W' ⟨u1, u2, _⟩ => by go_simp) ?_
  simp only [Act.put, List.setIfInBounds_toArray, List.set_cons_zero, List.set_cons_succ]
  refine m_val rfl (by rfl) (.pointer (some ⟨g, 1, none⟩)) (fun W' ⟨u1, u2, _⟩ => by go_simp) ?_
  simp only [Act.put, List.setIfInBounds_toArray, List.set_cons_zero, List.set_cons_succ]
  refine m_val rfl (by rfl) (.slice A s.n c) (fun W' ⟨u1, u2, _⟩ => by go_simp) ?_
  simp only [Act.put, List.setIfInBounds_toArray, List.set_cons_zero, List.set_cons_succ]
  refine m_val rfl (by rfl) (.pointer (some ⟨g, 0, none⟩)) (fun W' ⟨u1, u2, _⟩ => by go_simp) ?_
  simp only [Act.put, List.setIfInBounds_toArray, List.set_cons_zero, List.set_cons_succ]
  refine m_val rfl (by rfl) (.pointer (some ⟨g, 0, none⟩)) (fun W' ⟨u1, u2, _⟩ => by go_simp) ?_
  simp only [Act.put, List.setIfInBounds_toArray, List.set_cons_zero, List.set_cons_succ]
  refine m_val rfl (by rfl) (.pointer (some ⟨g, 2, none⟩)) (fun W' ⟨u1, u2, _⟩ => by go_simp) ?_
  simp only [Act.put, List.setIfInBounds_toArray, List.set_cons_zero, List.set_cons_succ]
  refine m_val rfl (by rfl) (.int .i64 (s.sure : Int)) (fun W' ⟨u1, u2, _⟩ => by go_simp) ?_
  simp only [Act.put, List.setIfInBounds_toArray, List.set_cons_zero, List.set_cons_succ]
  refine m_val rfl (by rfl) (.int .i64 X) (fun W' ⟨u1, u2, _⟩ => by go_simp) ?_
  simp only [Act.put, List.setIfInBounds_toArray, List.set_cons_zero, List.set_cons_succ]
  refine m_val rfl (by rfl) (.int .i64 (N : Int)) (fun W' ⟨u1, u2, _⟩ => by go_simp) ?_
  simp only [Act.put, List.setIfInBounds_toArray, List.set_cons_zero, List.set_cons_succ]
  refine m_val rfl (by rfl) (.slice A N c) (fun W' ⟨u1, u2, _⟩ => by have KC := KC.out; go_simp) ?_
  simp only [Act.put, List.setIfInBounds_toArray, List.set_cons_zero, List.set_cons_succ]
  refine m_end ?_
  dsimp only
  go_wp2_with fail
  refine (HH.out W.drew (fun _ _ => rfl)).mono ?_
  rintro _ w2 ⟨rfl, hm2⟩
  obtain ⟨F2, ⟨g2, Bv2, z2, he, h2⟩, hl2, hf2⟩ := hm2
  simp only [Value.pointer.injEq, Option.some.injEq, Addr.mk.injEq, and_true] at he
  subst he
  have c3 := h2.row.cell (i := 3) (by omega)
  have c4 := h2.row.cell (i := 4) (by omega)
  have f3 := h2.row.frozen 3
  have f4 := h2.row.frozen 4
  rw [stP3] at c3
  rw [stP4] at c4
  have HE := Lib.hid (crash_endP h2)
  have HL2 := Lib.hid hl2
  clear h2 hl2 c1 c2 KC HH
  go_wp2_with fail
  refine NoPanic.normal ?_
  go_wp2
  refine bodyPost_end (results_none rfl _ _ _) rfl ⟨rfl, ?_⟩
  rw [HC.out]
  have hl : Cache.Leaves F w w2 := (HL.out.trans (F' := F) (c := W.drew) ⟨rfl, rfl, rfl, Nat.le_refl _, fun _ _ _ => rfl⟩ (fun x hx _ => hx)).trans HL2.out (fun x hx _ => hx)
  exact ⟨F2, ⟨g, Bv2, -1, rfl, HE.out.1⟩, hl.trans HE.out.2 (fun x hx hlt => (hf2 x hx).resolve_right (fun h => by have := HL.out.size; have : W.drew.heap.size = W.heap.size := rfl; omega)), fun b hb => (hf2 b hb).imp_right (fun h => Nat.le_trans HL.out.size h)⟩
/-- Read: bytes of the caller's own. -/
theorem read_any {w : World} {F : Nat → Prop} {v : Value} {m : Nat} {s : St} (h : RepOwn w F v m s) :
    Calls Tryd.prog 70 #[v] w fun x w' => ∃ bv, x = .returned bv ∧ RepOwn w' F v m s ∧ Below w.heap.size w w' ∧ Own w' w.heap.size s.n s.e bv := by
  obtain ⟨g, Bv, z, rfl, h⟩ := h
  have c1 := h.row.cell (i := 1) (by omega)
  rw [stP1] at c1
  have HS := Lib.hid (h.own.slice (g' := w.heap.size) (.inr (Nat.le_refl _)))
  have HN : Hid (s.n ≤ 1099511627776) := Lib.hid (by have := h.ok.n; have := h.ok.m; omega)
  have H0 := Lib.hid h
  clear h
  go_enter Tryd.func70, Tryd.ntmps70
  go_wp2_with fail
  refine (copy_of HS.out HN.out).mono ?_
  rintro _ w1 ⟨g1, rfl, ho1, hb1⟩
  have HO1 := Lib.hid ho1
  have HB1 := Lib.hid hb1
  clear ho1 hb1
  go_wp2
  go_ret
  exact ⟨_, rfl, ⟨g, Bv, z, rfl, H0.out.below HB1.out⟩, HB1.out, HO1.out⟩
end Go.Proofs.YtebchoeeohmlaaaDoor.Store
namespace Go.Proofs.YtebchoeeohmlaaaDoor.Store
open Go Go.RowKit Go.Proofs.YtebchoeeohmlaaaDoor.Aid Go.Proofs.YtebchoeeohmlaaaDoor.Cache

set_option maxRecDepth 100000 in
set_option maxHeartbeats 1000000 in
theorem replace_any {w : World} {F : Nat → Prop} {v : Value} {m : Nat} {s : St} (h : RepOwn w F v m s) (n : Nat) (e : Nat → BitVec 8) (bv : Value) (hb : Apart w F n e bv) :
    Calls Tryd.prog 72 #[v, bv] w fun x w' => x = .returned (.int .i64 (repC m s n)) ∧ Moved RepOwn F w w' v m (repS m s n e) := by
  obtain ⟨g, Bv, z, rfl, h⟩ := h
  have HP := Lib.hid (burn_any h)
  have HB := Lib.hid hb
  obtain ⟨A, c, rfl, -, -⟩ := hb
  clear h
  cases hp : power s with
  | false =>
    have HS : Hid (repS m s n e = burnS s) := Lib.hid (by unfold repS; rw [if_neg (by rw [hp]; simp)])
    have HC : Hid (repC m s n = 8) := Lib.hid (by unfold repC; rw [hp]; rfl)
    rw [hp, if_neg (by decide)] at HP
    go_enter Tryd.func72, Tryd.ntmps72
    go_wp2_with fail
    refine HP.out.mono ?_
    rintro _ w1 ⟨rfl, ⟨z1, h1⟩, hl1⟩
    have HM := Lib.hid (moved_own h1 hl1)
    clear h1 hl1
    go_wp2
    go_ret
    exact ⟨by rw [HC.out]; rfl, by rw [HS.out]; exact HM.out⟩
  | true =>
    rw [hp, if_pos rfl] at HP
    go_enter Tryd.func72, Tryd.ntmps72
    go_wp2_with fail
    refine HP.out.mono ?_
    rintro _ w1 ⟨rfl, ⟨z1, h1⟩, hl1⟩
    have HL1 := Lib.hid hl1
    have HB1 := Lib.hid (HB.out.leaves hl1)
    have c0 := h1.row.cell (i := 0) (by omega)
    rw [stP0] at c0
    have H1 := Lib.hid h1
    clear h1 hl1
    by_cases hfit : n ≤ m
    rotate_left
    · have HS : Hid (repS m s n e = burnS s) := Lib.hid (by unfold repS; rw [if_neg (by omega)])
      have HC : Hid (repC m s n = 7) := Lib.hid (by unfold repC; rw [if_pos hp, if_neg hfit])
      have q : (m : Int) < (n : Int) := by omega
      go_wp2
      go_ret
      exact ⟨by rw [HC.out]; rfl, by rw [HS.out]; exact moved_own H1.out HL1.out⟩
    · have HS : Hid (repS m s n e = holdS (burnS s) n e) := Lib.hid (by unfold repS; rw [if_pos ⟨hp, hfit⟩]; rfl)
      have HC : Hid (repC m s n = 0) := Lib.hid (by unfold repC; rw [if_pos hp, if_pos hfit])
      have q : ¬ (m : Int) < (n : Int) := by omega
      have HH := Lib.hid (hold_any H1.out n e _ _ HB1.out.slice hfit)
      go_wp2_with fail
      refine HH.out.mono ?_
      rintro _ w2 ⟨rfl, hm2⟩
      have HM := Lib.hid hm2
      clear hm2 HH
      go_wp2
      go_ret
      exact ⟨by rw [HC.out]; rfl, by rw [HS.out]; exact Own.behind HM.out HL1.out⟩
end Go.Proofs.YtebchoeeohmlaaaDoor.Store
namespace Go.Proofs.YtebchoeeohmlaaaDoor.Store
open Go Go.RowKit Go.Proofs.YtebchoeeohmlaaaDoor.Aid Go.Proofs.YtebchoeeohmlaaaDoor.Law01 Go.Proofs.YtebchoeeohmlaaaDoor.Cache

set_option maxRecDepth 100000 in
set_option maxHeartbeats 1000000 in
theorem append_any {w : World} {F : Nat → Prop} {v : Value} {m : Nat} {s : St} (h : RepOwn w F v m s) (n : Nat) (e : Nat → BitVec 8) (bv : Value) (hb : Apart w F n e bv) :
    Calls Tryd.prog 77 #[v, bv] w fun x w' => x = .returned (.int .i64 (appC m s n)) ∧ Moved RepOwn F w w' v m (appS m s n e) := by
  obtain ⟨g, Bv, z, rfl, h⟩ := h
  have HP := Lib.hid (burn_any h)
  have HOK := Lib.hid h.ok
  have HB := Lib.hid hb
  obtain ⟨A, c, rfl, -, -⟩ := hb
  clear h
  cases hp : power s with
  | false =>
    have HS : Hid (appS m s n e = burnS s) := Lib.hid (by unfold appS; rw [if_neg (by rw [hp]; simp)])
    have HC : Hid (appC m s n = 8) := Lib.hid (by unfold appC; rw [hp]; rfl)
    rw [hp, if_neg (by decide)] at HP
    go_enter Tryd.func77, Tryd.ntmps77
    go_wp2_with fail
    refine HP.out.mono ?_
    rintro _ w1 ⟨rfl, ⟨z1, h1⟩, hl1⟩
    have HM := Lib.hid (moved_own h1 hl1)
    clear h1 hl1
    go_wp2
    go_ret
    exact ⟨by rw [HC.out]; rfl, by rw [HS.out]; exact HM.out⟩
  | true =>
    rw [hp, if_pos rfl] at HP
    go_enter Tryd.func77, Tryd.ntmps77
    go_wp2_with fail
    refine HP.out.mono ?_
    rintro _ w1 ⟨rfl, ⟨z1, h1⟩, hl1⟩
    have HL1 := Lib.hid hl1
    have HB1 := Lib.hid (HB.out.leaves hl1)
    have c0 := h1.row.cell (i := 0) (by omega)
    have c1 := h1.row.cell (i := 1) (by omega)
    rw [stP0] at c0
    rw [stP1] at c1
    obtain ⟨B, d, hBv, -, -⟩ := own_shape h1.own
    have hb1 := burn_n s
    rw [hb1.1] at hBv
    subst hBv
    have hk := HOK.out
    have w1' : wrap64 ((m : Int) - (s.n : Int)) = (m : Int) - (s.n : Int) := by unfold wrap64; have := hk.n; have := hk.m; omega
    have H1 := Lib.hid h1
    clear h1 hl1
    by_cases hfit : s.n + n ≤ m
    rotate_left
    · have HS : Hid (appS m s n e = burnS s) := Lib.hid (by unfold appS; rw [if_neg (by omega)])
      have HC : Hid (appC m s n = 7) := Lib.hid (by unfold appC; rw [if_pos hp, if_neg hfit])
      have q : (m : Int) - (s.n : Int) < (n : Int) := by omega
      go_wp2_with fail
      go_quiet (fail)
      have HW : Hid (OwnStIn (w1.drewN nq) F g (.slice B s.n d) z1 m (burnS s) ∧ Cache.Leaves F w1 (w1.drewN nq)) := Lib.hid ⟨H1.out.kept (fun _ _ => rfl), ⟨rfl, rfl, rfl, Nat.le_refl _, fun _ _ _ => rfl⟩⟩
      generalize w1.drewN nq = W at *
      clear c0 c1
      go_wp2
      go_ret
      exact ⟨by rw [HC.out]; rfl, by rw [HS.out]; exact moved_own HW.out.1 (HL1.out.trans HW.out.2 (fun x hx _ => hx))⟩
    · have HS : Hid (appS m s n e = { burnS s with n := s.n + n, e := cat s.e s.n e }) := Lib.hid (by unfold appS; rw [if_pos ⟨hp, hfit⟩])
      have HC : Hid (appC m s n = 0) := Lib.hid (by unfold appC; rw [if_pos hp, if_pos hfit])
      have q : ¬ (m : Int) - (s.n : Int) < (n : Int) := by omega
      go_wp2_with fail
      go_quiet (fail)
      have HW : Hid (OwnStIn (w1.drewN nq) F g (.slice B s.n d) z1 m (burnS s) ∧ Cache.Leaves F w1 (w1.drewN nq)) := Lib.hid ⟨H1.out.kept (fun _ _ => rfl), ⟨rfl, rfl, rfl, Nat.le_refl _, fun _ _ _ => rfl⟩⟩
      generalize w1.drewN nq = W at *
      have HBW := Lib.hid (HB1.out.leaves HW.out.2)
      have c1' := HW.out.1.row.cell (i := 1) (by omega)
      rw [stP1] at c1'
      have ho := HW.out.1.own
      rw [hb1.1, hb1.2.1] at ho
      have HO := Lib.hid ho
      have hk2 := hk.n
      have hk3 := hk.m
      have HG := Lib.hid (HW.out.1.lt g HW.out.1.fg)
      clear c0 c1 H1 w1' q ho
      go_wp2_with (at_builtin
                   refine append_bytes (by rfl) (.tmp 28) (.tmp 29) (by rfl) 0 s.n s.e _ (by rfl) HO.out W.heap.size n e _ (by rfl) HBW.out.slice (by omega) (Nat.zero_le _) ?_
                   intro v2 w2 ho2 hg2 hv2
                   have hin := HW.out.1.inF
                   have hL2 : Cache.Leaves (fun b => F b ∧ b ≠ g) W w2 := ⟨hg2.os, hg2.tape, hg2.output, hg2.size, fun b hlt hnf => hg2.block b hlt (fun hb => hnf (hin b hb.symm))⟩
                   have hr2 := HW.out.1.row.of_block (hL2.block g HG.out (fun h => h.2 rfl))
                   have c2 := hr2.cell (i := 1) (by omega)
                   have f2 := hr2.frozen 1
                   have HV2 : Hid (∀ b, v2.ownBlock = some b → (F b ∧ b ≠ g) ∨ W.heap.size ≤ b) := Lib.hid fun b hb => by
                     rcases hv2 with h | h
                     · exact .inl (hin b (h ▸ hb))
                     · rw [h] at hb; cases hb; exact .inr (Nat.le_refl _)
                   have hsh := own_shape ho2
                   have HO2 := Lib.hid ho2
                   have HL2 := Lib.hid hL2
                   have HR2 := Lib.hid hr2
                   clear ho2 hg2 hv2 hin hL2 hr2 c1'
                   obtain ⟨sA, sc, hss, -, -⟩ := hsh
                   subst hss)
      go_ret
      refine ⟨by rw [HC.out]; rfl, ?_⟩
      rw [HS.out]
      exact Own.behind (HW.out.1.fresh (z' := z1) HL2.out HO2.out HV2.out rfl rfl (onlyG g 1 _ w2) ((HR2.out.set 1 _).congr (fun i hi => by match i, hi with | 0, _ => rfl | 1, _ => rfl | 2, _ => rfl | 3, _ => rfl | 4, _ => rfl)) (by rw [← HS.out]; exact app_ok HOK.out n e) HW.out.1.burn HW.out.1.lo) (HL1.out.trans HW.out.2 (fun x hx _ => hx))
end Go.Proofs.YtebchoeeohmlaaaDoor.Store
