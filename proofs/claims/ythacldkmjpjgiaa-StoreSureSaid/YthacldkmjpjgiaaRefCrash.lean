/-
  The document's store: Crash.
-/
import Derived.Test.YthacldkmjpjgiaaRefSync
import Derived.Test.YthacldkmjpjgiaaMixLast
import Derived.Test.YthacldkmjpjgiaaCutRun
import Derived.Deep.QuietTactic
import Derived.BigQuiet
namespace Go.Proofs.Ythacldkmjpjgiaa.Store
open Go Go.RowKit Go.Proofs.Ythacldkmjpjgiaa.Aid Go.Proofs.Ythacldkmjpjgiaa.Cache

theorem slice_cut {W : World} {F : Nat → Prop} {g m : Nat} {A : Option Addr} {c : Nat} {s : St} (h : RefStIn W F g (.slice A s.n c) m s) (k : Nat) (h2 : k ≤ s.n) (kd : IntKind) (W' : World) : (Instr.sliceAt 33 (.slice A s.n c) none (some (.int kd (k : Int))) none).run Try.prog W' = .ok (.slice A k c) W' := by
  have hc : s.n ≤ c := by obtain ⟨A', c', he, hc, _⟩ := h.read; simp only [Value.slice.injEq, true_and] at he; omega
  rcases h.shape with ⟨he, h0⟩ | ⟨sb, so, c', he⟩
  · simp only [Value.slice.injEq] at he
    obtain ⟨rfl, h1, rfl⟩ := he
    obtain rfl : k = 0 := by omega
    have hu := Try.underlying33
    have hsz : (Try.prog.info? 5).map (·.size) = some 1 := by kernel_rfl
    rw [h1]
    cases hq : Try.prog.info? 5 with
    | none => simp [hq] at hsz
    | some i => simp [Instr.sliceAt, Instr.slice, Instr.sliceBounds, Instr.sliceBound, asIntOf, Sem.run_bind, run_underlying hu W', Result.andThen, sizeOf, typeInfo, hq]
  · simp only [Value.slice.injEq, true_and] at he
    obtain ⟨rfl, rfl⟩ := he
    exact upto_run 33 5 Try.underlying33 (by kernel_rfl) sb so s.n c k h2 hc _ kd W' rfl
theorem RefStIn.cut {W : World} {F : Nat → Prop} {g m : Nat} {A : Option Addr} {c : Nat} {s : St} (h : RefStIn W F g (.slice A s.n c) m s) (k : Nat) (h2 : k ≤ s.n) (h3 : s.sure ≤ k) :
    RefStIn (W.setCell ⟨g, 0, none⟩ (.slice A k c)) F g (.slice A k c) m { s with n := k } ∧ Cache.Leaves F W (W.setCell ⟨g, 0, none⟩ (.slice A k c)) := by
  have oth : ∀ b, b ≠ g → (W.setCell ⟨g, 0, none⟩ (.slice A k c)).heap[b]? = W.heap[b]? := fun b hb => heap_setCell_other _ _ _ _ (by simpa using hb)
  have hsz : (W.setCell ⟨g, 0, none⟩ (.slice A k c)).heap.size = W.heap.size := by simp [World.setCell]
  refine ⟨⟨(h.row.set 0 (.slice A k c)).congr (fun i hi => by match i, hi with | 0, _ => rfl | 1, _ => rfl | 2, _ => rfl | 3, _ => rfl | 4, _ => rfl), h.fg, fun b hb => by rw [hsz]; exact h.lt b hb, ?_, (fun b hb => h.inF b (by cases A with | none => cases hb | some a => exact hb)), ⟨h3, Nat.le_trans h2 h.ok.n, h.ok.m, h.ok.lo, h.ok.hi⟩, ?_⟩, ⟨rfl, rfl, rfl, by rw [hsz]; exact Nat.le_refl _, fun b _ hn => oth b (fun e => hn (e ▸ h.fg))⟩⟩
  · obtain ⟨A', c', he, hc, hr⟩ := h.read
    simp only [Value.slice.injEq, true_and] at he
    obtain ⟨rfl, rfl⟩ := he
    refine ⟨A, c, rfl, Nat.le_trans h2 hc, fun h0 => ?_⟩
    obtain ⟨sb, so, hA, hne, hj⟩ := hr (by show 0 < s.n; have : 0 < k := h0; omega)
    refine ⟨sb, so, hA, hne, fun j hjk => ?_⟩
    rw [← hj j (by show j < s.n; have : j < k := hjk; omega)]
    unfold World.cell?
    rw [oth sb hne]
  · rcases h.shape with ⟨he, h0⟩ | ⟨sb, so, c', he⟩
    · simp only [Value.slice.injEq] at he
      obtain ⟨rfl, h1, rfl⟩ := he
      obtain rfl : k = 0 := by omega
      exact .inl ⟨rfl, rfl⟩
    · simp only [Value.slice.injEq, true_and] at he
      exact .inr ⟨sb, so, c, by rw [he.1]⟩
theorem crash_end {W : World} {F : Nat → Prop} {g : Nat} {Bv : Value} {m : Nat} {t : St} (h : RefStIn W F g Bv m t) :
    RefStIn (((W.setCell ⟨g, 1, none⟩ (.int .i64 (t.n : Int))).setCell ⟨g, 4, none⟩ (.bool false)).setCell ⟨g, 3, none⟩ (.int .i64 (-1))) F g Bv m { t with sure := t.n, burn := -1, down := false } ∧
    Cache.Leaves F W (((W.setCell ⟨g, 1, none⟩ (.int .i64 (t.n : Int))).setCell ⟨g, 4, none⟩ (.bool false)).setCell ⟨g, 3, none⟩ (.int .i64 (-1))) := by
  have hok := h.ok
  obtain ⟨h1, l1⟩ := h.put 1 (.int .i64 (t.n : Int)) (s' := { t with sure := t.n }) (fun i hi => by match i, hi with | 0, _ => rfl | 1, _ => rfl | 2, _ => rfl | 3, _ => rfl | 4, _ => rfl) rfl rfl ⟨Nat.le_refl _, hok.n, hok.m, hok.lo, hok.hi⟩
  obtain ⟨h2, l2⟩ := h1.put 4 (.bool false) (s' := { t with sure := t.n, down := false }) (fun i hi => by match i, hi with | 0, _ => rfl | 1, _ => rfl | 2, _ => rfl | 3, _ => rfl | 4, _ => rfl) rfl rfl ⟨Nat.le_refl _, hok.n, hok.m, hok.lo, hok.hi⟩
  obtain ⟨h3, l3⟩ := h2.put 3 (.int .i64 (-1)) (s' := { t with sure := t.n, burn := -1, down := false }) (fun i hi => by match i, hi with | 0, _ => rfl | 1, _ => rfl | 2, _ => rfl | 3, _ => rfl | 4, _ => rfl) rfl rfl ⟨Nat.le_refl _, hok.n, hok.m, by show (-1 : Int) ≤ -1; omega, by show (-1 : Int) ≤ _; omega⟩
  exact ⟨h3, (l1.trans l2 (fun x hx _ => hx)).trans l3 (fun x hx _ => hx)⟩
theorem drewN_same (w : World) : ∀ (q : Nat) (b : Nat), (w.drewN q).heap[b]? = w.heap[b]?
  | 0, _ => rfl
  | q + 1, b => drewN_same w q b
theorem leaves_drewN (F : Nat → Prop) (w : World) : ∀ q, Cache.Leaves F w (w.drewN q)
  | 0 => Cache.Leaves.refl _ _
  | q + 1 => (leaves_drewN F w q).drew
set_option maxRecDepth 100000 in
set_option maxHeartbeats 1000000 in
theorem refCrash_any {w : World} {F : Nat → Prop} {v : Value} {m : Nat} {s : St} (h : RefSt w F v m s) (k : Int) :
    Calls Try.prog 24 #[v, .int .i64 k] w fun e w' => e = .returned (.tuple #[]) ∧ Moved RefSt F w w' v m (crashS s k) := by
  obtain ⟨g, Bv, rfl, h⟩ := h
  have c0 := h.row.cell (i := 0) (by omega)
  have c1 := h.row.cell (i := 1) (by omega)
  rw [stF0] at c0
  rw [stF1] at c1
  obtain ⟨A, c, rfl, hc, hr⟩ := h.read
  have hsure := h.ok.sure
  have hn := h.ok.n
  have hm := h.ok.m
  have HA := Lib.hid h
  have hw : wrap64 ((s.n : Int) - (s.sure : Int)) = (s.n : Int) - (s.sure : Int) := by unfold wrap64; omega
  go_enter Try.func24, Try.ntmps24
  go_wp2_with fail
  go_quiet (fail)
  have HW : Hid (RefStIn (w.drewN nq) F g (.slice A s.n c) m s ∧ Cache.Leaves F w (w.drewN nq)) := Lib.hid ⟨HA.out.kept (fun b hb => (drewN_same w nq b).symm ▸ rfl), leaves_drewN F w nq⟩
  generalize w.drewN nq = W at *
  obtain ⟨hW, hLW⟩ := HW.out
  have HL := Lib.hid hLW
  clear HW hLW c0 c1 h HA hw
  by_cases hk : k < (s.n : Int) - (s.sure : Int)
  · have hcr : crashN s k = s.sure + k.toNat := by unfold crashN; rw [if_pos hk]
    have hle := crash_le hW.ok k
    have HC : Hid (crashS s k = { ({ s with n := crashN s k } : St) with sure := crashN s k, burn := -1, down := false }) := Lib.hid rfl
    have KC := fun kd W' => slice_cut hW (crashN s k) hle.1 kd W'
    have HCUT := Lib.hid (hW.cut (crashN s k) hle.1 hle.2)
    have hmax : (s.sure : Int) + max k 0 = (crashN s k : Int) := by rw [hcr]; omega
    have c0 := hW.row.cell (i := 0) (by omega)
    have c1 := hW.row.cell (i := 1) (by omega)
    have f0 := hW.row.frozen 0
    rw [stF0] at c0
    rw [stF1] at c1
    generalize crashN s k = N at *
    clear hW hcr
    go_wp2_with fail
    refine region_mix_last (fun W' => W'.cell? ⟨g, 0, none⟩ = some (.slice A s.n c) ∧ W'.cell? ⟨g, 1, none⟩ = some (.int .i64 (s.sure : Int))) 15 [(0, true), (1, true), (2, true), (3, true), (4, true), (5, true), (6, true), (7, true), (8, true), (9, true), (10, true), (11, true), (12, true), (13, false), (14, true)] (by kernel_rfl) (by rfl) (by kernel_rfl) ⟨c0, c1⟩ ?_
    have hwN : IntKind.i64.wrap (N : Int) = (N : Int) := by rw [IntKind.wrap_i64]; omega
    refine m_val rfl (by rfl) (.pointer (some ⟨g, 0, none⟩)) (fun W' ⟨u0, u1⟩ => by go_simp) ?_
    simp only [Act.put, List.setIfInBounds_toArray, List.set_cons_zero, List.set_cons_succ]
    refine m_val rfl (by rfl) (.pointer (some ⟨g, 0, none⟩)) (fun W' ⟨u0, u1⟩ => by go_simp) ?_
    simp only [Act.put, List.setIfInBounds_toArray, List.set_cons_zero, List.set_cons_succ]
    refine m_val rfl (by rfl) (.pointer (some ⟨g, 0, none⟩)) (fun W' ⟨u0, u1⟩ => by go_simp) ?_
    simp only [Act.put, List.setIfInBounds_toArray, List.set_cons_zero, List.set_cons_succ]
    refine m_val rfl (by rfl) (.pointer (some ⟨g, 0, none⟩)) (fun W' ⟨u0, u1⟩ => by go_simp) ?_
    simp only [Act.put, List.setIfInBounds_toArray, List.set_cons_zero, List.set_cons_succ]
    refine m_val rfl (by rfl) (.slice A s.n c) (fun W' ⟨u0, u1⟩ => by go_simp) ?_
    simp only [Act.put, List.setIfInBounds_toArray, List.set_cons_zero, List.set_cons_succ]
    refine m_val rfl (by rfl) (.pointer (some ⟨g, 0, none⟩)) (fun W' ⟨u0, u1⟩ => by go_simp) ?_
    simp only [Act.put, List.setIfInBounds_toArray, List.set_cons_zero, List.set_cons_succ]
    refine m_val rfl (by rfl) (.pointer (some ⟨g, 0, none⟩)) (fun W' ⟨u0, u1⟩ => by go_simp) ?_
    simp only [Act.put, List.setIfInBounds_toArray, List.set_cons_zero, List.set_cons_succ]
    refine m_val rfl (by rfl) (.pointer (some ⟨g, 1, none⟩)) (fun W' ⟨u0, u1⟩ => by go_simp) ?_
    simp only [Act.put, List.setIfInBounds_toArray, List.set_cons_zero, List.set_cons_succ]
    refine m_val rfl (by rfl) (.int .i64 (s.sure : Int)) (fun W' ⟨u0, u1⟩ => by go_simp) ?_
    simp only [Act.put, List.setIfInBounds_toArray, List.set_cons_zero, List.set_cons_succ]
    refine m_val rfl (by rfl) (.int .i64 k) (fun W' ⟨u0, u1⟩ => by go_simp) ?_
    simp only [Act.put, List.setIfInBounds_toArray, List.set_cons_zero, List.set_cons_succ]
    refine m_val rfl (by rfl) (.int .i64 (max k 0)) (fun W' ⟨u0, u1⟩ => by go_simp; split <;> omega) ?_
    simp only [Act.put, List.setIfInBounds_toArray, List.set_cons_zero, List.set_cons_succ]
    refine m_val rfl (by rfl) (.int .i64 (N : Int)) (fun W' ⟨u0, u1⟩ => by go_simp) ?_
    simp only [Act.put, List.setIfInBounds_toArray, List.set_cons_zero, List.set_cons_succ]
    refine m_val rfl (by rfl) (.slice A N c) (fun W' ⟨u0, u1⟩ => by go_simp) ?_
    simp only [Act.put, List.setIfInBounds_toArray, List.set_cons_zero, List.set_cons_succ]
    refine m_go rfl ?_
    go_wp2_with fail
    refine m_on ⟨c0, c1⟩ ?_
    refine m_val rfl (by rfl) (.pointer (some ⟨g, 0, none⟩)) (fun W' ⟨u0, u1⟩ => by go_simp) ?_
    simp only [Act.put, List.setIfInBounds_toArray, List.set_cons_zero, List.set_cons_succ]
    refine m_end ?_
    have HX : Hid (RefStIn (W.setCell ⟨g, 0, none⟩ (.slice A N c)).drew F g (.slice A N c) m { s with n := N } ∧ Cache.Leaves F w (W.setCell ⟨g, 0, none⟩ (.slice A N c)).drew) := Lib.hid ⟨HCUT.out.1.kept (fun b _ => rfl), HL.out.trans (F' := F) HCUT.out.2.drew (fun x hx _ => hx)⟩
    clear HCUT KC hmax hwN HL
    have c0 : W.drew.cell? ⟨g, 0, none⟩ = some (.slice A s.n c) := c0
    have f0 : W.drew.frozen? ⟨g, 0, none⟩ = false := f0
    dsimp only
    go_wp2_with fail
    refine NoPanic.normal ?_
    clear c0 c1 f0
    generalize (W.setCell ⟨g, 0, none⟩ (.slice A N c)).drew = W2 at *
    obtain ⟨hW, hL2⟩ := HX.out
    have HL2 := Lib.hid hL2
    clear HX hL2 hr hle
    have c1 := hW.row.cell (i := 1) (by omega)
    have c3 := hW.row.cell (i := 3) (by omega)
    have c4 := hW.row.cell (i := 4) (by omega)
    have c0 := hW.row.cell (i := 0) (by omega)
    have f1 := hW.row.frozen 1
    have f3 := hW.row.frozen 3
    have f4 := hW.row.frozen 4
    rw [stF0] at c0
    rw [stF1] at c1
    rw [stF3] at c3
    rw [stF4] at c4
    have HE := Lib.hid (crash_end hW)
    clear hW
    go_wp2
    exact bodyPost_end (results_none rfl _ _ _) rfl ⟨rfl, by rw [HC.out]; exact moved_put HE.out.1 (HL2.out.trans HE.out.2 (fun x hx _ => hx))⟩
  · have hcr : crashN s k = s.n := by unfold crashN; rw [if_neg hk]
    have HC : Hid (crashS s k = { s with sure := s.n, burn := -1, down := false }) := Lib.hid (by unfold crashS; rw [hcr])
    clear hcr hr
    have c1 := hW.row.cell (i := 1) (by omega)
    have c3 := hW.row.cell (i := 3) (by omega)
    have c4 := hW.row.cell (i := 4) (by omega)
    have c0 := hW.row.cell (i := 0) (by omega)
    have f1 := hW.row.frozen 1
    have f3 := hW.row.frozen 3
    have f4 := hW.row.frozen 4
    rw [stF0] at c0
    rw [stF1] at c1
    rw [stF3] at c3
    rw [stF4] at c4
    have HE := Lib.hid (crash_end hW)
    clear hW
    go_wp2
    exact bodyPost_end (results_none rfl _ _ _) rfl ⟨rfl, by rw [HC.out]; exact moved_put HE.out.1 (HL.out.trans HE.out.2 (fun x hx _ => hx))⟩
end Go.Proofs.Ythacldkmjpjgiaa.Store
