/-
  The program's own store: Turn.
-/
import Derived.Test.YthacldkmjpjgiaaStHold
namespace Go.Proofs.Ythacldkmjpjgiaa.Store
open Go Go.RowKit Go.Proofs.Ythacldkmjpjgiaa.Aid Go.Proofs.Ythacldkmjpjgiaa.Cache

theorem xor8p (x y : BitVec 8) : bits .xor .u8 (x.toNat : Int) (y.toNat : Int) = ((x ^^^ y).toNat : Int) := by
  have h8 : ∀ z : BitVec 8, BitVec.ofInt 8 (z.toNat : Int) = z := fun z => by
    apply BitVec.eq_of_toNat_eq
    rw [BitVec.toNat_ofInt]
    have := z.isLt
    omega
  show IntKind.u8.wrap ((BitVec.ofInt 8 (x.toNat : Int) ^^^ BitVec.ofInt 8 (y.toNat : Int)).toNat : Int) = _
  rw [h8, h8, IntKind.wrap_u8']
  have := (x ^^^ y).isLt
  omega
theorem own_block {W : World} {base n : Nat} {e : Nat → BitVec 8} {v : Value} (h : Own W base n e v) (h0 : 0 < n) : ∃ g cap, v = .slice (some ⟨g, 0, none⟩) n cap ∧ ∀ j, j < n → W.cell? ⟨g, j, none⟩ = some (.int .u8 ((e j).toNat : Int)) ∧ W.frozen? ⟨g, j, none⟩ = false := by
  rcases h.form with ⟨rfl, h1⟩ | ⟨g, cap, cur, rfl, _⟩
  · omega
  · exact ⟨g, cap, rfl, fun j hj => own_at h j hj⟩
set_option maxRecDepth 100000 in
set_option maxHeartbeats 1000000 in
theorem turn_any {w : World} {F : Nat → Prop} {v : Value} {m : Nat} {s : St} (h : RepOwn w F v m s) (k : Int) (x : BitVec 8) :
    Calls Try.prog 18 #[v, .int .i64 k, .int .u8 (x.toNat : Int)] w fun y w' => y = .returned (.int .i64 (turnC s k)) ∧ Moved RepOwn F w w' v m (turnS s k x) := by
  obtain ⟨g, Bv, z, rfl, h⟩ := h
  have c1 := h.row.cell (i := 1) (by omega)
  rw [stP1] at c1
  obtain ⟨A, c, hB, hnc, -⟩ := own_shape h.own
  have H0 := Lib.hid h
  by_cases hin : 0 ≤ k ∧ k < (s.n : Int)
  rotate_left
  · have HC : Hid (turnC s k = 4) := Lib.hid (by unfold turnC; rw [if_neg hin])
    have HS : Hid (turnS s k x = s) := Lib.hid (by unfold turnS; rw [if_neg hin])
    rw [hB] at c1
    clear h
    by_cases hk0 : k < 0
    · clear hin
      go_enter Try.func18, Try.ntmps18
      go_wp2
      go_ret
      exact ⟨by rw [HC.out]; rfl, by rw [HS.out]; exact moved_own H0.out (Cache.Leaves.refl _ _)⟩
    · have hk1 : (s.n : Int) ≤ k := by omega
      clear hin
      go_enter Try.func18, Try.ntmps18
      go_wp2
      go_ret
      exact ⟨by rw [HC.out]; rfl, by rw [HS.out]; exact moved_own H0.out (Cache.Leaves.refl _ _)⟩
  · obtain ⟨j, rfl⟩ : ∃ j : Nat, k = (j : Int) := ⟨k.toNat, by omega⟩
    have HS : Hid (turnS s (j : Int) x = { s with e := turnE s.e j x }) := Lib.hid (by unfold turnS; rw [if_pos hin]; rfl)
    have HC : Hid (turnC s (j : Int) = 0) := Lib.hid (by unfold turnC; rw [if_pos hin])
    have hj : j < s.n := by omega
    obtain ⟨gb, cap, rfl, hcell⟩ := own_block h.own (by omega)
    obtain ⟨cj, fj⟩ := hcell j hj
    have k1 : ¬ (j : Int) < 0 := by omega
    have k2 : ¬ (s.n : Int) ≤ (j : Int) := by omega
    have k3 : (j : Int) < (s.n : Int) := by omega
    have k4 : (0 : Int) ≤ (j : Int) := by omega
    have hgb := h.inF gb rfl
    have HP := Lib.hid (own_put h.own j hj (s.e j ^^^ x) _ (xor8p (s.e j) x))
    clear h hin hcell hB hnc
    go_enter Try.func18, Try.ntmps18
    go_wp2
    go_ret
    refine ⟨by rw [HC.out]; rfl, ?_⟩
    have he : setAt s.e j (s.e j ^^^ x) = turnE s.e j x := by
      funext i
      unfold setAt turnE
      by_cases hi : i = j
      · subst hi; simp
      · simp [hi]
    have ho := HP.out
    rw [he] at ho
    rw [HS.out]
    have oth : ∀ (u : Value) (b : Nat), b ≠ gb → (w.setCell ⟨gb, j, none⟩ u).heap[b]? = w.heap[b]? := fun u b hb => heap_setCell_other _ _ _ _ (by simpa using hb)
    refine moved_own (z := z) (Bv := .slice (some ⟨gb, 0, none⟩) s.n cap) ⟨(H0.out.row.of_block (oth _ g (fun e => hgb.2 e.symm))).congr (fun i hi => by match i, hi with | 0, _ => rfl | 1, _ => rfl | 2, _ => rfl | 3, _ => rfl | 4, _ => rfl), H0.out.fg, fun b hb => by simp [World.setCell]; exact H0.out.lt b hb, ho, H0.out.inF, ⟨H0.out.ok.sure, H0.out.ok.n, H0.out.ok.m, H0.out.ok.lo, H0.out.ok.hi⟩, H0.out.burn, H0.out.lo⟩ ⟨rfl, rfl, rfl, by simp [World.setCell], fun b _ hn => oth _ b (fun e => hn (e ▸ hgb.1))⟩
end Go.Proofs.Ythacldkmjpjgiaa.Store
