/-
  The document's store: Sync and Fuse.
-/
import Derived.Test.YthacldkmjpjgiaaRefStore
namespace Go.Proofs.Ythacldkmjpjgiaa.Store
open Go Go.RowKit Go.Proofs.Ythacldkmjpjgiaa.Aid Go.Proofs.Ythacldkmjpjgiaa.Cache

theorem moved_put {w w' : World} {F : Nat → Prop} {g : Nat} {Bv : Value} {m : Nat} {s' : St} (h : RefStIn w' F g Bv m s') (hl : Cache.Leaves F w w') : Moved RefSt F w w' (.pointer (some ⟨g, 0, none⟩)) m s' := ⟨F, ⟨g, Bv, rfl, h⟩, hl, fun _ hb => .inl hb⟩
theorem refSync_any {w : World} {F : Nat → Prop} {v : Value} {m : Nat} {s : St} (h : RefSt w F v m s) :
    Calls Try.prog 21 #[v] w fun e w' => e = .returned (.int .i64 (syncC s)) ∧ Moved RefSt F w w' v m (syncS s) := by
  obtain ⟨g, Bv, rfl, h⟩ := h
  have HP := Lib.hid (power_any h)
  have hok := Lib.hid h.ok
  clear h
  go_enter Try.func21, Try.ntmps21
  go_wp2_with fail
  refine HP.out.mono ?_
  rintro _ w1 ⟨rfl, h1, hl1⟩
  cases hp : power s with
  | false =>
    have hs : syncS s = burnS s := by unfold syncS; rw [if_neg (by rw [hp]; decide)]
    have hc : syncC s = 8 := by unfold syncC; rw [if_neg (by rw [hp]; decide)]
    have HM := Lib.hid (moved_put h1 hl1)
    have HS := Lib.hid hs
    have HC := Lib.hid hc
    clear h1 hl1 hs hc
    go_wp2
    go_ret
    exact ⟨by rw [HC.out]; rfl, by rw [HS.out]; exact HM.out⟩
  | true =>
    have hs : syncS s = { burnS s with sure := s.n } := by unfold syncS; rw [if_pos hp]
    have hc : syncC s = 0 := by unfold syncC; rw [if_pos hp]
    have c0 := h1.row.cell (i := 0) (by omega)
    have c1 := h1.row.cell (i := 1) (by omega)
    have f1 := h1.row.frozen 1
    obtain ⟨A, c, hB, _, _⟩ := h1.read
    rw [stF0, hB, (burn_n s).1] at c0
    rw [stF1] at c1
    have HM := Lib.hid (h1.put 1 (.int .i64 (s.n : Int)) (s' := syncS s) (fun i hi => by rw [hs]; match i, hi with | 0, _ => rfl | 1, _ => rfl | 2, _ => rfl | 3, _ => rfl | 4, _ => rfl) (by rw [hs]) (by rw [hs]) (sync_ok hok.out))
    have HL := Lib.hid hl1
    have HC := Lib.hid hc
    clear h1 hl1 hs hc
    go_wp2
    go_ret
    exact ⟨by rw [HC.out]; rfl, moved_put HM.out.1 (HL.out.trans HM.out.2 (fun x hx _ => hx))⟩
theorem refFuse_any {w : World} {F : Nat → Prop} {v : Value} {m : Nat} {s : St} (h : RefSt w F v m s) (k : Int) (hk : k ≤ 9223372036854775807) :
    Calls Try.prog 23 #[v, .int .i64 k] w fun e w' => e = .returned (.tuple #[]) ∧ Moved RefSt F w w' v m (fuseS s k) := by
  obtain ⟨g, Bv, rfl, h⟩ := h
  have c3 := h.row.cell (i := 3) (by omega)
  have f3 := h.row.frozen 3
  rw [stF3] at c3
  have HM := Lib.hid (h.put 3 (.int .i64 (max k (-1))) (s' := fuseS s k) (fun i hi => by match i, hi with | 0, _ => rfl | 1, _ => rfl | 2, _ => rfl | 3, _ => rfl | 4, _ => rfl) rfl rfl (fuse_ok h.ok k hk))
  clear h
  go_enter Try.func23, Try.ntmps23
  go_wp2
  · have e : max k (-1) = -1 := by omega
    have hm := HM.out
    rw [e] at hm
    exact bodyPost_end (results_none rfl _ _ _) rfl ⟨rfl, moved_put hm.1 hm.2⟩
  · have e : max k (-1) = k := by omega
    have hm := HM.out
    rw [e] at hm
    exact bodyPost_end (results_none rfl _ _ _) rfl ⟨rfl, moved_put hm.1 hm.2⟩
end Go.Proofs.Ythacldkmjpjgiaa.Store
