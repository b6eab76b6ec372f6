/-
  The program's own store: New, Sync, Fuse; copyOf, hold.
-/
import Derived.Test.YtpnkcacmmjmehaaDoorStBurn
import Derived.Test.YtpnkcacmmjmehaaDoorCopyB
namespace Go.Proofs.YtpnkcacmmjmehaaDoor.Store
open Go Go.RowKit Go.Proofs.YtpnkcacmmjmehaaDoor.Aid Go.Proofs.YtpnkcacmmjmehaaDoor.Cache

theorem newP_at (m : Nat) (i : Nat) (hi : i < 5) : (#[Value.int .i64 (m : Int), .slice none 0 0, .int .i64 0, .bool false, .int .i64 (-1)] : Array Value)[i]? = some (stP (.slice none 0 0) (-1) m st0 i) := by
  match i, hi with
  | 0, _ => rfl
  | 1, _ => rfl
  | 2, _ => rfl
  | 3, _ => rfl
  | 4, _ => rfl
theorem new_no (room : Int) (w : World) (h : ¬ (0 ≤ room ∧ room ≤ 1048576)) : Calls Tryd.prog 6 #[.int .i64 room] w fun x w' => x = .returned (.tuple #[.pointer none, .int .i64 1]) ∧ Below w.heap.size w w' := by
  by_cases h1 : room < 0
  · clear h
    go_enter Tryd.func6, Tryd.ntmps6
    go_wp2
    go_ret2
    exact ⟨rfl, Below.refl _ _⟩
  · have h2 : (1048576 : Int) < room := by omega
    clear h
    go_enter Tryd.func6, Tryd.ntmps6
    go_wp2
    go_ret2
    exact ⟨rfl, Below.refl _ _⟩
theorem new_ok (room : Nat) (w : World) (h : room ≤ 1048576) : Calls Tryd.prog 6 #[.int .i64 (room : Int)] w fun x w' =>
    ∃ v F, x = .returned (.tuple #[v, .int .i64 0]) ∧ RepOwn w' F v room st0 ∧ (∀ b, F b → w.heap.size ≤ b) ∧ Below w.heap.size w w' := by
  have h1 : ¬ (room : Int) < 0 := by omega
  have h2 : ¬ (1048576 : Int) < (room : Int) := by omega
  have hr : RepOwn (w.alloc (.cells #[.int .i64 (room : Int), .slice none 0 0, .int .i64 0, .bool false, .int .i64 (-1)] 45)) (fun b => b = w.heap.size) (.pointer (some ⟨w.heap.size, 0, none⟩)) room st0 :=
    ⟨w.heap.size, .slice none 0 0, -1, rfl, row_new w _ _ 5 _ rfl (fun i hi => newP_at room i hi), rfl, fun b hb => by rw [hb]; simp, ⟨by simp [st0], .inl ⟨rfl, rfl⟩⟩, (fun b hb => by cases hb), ⟨Nat.le_refl _, Nat.zero_le _, h, by show (-1 : Int) ≤ -1; omega, by show (-1 : Int) ≤ _; omega⟩, rfl, by omega⟩
  have HR := Lib.hid hr
  have HB := Lib.hid ((Below.refl w.heap.size w).alloc (Nat.le_refl _) (.cells #[.int .i64 (room : Int), .slice none 0 0, .int .i64 0, .bool false, .int .i64 (-1)] 45))
  clear h hr
  go_enter Tryd.func6, Tryd.ntmps6
  go_wp2
  go_ret2
  first
    | exact ⟨_, rfl, _, HR.out, fun b hb => Nat.le_of_eq hb.symm, HB.out⟩
    | exact ⟨_, _, rfl, HR.out, fun b hb => Nat.le_of_eq hb.symm, HB.out⟩
theorem sync_any {w : World} {F : Nat → Prop} {v : Value} {m : Nat} {s : St} (h : RepOwn w F v m s) :
    Calls Tryd.prog 22 #[v] w fun e w' => e = .returned (.int .i64 (syncC s)) ∧ Moved RepOwn F w w' v m (syncS s) := by
  obtain ⟨g, Bv, z, rfl, h⟩ := h
  have HP := Lib.hid (burn_any h)
  have hok := Lib.hid h.ok
  clear h
  cases hp : power s with
  | false =>
    have hs : syncS s = burnS s := by unfold syncS; rw [if_neg (by rw [hp]; decide)]
    have hc : syncC s = 8 := by unfold syncC; rw [if_neg (by rw [hp]; decide)]
    have HS := Lib.hid hs
    have HC := Lib.hid hc
    rw [hp, if_neg (by decide)] at HP
    clear hs hc
    go_enter Tryd.func22, Tryd.ntmps22
    go_wp2_with fail
    refine HP.out.mono ?_
    rintro _ w1 ⟨rfl, ⟨z1, h1⟩, hl1⟩
    have HM := Lib.hid (moved_own h1 hl1)
    clear h1 hl1
    go_wp2
    go_ret
    exact ⟨by rw [HC.out]; rfl, by rw [HS.out]; exact HM.out⟩
  | true =>
    have hs : syncS s = { burnS s with sure := s.n } := by unfold syncS; rw [if_pos hp]
    have hc : syncC s = 0 := by unfold syncC; rw [if_pos hp]
    rw [hp, if_pos rfl] at HP
    go_enter Tryd.func22, Tryd.ntmps22
    go_wp2_with fail
    refine HP.out.mono ?_
    rintro _ w1 ⟨rfl, ⟨z1, h1⟩, hl1⟩
    have c1 := h1.row.cell (i := 1) (by omega)
    have c2 := h1.row.cell (i := 2) (by omega)
    have f2 := h1.row.frozen 2
    obtain ⟨A, c, hB, _, _⟩ := own_shape h1.own
    rw [stP1, hB, (burn_n s).1] at c1
    rw [stP2] at c2
    have HM := Lib.hid (h1.put 2 (.int .i64 (s.n : Int)) (s' := syncS s) (fun i hi => by rw [hs]; match i, hi with | 0, _ => rfl | 1, _ => rfl | 2, _ => rfl | 3, _ => rfl | 4, _ => rfl) (by rw [hs]) (by rw [hs]) (sync_ok hok.out) (by rw [hs]; exact h1.burn) h1.lo)
    have HL := Lib.hid hl1
    have HC := Lib.hid hc
    clear h1 hl1 hs hc
    go_wp2
    go_ret
    exact ⟨by rw [HC.out]; rfl, moved_own HM.out.1 (HL.out.trans HM.out.2 (fun x hx _ => hx))⟩
theorem fuse_any {w : World} {F : Nat → Prop} {v : Value} {m : Nat} {s : St} (h : RepOwn w F v m s) (k : Int) (hk0 : -9223372036854775808 ≤ k) (hk : k ≤ 9223372036854775807) :
    Calls Tryd.prog 8 #[v, .int .i64 k] w fun e w' => e = .returned (.tuple #[]) ∧ Moved RepOwn F w w' v m (fuseS s k) := by
  obtain ⟨g, Bv, z, rfl, h⟩ := h
  have c4 := h.row.cell (i := 4) (by omega)
  have f4 := h.row.frozen 4
  rw [stP4] at c4
  have HM := Lib.hid (h.put 4 (.int .i64 k) (s' := fuseS s k) (fun i hi => by match i, hi with | 0, _ => rfl | 1, _ => rfl | 2, _ => rfl | 3, _ => rfl | 4, _ => rfl) rfl rfl (fuse_ok h.ok k hk) rfl hk0)
  clear h hk0 hk
  go_enter Tryd.func8, Tryd.ntmps8
  go_wp2
  exact bodyPost_end (results_none rfl _ _ _) rfl ⟨rfl, moved_own HM.out.1 HM.out.2⟩
/-- copyOf: as many bytes of the call's own. -/
theorem copy_of {w : World} {gs n : Nat} {e : Nat → BitVec 8} {bv : Value} (hb : SliceOf w gs n e bv) (hn : n ≤ 1099511627776) :
    Calls Tryd.prog 26 #[bv] w fun x w' => ∃ g, x = .returned (.slice (some ⟨g, 0, none⟩) n n) ∧ Own w' w.heap.size n e (.slice (some ⟨g, 0, none⟩) n n) ∧ Below w.heap.size w w' := by
  have HB := Lib.hid hb
  have HN := Lib.hid hn
  obtain ⟨A, c, rfl, -, -⟩ := hb
  clear hn
  go_enter Tryd.func26, Tryd.ntmps26
  go_wp2_with (first
    | (refine make_own (by rfl) (.tmp 5) (.tmp 5) (by rfl) .i64 .i64 n (by rfl) (by rfl) HN.out ?_
       intro w1 ho1 hb1
       have HO1 := Lib.hid ho1
       have HB1 := Lib.hid hb1
       have HS1 := Lib.hid (slice_below HB.out hb1)
       clear ho1 hb1)
    | (refine copy_all (by rfl) (.tmp 7) (.tmp 8) (by rfl) w.heap.size n w.heap.size gs _ e HO1.out (by rfl) HN.out _ (by rfl) HS1.out ?_
       intro w2 ho2 hon
       have HO2 := Lib.hid ho2
       have HB2 : Hid (Below w.heap.size w w2) := Lib.hid ⟨hon.os.trans HB1.out.os, hon.tape.trans HB1.out.tape, hon.output.trans HB1.out.output, by rw [hon.size]; exact HB1.out.size, fun b hlt => (hon.block b (Nat.ne_of_lt hlt)).trans (HB1.out.block b hlt)⟩
       clear ho2 hon))
  go_ret
  exact ⟨_, rfl, HO2.out, HB2.out⟩
end Go.Proofs.YtpnkcacmmjmehaaDoor.Store
