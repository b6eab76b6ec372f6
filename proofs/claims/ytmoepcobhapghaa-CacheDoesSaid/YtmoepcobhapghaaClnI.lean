/-
  What slices.Clone does at []int.
-/
import Derived.Test.YtmoepcobhapghaaKeyList
import Derived.Test.YtmoepcobhapghaaOwnQ
import Derived.Test.YtmoepcobhapghaaProg
namespace Go.Proofs.Ytmoepcobhapghaa.Cache
open Go Go.RowKit Go.Proofs.Ytmoepcobhapghaa.Aid

theorem info_intQc : (Try.prog.info? 3).map (fun i => (i.zero, i.size, i.bytes)) = some (some (.int .i64 0), 1, 8) := by kernel_rfl
set_option maxRecDepth 100000 in
set_option maxHeartbeats 1000000 in
theorem cloneI (base : Nat) (xs : List Value) (v : Value) (w : World) (hv : OwnQ w base 3 v xs) (hone : ∀ u ∈ xs, u.oneCell' = true) (hn : xs.length ≤ 1000000) :
    Calls Try.prog 27 #[v] w fun x w' => ∃ r, x = .returned r ∧ OwnQ w' w.heap.size 3 r xs ∧ Below w.heap.size w w' := by
  have qT : ∀ (w : World) (a : Option Addr) (n c n' c' : Nat), (binOp .eql 40 (.slice a n c) (.slice none n' c')).run Try.prog w = .ok (.bool a.isNone) w := fun w a n c n' c' => Lib.run_eql_slice_nil w _ _ a n c n' c' Try.underlying40
  rcases hv with ⟨rfl, rfl⟩ | ⟨g, o, c, cur, rfl, h1, h2, h3, h4, h5, h6⟩
  · go_enter Try.func27, Try.ntmps27
    go_wp2
    go_ret
    exact ⟨_, rfl, OwnQ.nil _ _ _, Below.refl _ _⟩
  · have hg : g < w.heap.size := (Array.getElem?_eq_some_iff.1 h2).1
    have HE := Lib.hid (OwnV.toQ (OwnV.empty w 3))
    have hb1 : Below w.heap.size w (w.alloc (.cells #[] 3)) := (Below.refl _ _).alloc (Nat.le_refl _) _
    have HB1 := Lib.hid hb1
    have HC : Hid (∀ j u, xs[j]? = some u → (w.alloc (.cells #[] 3)).cell? ⟨g, o + j, none⟩ = some u) := Lib.hid (fun j u hj => (hb1.cell (p := ⟨g, o + j, none⟩) hg).trans (by simp [World.cell?, h2, h6 j u hj]))
    obtain ⟨n, hnn⟩ : ∃ n, n = xs.length := ⟨_, rfl⟩
    rw [← hnn] at h4 hn ⊢
    have HN := Lib.hid hnn
    have HO := Lib.hid hone
    clear hb1 h2 h6 hnn hone
    go_enter Try.func27, Try.ntmps27
    go_wp2_with (at_builtin
                 refine append_q (by rfl) (.tmp 5) (.tmp 6) 40 (by rfl) w.heap.size 3 _ _ Try.underlying40 info_intQc (by rfl) (by omega) [] _ (by rfl) HE.out g o c n xs (by rfl) HN.out.symm HC.out HO.out (by simp; omega) HB1.out.size ?_
                 intro r w2 hown2 hg2 _
                 have HB2 : Hid (Below w.heap.size w w2) := HB1.out.grown hg2 HB1.out.size (fun b hb => (HE.out.lt b hb).1)
                 have HO2 : Hid (OwnQ w2 w.heap.size 3 r xs) := hown2
                 clear hown2 hg2 HE HB1 HC)
    go_ret
    exact ⟨_, rfl, HO2.out, HB2.out⟩
end Go.Proofs.Ytmoepcobhapghaa.Cache
