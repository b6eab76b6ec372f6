/-
  What slices.Delete(s, i, i+1) does at []book.Entry.
-/
import Derived.Test.YtebchoeeohmlaaaDoorBd12
import Derived.Test.YtebchoeeohmlaaaDoorBd06
import Derived.Test.YtebchoeeohmlaaaDoorProg
namespace Go.Proofs.YtebchoeeohmlaaaDoor.Book
open Go Go.RowKit Go.Proofs.YtebchoeeohmlaaaDoor.Aid

theorem info_delE : (Tryd.prog.info? 95).map (fun i => (i.zero, i.size, i.bytes)) = some (some (.agg #[.string ⟨#[]⟩, .int .u8 0, .int .u8 0, .int .u8 0, .int .u8 0, .int .u8 0, .int .u8 0, .int .u8 0, .int .u8 0, .int .u8 0, .int .u8 0, .int .u8 0, .int .u8 0, .int .u8 0, .int .u8 0, .int .u8 0, .int .u8 0]), 17, 32) := by kernel_rfl
theorem zeroEnt (w : World) : (zeroValue 95).run Tryd.prog w = .ok (.agg #[.string ⟨#[]⟩, .int .u8 0, .int .u8 0, .int .u8 0, .int .u8 0, .int .u8 0, .int .u8 0, .int .u8 0, .int .u8 0, .int .u8 0, .int .u8 0, .int .u8 0, .int .u8 0, .int .u8 0, .int .u8 0, .int .u8 0, .int .u8 0]) w := by kernel_rfl
set_option maxRecDepth 100000 in
set_option maxHeartbeats 2000000 in
theorem deleteE (base : Nat) (L : List (List Value)) (v : Value) (w : World) (hv : OwnE w base 95 17 L v) (hone : ∀ r ∈ L, ∀ q ∈ r, q.oneCell' = true) (i : Nat) (hi : i < L.length) (hn : L.length ≤ 1000000) :
    Calls Tryd.prog 82 #[v, .int .i64 (i : Int), .int .i64 ((i : Int) + 1)] w fun x w' => ∃ r, x = .returned r ∧ OwnE w' base 95 17 (L.take i ++ L.drop (i + 1)) r ∧ w.grownBy w' v.ownBlock ∧ r.ownBlock = v.ownBlock := by
  have hsh := hv.own.2
  rcases hsh with ⟨-, h0⟩ | ⟨g, c, cur, rfl, -, -, hcap, -⟩
  · omega
  obtain ⟨n, hnn⟩ : ∃ n, n = L.length := ⟨_, rfl⟩
  have HT : Hid (OwnE w base 95 17 (L.take i) (.slice (some ⟨g, 0, none⟩) i c)) := Lib.hid (hv.take i (Nat.le_of_lt hi))
  have HDL : Hid ((L.drop (i + 1)).length = n - (i + 1)) := Lib.hid (by rw [List.length_drop, hnn])
  have HDR : Hid (∀ r ∈ L.drop (i + 1), r.length = 17) := Lib.hid (fun r hr => hv.len r (List.mem_of_mem_drop hr))
  have HDO : Hid (∀ r ∈ L.drop (i + 1), ∀ q ∈ r, q.oneCell' = true) := Lib.hid (fun r hr => hone r (List.mem_of_mem_drop hr))
  have HD : Hid (∀ j u, (L.drop (i + 1)).flatten[j]? = some u → w.cell? ⟨g, (if c = i + 1 then 0 else 0 + (i + 1) * 17) + j, none⟩ = some u) := Lib.hid (fun j u hj => by
    have hj' := (List.getElem?_eq_some_iff.1 hj).1
    rw [flat_len HDR.out, HDL.out] at hj'
    have hne : ¬ c = i + 1 := fun e => by
      have : n - (i + 1) = 0 := by omega
      rw [this] at hj'
      omega
    rw [if_neg hne, Nat.zero_add]
    obtain ⟨k, t, r, h1, h2, rfl⟩ := flat_inv HDR.out hj
    rw [List.getElem?_drop] at h1
    obtain ⟨f, hr, -, -, -, -, hf⟩ := hv.toRow
    have hk := (List.getElem?_eq_some_iff.1 h1).1
    have ht := (List.getElem?_eq_some_iff.1 h2).1
    have hrl := hv.len r (List.mem_of_getElem? h1)
    rw [show (i + 1) * 17 + (k * 17 + t) = (i + 1 + k) * 17 + t by omega, hr.cell (by omega), hf _ r t u h1 h2])
  rw [← hnn] at hi hn hcap ⊢
  have k1 : ∀ W, (Instr.sliceAt 35 (.slice (some ⟨g, 0, none⟩) n c) none (some (.int .i64 (i : Int))) none).run Tryd.prog W = _ := fun W => rows_head_run (P := Tryd.prog) 35 95 17 Tryd.underlying35 (by kernel_rfl) (some ⟨g, 0, none⟩) (fun x hx => ⟨g, 0, (Option.some.inj hx).symm⟩) n c i (by omega) .i64 W
  have k2 := fun W => rows_from_at (P := Tryd.prog) 35 95 17 Tryd.underlying35 (by kernel_rfl) g 0 n c (i + 1) (by omega) ((i : Int) + 1) .i64 W (by omega)
  obtain ⟨vf, hf⟩ := rows_full_run (P := Tryd.prog) 35 95 17 Tryd.underlying35 (by kernel_rfl) (some ⟨g, 0, none⟩) n c i (i + 1) n (by omega) (by omega) hcap
  have k3 := fun W => hf (i : Int) ((i : Int) + 1) (n : Int) .i64 .i64 .i64 W rfl (by omega) rfl
  have qe : ((i : Int) == (i : Int) + 1) = false := by simp; omega
  generalize (if c = i + 1 then 0 else 0 + (i + 1) * 17) = o2 at *
  clear hf hv hone hnn
  go_enter Tryd.func82, Tryd.ntmps82
  go_wp2_with fail
  refine region_mix (fun _ => True) [(0, true), (1, true), (2, true), (3, true), (4, true), (5, true), (6, false), (7, false)] (by kernel_rfl) (by kernel_rfl) trivial ?_
  iterate 6
    refine m_val rfl (by rfl) _ (fun W hW => by go_simp; rfl) ?_
    simp only [Act.put, List.setIfInBounds_toArray, List.set_cons_zero, List.set_cons_succ]
  have HT1 : Hid (OwnE w.drew base 95 17 (L.take i) (.slice (some ⟨g, 0, none⟩) i c)) := Lib.hid (HT.out.keep (fun _ _ => rfl))
  have HD1 : Hid (∀ j u, (L.drop (i + 1)).flatten[j]? = some u → w.drew.cell? ⟨g, o2 + j, none⟩ = some u) := HD
  have HG0 : Hid (w.grownBy w.drew (some g)) := Lib.hid ⟨rfl, rfl, rfl, Nat.le_refl _, fun _ _ _ => rfl⟩
  clear HT HD
  generalize w.drew = w1 at *
  refine m_go rfl ?_
  go_wp2_with (at_builtin
               refine append_rows_room (by rfl) (.tmp 22) (.tmp 25) 35 (by rfl) base 95 17 32 _ Tryd.underlying35 info_delE (L.take i) g i c (by rfl) HT1.out (n - (i + 1)) g o2 (c - (i + 1)) (L.drop (i + 1)) (by rfl) HDL.out HDR.out HDO.out HD1.out (by omega) ?_
               intro W2 hown2 hg2)
  rw [show i + (n - (i + 1)) = n - 1 by omega] at hown2 ⊢
  have HO2 := Lib.hid hown2
  have HG2 := Lib.hid (HG0.out.trans hg2)
  clear hown2 hg2 HT1 HD1 HG0
  refine m_on trivial ?_
  refine m_go rfl ?_
  go_wp2_with fail
  refine m_on trivial ?_
  refine m_end ?_
  have k5 := fun W => rows_mid_run (P := Tryd.prog) 35 95 17 Tryd.underlying35 (by kernel_rfl) g 0 (n - 1) c (n - 1) n (by omega) (by omega) (by omega) ((n - 1 : Nat) : Int) (n : Int) .i64 .i64 W rfl rfl
  rw [show n - (n - 1) = 1 by omega, Nat.zero_add] at k5
  obtain ⟨W3, kc, ho3, hg3⟩ := run_clear_rows (P := Tryd.prog) 35 95 0 17 _ Tryd.underlying35 zeroEnt (by rfl) (by decide) W2 base g (n - 1) c 1 (c - (n - 1)) _ HO2.out (by omega)
  have HO3 := Lib.hid ho3
  have HG3 := Lib.hid (HG2.out.trans hg3)
  clear HO2 HG2 ho3 hg3
  go_wp2
  go_ret
  exact ⟨_, rfl, HO3.out, HG3.out, rfl⟩
end Go.Proofs.YtebchoeeohmlaaaDoor.Book
