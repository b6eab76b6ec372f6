/-
  The walk of CacheKinds.
-/
import Derived.Test.YtmoepcobhapghaaLaw11Awake
import Derived.Test.YtmoepcobhapghaaOpsAt
import Derived.Test.YtmoepcobhapghaaCacheTwo
import Derived.Deep.CutBlock
import Derived.Deep.DeepCutAuto
namespace Go.Proofs.Ytmoepcobhapghaa.Law11
open Go Go.RowKit Go.Proofs.Ytmoepcobhapghaa.Aid Go.Proofs.Ytmoepcobhapghaa.Cache

/-- A code of two bytes: the key of the one table, and of the other. -/
def numC (c : UInt8 × UInt8) : Int := (c.1.toNat : Int) + 256 * (c.2.toNat : Int)
def nameC (c : UInt8 × UInt8) : ByteArray := ⟨#[c.1, c.2]⟩
theorem numC_inj (x y : UInt8 × UInt8) (h : numC x = numC y) : x = y := by
  unfold numC at h
  have h1 := x.1.toNat_lt
  have h2 := y.1.toNat_lt
  have e1 : x.1.toNat = y.1.toNat := by omega
  have e2 : x.2.toNat = y.2.toNat := by omega
  exact Prod.ext (UInt8.toNat_inj.1 e1) (UInt8.toNat_inj.1 e2)
theorem numC_ok (x : UInt8 × UInt8) : okI (numC x) := by
  unfold numC okI
  have h1 := x.1.toNat_lt
  have h2 := x.2.toNat_lt
  omega
theorem nameC_ok (x : UInt8 × UInt8) : okS (nameC x) := by
  unfold okS nameC
  simp [ByteArray.size]
theorem nameC_inj (x y : UInt8 × UInt8) (h : nameC x = nameC y) : x = y := by
  unfold nameC at h
  simp at h
  exact Prod.ext h.1 h.2
set_option maxRecDepth 100000 in
set_option maxHeartbeats 4000000 in
theorem kinds_any {Rep : RepI} {RepB : RepS} (H : CacheHas Rep) (HB : KindsHas RepB) (most : Int) (n : Nat) (X : Nat → OpV) (v : Value) (w : World) (hv : OpsAt w w.heap.size n X v) :
    Calls Try.prog 5 #[.int .i64 most, v] w fun x w' => x = .returned (.bool true) ∧ Below w.heap.size w w' := by
  obtain ⟨hok, A, c, rfl, hv⟩ := hv
  have HOK := Lib.hid hok
  have HV := Lib.hid hv
  have HH := Lib.hid H
  have HK := Lib.hid HB
  have AW := Lib.hid (awake_any H w)
  clear hv H HB hok
  go_enter Try.func5, Try.ntmps5
  go_wp2_with fail
  refine AW.out.mono ?_
  rintro _ w1 ⟨rfl, hb1⟩
  have B1 := Lib.hid hb1
  clear AW hb1
  by_cases h60 : 60 < n
  · have q : (60 : Int) < (n : Int) := by omega
    clear HV HH h60
    go_wp2
    go_ret
    exact ⟨rfl, B1.out⟩
  have q : ¬ (60 : Int) < (n : Int) := by omega
  by_cases hm : 1 ≤ most ∧ most ≤ 1000
  · obtain ⟨m, rfl⟩ : ∃ m : Nat, most = (m : Int) := ⟨most.toNat, by omega⟩
    have HM : Hid (1 ≤ m ∧ m ≤ 1000) := Lib.hid (by omega)
    have qm : (m : Int) ≤ 1000 := by omega
    clear hm
    go_wp2_with fail
    refine (HH.out.tab.newH m HM.out w w1 B1.out).mono ?_
    rintro _ w2 ⟨p, rfl, g2, hb2⟩
    have G2 := Lib.hid g2
    clear B1 g2 hb2
    go_wp2_with fail
    refine (HK.out.tab.new_ok m w2 HM.out).mono ?_
    rintro _ w3 ⟨v3, F3, rfl, h3, h3a, h3b⟩
    obtain ⟨p3, rfl⟩ := HK.out.tab.ptr h3
    have G3 := Lib.hid (Two.start G2.out HH.out.tab.keepR h3 (HK.out.tab.lt h3) h3a h3b)
    clear h3 h3a h3b G2
    go_wp2
    go_loopw [10] (fun i wr => ∃ (k : Nat) (c : List (UInt8 × UInt8)) (la : List (Int × ByteArray)) (lb : List (ByteArray × (Int × Int))), k ≤ n ∧ i = .int .i64 (k : Int) ∧ Hid (keysL la = c.map numC) ∧ Hid (keysL lb = c.map nameC) ∧ Hid (Two Rep RepB w wr (fun _ => False) (.pointer (some p)) (.pointer (some p3)) m la lb)) (fun i _ => n - (intOf i).toNat)
    case atStart => exact ⟨0, [], [], [], by omega, rfl, rfl, rfl, G3⟩
    case round =>
      clear G3
      obtain ⟨k, cc, la, lb, hk, rfl, ka, kb, hh⟩ := hrel
      by_cases hlt : k < n
      · obtain ⟨b, o, rfl, hbB, hc⟩ := HV.out (by omega)
        have hbel := hh.out.bel
        have c0 := (hbel.cell (p := ⟨b, o + k * 3 + 0, none⟩) hbB).trans (hc k hlt 0 _ rfl)
        have c1 := (hbel.cell (p := ⟨b, o + k * 3 + 1, none⟩) hbB).trans (hc k hlt 1 _ rfl)
        have c2 := (hbel.cell (p := ⟨b, o + k * 3 + 2, none⟩) hbB).trans (hc k hlt 2 _ rfl)
        have q0 : (0 : Int) ≤ (k : Int) := by omega
        have q1 : (k : Int) < (n : Int) := by omega
        rw [Nat.add_zero] at c0
        generalize (X k).d = d at *
        generalize (X k).k = ky at *
        generalize (X k).s = s at *
        clear hc HV hbel
        have hb0 : Below wr.heap.size wr (wr.alloc (.cells #[.int .i64 d, .int .i64 ky, .string s] 32)) := (Below.refl _ _).alloc (Nat.le_refl _) _
        have G0 := Lib.hid (hh.out.more HH.out.tab.keepR HK.out.tab.keepR (X' := fun b => b = wr.heap.size) hb0 (fun b hb => .inr (by rw [hb]; simp)))
        have e0 : (wr.alloc (.cells #[.int .i64 d, .int .i64 ky, .string s] 32)).cell? ⟨wr.heap.size, 0, none⟩ = some (.int .i64 d) := by go_simp
        have e1 : (wr.alloc (.cells #[.int .i64 d, .int .i64 ky, .string s] 32)).cell? ⟨wr.heap.size, 1, none⟩ = some (.int .i64 ky) := by go_simp
        have e2 : (wr.alloc (.cells #[.int .i64 d, .int .i64 ky, .string s] 32)).cell? ⟨wr.heap.size, 2, none⟩ = some (.string s) := by go_simp
        have E0 := Lib.hid e0
        have E1 := Lib.hid e1
        have E2 := Lib.hid e2
        clear hh hb0 e0 e1 e2
        go_upto_region 14 with fail
        clear c0 c1 c2
        generalize wr.alloc (.cells #[.int .i64 d, .int .i64 ky, .string s] 32) = W0 at *
        generalize wr.heap.size = gx at *
        have e1 := E1.out
        obtain ⟨x, hx⟩ : ∃ x : UInt8, ky.tmod 16 % 256 = (x.toNat : Int) := ⟨UInt8.ofNat (ky.tmod 16 % 256).toNat, by have := Int.emod_nonneg (ky.tmod 16) (show (256 : Int) ≠ 0 by decide); have := Int.emod_lt_of_pos (ky.tmod 16) (show (0 : Int) < 256 by decide); rw [UInt8.toNat_ofNat']; omega⟩
        obtain ⟨y, hy⟩ : ∃ y : UInt8, (wrap64 (ky.tdiv 16)).tmod 16 % 256 = (y.toNat : Int) := ⟨UInt8.ofNat ((wrap64 (ky.tdiv 16)).tmod 16 % 256).toNat, by have := Int.emod_nonneg ((wrap64 (ky.tdiv 16)).tmod 16) (show (256 : Int) ≠ 0 by decide); have := Int.emod_lt_of_pos ((wrap64 (ky.tdiv 16)).tmod 16) (show (0 : Int) < 256 by decide); rw [UInt8.toNat_ofNat']; omega⟩
        have hxl := x.toNat_lt
        have hyl := y.toNat_lt
        have kc : (convert 52 9 (.slice (some ⟨W0.heap.size, 0, none⟩) 2 2)).run Try.prog (W0.alloc (.cells #[.int .u8 (x.toNat : Int), .int .u8 (y.toNat : Int)] 5)) = .ok (.string (nameC (x, y))) (W0.alloc (.cells #[.int .u8 (x.toNat : Int), .int .u8 (y.toNat : Int)] 5)) :=
          run_convert_bytes_back _ _ _ 5 ⟨W0.heap.size, 0, none⟩ 2 [x, y] Try.underlying52 Try.underlying5 Try.underlying9 (fun j hj => by
            match j, hj with
            | 0, _ => go_simp
            | 1, _ => go_simp)
        go_upto_region 15 with fail
        have hb1 : Below W0.heap.size W0 (W0.alloc (.cells #[.int .u8 (x.toNat : Int), .int .u8 (y.toNat : Int)] 5)) := (Below.refl _ _).alloc (Nat.le_refl _) _
        have G1 := Lib.hid (G0.out.more HH.out.tab.keepR HK.out.tab.keepR (X' := fun b => b = gx) hb1 (fun b hb => .inl hb))
        have a0 := (hb1.cell (p := ⟨gx, 0, none⟩) (block_lt_of_cell E0.out)).trans E0.out
        have a1 := (hb1.cell (p := ⟨gx, 1, none⟩) (block_lt_of_cell E1.out)).trans E1.out
        have a2 := (hb1.cell (p := ⟨gx, 2, none⟩) (block_lt_of_cell E2.out)).trans E2.out
        have A0 := Lib.hid a0
        clear e1 kc hb1 G0 E0 E1 E2 a0
        generalize W0.alloc (.cells #[.int .u8 (x.toNat : Int), .int .u8 (y.toNat : Int)] 5) = W1 at *
        go_upto_region 16 with fail
        have hb2 : Below W1.heap.size W1 (W1.alloc (.cells #[.int .i64 (s.size : Int), .int .i64 ky] 51)) := (Below.refl _ _).alloc (Nat.le_refl _) _
        have G2 := Lib.hid (G1.out.more HH.out.tab.keepR HK.out.tab.keepR (X' := fun b => b = gx ∨ b = W1.heap.size) hb2 (fun b hb => hb.imp id (fun e => by rw [e]; simp)))
        have z0 : (W1.alloc (.cells #[.int .i64 (s.size : Int), .int .i64 ky] 51)).cell? ⟨W1.heap.size, 0, none⟩ = some (.int .i64 (s.size : Int)) := by go_simp
        have z1 : (W1.alloc (.cells #[.int .i64 (s.size : Int), .int .i64 ky] 51)).cell? ⟨W1.heap.size, 1, none⟩ = some (.int .i64 ky) := by go_simp
        have Z0 := Lib.hid z0
        have Z1 := Lib.hid z1
        have B0 := Lib.hid ((hb2.cell (p := ⟨gx, 0, none⟩) (block_lt_of_cell A0.out)).trans A0.out)
        have b1 := (hb2.cell (p := ⟨gx, 1, none⟩) (block_lt_of_cell a1)).trans a1
        have B2 := Lib.hid ((hb2.cell (p := ⟨gx, 2, none⟩) (block_lt_of_cell a2)).trans a2)
        clear a1 a2 A0 hb2 G1 z0 z1
        generalize W1.alloc (.cells #[.int .i64 (s.size : Int), .int .i64 ky] 51) = W2 at *
        generalize W1.heap.size = gs at *
        have v1 : IntKind.i64.wrap (x.toNat : Int) = (x.toNat : Int) := IntWalk.i64_in _ (by omega)
        have v2 : IntKind.i64.wrap (y.toNat : Int) = (y.toNat : Int) := IntWalk.i64_in _ (by omega)
        have v3 : IntKind.i64.wrap (256 * (y.toNat : Int)) = 256 * (y.toNat : Int) := IntWalk.i64_in _ (by omega)
        have v4 : IntKind.i64.wrap ((x.toNat : Int) + 256 * (y.toNat : Int)) = (x.toNat : Int) + 256 * (y.toNat : Int) := IntWalk.i64_in _ (by omega)
        go_upto_region 17 with fail
        clear v1 v2 v3 v4 b1 hx hy hxl hyl
        rw [show (x.toNat : Int) + 256 * (y.toNat : Int) = numC (x, y) from rfl]
        generalize (x, y) = z at *
        have hhas : hasK (keysL lb) (nameC z) = hasK (keysL la) (numC z) := by rw [ka.out, kb.out, has_map _ nameC_inj, has_map _ numC_inj]
        have hgone : goneB m (keysL lb) (nameC z) = goneB m (keysL la) (numC z) := by rw [ka.out, kb.out, gone_map _ nameC_inj, gone_map _ numC_inj]
        have HHAS := Lib.hid hhas
        have HGONE := Lib.hid hgone
        clear hhas hgone
        have b0 := B0.out
        by_cases hd : d = 1
        · subst hd
          go_wp2_with fail
          refine (HH.out.tab.drop2 HK.out.tab.keepR G2.out (numC z) (numC_ok z)).mono ?_
          rintro _ w4 ⟨rfl, g4, -⟩
          have G4 := Lib.hid g4
          clear g4 G2 b0 B0 B2 Z0 Z1
          go_wp2_with fail
          refine (HK.out.tab.drop2 HH.out.tab.keepR G4.out.swap (nameC z) (nameC_ok z)).mono ?_
          rintro _ w5 ⟨rfl, g5, -⟩
          rw [HHAS.out]
          have G5 := Lib.hid g5.swap
          have KA : Hid (keysL (dropL la (numC z)) = (dropK cc z).map numC) := Lib.hid (by rw [keys_drop, ka.out, drop_map _ numC_inj])
          have KB : Hid (keysL (dropL lb (nameC z)) = (dropK cc z).map nameC) := Lib.hid (by rw [keys_drop, kb.out, drop_map _ nameC_inj])
          generalize hasK (keysL la) (numC z) = bb at *
          generalize dropL la (numC z) = la2 at *
          generalize dropL lb (nameC z) = lb2 at *
          clear g5 G4 ka kb HHAS HGONE
          go_wp2_with fail
          refine (HH.out.tab.len2 HK.out.tab.keepR G5.out).mono ?_
          rintro _ w8 ⟨rfl, g8, -⟩
          have G8 := Lib.hid g8
          clear g8 G5
          go_wp2_with fail
          refine (HK.out.tab.len2 HH.out.tab.keepR G8.out.swap).mono ?_
          rintro _ w9 ⟨rfl, g9, -⟩
          have G9 := Lib.hid (g9.swap.less (X' := fun _ => False) (fun _ h => h.elim))
          rw [show lb2.length = la2.length by rw [← keys_len lb2, ← keys_len la2, KA.out, KB.out, List.length_map, List.length_map]]
          clear g9 G8
          go_wp2
          exact ⟨⟨k + 1, dropK cc z, la2, lb2, by omega, congrArg (Value.int .i64) (by omega), KA, KB, G9⟩, by simp [intOf]; omega⟩
        · have hd' : (d == 1) = false := by simp [hd]
          have b2 := B2.out
          go_wp2_with fail
          refine (HH.out.tab.put2 HK.out.tab.keepR G2.out (numC z) s (numC_ok z)).mono ?_
          rintro _ w4 ⟨rfl, g4, kp⟩
          have G4 := Lib.hid g4
          have y0 := kp.cell Z0.out (.inr rfl)
          have y1 := kp.cell Z1.out (.inr rfl)
          clear g4 kp G2 b0 B0 b2 B2 Z0 Z1
          go_wp2_with fail
          refine (HK.out.tab.put2 HH.out.tab.keepR G4.out.swap (nameC z) ((s.size : Int), ky) (nameC_ok z)).mono ?_
          rintro _ w5 ⟨rfl, g5, kp⟩
          rw [HGONE.out]
          have G5 := Lib.hid g5
          have x0 := kp.cell y0 (.inr rfl)
          have x1 := kp.cell y1 (.inr rfl)
          have X0 := Lib.hid x0
          have X1 := Lib.hid x1
          clear g5 kp G4 y0 y1 x0 x1
          generalize goneK (0 : Int) m (keysL la) (numC z) = zg at *
          generalize goneB m (keysL la) (numC z) = bg at *
          go_wp2_with fail
          refine (HK.out.tab.get2 HH.out.tab.keepR G5.out (nameC z) (nameC_ok z)).mono ?_
          rintro _ w6 ⟨rfl, g6, kp⟩
          rw [get_put, Option.getD_some, show hasK (keysL (putL m lb (nameC z) ((s.size : Int), ky))) (nameC z) = true by rw [keys_put]; exact has_put _ _ _]
          have G6 := Lib.hid g6.swap
          have x0 := kp.cell X0.out (.inr rfl)
          have x1 := kp.cell X1.out (.inr rfl)
          have KA : Hid (keysL (putL m la (numC z) s) = (putK m cc z).map numC) := Lib.hid (by rw [keys_put, ka.out, put_map _ numC_inj])
          have KB : Hid (keysL (putL m lb (nameC z) ((s.size : Int), ky)) = (putK m cc z).map nameC) := Lib.hid (by rw [keys_put, kb.out, put_map _ nameC_inj])
          generalize putL m la (numC z) s = la2 at *
          generalize putL m lb (nameC z) ((s.size : Int), ky) = lb2 at *
          clear g6 kp G5 X0 X1 ka kb HHAS HGONE
          unfold spanV
          have hb6 : Below w6.heap.size w6 (w6.alloc (.cells #[.int .i64 (s.size : Int), .int .i64 ky] 51)) := (Below.refl _ _).alloc (Nat.le_refl _) _
          have G7 := Lib.hid (G6.out.more HH.out.tab.keepR HK.out.tab.keepR (X' := fun _ => False) hb6 (fun _ h => h.elim))
          have X0 := Lib.hid ((hb6.cell (p := ⟨gs, 0, none⟩) (block_lt_of_cell x0)).trans x0)
          have X1 := Lib.hid ((hb6.cell (p := ⟨gs, 1, none⟩) (block_lt_of_cell x1)).trans x1)
          clear hb6 G6 x0 x1
          go_upto_region 23 with fail
          have t0 : (w6.alloc (.cells #[.int .i64 (s.size : Int), .int .i64 ky] 51)).cell? ⟨w6.heap.size, 0, none⟩ = some (.int .i64 (s.size : Int)) := by go_simp
          have t1 : (w6.alloc (.cells #[.int .i64 (s.size : Int), .int .i64 ky] 51)).cell? ⟨w6.heap.size, 1, none⟩ = some (.int .i64 ky) := by go_simp
          have x0 := X0.out
          have x1 := X1.out
          clear X0 X1
          generalize w6.alloc (.cells #[.int .i64 (s.size : Int), .int .i64 ky] 51) = W7 at *
          generalize w6.heap.size = gt at *
          go_wp2_with fail
          refine (HH.out.tab.len2 HK.out.tab.keepR G7.out).mono ?_
          rintro _ w8 ⟨rfl, g8, -⟩
          have G8 := Lib.hid g8
          clear g8 G7
          go_wp2_with fail
          refine (HK.out.tab.len2 HH.out.tab.keepR G8.out.swap).mono ?_
          rintro _ w9 ⟨rfl, g9, -⟩
          have G9 := Lib.hid (g9.swap.less (X' := fun _ => False) (fun _ h => h.elim))
          rw [show lb2.length = la2.length by rw [← keys_len lb2, ← keys_len la2, KA.out, KB.out, List.length_map, List.length_map]]
          clear g9 G8
          go_wp2
          exact ⟨⟨k + 1, putK m cc z, la2, lb2, by omega, congrArg (Value.int .i64) (by omega), KA, KB, G9⟩, by simp [intOf]; omega⟩
      · obtain rfl : k = n := by omega
        have hb := Lib.hid hh.out.bel
        clear HV HH HK hh
        go_wp2
        go_ret
        exact ⟨rfl, hb.out⟩
  · have HM : Hid (¬ (1 ≤ most ∧ most ≤ 1000)) := Lib.hid hm
    clear hm
    go_wp2_with fail
    refine (HH.out.tab.new_no most w1 HM.out).mono ?_
    rintro _ w2 ⟨rfl, hb2⟩
    have B2 : Hid (Below w.heap.size w w2) := Lib.hid (B1.out.trans (hb2.mono B1.out.size))
    clear HV HH B1 hb2
    go_wp2_with fail
    refine (HK.out.tab.new_no most w2 HM.out).mono ?_
    rintro _ w3 ⟨rfl, hb3⟩
    have B3 : Hid (Below w.heap.size w w3) := Lib.hid (B2.out.trans (hb3.mono B2.out.size))
    clear HK B2 hb3
    go_wp2
    go_ret
    exact ⟨rfl, B3.out⟩
end Go.Proofs.Ytmoepcobhapghaa.Law11
