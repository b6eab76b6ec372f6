/-
  What the laws of layer 5 ask first: three bytes are sealed, and opened, and opened for something else.
-/
import Derived.Test.YtfjoflpidmjkbaaDoorSealOpen
import Derived.Test.YtfjoflpidmjkbaaDoorSealKnown
import Derived.Lib.SlBytesConst
namespace Go.Proofs.YtfjoflpidmjkbaaDoor.Law05
open Go Go.RowKit Go.Proofs.YtfjoflpidmjkbaaDoor.Aid Go.Proofs.YtfjoflpidmjkbaaDoor.Sha Go.Proofs.YtfjoflpidmjkbaaDoor.Mac Go.Proofs.YtfjoflpidmjkbaaDoor.Aes Go.Proofs.YtfjoflpidmjkbaaDoor.Ctr Go.Proofs.YtfjoflpidmjkbaaDoor.Law01 Go.Proofs.YtfjoflpidmjkbaaDoor.Seal

theorem lit_at (l : List (BitVec 8)) (C : Array Value) (h : C = (l.map fun x => Value.int .u8 (x.toNat : Int)).toArray) (i : Nat) (hi : i < l.length) : C[i]? = some (.int .u8 ((bytesL l i).toNat : Int)) := by
  subst h
  simp [bytesL, hi]

set_option maxRecDepth 100000 in
set_option maxHeartbeats 2000000 in
theorem awake_any (w : World) (hk : Consts w) :
    Calls Tryd.prog 6 #[] w fun e w' => e = .returned (.bool true) ∧ Below w.heap.size w w' := by
  have kc := fun (w : World) (C : Array Value) (n c : Nat) => Lib.run_convert_bytes_const (P := Tryd.prog) w 25 5 C n c Tryd.underlying25 Tryd.underlying5

  go_enter Tryd.func6, Tryd.ntmps6
  go_wp2_with fail
  have hs1 := Law02.slice_lit w #[Value.int .u8 120, Value.int .u8 121, Value.int .u8 122] (3, 4) xyzL 3 (w.heap.size + 1) (by omega) rfl rfl
  have hb1 := Law02.alloc_below w (.cells #[Value.int .u8 120, Value.int .u8 121, Value.int .u8 122] 5 (3, 4))
  have hs1' := slice_any hs1 (show (w.alloc (.cells #[Value.int .u8 120, Value.int .u8 121, Value.int .u8 122] 5 (3, 4))).heap.size ≤ (w.alloc (.cells #[Value.int .u8 120, Value.int .u8 121, Value.int .u8 122] 5 (3, 4))).heap.size from Nat.le_refl _)
  generalize w.alloc (.cells #[Value.int .u8 120, Value.int .u8 121, Value.int .u8 122] 5 (3, 4)) = w1 at *
  have hk1 := hk.below hb1 (Nat.le_refl _)
  have c1 := lit_at k1 _ rfl
  have c2 := lit_at ctr2 _ rfl
  refine (seal_ok (bytesL k1) (bytesL ctr2) (bytesL xyzL) ⟨#[97]⟩ (by decide) _ _ rfl c1 rfl c2 _ 3 3 w1 hk1 hs1' (by omega)).mono ?_
  rintro x w2 ⟨g, rfl, hr2, hg, hb2⟩
  obtain ⟨S, hS⟩ : ∃ S, S = formB (keysB (bytesL k1) ⟨#[97]⟩) (bytesL ctr2) (bytesL xyzL) 3 := ⟨_, rfl⟩
  rw [← hS] at hr2
  have hS0 : S 0 = 2 := by rw [hS, form_first _ _ _ _ _ (by omega)]; rfl
  have hokA : okB (keysB (bytesL k1) ⟨#[97]⟩) S 51 = true := by rw [hS]; exact ok_form _ _ _ 3
  have hopA : ∀ j, j < 3 → openB (keysB (bytesL k1) ⟨#[97]⟩) S j = bytesL xyzL j := fun j hj => by rw [hS]; exact open_form _ _ _ 3 j hj
  have hokB : okB (keysB (bytesL k1) ⟨#[98]⟩) S 51 = false := by
    rw [hS]
    exact known_b _ _ _ _ _ _ (by decide) (by decide) (fun _ _ => rfl) (fun _ _ => rfl) (fun _ _ => rfl) (fun _ _ => rfl)
  have hs2 : SliceOf w2 w2.heap.size 51 S (.slice (some ⟨g, 0, none⟩) 51 51) := SliceOf.congr (row_slice hr2 0 51 51 0 (fun _ => rfl) (by omega) (Nat.le_refl _)) (fun j _ => by rw [Nat.zero_add])
  have hk2 := hk1.below hb2 (Nat.le_refl _)
  have hb2' := hb1.trans (hb2.mono hb1.size)
  have hc0 : w2.cell? ⟨g, 0, none⟩ = some (.int .u8 2) := by rw [World.rowIs.cell hr2 (by omega), hS0]; rfl
  have hgl : g < w2.heap.size := World.rowIs.lt hr2
  clear hS hS0 hs1 hs1' hb1 hk hk1 hr2 hb2 hg kc
  go_wp2_with fail
  refine (open_ok (bytesL k1) S ⟨#[97]⟩ (by decide) _ rfl c1 _ 51 51 w2 hk2 hs2 (by omega) (by omega)).mono ?_
  rintro x w3 (⟨_, A3, d3, rfl, hs3, hb3⟩ | ⟨hno, _⟩)
  case inr => rw [hokA] at hno; cases hno
  obtain ⟨A3', d3', e3, _, hA3⟩ := hs3
  simp only [Value.slice.injEq, true_and] at e3
  obtain ⟨rfl, rfl⟩ := e3
  obtain ⟨sb, so, rfl, _, hp3⟩ := hA3 (by omega)
  have hs3 := slice_any (slice_below hs2 hb3) (Nat.le_refl _)
  have hk3 := hk2.below hb3 (Nat.le_refl _)
  have hc3 := (hb3.cell (p := ⟨g, 0, none⟩) hgl).trans hc0
  have hb3' := hb2'.trans (hb3.mono hb2'.size)
  have hgl3 : g < w3.heap.size := block_lt_of_cell hc3
  have hsb : sb < w3.heap.size := block_lt_of_cell (hp3 0 (by omega))
  have HP := Lib.hid hp3
  have HO := Lib.hid hopA
  clear hokA hs2 hk2 hb2' hc0 hgl hb3 hA3 hp3 hopA
  go_wp2_with fail
  refine (open_ok (bytesL k1) S ⟨#[98]⟩ (by decide) _ rfl c1 _ 51 51 w3 hk3 hs3 (by omega) (by omega)).mono ?_
  rintro x w4 (⟨hno, _⟩ | ⟨_, rfl, hb4⟩)
  case inl => rw [hokB] at hno; cases hno
  have hc4 := (hb4.cell (p := ⟨g, 0, none⟩) hgl3).trans hc3
  have hb4' := hb3'.trans (hb4.mono hb3'.size)
  have hgl4 : g < w4.heap.size := block_lt_of_cell hc4
  have h34 := hb4
  clear hokB hs3 hk3 hc3 hb3' hgl3 hb4
  go_wp2_with fail
  refine (open_short ⟨#[97]⟩ (by decide) _ none 0 0 (by omega) w4).mono ?_
  rintro x w5 ⟨rfl, hb5⟩
  have hc5 := (hb5.cell (p := ⟨g, 0, none⟩) hgl4).trans hc4
  have hb5' := hb4'.trans (hb5.mono hb4'.size)
  have h35 := h34.trans (hb5.mono h34.size)
  have hcv : (convert 25 9 (.slice (some ⟨sb, so, none⟩) 3 d3)).run Tryd.prog w5 = .ok (.string ⟨#[120, 121, 122]⟩) w5 := by
    refine run_convert_bytes_back w5 _ _ 5 ⟨sb, so, none⟩ d3 [120, 121, 122] Tryd.underlying25 Tryd.underlying5 Tryd.underlying9 (fun j hj => ?_)
    have hj : j < 3 := hj
    rw [Addr.add_mid, h35.cell (p := ⟨sb, so + j, none⟩) hsb, HP.out j hj, HO.out j hj]
    match j, hj with
    | 0, _ => rfl
    | 1, _ => rfl
    | 2, _ => rfl
  clear hc4 hb4' h34 hb5 h35 HP HO
  go_wp2
  go_ret
  exact ⟨rfl, hb5'⟩
end Go.Proofs.YtfjoflpidmjkbaaDoor.Law05
