/-
  What the document's Take does.
-/
import Derived.Test.YtefghgoeppfpfaaRefNet
import Derived.Deep.DeepCutAuto
namespace Go.Proofs.Ytefghgoeppfpfaa.Net
open Go Go.RowKit Go.Proofs.Ytefghgoeppfpfaa.Aid Go.Proofs.Ytefghgoeppfpfaa.Cache

/-- 'b[1:]' of elements of three cells. -/
theorem tail3_run {P : Program} (t e : TypeId) (hu : P.underlying t = some (.slice e)) (hsz : (P.info? e).map (·.size) = some 3) (sb so M c : Nat) (h2 : 1 ≤ M) :
    ∀ (W : World), (Instr.sliceAt t (.slice (some ⟨sb, so, none⟩) M c) (some (.int .i64 1)) none none).run P W = .ok (.slice (some ⟨sb, if c = 1 then so else so + 3, none⟩) (M - 1) (c - 1)) W := by
  intro W
  cases hq : P.info? e with
  | none => simp [hq] at hsz
  | some i =>
    have hs : i.size = 3 := by simpa [hq] using hsz
    have hM : (1 : Int) ≤ (M : Int) := by omega
    by_cases hck : c = 1
    · simp [Instr.sliceAt, Instr.slice, Instr.sliceBounds, Instr.sliceBound, asIntOf, Sem.run_bind, run_underlying hu W, Result.andThen, sizeOf, typeInfo, hq, hck, hM]
    · simp [Instr.sliceAt, Instr.slice, Instr.sliceBounds, Instr.sliceBound, asIntOf, Sem.run_bind, run_underlying hu W, Result.andThen, sizeOf, typeInfo, hq, hs, Addr.add_mid, hck, hM]
def letF (f t : ByteArray) (bv : Value) (j : Nat) : Value := if j = 0 then .string f else if j = 1 then .string t else bv
theorem let0 (f t : ByteArray) (bv : Value) : letF f t bv 0 = .string f := rfl
theorem let1 (f t : ByteArray) (bv : Value) : letF f t bv 1 = .string t := rfl
theorem let2 (f t : ByteArray) (bv : Value) : letF f t bv 2 = bv := rfl
theorem let_at (f t : ByteArray) (bv : Value) (i : Nat) (hi : i < (#[Value.string f, .string t, bv] : Array Value).size) : (#[Value.string f, .string t, bv] : Array Value)[i]? = some (letF f t bv i) := by
  match i, hi with
  | 0, _ => rfl
  | 1, _ => rfl
  | 2, _ => rfl
theorem leaves_set {w W : World} {g j : Nat} {v : Value} (h : Below w.heap.size w W) : Cache.Leaves (fun b => b = g) w (W.setCell ⟨g, j, none⟩ v) :=
  ⟨by simpa [World.setCell] using h.os, by simpa [World.setCell] using h.tape, by simpa [World.setCell] using h.output, by have := h.size; simpa [World.setCell] using this, fun b hb hn => (heap_setCell_other _ _ _ _ (by simpa using hn)).trans (h.block b hb)⟩
/-- Without the first letter. -/
theorem RefNetIn.tail {W : World} {F : Nat → Prop} {g gl o o2 n c room : Nat} {x : Lt} {t : List Lt} (h : RefNetIn W F g (.slice (some ⟨gl, o, none⟩) (x :: t).length c) room (x :: t)) (hn : n = (x :: t).length) (ho : ¬ c = 1 → o2 = o + 3) :
    RefNetIn (W.setCell ⟨g, 1, none⟩ (.slice (some ⟨gl, o2, none⟩) (n - 1) (c - 1))) F g (.slice (some ⟨gl, o2, none⟩) (n - 1) (c - 1)) room t := by
  have oth : ∀ b, b ≠ g → (W.setCell ⟨g, 1, none⟩ (.slice (some ⟨gl, o2, none⟩) (n - 1) (c - 1))).heap[b]? = W.heap[b]? := fun b hb => heap_setCell_other _ _ _ _ (by simpa using hb)
  have hcell : ∀ {b j : Nat} {u : Value}, b ≠ g → W.cell? ⟨b, j, none⟩ = some u → (W.setCell ⟨g, 1, none⟩ (.slice (some ⟨gl, o2, none⟩) (n - 1) (c - 1))).cell? ⟨b, j, none⟩ = some u := fun {b j u} hb h => by
    rw [← h]
    unfold World.cell?
    rw [oth b hb]
  have hsz : (W.setCell ⟨g, 1, none⟩ (.slice (some ⟨gl, o2, none⟩) (n - 1) (c - 1))).heap.size = W.heap.size := by simp [World.setCell]
  obtain ⟨A, c', hA, hc, hr⟩ := h.letters
  simp only [Value.slice.injEq, true_and] at hA
  obtain ⟨rfl, rfl⟩ := hA
  obtain ⟨g', o', hA, hgF, hi⟩ := hr (by simp)
  simp only [Option.some.injEq, Addr.mk.injEq, and_true] at hA
  obtain ⟨rfl, rfl⟩ := hA
  have hlen := h.len
  have hnt : n - 1 = t.length := by rw [hn]; simp
  have hle : t.length ≤ c - 1 := by simp at hc; omega
  refine ⟨(h.row.set 1 _).congr (fun j hj => ?_), h.fg, fun b hb => by rw [hsz]; exact h.lt b hb, ⟨_, c - 1, by rw [hnt], hle, fun h0 => ?_⟩, by simp at hlen; omega, h.most⟩
  · match j, hj with
    | 0, _ => rfl
    | 1, _ => rfl
  · have hc1 : ¬ c = 1 := fun e => by simp at hc; omega
    obtain rfl := ho hc1
    refine ⟨gl, o + 3, rfl, hgF, fun i y hy => ?_⟩
    obtain ⟨h1, h2, bv, h3, ⟨A', c'', hbv, hc'', hr'⟩, h5, h6⟩ := hi (i + 1) y (by simpa using hy)
    subst hbv
    rw [show o + (i + 1) * 3 = o + 3 + i * 3 by omega] at h1 h2 h3
    refine ⟨hcell hgF.2 h1, hcell hgF.2 h2, _, hcell hgF.2 h3, ⟨A', c'', rfl, hc'', fun h0 => ?_⟩, fun b hb => ⟨(h5 b hb).1, by rw [hsz]; exact (h5 b hb).2⟩, h6⟩
    obtain ⟨sb, so, rfl, hne, hj⟩ := hr' h0
    exact ⟨sb, so, rfl, by rw [hsz]; exact hne, fun j hjn => hcell (h5 sb rfl).1.2 (hj j hjn)⟩
set_option maxRecDepth 100000 in
set_option maxHeartbeats 2000000 in
theorem refTake12_any {w : World} {F : Nat → Prop} {v : Value} {room : Nat} {l : List Lt} (h : RefNet w F v room l) :
    Calls Try.prog 13 #[v] w fun e w' => ∃ bv, e = .returned (.tuple #[ltV (l.headD zeroL) bv, .bool (decide (0 < l.length))]) ∧ RefNet w' F v room l.tail ∧ Cache.Leaves F w w' ∧ SliceOf w' w'.heap.size (l.headD zeroL).n (l.headD zeroL).e bv ∧ ∀ b, bv.ownBlock = some b → F b := by
  obtain ⟨g, Lv, rfl, h⟩ := h
  have HAL : Below w.heap.size w (w.alloc (.cells #[.string ⟨#[]⟩, .string ⟨#[]⟩, .slice none 0 0] 39)) := (Below.refl _ _).alloc (Nat.le_refl _) _
  have hgl := h.lt g h.fg
  have z0 : (w.alloc (.cells #[.string ⟨#[]⟩, .string ⟨#[]⟩, .slice none 0 0] 39)).cell? ⟨w.heap.size, 0, none⟩ = some (.string ⟨#[]⟩) := by go_simp
  have z1 : (w.alloc (.cells #[.string ⟨#[]⟩, .string ⟨#[]⟩, .slice none 0 0] 39)).cell? ⟨w.heap.size, 1, none⟩ = some (.string ⟨#[]⟩) := by go_simp
  have z2 : (w.alloc (.cells #[.string ⟨#[]⟩, .string ⟨#[]⟩, .slice none 0 0] 39)).cell? ⟨w.heap.size, 2, none⟩ = some (.slice none 0 0) := by go_simp
  cases l with
  | nil =>
    obtain ⟨A, c, rfl, -, -⟩ := h.letters
    have c1 := (HAL.cell (p := ⟨g, 1, none⟩) hgl).trans (h.row.cell (i := 1) (by omega))
    rw [show netF room (.slice A ([] : List Lt).length c) 1 = .slice A 0 c from rfl] at c1
    have H : Hid (RefNet (w.alloc (.cells #[.string ⟨#[]⟩, .string ⟨#[]⟩, .slice none 0 0] 39)) F (.pointer (some ⟨g, 0, none⟩)) room []) := Lib.hid ⟨g, _, rfl, h.keep (fun b hb => HAL.block b (h.lt b hb)) HAL.size⟩
    have HL : Hid (Cache.Leaves F w (w.alloc (.cells #[.string ⟨#[]⟩, .string ⟨#[]⟩, .slice none 0 0] 39))) := Lib.hid (Cache.Leaves.of_below HAL)
    clear h HAL
    go_enter Try.func13, Try.ntmps13
    go_wp2
    exact bodyPost_ret (v := .tuple #[.agg #[.string ⟨#[]⟩, .string ⟨#[]⟩, .slice none 0 0], .bool false]) (by simp [results, Try.results13, go_sem, z0, z1, z2]) rfl
      ⟨.slice none 0 0, rfl, H.out, HL.out, ⟨none, 0, rfl, Nat.le_refl _, fun h => absurd h (Nat.lt_irrefl _)⟩, fun b hb => by cases hb⟩
  | cons x t =>
    obtain ⟨A, c, rfl, hc, hr⟩ := h.letters
    obtain ⟨gl, o, rfl, hgF, hi⟩ := hr (by simp)
    obtain ⟨d0, d1, bv, d2, hs, hbF, hxn⟩ := hi 0 x rfl
    have hglt := h.lt gl hgF.1
    have c1 := (HAL.cell (p := ⟨g, 1, none⟩) hgl).trans (h.row.cell (i := 1) (by omega))
    rw [show netF room (.slice (some ⟨gl, o, none⟩) (x :: t).length c) 1 = .slice (some ⟨gl, o, none⟩) (x :: t).length c from rfl] at c1
    rw [Nat.zero_mul, Nat.add_zero] at d0 d1 d2
    have e0 := (HAL.cell (p := ⟨gl, o, none⟩) hglt).trans d0
    have e1 := (HAL.cell (p := ⟨gl, o + 1, none⟩) hglt).trans d1
    have e2 := (HAL.cell (p := ⟨gl, o + 2, none⟩) hglt).trans d2
    obtain ⟨bA, bc, hbv, hbc, hbr⟩ := hs
    subst hbv
    obtain ⟨n, hn⟩ : ∃ n, n = (x :: t).length := ⟨_, rfl⟩
    rw [← hn] at c1 hc
    have hn1 : 1 ≤ n := by rw [hn]; simp
    have q0 : ((n : Int) == 0) = false := by simp; omega
    have q1 : (0 : Int) < (n : Int) := by omega
    have kt := tail3_run (P := Try.prog) 47 39 Try.underlying47 (by kernel_rfl) gl o n c hn1
    have H := Lib.hid h
    have HN := Lib.hid hn
    have HF : Hid (∀ b, F b → b < w.heap.size) := h.lt
    have HS : Hid (SliceOf w w.heap.size x.n x.e (.slice bA x.n bc)) := ⟨bA, bc, rfl, hbc, hbr⟩
    have HBF := Lib.hid hbF
    clear h hi hr hbF hbr d0 d1 d2 hn
    go_enter Try.func13, Try.ntmps13
    go_upto_region 4 with fail
    have HB2 : Below w.heap.size w ((w.alloc (.cells #[.string ⟨#[]⟩, .string ⟨#[]⟩, .slice none 0 0] 39)).alloc (.cells #[.string x.f, .string x.t, .slice bA x.n bc] 39)) := HAL.alloc HAL.size _
    have hb1 : Below (w.alloc (.cells #[.string ⟨#[]⟩, .string ⟨#[]⟩, .slice none 0 0] 39)).heap.size (w.alloc (.cells #[.string ⟨#[]⟩, .string ⟨#[]⟩, .slice none 0 0] 39)) ((w.alloc (.cells #[.string ⟨#[]⟩, .string ⟨#[]⟩, .slice none 0 0] 39)).alloc (.cells #[.string x.f, .string x.t, .slice bA x.n bc] 39)) := (Below.refl _ _).alloc (Nat.le_refl _) _
    have RZ := (row_new w #[.string ⟨#[]⟩, .string ⟨#[]⟩, .slice none 0 0] 39 3 (letF ⟨#[]⟩ ⟨#[]⟩ (.slice none 0 0)) rfl (let_at _ _ _)).of_block (hb1.block w.heap.size (by simp))
    have RX := row_new (w.alloc (.cells #[.string ⟨#[]⟩, .string ⟨#[]⟩, .slice none 0 0] 39)) #[.string x.f, .string x.t, .slice bA x.n bc] 39 3 (letF x.f x.t (.slice bA x.n bc)) rfl (let_at _ _ _)
    have R2 : RefNetIn ((w.alloc (.cells #[.string ⟨#[]⟩, .string ⟨#[]⟩, .slice none 0 0] 39)).alloc (.cells #[.string x.f, .string x.t, .slice bA x.n bc] 39)) F g (.slice (some ⟨gl, o, none⟩) (x :: t).length c) room (x :: t) := H.out.keep (fun b hb => HB2.block b (H.out.lt b hb)) HB2.size
    have hsz2 : ((w.alloc (.cells #[.string ⟨#[]⟩, .string ⟨#[]⟩, .slice none 0 0] 39)).alloc (.cells #[.string x.f, .string x.t, .slice bA x.n bc] 39)).heap.size = w.heap.size + 2 := by simp
    have hsz1 : (w.alloc (.cells #[.string ⟨#[]⟩, .string ⟨#[]⟩, .slice none 0 0] 39)).heap.size = w.heap.size + 1 := by simp
    rw [hsz1] at RX
    clear z0 z1 z2 c1 e0 e1 e2 HAL hb1 hsz1 H
    generalize (w.alloc (.cells #[.string ⟨#[]⟩, .string ⟨#[]⟩, .slice none 0 0] 39)).alloc (.cells #[.string x.f, .string x.t, .slice bA x.n bc] 39) = W2 at *
    have c1 := R2.row.cell (i := 1) (by omega)
    rw [show netF room (.slice (some ⟨gl, o, none⟩) (x :: t).length c) 1 = .slice (some ⟨gl, o, none⟩) (x :: t).length c from rfl, ← HN.out] at c1
    have f1 := R2.row.frozen 1
    have R3 : RefNetIn (W2.setCell ⟨g, 1, none⟩ (.slice (some ⟨gl, if c = 1 then o else o + 3, none⟩) (n - 1) (c - 1))) F g (.slice (some ⟨gl, if c = 1 then o else o + 3, none⟩) (n - 1) (c - 1)) room t := R2.tail HN.out (fun hc => if_neg hc)
    have oth2 : ∀ b, b ≠ g → (W2.setCell ⟨g, 1, none⟩ (.slice (some ⟨gl, if c = 1 then o else o + 3, none⟩) (n - 1) (c - 1))).heap[b]? = W2.heap[b]? := fun b hb => heap_setCell_other _ _ _ _ (by simpa using hb)
    have RZ3 := RZ.of_block (oth2 w.heap.size (by omega))
    have RX3 := RX.of_block (oth2 (w.heap.size + 1) (by omega))
    have L3 : Cache.Leaves F w (W2.setCell ⟨g, 1, none⟩ (.slice (some ⟨gl, if c = 1 then o else o + 3, none⟩) (n - 1) (c - 1))) := (leaves_set HB2).mono (fun b _ hb => by rw [hb]; exact R2.fg)
    have hsz3 : (W2.setCell ⟨g, 1, none⟩ (.slice (some ⟨gl, if c = 1 then o else o + 3, none⟩) (n - 1) (c - 1))).heap.size = w.heap.size + 2 := by rw [← hsz2]; simp [World.setCell]
    have R3H := Lib.hid R3
    have L3G := Lib.hid (leaves_set (g := g) (j := 1) (v := .slice (some ⟨gl, if c = 1 then o else o + 3, none⟩) (n - 1) (c - 1)) HB2)
    have L3H := Lib.hid L3
    generalize (if c = 1 then o else o + 3) = o2 at *
    clear R2 HB2 RZ RX R3 L3 oth2
    go_upto_region 5 with fail
    clear c1 f1 kt
    generalize W2.setCell ⟨g, 1, none⟩ (.slice (some ⟨gl, o2, none⟩) (n - 1) (c - 1)) = W3 at *
    have z0 := RZ3.cell (i := 0) (by omega)
    have z1 := RZ3.cell (i := 1) (by omega)
    have z2 := RZ3.cell (i := 2) (by omega)
    have f0 := RZ3.frozen 0
    have f1 := RZ3.frozen 1
    have f2 := RZ3.frozen 2
    have x0 := RX3.cell (i := 0) (by omega)
    have x1 := RX3.cell (i := 1) (by omega)
    have x2 := RX3.cell (i := 2) (by omega)
    simp only [let0, let1, let2] at z0 z1 z2 x0 x1 x2
    go_wp2
    have oth4 : ∀ b, b ≠ w.heap.size → (((W3.setCell ⟨w.heap.size, 0, none⟩ (.string x.f)).setCell ⟨w.heap.size, 1, none⟩ (.string x.t)).setCell ⟨w.heap.size, 2, none⟩ (.slice bA x.n bc)).heap[b]? = W3.heap[b]? := fun b hb =>
      (heap_setCell_other _ _ _ _ (by simpa using hb)).trans ((heap_setCell_other _ _ _ _ (by simpa using hb)).trans (heap_setCell_other _ _ _ _ (by simpa using hb)))
    have hsz4 : (((W3.setCell ⟨w.heap.size, 0, none⟩ (.string x.f)).setCell ⟨w.heap.size, 1, none⟩ (.string x.t)).setCell ⟨w.heap.size, 2, none⟩ (.slice bA x.n bc)).heap.size = w.heap.size + 2 := by simp [World.setCell]; simpa using hsz3
    have R4 := (((RZ3.set 0 (.string x.f)).set 1 (.string x.t)).set 2 (.slice bA x.n bc))
    have w0 := R4.cell (i := 0) (by omega)
    have w1 := R4.cell (i := 1) (by omega)
    have w2 := R4.cell (i := 2) (by omega)
    simp at w0 w1 w2
    have HL4 : Hid (Cache.Leaves F w (((W3.setCell ⟨w.heap.size, 0, none⟩ (.string x.f)).setCell ⟨w.heap.size, 1, none⟩ (.string x.t)).setCell ⟨w.heap.size, 2, none⟩ (.slice bA x.n bc))) :=
      Lib.hid ⟨L3H.out.os, L3H.out.tape, L3H.out.output, by rw [hsz4]; omega, fun b hb hn => (oth4 b (by omega)).trans (L3H.out.block b hb hn)⟩
    have HR4 : Hid (RefNet (((W3.setCell ⟨w.heap.size, 0, none⟩ (.string x.f)).setCell ⟨w.heap.size, 1, none⟩ (.string x.t)).setCell ⟨w.heap.size, 2, none⟩ (.slice bA x.n bc)) F (.pointer (some ⟨g, 0, none⟩)) room t) :=
      Lib.hid ⟨g, _, rfl, R3H.out.keep (fun b hb => oth4 b (by have := HF.out b hb; omega)) (by rw [hsz4, hsz3]; omega)⟩
    have HS4 : Hid (SliceOf (((W3.setCell ⟨w.heap.size, 0, none⟩ (.string x.f)).setCell ⟨w.heap.size, 1, none⟩ (.string x.t)).setCell ⟨w.heap.size, 2, none⟩ (.slice bA x.n bc)) (w.heap.size + 2) x.n x.e (.slice bA x.n bc)) := by
      obtain ⟨A', c', hb, hc', hr'⟩ := HS.out
      simp only [Value.slice.injEq, true_and] at hb
      obtain ⟨rfl, rfl⟩ := hb
      refine ⟨bA, bc, rfl, hc', fun h0 => ?_⟩
      obtain ⟨sb, so, rfl, hne, hj⟩ := hr' h0
      have hb2 := HBF.out sb rfl
      refine ⟨sb, so, rfl, by omega, fun j hjn => ?_⟩
      rw [← hj j hjn]
      unfold World.cell?
      rw [oth4 sb (by omega), L3G.out.block sb hb2.2 hb2.1.2]
    rw [← hsz4] at HS4
    generalize (((W3.setCell ⟨w.heap.size, 0, none⟩ (.string x.f)).setCell ⟨w.heap.size, 1, none⟩ (.string x.t)).setCell ⟨w.heap.size, 2, none⟩ (.slice bA x.n bc)) = W4 at *
    exact bodyPost_ret (v := .tuple #[.agg #[.string x.f, .string x.t, .slice bA x.n bc], .bool true]) (by simp [results, Try.results13, go_sem, w0, w1, w2]) rfl
      ⟨.slice bA x.n bc, by simp [ltV], HR4.out, HL4.out, HS4.out, fun b hb => (HBF.out b hb).1.1⟩
end Go.Proofs.Ytefghgoeppfpfaa.Net
