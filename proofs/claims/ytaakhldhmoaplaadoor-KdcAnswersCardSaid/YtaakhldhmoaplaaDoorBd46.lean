/-
  What bartizanref01.right and bartizanref01.constants do: a number turned to the right; the 64 constants. A row that a call itself has gathered by append, of whatever one-cell elements: what append does to it. What bartizanref01.block does: the state behind 64 bytes.
-/
import Derived.Test.YtaakhldhmoaplaaDoorProg
import Derived.Test.YtaakhldhmoaplaaDoorBd04
import Derived.Test.YtaakhldhmoaplaaDoorBd01
import Derived.Test.YtaakhldhmoaplaaDoorBd02
import Derived.Maps.AppendAt
import Derived.Deep.RegionHeld3
namespace Go.Proofs.YtaakhldhmoaplaaDoor.Sha
open Go Go.RowKit Go.Proofs.YtaakhldhmoaplaaDoor.Aid

theorem rotr_rotate (x : BitVec 32) (k : Nat) (h : k < 32) : rotr x k = x.rotateRight k := by
  rw [BitVec.rotateRight_def, Nat.mod_eq_of_lt h]; rfl
theorem rotate_one (x : BitVec 32) : ((x.rotateRight 1).toNat : Int) = if (x.toNat : Int) % 2 = 1 then (x.toNat : Int) / 2 + 2147483648 else (x.toNat : Int) / 2 := by
  rw [← rotr_rotate x 1 (by omega)]
  unfold rotr
  rw [BitVec.toNat_or, BitVec.toNat_ushiftRight, BitVec.toNat_shiftLeft, Nat.shiftRight_eq_div_pow, Nat.shiftLeft_eq]
  have hx := x.isLt
  have h1 : x.toNat * 2 ^ (32 - 1) % 2 ^ 32 = 2 ^ 31 * (x.toNat % 2) := by omega
  rw [h1, Nat.or_comm, ← Nat.two_pow_add_eq_or_of_lt (by omega)]
  split <;> omega
theorem rotate_succ (x : BitVec 32) (k : Nat) (h : k + 1 < 32) : (x.rotateRight k).rotateRight 1 = x.rotateRight (k + 1) := by
  apply BitVec.eq_of_getElem_eq
  intro i hi
  rw [BitVec.getElem_rotateRight hi, BitVec.getElem_rotateRight hi]
  by_cases h1 : i < 32 - 1 % 32
  · rw [dif_pos h1, BitVec.getElem_rotateRight (by omega)]
    by_cases h2 : i < 32 - (k + 1) % 32
    · rw [dif_pos (by omega), dif_pos h2]
      congr 1; omega
    · rw [dif_neg (by omega), dif_neg h2]
      congr 1; omega
  · have h2 : ¬ i < 32 - (k + 1) % 32 := by omega
    rw [dif_neg h1, dif_neg h2, BitVec.getElem_rotateRight (by omega), dif_pos (by omega)]
    congr 1; omega

set_option maxHeartbeats 400000 in
/-- 'right': a number turned to the right. -/
theorem right_still (x : BitVec 32) (k : Int) (h1 : 0 ≤ k) (h2 : k ≤ 31) (w : World) :
    Calls Tryd.prog 92 #[.int .u32 x.toNat, .int .i64 k] w fun e w' => e = .returned (.int .u32 (rotr x k.toNat).toNat) ∧ w' = w := by
  obtain ⟨n, rfl⟩ := Int.eq_ofNat_of_zero_le h1
  go_enter Tryd.func92, Tryd.ntmps92
  go_wp2
  go_loop [0, 5] (fun y i => ∃ j : Nat, j ≤ n ∧ i = .int .i64 j ∧ y = .int .u32 ((x.rotateRight j).toNat : Int)) (fun _ i => n - (intOf i).toNat)
  case atStart => exact ⟨0, by omega, rfl, by simp [BitVec.rotateRight_def]⟩
  case round =>
    obtain ⟨j, hj, rfl, rfl⟩ := hrel
    by_cases hlt : j < n
    · obtain ⟨y, hy⟩ : ∃ y, y = x.rotateRight j := ⟨_, rfl⟩
      have Hy : Hid (y.rotateRight 1 = x.rotateRight (j + 1)) := by rw [hy]; exact rotate_succ x j (by omega)
      rw [← hy]
      clear hy
      have hr := rotate_one y
      have hy32 := y.isLt
      by_cases hb : (y.toNat : Int) % 2 = 1
      · rw [if_pos hb] at hr
        have hbb : ((y.toNat : Int) % 2 == 1) = true := by simp; omega
        have Hr := Lib.hid hr
        clear hr
        go_wp2
        go_round
        case rel => exact ⟨j + 1, by omega, by go_num, by rw [← Hy.out, Hr.out]⟩
        case measure => simp [intOf]; omega
      · rw [if_neg hb] at hr
        have hbb : ((y.toNat : Int) % 2 == 1) = false := by simp; omega
        have Hr := Lib.hid hr
        clear hr
        go_wp2
        go_round
        case rel => exact ⟨j + 1, by omega, by go_num, by rw [← Hy.out, Hr.out]⟩
        case measure => simp [intOf]; omega
    · obtain rfl : j = n := by omega
      obtain ⟨y, hy⟩ : ∃ y, y = x.rotateRight j := ⟨_, rfl⟩
      have Hy := Lib.hid hy
      rw [← hy]
      clear hy
      go_wp2
      go_ret
      refine ⟨?_, rfl⟩
      rw [rotr_rotate x _ (by omega)]
      show Ending.returned (.int .u32 (y.toNat : Int)) = _
      rw [Hy.out]

/-- 'constants()'. -/
theorem consts_any (w : World) : Calls Tryd.prog 93 #[] w fun e w' => e = .returned (.slice (some ⟨w.heap.size, 0, none⟩) 64 64) ∧ w'.rowIs w.heap.size 128 64 (fun j => .int .u32 ((kOf j).toNat : Int)) ∧ Below w.heap.size w w' := by
  go_enter Tryd.func93, Tryd.ntmps93
  go_wp2
  go_ret
  refine ⟨rfl, row_mk ((heap_alloc_new w _).trans (congrArg some ?_)), (Below.refl _ _).alloc (Nat.le_refl _) _⟩
  kernel_rfl
end Go.Proofs.YtaakhldhmoaplaaDoor.Sha

namespace Go.Proofs.YtaakhldhmoaplaaDoor.Aid
open Go Go.RowKit

/-- v holds m elements of type T, by their index f, in a row of the call's own, from block 'base' on. -/
def OwnV (w : World) (base T m : Nat) (f : Nat → Value) (v : Value) : Prop := w.ownsRow base T 1 v m ((List.range m).map f)
section
variable {w w' : World} {base T m : Nat} {f : Nat → Value} {v : Value}
theorem OwnV.form (h : OwnV w base T m f v) (hm : 0 < m) :
    ∃ g cap cur, v = .slice (some ⟨g, 0, none⟩) m cap ∧ base ≤ g ∧ g < w.heap.size ∧ m ≤ cap ∧ w.heap[g]? = some (.cells cur T (0, 0)) ∧ ∀ j, j < m → w.cell? ⟨g, j, none⟩ = some (f j) := by
  obtain ⟨h1, h2⟩ := h
  rcases h2 with h2 | ⟨g, cap, cur, hv, hg, hh, hn, hc, hs, ht⟩
  · omega
  · refine ⟨g, cap, cur, hv, hg, ?_, hn, hh, fun j hj => ?_⟩
    · rcases Nat.lt_or_ge g w.heap.size with hlt | hge
      · exact hlt
      · rw [Array.getElem?_eq_none hge] at hh; cases hh
    · have hx := congrArg (fun l => l[j]?) ht
      simp only [Nat.mul_one, List.getElem?_take_of_lt hj, Array.getElem?_toList] at hx
      rw [cell_of_row w g j cur _ _ hh, hx]
      simp [hj]
theorem OwnV.keep (h : OwnV w base T m f v) (hk : ∀ b, v.ownBlock = some b → w'.heap[b]? = w.heap[b]?) : OwnV w' base T m f v := by
  obtain ⟨h1, h2⟩ := h
  refine ⟨h1, ?_⟩
  rcases h2 with h2 | ⟨g, cap, cur, hv, hg, hh, r⟩
  · exact .inl h2
  · subst hv
    exact .inr ⟨g, cap, cur, rfl, hg, (hk g rfl).trans hh, r⟩
theorem OwnV.lt (h : OwnV w base T m f v) {b : Nat} (hb : v.ownBlock = some b) : base ≤ b ∧ b < w.heap.size := by
  obtain ⟨h1, h2⟩ := h
  rcases h2 with ⟨rfl, _⟩ | ⟨g, cap, cur, rfl, hg, hh, _⟩
  · cases hb
  · have : g = b := by simpa [Value.ownBlock] using hb
    subst this
    refine ⟨hg, ?_⟩
    rcases Nat.lt_or_ge g w.heap.size with hlt | hge
    · exact hlt
    · rw [Array.getElem?_eq_none hge] at hh; cases hh
theorem OwnV.below (h : OwnV w base T m f v) (hb : Below w.heap.size w w') : OwnV w' base T m f v := h.keep (fun _ hv => hb.block _ (h.lt hv).2)
theorem OwnV.congr {f' : Nat → Value} (h : OwnV w base T m f v) (e : ∀ j, j < m → f j = f' j) : OwnV w base T m f' v := by
  unfold OwnV at h ⊢
  rw [← List.map_congr_left (fun j hj => e j (List.mem_range.1 hj))]
  exact h
theorem OwnV.nil (w : World) (base T : Nat) (f : Nat → Value) : OwnV w base T 0 f (.slice none 0 0) := World.ownsRow_nil _ _ _ _
theorem OwnV.empty (w : World) (T : Nat) (f : Nat → Value) : OwnV (w.alloc (.cells #[] T)) w.heap.size T 0 f (.slice (some ⟨w.heap.size, 0, none⟩) 0 0) :=
  World.ownsRow_made w #[] 0 (Nat.le_refl _) (by simp [maxLen]) (by simp)
end
theorem map_snoc (f : Nat → Value) (n m : Nat) (g : Nat → Value) (h : ∀ i, i < m → g i = f (n + i)) : (List.range n).map f ++ (List.range m).map g = (List.range (n + m)).map f := by
  apply List.ext_getElem?
  intro j
  by_cases hj : j < n
  · rw [List.getElem?_append_left (by simpa using hj)]
    simp [hj, show j < n + m by omega]
  · rw [List.getElem?_append_right (by simp; omega)]
    by_cases h2 : j < n + m
    · simp [h2, show j - n < m by omega, h (j - n) (by omega), show n + (j - n) = j by omega]
    · simp [h2, show ¬ j - n < m by omega]

section
variable {P : Program} {w : World} {ops : Array Oper} {rest : List Oper} {op : Oper} {a : Act} {Q : Exit → Act → World → Prop}
/-- 'append(v, x...)': the new elements continue f. -/
theorem append_more (hgd : op.guard = none) (s x : Operand) (t T : TypeId) (ho : op.op = .call { callee := .builtin .append, args := #[s, x], argTypes := #[t, t] }) (ht : P.underlying t = some (.slice T))
    (z : Value) (bytes : Nat) (hinfo : (P.info? T).map (fun i => (i.zero, i.size, i.bytes)) = some (some z, 1, bytes)) (hz1 : z.cells.size = 1) (hby : bytes ≤ 8)
    (base n : Nat) (f : Nat → Value) (v : Value) (hs : a.eval s = v) (hown : OwnV w base T n f v) (sb so m c : Nat) (hx : a.eval x = .slice (some ⟨sb, so, none⟩) m c)
    (hc : ∀ j, j < m → w.cell? ⟨sb, so + j, none⟩ = some (f (n + j))) (h1 : ∀ j, j < m → (f (n + j)).oneCell' = true) (hnm : n + m ≤ 1000000000) (hbase : base ≤ w.heap.size)
    (hK : ∀ v' w', OwnV w' base T (n + m) f v' → w.grownBy w' v.ownBlock → (v'.ownBlock = v.ownBlock ∨ v'.ownBlock = some w.heap.size) → wpList P ops Q rest (a.put op.dst v') w') : wpList P ops Q (op :: rest) a w := by
  obtain ⟨i, hi, hz⟩ := Option.map_eq_some_iff.1 hinfo
  simp only [Prod.mk.injEq] at hz
  refine wpList_append_own_at w hgd s x t ho base T i z 1 bytes ht hi hz.1 hz.2.1 hz.2.2 hz1 (by omega) v n _ hs hown ⟨sb, so, none⟩ m c ((List.range m).map fun j => f (n + j)) hx (by simp) ?_ ?_ (by simp only [maxLen]; omega) ?_ hbase ?_
  · intro j y hy
    have hj : j < m := by have := (List.getElem?_eq_some_iff.1 hy).1; simpa using this
    rw [Addr.add_mid, hc j hj, ← hy]
    simp [hj]
  · intro y hy
    obtain ⟨j, hj, rfl⟩ := List.mem_map.1 hy
    exact h1 j (List.mem_range.1 hj)
  · have : (n + m) * bytes ≤ 1000000000 * 8 := Nat.mul_le_mul hnm hby
    omega
  · intro v' w' h2 h3 _ h4
    rw [map_snoc f n m _ (fun _ _ => rfl)] at h2
    exact hK v' w' h2 h3 h4
end
end Go.Proofs.YtaakhldhmoaplaaDoor.Aid

namespace Go.Proofs.YtaakhldhmoaplaaDoor.Sha
open Go Go.RowKit Go.Proofs.YtaakhldhmoaplaaDoor.Aid

theorem word_sum (b : Nat → BitVec 8) (k : Nat) :
    ((b (4 * k)).toNat : Int) * 16777216 + ((b (4 * k + 1)).toNat : Int) * 65536 + ((b (4 * k + 2)).toNat : Int) * 256 + ((b (4 * k + 3)).toNat : Int) = ((word b k).toNat : Int) := by
  unfold word
  have h0 := (b (4 * k)).isLt
  have h1 := (b (4 * k + 1)).isLt
  have h2 := (b (4 * k + 2)).isLt
  have h3 := (b (4 * k + 3)).isLt
  have a0 := shl8 (b (4 * k)) 16777216 24 (by decide) (by decide)
  have a1 := shl8 (b (4 * k + 1)) 65536 16 (by decide) (by decide)
  have a2 := shl8 (b (4 * k + 2)) 256 8 (by decide) (by decide)
  have a3 := wide8 (b (4 * k + 3))
  rw [BitVec.or_assoc, BitVec.or_assoc, BitVec.toNat_or, BitVec.toNat_or, BitVec.toNat_or]
  generalize (BitVec.setWidth 32 (b (4 * k)) <<< 24).toNat = y0 at *
  generalize (BitVec.setWidth 32 (b (4 * k + 1)) <<< 16).toNat = y1 at *
  generalize (BitVec.setWidth 32 (b (4 * k + 2)) <<< 8).toNat = y2 at *
  generalize (BitVec.setWidth 32 (b (4 * k + 3))).toNat = y3 at *
  generalize (b (4 * k)).toNat = x0 at *
  generalize (b (4 * k + 1)).toNat = x1 at *
  generalize (b (4 * k + 2)).toNat = x2 at *
  generalize (b (4 * k + 3)).toNat = x3 at *
  obtain rfl : y0 = 2 ^ 24 * x0 := by omega
  obtain rfl : y1 = 2 ^ 16 * x1 := by omega
  obtain rfl : y2 = 2 ^ 8 * x2 := by omega
  obtain rfl : y3 = x3 := by omega
  rw [← Nat.two_pow_add_eq_or_of_lt (b := y3) (by omega) x2, ← Nat.two_pow_add_eq_or_of_lt (b := 2 ^ 8 * x2 + y3) (by omega) x1, ← Nat.two_pow_add_eq_or_of_lt (b := 2 ^ 16 * x1 + (2 ^ 8 * x2 + y3)) (by omega) x0]
  omega

/-- v is a slice of n numbers that read as f. -/
def WordsAt (w : World) (n : Nat) (f : Nat → BitVec 32) (v : Value) : Prop :=
  ∃ sb so c : Nat, v = .slice (some ⟨sb, so, none⟩) n c ∧ n ≤ c ∧ ∀ j, j < n → w.cell? ⟨sb, so + j, none⟩ = some (.int .u32 ((f j).toNat : Int))
theorem WordsAt.below {w w' : World} {B n : Nat} {f : Nat → BitVec 32} {v : Value} (h : WordsAt w n f v) (hb : Below B w w') (hB : w.heap.size ≤ B) : WordsAt w' n f v := by
  obtain ⟨sb, so, c, hv, hc, hcell⟩ := h
  refine ⟨sb, so, c, hv, hc, fun j hj => ?_⟩
  have h0 := hcell j hj
  have hlt : sb < w.heap.size := block_lt_of_cell h0
  exact (hb.cell (p := ⟨sb, so + j, none⟩) (Nat.lt_of_lt_of_le hlt hB)).trans h0

theorem info_u32 : (Tryd.prog.info? 128).map (fun i => (i.zero, i.size, i.bytes)) = some (some (.int .u32 0), 1, 4) := by kernel_rfl
def wordOf (b : Nat → BitVec 8) (j : Nat) : Value := .int .u32 ((sched b j).toNat : Int)

theorem one_cell (W : World) (T : Nat) (v : Value) (f : Nat → Value) (n : Nat) (h : v = f n) (j : Nat) (hj : j < 1) : (W.alloc (.cells #[v] T)).drew.cell? ⟨W.heap.size, 0 + j, none⟩ = some (f (n + j)) := by
  obtain rfl : j = 0 := by omega
  show (W.alloc (.cells #[v] T)).cell? _ = _
  rw [World.cell?_alloc_new, h]
  rfl

theorem sched_walk2 (b : Nat → BitVec 8) (k : Nat) (h : 16 ≤ k) :
    (((((sched b (k - 16)).toNat : Int) + ((sched b (k - 7)).toNat : Int)) % 4294967296 +
                  bits BinOp.xor IntKind.u32
                    (bits BinOp.xor IntKind.u32 ((rotr (sched b (k - 15)) 7).toNat : Int) ((rotr (sched b (k - 15)) 18).toNat : Int))
                    (((sched b (k - 15)).toNat : Int) / 8)) % 4294967296 +
                bits BinOp.xor IntKind.u32
                  (bits BinOp.xor IntKind.u32 ((rotr (sched b (k - 2)) 17).toNat : Int) ((rotr (sched b (k - 2)) 19).toNat : Int))
                  (((sched b (k - 2)).toNat : Int) / 1024)) % 4294967296 = ((sched b k).toNat : Int) := by
  rw [sched_high b k h, shr3, shr10, xor32, xor32, xor32, xor32, add32, add32, add32]
  rfl
theorem not_sub (x : BitVec 32) : (4294967295 : Int) - (x.toNat : Int) = ((~~~ x).toNat : Int) := by
  have := x.isLt
  rw [BitVec.toNat_not]
  omega
theorem sum7 (a b c d e f g : BitVec 32) : ((a.toNat : Int) + (b.toNat : Int) + (c.toNat : Int) + (d.toNat : Int) + (e.toNat : Int) + ((f.toNat : Int) + (g.toNat : Int))) % 4294967296 = ((a + b + c + d + e + (f + g)).toNat : Int) := by
  simp only [BitVec.toNat_add]; omega
theorem sum6 (z a b c d e : BitVec 32) : ((z.toNat : Int) + ((a.toNat : Int) + (b.toNat : Int) + (c.toNat : Int) + (d.toNat : Int) + (e.toNat : Int))) % 4294967296 = ((z + (a + b + c + d + e)).toNat : Int) := by
  simp only [BitVec.toNat_add]; omega
theorem a_walk (r : St) (k x : BitVec 32) :
    ((r.h.toNat : Int) + bits BinOp.xor IntKind.u32 (bits BinOp.xor IntKind.u32 ((rotr r.e 6).toNat : Int) ((rotr r.e 11).toNat : Int)) ((rotr r.e 25).toNat : Int) +
      bits BinOp.xor IntKind.u32 (bits BinOp.and IntKind.u32 (r.e.toNat : Int) (r.f.toNat : Int)) (bits BinOp.and IntKind.u32 (4294967295 - (r.e.toNat : Int)) (r.g.toNat : Int)) +
      (k.toNat : Int) + (x.toNat : Int) +
      (bits BinOp.xor IntKind.u32 (bits BinOp.xor IntKind.u32 ((rotr r.a 2).toNat : Int) ((rotr r.a 13).toNat : Int)) ((rotr r.a 22).toNat : Int) +
      bits BinOp.xor IntKind.u32 (bits BinOp.xor IntKind.u32 (bits BinOp.and IntKind.u32 (r.a.toNat : Int) (r.b.toNat : Int)) (bits BinOp.and IntKind.u32 (r.a.toNat : Int) (r.c.toNat : Int))) (bits BinOp.and IntKind.u32 (r.b.toNat : Int) (r.c.toNat : Int)))) % 4294967296 = ((r.round k x).a.toNat : Int) := by
  simp only [not_sub, xor32, and32, sum7]
  rfl
theorem e_walk (r : St) (k x : BitVec 32) :
    ((r.d.toNat : Int) + ((r.h.toNat : Int) + bits BinOp.xor IntKind.u32 (bits BinOp.xor IntKind.u32 ((rotr r.e 6).toNat : Int) ((rotr r.e 11).toNat : Int)) ((rotr r.e 25).toNat : Int) +
      bits BinOp.xor IntKind.u32 (bits BinOp.and IntKind.u32 (r.e.toNat : Int) (r.f.toNat : Int)) (bits BinOp.and IntKind.u32 (4294967295 - (r.e.toNat : Int)) (r.g.toNat : Int)) +
      (k.toNat : Int) + (x.toNat : Int))) % 4294967296 = ((r.round k x).e.toNat : Int) := by
  simp only [not_sub, xor32, and32, sum6]
  rfl

/-- l is a slice of the call's own, of eight numbers. -/
def LRow (B : Nat) (r : St) (w : World) (l : Value) : Prop :=
  ∃ gl cl n f, l = .slice (some ⟨gl, 0, none⟩) 8 cl ∧ 8 ≤ cl ∧ B ≤ gl ∧ 8 ≤ n ∧ w.rowIs gl 128 n f ∧ ∀ j, j < 8 → f j = .int .u32 ((r.get j).toNat : Int)
theorem LRow.of_own {B B' : Nat} {r : St} {w : World} {l : Value} (h : OwnV w B' 128 8 (fun j => .int .u32 ((r.get j).toNat : Int)) l) (hB : B ≤ B') : LRow B r w l := by
  obtain ⟨g, cap, cur, rfl, hg, _, hc, hh, hcell⟩ := h.form (by omega)
  have hat : ∀ j, j < 8 → cur[j]? = some (.int .u32 ((r.get j).toNat : Int)) := fun j hj => (cell_of_row w g j cur _ _ hh).symm.trans (hcell j hj)
  have hsz : 8 ≤ cur.size := (Array.getElem?_eq_some_iff.1 (hat 7 (by omega))).1
  refine ⟨g, cap, cur.size, fun j => cur.getD j undef, rfl, hc, by omega, hsz, ⟨cur, hh, rfl, fun i hi => ?_⟩, fun j hj => ?_⟩
  · simp [Array.getD, hi]
  · have := hat j hj
    show cur.getD j undef = _
    rw [Array.getD_eq_getD_getElem?, this]
    rfl
theorem LRow.below {B B' : Nat} {r : St} {w w' : World} {l : Value} (h : LRow B r w l) (hb : Below B' w w') (hB : w.heap.size ≤ B') : LRow B r w' l := by
  obtain ⟨gl, cl, n, f, hl, hc, hg, hn, hr, hf⟩ := h
  exact ⟨gl, cl, n, f, hl, hc, hg, hn, hr.of_block (hb.block _ (by have := hr.lt; omega)), hf⟩
theorem LRow.made (B : Nat) (r : St) (w : World) (hB : B ≤ w.heap.size) (v0 v1 v2 v3 v4 v5 v6 v7 : Value) (h0 : v0 = .int .u32 (r.a.toNat : Int)) (h1 : v1 = .int .u32 (r.b.toNat : Int)) (h2 : v2 = .int .u32 (r.c.toNat : Int)) (h3 : v3 = .int .u32 (r.d.toNat : Int))
    (h4 : v4 = .int .u32 (r.e.toNat : Int)) (h5 : v5 = .int .u32 (r.f.toNat : Int)) (h6 : v6 = .int .u32 (r.g.toNat : Int)) (h7 : v7 = .int .u32 (r.h.toNat : Int)) :
    LRow B r (w.alloc (.cells #[v0, v1, v2, v3, v4, v5, v6, v7] 128)) (.slice (some ⟨w.heap.size, 0, none⟩) 8 8) := by
  subst h0 h1 h2 h3 h4 h5 h6 h7
  exact ⟨w.heap.size, 8, 8, _, rfl, by omega, hB, by omega, row_new w _ _ 8 _ rfl (stCells_at r), fun _ _ => rfl⟩

/-- What block holds in its third loop. -/
structure BlkRows (b : Nat → BitVec 8) (B gw gk : Nat) (w wr : World) : Prop where
  ws : ∀ j, j < 64 → wr.cell? ⟨gw, j, none⟩ = some (.int .u32 ((sched b j).toNat : Int))
  ks : ∀ j, j < 64 → wr.cell? ⟨gk, j, none⟩ = some (.int .u32 ((kOf j).toNat : Int))
  hb : Below B w wr
theorem BlkRows.below {b : Nat → BitVec 8} {B gw gk : Nat} {w wr w' : World} (h : BlkRows b B gw gk w wr) (hb : Below wr.heap.size wr w') (hB : B ≤ wr.heap.size) : BlkRows b B gw gk w w' :=
  ⟨fun j hj => (hb.cell (p := ⟨gw, j, none⟩) (block_lt_of_cell (h.ws j hj))).trans (h.ws j hj), fun j hj => (hb.cell (p := ⟨gk, j, none⟩) (block_lt_of_cell (h.ks j hj))).trans (h.ks j hj), h.hb.trans (hb.mono hB)⟩

set_option maxRecDepth 100000 in
set_option maxHeartbeats 16000000 in
theorem block_any (s : St) (b : Nat → BitVec 8) (vs : Value) (sb so c : Nat) (w : World) (hs : WordsAt w 8 s.get vs) (_hc : 64 ≤ c) (hb : ∀ j, j < 64 → w.cell? ⟨sb, so + j, none⟩ = some (.int .u8 ((b j).toNat : Int))) :
    Calls Tryd.prog 79 #[vs, .slice (some ⟨sb, so, none⟩) 64 c] w fun e w' => ∃ gl cl, e = .returned (.slice (some ⟨gl, 0, none⟩) 8 cl) ∧ 8 ≤ cl ∧ w.heap.size ≤ gl ∧
      (∀ j, j < 8 → w'.cell? ⟨gl, j, none⟩ = some (.int .u32 (((mixOf s b).get j).toNat : Int))) ∧ Below w.heap.size w w' := by
  have hsb : sb < w.heap.size := block_lt_of_cell (hb 0 (by omega))
  obtain ⟨ss, so', cs, rfl, hcs, hscell⟩ := hs
  have hss : ss < w.heap.size := block_lt_of_cell (hscell 0 (by omega))
  have Hs := Lib.hid hscell
  clear hscell
  have Hb := Lib.hid hb
  clear hb
  go_enter Tryd.func79, Tryd.ntmps79
  go_wp2
  go_loopw [5, 6] (fun v i wr => ∃ k : Nat, k ≤ 16 ∧ i = .int .i64 k ∧ OwnV wr w.heap.size 128 k (wordOf b) v ∧ Below w.heap.size w wr) (fun _ i _ => 16 - (intOf i).toNat)
  case atStart => exact ⟨0, by omega, rfl, OwnV.nil _ _ _ _, Below.refl _ _⟩
  case round =>
    obtain ⟨k, hk, rfl, hown, hbl⟩ := hrel
    by_cases hlt : k < 16
    · have cc : ∀ j, j < 64 → wr.cell? ⟨sb, so + j, none⟩ = some (.int .u8 ((b j).toNat : Int)) := fun j hj => (hbl.cell (p := ⟨sb, so + j, none⟩) hsb).trans (Hb.out j hj)
      have c0 := cc (4 * k) (by omega)
      have c1 := cc (4 * k + 1) (by omega)
      have c2 := cc (4 * k + 2) (by omega)
      have c3 := cc (4 * k + 3) (by omega)
      clear cc
      have e0 : IntKind.i64.wrap (4 * (k : Int)) = 4 * (k : Int) := IntWalk.i64_in _ (by omega)
      have e1 : IntKind.i64.wrap (4 * (k : Int) + 1) = 4 * (k : Int) + 1 := IntWalk.i64_in _ (by omega)
      have e2 : IntKind.i64.wrap (4 * (k : Int) + 2) = 4 * (k : Int) + 2 := IntWalk.i64_in _ (by omega)
      have e3 : IntKind.i64.wrap (4 * (k : Int) + 3) = 4 * (k : Int) + 3 := IntWalk.i64_in _ (by omega)
      have t0 : (4 * (k : Int)).toNat = 4 * k := by omega
      have t1 : (4 * (k : Int) + 1).toNat = 4 * k + 1 := by omega
      have t2 : (4 * (k : Int) + 2).toNat = 4 * k + 2 := by omega
      have t3 : (4 * (k : Int) + 3).toNat = 4 * k + 3 := by omega
      have p0 : 0 ≤ 4 * (k : Int) := by omega
      have p1 : 0 ≤ 4 * (k : Int) + 1 := by omega
      have p2 : 0 ≤ 4 * (k : Int) + 2 := by omega
      have p3 : 0 ≤ 4 * (k : Int) + 3 := by omega
      have q0 : 4 * (k : Int) < 64 := by omega
      have q1 : 4 * (k : Int) + 1 < 64 := by omega
      have q2 : 4 * (k : Int) + 2 < 64 := by omega
      have q3 : 4 * (k : Int) + 3 < 64 := by omega
      go_wp2
      refine wp_region_noPanic ?_
      refine region_first (v := u5) 34 (by kernel_rfl) (by kernel_rfl) (fun _ _ _ h => h) (.inl ⟨rfl, fun _ => rfl⟩) ?_
      simp only [List.take_succ_cons, List.take_zero, List.drop_succ_cons, List.drop_zero, Act.put]
      repeat still_step
      refine wpStill_nil ?_
      have HV : Hid (Value.int .u32 (((b (4 * k)).toNat : Int) * 16777216 + ((b (4 * k + 1)).toNat : Int) * 65536 + ((b (4 * k + 2)).toNat : Int) * 256 + ((b (4 * k + 3)).toNat : Int)) = wordOf b k) :=
        int_of ((word_sum b k).trans (by rw [sched_low b k hlt]))
      go_wp2_with (at_builtin
                   refine append_more (by rfl) (.tmp 22) (.tmp 56) 129 128 (by rfl) Tryd.underlying129 (.int .u32 0) 4 info_u32 rfl (by omega) w.heap.size k (wordOf b) u5 (by rfl) (by exact hown.keep (fun x hx => Below.heap_alloc wr _ x (hown.lt hx).2)) wr.heap.size 0 1 1 (by rfl) (one_cell wr _ _ (wordOf b) k HV.out) (fun _ _ => rfl) (by omega) (by have := hbl.size; simp; omega) ?_
                   intro v2 w2 hown2 hg2 hat2)
      refine NoPanic.normal ?_
      have hb2 : Below w.heap.size w w2 := (hbl.alloc hbl.size _).drew.grown hg2 (by have := hbl.size; simp; omega) (fun x hx => (hown.lt hx).1)
      clear hg2 hat2 HV c0 c1 c2 c3 hown hbl
      go_wp2
      go_roundw
      case rel => exact ⟨k + 1, by omega, by go_num, hown2, hb2⟩
      case measure => simp [intOf]; omega
    · have h16 : OwnV wr w.heap.size 128 16 (wordOf b) u5 := by
        have e : k = 16 := by omega
        rw [e] at hown; exact hown
      clear hown hk
      go_wp2
      go_loopw [5, 7, 8, 9] (fun v i _ _ wr => ∃ k : Nat, 16 ≤ k ∧ k ≤ 64 ∧ i = .int .i64 k ∧ OwnV wr w.heap.size 128 k (wordOf b) v ∧ Below w.heap.size w wr) (fun _ i _ _ _ => 64 - (intOf i).toNat)
      case atStart => exact ⟨16, by omega, by omega, rfl, h16, hbl⟩
      case round =>
        clear h16 hbl
        have Hlt := Lib.hid hlt
        clear hlt
        obtain ⟨k1, hk1⟩ : ∃ k1 : Nat, k1 = k := ⟨_, rfl⟩
        clear hk1
        obtain ⟨k, hk1, hk2, rfl, hown, hbl⟩ := hrel
        obtain ⟨gw, cw, cur, rfl, hgb, hgl, hcw, _, hcell⟩ := hown.form (by omega)
        by_cases hlt : k < 64
        · have c0 := hcell (k - 16) (by omega)
          have c1 := hcell (k - 15) (by omega)
          have c2 := hcell (k - 7) (by omega)
          have c3 := hcell (k - 2) (by omega)
          unfold wordOf at c0 c1 c2 c3
          clear hcell
          have e0 : IntKind.i64.wrap ((k : Int) - 16) = (k : Int) - 16 := IntWalk.i64_in _ (by omega)
          have e1 : IntKind.i64.wrap ((k : Int) - 15) = (k : Int) - 15 := IntWalk.i64_in _ (by omega)
          have e2 : IntKind.i64.wrap ((k : Int) - 7) = (k : Int) - 7 := IntWalk.i64_in _ (by omega)
          have e3 : IntKind.i64.wrap ((k : Int) - 2) = (k : Int) - 2 := IntWalk.i64_in _ (by omega)
          have t0 : ((k : Int) - 16).toNat = k - 16 := by omega
          have t1 : ((k : Int) - 15).toNat = k - 15 := by omega
          have t2 : ((k : Int) - 7).toNat = k - 7 := by omega
          have t3 : ((k : Int) - 2).toNat = k - 2 := by omega
          have p0 : 0 ≤ (k : Int) - 16 := by omega
          have p1 : 0 ≤ (k : Int) - 15 := by omega
          have p2 : 0 ≤ (k : Int) - 7 := by omega
          have p3 : 0 ≤ (k : Int) - 2 := by omega
          have q0 : (k : Int) - 16 < (k : Int) := by omega
          have q1 : (k : Int) - 15 < (k : Int) := by omega
          have q2 : (k : Int) - 7 < (k : Int) := by omega
          have q3 : (k : Int) - 2 < (k : Int) := by omega
          have q5 : (16 : Int) ≤ (k : Int) := by omega
          have q6 : (15 : Int) ≤ (k : Int) := by omega
          have q7 : (7 : Int) ≤ (k : Int) := by omega
          have q8 : (2 : Int) ≤ (k : Int) := by omega
          go_wp2
          refine wp_region_noPanic ?_
          refine region_first (v := .slice (some ⟨gw, 0, none⟩) k cw) 30 (by kernel_rfl) (by kernel_rfl) (fun _ _ _ h => h) (.inl ⟨rfl, fun _ => rfl⟩) ?_
          simp only [List.take_succ_cons, List.take_zero, List.drop_succ_cons, List.drop_zero, Act.put]
          repeat (first | still_call (right_still _ _ (by decide) (by decide) _) | still_step)
          refine wpStill_nil ?_
          have hk16 : 16 ≤ k := hk1
          go_wp2_with (at_builtin
                       refine append_more (by rfl) (.tmp 72) (.tmp 102) 129 128 (by rfl) Tryd.underlying129 (.int .u32 0) 4 info_u32 rfl (by omega) w.heap.size k (wordOf b) (.slice (some ⟨gw, 0, none⟩) k cw) (by rfl) (by exact hown.keep (fun x hx => Below.heap_alloc wr _ x (hown.lt hx).2)) wr.heap.size 0 1 1 (by rfl) (one_cell wr _ _ (wordOf b) k (by first | exact int_of (sched_walk2 b k hk16) | exact int_of (sched_walk b k hk16) | trace_state)) (fun _ _ => rfl) (by omega) (by have := hbl.size; simp; omega) ?_
                       intro v2 w2 hown2 hg2 hat2)
          refine NoPanic.normal ?_
          have hb2 : Below w.heap.size w w2 := (hbl.alloc hbl.size _).drew.grown hg2 (by have := hbl.size; simp; omega) (fun x hx => (hown.lt hx).1)
          clear hg2 hat2 c0 c1 c2 c3 hown hbl
          go_wp2
          go_roundw
          case rel => exact ⟨k + 1, by omega, by omega, by go_num, hown2, hb2⟩
          case measure => simp [intOf]; omega
        · obtain rfl : k = 64 := by omega
          have Hw := Lib.hid hcell
          clear hcell hown
          have ho0 := OwnV.empty wr 128 (fun j => .int .u32 ((s.get j).toNat : Int))
          have hs0 : ∀ j, j < 8 → (wr.alloc (.cells #[] 128)).cell? ⟨ss, so' + j, none⟩ = some (.int .u32 ((s.get (0 + j)).toNat : Int)) := fun j hj => by
            rw [Nat.zero_add]
            exact ((hbl.alloc hbl.size _).cell (p := ⟨ss, so' + j, none⟩) hss).trans (Hs.out j hj)
          go_wp2_with (first
            | (at_builtin
               refine append_more (by rfl) (.tmp 104) (.tmp 105) 129 128 (by rfl) Tryd.underlying129 (.int .u32 0) 4 info_u32 rfl (by omega) wr.heap.size 0 _ _ (by rfl) ho0 ss so' 8 cs (by rfl) hs0 (fun _ _ => rfl) (by omega) (by simp) ?_
               intro v2 w2 hown2 hg2 hat2)
            | (go_at_call 93
               refine (consts_any _).mono ?_
               rintro e w3 ⟨rfl, hr3, hb3⟩))
          have hb12 : Below wr.heap.size wr w2 := ((Below.refl _ _).alloc (Nat.le_refl _) _).grown hg2 (by simp) (fun x hx => by simp [Value.ownBlock] at hx; omega)
          have hb13 : Below wr.heap.size wr w3 := hb12.trans (hb3.mono hb12.size)
          have hl3 : LRow w.heap.size s w3 v2 := (LRow.of_own hown2 hbl.size).below hb3 (Nat.le_refl _)
          have h3 : BlkRows b w.heap.size gw w2.heap.size w w3 :=
            ⟨fun j hj => (hb13.cell (p := ⟨gw, j, none⟩) hgl).trans (Hw.out j hj), fun j hj => hr3.cell hj, hbl.trans (hb13.mono hbl.size)⟩
          clear hown2 hg2 hat2 hr3 hb3 hb12 hb13 hbl ho0 hs0 Hw hlt
          go_loopw [10, 12, 13, 14, 15, 16] (fun l i _ _ _ _ wr => ∃ k : Nat, k ≤ 64 ∧ i = .int .i64 k ∧ LRow w.heap.size (rounds s kOf (sched b) k) wr l ∧ BlkRows b w.heap.size gw w2.heap.size w wr) (fun _ i _ _ _ _ _ => 64 - (intOf i).toNat)
          case atStart => exact ⟨0, by omega, rfl, hl3, h3⟩
          case round =>
            clear hl3 h3
            obtain ⟨k, hk, rfl, hl, h⟩ := hrel
            obtain ⟨gl, cl, n, f, rfl, h8, hgl8, hn, hrow, hf⟩ := hl
            obtain ⟨r, hr⟩ : ∃ r, r = rounds s kOf (sched b) k := ⟨_, rfl⟩
            rw [← hr] at hf
            have Hr := Lib.hid hr
            clear hr
            by_cases hlt : k < 64
            · have cell : ∀ j, j < 8 → wr.cell? ⟨gl, j, none⟩ = some (.int .u32 ((r.get j).toNat : Int)) := fun j hj => (hrow.cell (by omega)).trans (by rw [hf j hj])
              have c0 : wr.cell? ⟨gl, 0, none⟩ = some (.int .u32 (r.a.toNat : Int)) := cell 0 (by omega)
              have c1 : wr.cell? ⟨gl, 1, none⟩ = some (.int .u32 (r.b.toNat : Int)) := cell 1 (by omega)
              have c2 : wr.cell? ⟨gl, 2, none⟩ = some (.int .u32 (r.c.toNat : Int)) := cell 2 (by omega)
              have c3 : wr.cell? ⟨gl, 3, none⟩ = some (.int .u32 (r.d.toNat : Int)) := cell 3 (by omega)
              have c4 : wr.cell? ⟨gl, 4, none⟩ = some (.int .u32 (r.e.toNat : Int)) := cell 4 (by omega)
              have c5 : wr.cell? ⟨gl, 5, none⟩ = some (.int .u32 (r.f.toNat : Int)) := cell 5 (by omega)
              have c6 : wr.cell? ⟨gl, 6, none⟩ = some (.int .u32 (r.g.toNat : Int)) := cell 6 (by omega)
              have c7 : wr.cell? ⟨gl, 7, none⟩ = some (.int .u32 (r.h.toNat : Int)) := cell 7 (by omega)
              have c8 := h.ks k hlt
              have c9 := h.ws k hlt
              have hwr : w.heap.size ≤ wr.heap.size := h.hb.size
              have q0 : (0 : Int) ≤ (k : Int) := by omega
              have q1 : (k : Int) < 64 := by omega
              clear cell hrow hf
              have h4 : ∀ o, BlkRows b w.heap.size gw w2.heap.size w ((wr.drew.drew.drew).alloc o) := fun o => h.below ((Below.refl _ _).drew.drew.drew.alloc (Nat.le_refl _) o) hwr
              have H4 := Lib.hid h4
              clear h4 h
              go_wp2
              refine region_still (by kernel_rfl) (by kernel_rfl) ?_
              repeat (first | still_call (right_still _ _ (by decide) (by decide) _) | still_step)
              refine wpStill_nil ?_
              go_wp2
              refine region_still (by kernel_rfl) (by kernel_rfl) ?_
              repeat (first | still_call (right_still _ _ (by decide) (by decide) _) | still_step)
              refine wpStill_nil ?_
              go_wp2
              refine region_tail 26 (by kernel_rfl) (by kernel_rfl) ?_
              simp only [List.take_succ_cons, List.take_zero, List.drop_succ_cons, List.drop_zero]
              repeat still_step
              refine wpStill_nil ?_
              clear c0 c1 c2 c3 c4 c5 c6 c7 c8 c9
              go_wp2
              go_roundw
              case rel =>
                refine ⟨k + 1, by omega, by go_num, ?_, H4.out _⟩
                show LRow _ ((rounds s kOf (sched b) k).round (kOf k) (sched b k)) _ _
                rw [← Hr.out]
                exact LRow.made _ _ wr.drew.drew.drew hwr _ _ _ _ _ _ _ _ (int_of (a_walk r (kOf k) (sched b k))) rfl rfl rfl (int_of (e_walk r (kOf k) (sched b k))) rfl rfl rfl
              case measure => simp [intOf]; omega
            · have Hr64 : Hid (r = rounds s kOf (sched b) 64) := by
                have e : k = 64 := by omega
                rw [e] at Hr; exact Hr
              have hbl := h.hb
              clear h
              go_wp2
              go_loopw [17] (fun i wr => ∃ k : Nat, k ≤ 8 ∧ i = .int .i64 k ∧ (∃ f, wr.rowIs gl 128 n f ∧ ∀ j, j < 8 → f j = .int .u32 ((sumTo r s k j).toNat : Int)) ∧ Below w.heap.size w wr) (fun i _ => 8 - (intOf i).toNat)
              case atStart => exact ⟨0, by omega, rfl, ⟨f, hrow, fun j hj => (hf j hj).trans (by simp [sumTo])⟩, hbl⟩
              case round =>
                clear hrow hf hbl hlt
                obtain ⟨k, hk, rfl, ⟨f, hrow, hf⟩, hbl⟩ := hrel
                by_cases hlt : k < 8
                · have c0 : wr.cell? ⟨gl, k, none⟩ = some (.int .u32 ((r.get k).toNat : Int)) := (hrow.cell (by omega)).trans (by rw [hf k hlt]; simp [sumTo])
                  have c1 : wr.cell? ⟨ss, so' + k, none⟩ = some (.int .u32 ((s.get k).toNat : Int)) := (hbl.cell (p := ⟨ss, so' + k, none⟩) hss).trans (Hs.out k hlt)
                  have f0 := hrow.frozen k
                  have q0 : (0 : Int) ≤ (k : Int) := by omega
                  have q1 : (k : Int) < 8 := by omega
                  have hnext : ∀ v : Int, v = ((r.get k + s.get k).toNat : Int) → (∃ f, (wr.drew.setCell ⟨gl, k, none⟩ (.int .u32 v)).rowIs gl 128 n f ∧ ∀ j, j < 8 → f j = .int .u32 ((sumTo r s (k + 1) j).toNat : Int)) ∧ Below w.heap.size w (wr.drew.setCell ⟨gl, k, none⟩ (.int .u32 v)) := fun v hv => by
                    subst hv
                    refine ⟨⟨_, hrow.drew.set k _, fun j hj => ?_⟩, hbl.drew.setCell hgl8 _⟩
                    rw [← sumTo_step r s k j, hf j hj]
                  have Hn := Lib.hid hnext
                  clear hnext hrow hf hbl
                  go_wp2
                  refine region_tail 12 (by kernel_rfl) (by kernel_rfl) ?_
                  simp only [List.take_succ_cons, List.take_zero, List.drop_succ_cons, List.drop_zero]
                  repeat still_step
                  refine wpStill_nil ?_
                  go_wp2
                  go_roundw
                  case rel => exact ⟨k + 1, by omega, by go_num, Hn.out _ (add32 _ _)⟩
                  case measure => simp [intOf]; omega
                · have Hc : Hid (∀ j, j < 8 → wr.cell? ⟨gl, j, none⟩ = some (.int .u32 (((mixOf s b).get j).toNat : Int))) := fun j hj => (hrow.cell (by omega)).trans (by
                    have e : k = 8 := by omega
                    rw [hf j hj, e, sumTo_end r s j hj, Hr64.out]; rfl)
                  clear hrow hf
                  go_wp2
                  go_ret
                  exact ⟨gl, cl, rfl, h8, hgl8, Hc.out, hbl⟩
end Go.Proofs.YtaakhldhmoaplaaDoor.Sha
