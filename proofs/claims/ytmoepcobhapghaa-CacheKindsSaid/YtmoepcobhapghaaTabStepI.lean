/-
  The pieces of the program's table of ints while a function is under way; remove and Drop.
-/
import Derived.Test.YtmoepcobhapghaaTabFp
import Derived.Test.YtmoepcobhapghaaTabOwnI
import Derived.Test.YtmoepcobhapghaaIdxI
import Derived.Test.YtmoepcobhapghaaDelI
namespace Go.Proofs.Ytmoepcobhapghaa.Cache
open Go Go.RowKit Go.Proofs.Ytmoepcobhapghaa.Aid

structure PcI (W : World) (m g b : Nat) (Kv : Value) (xs : List Int) (f : Int → Option Value) (N : Nat) : Prop where
  row : W.rowIs g 59 3 (tabQI m b Kv)
  keys : OwnQ W 0 3 Kv (xs.map (Value.int .i64))
  map : MapFn Try.prog 3 okI (Lit.int .i64) W b f N
  gb : g ≠ b
  kg : Kv.ownBlock ≠ some g
  kb : Kv.ownBlock ≠ some b
section
variable {W W' : World} {F : Nat → Prop} {v : Value} {m N : Nat} {l : List (Int × ByteArray)} {g b : Nat} {Kv : Value} {xs : List Int} {f : Int → Option Value}
theorem RepInI.pc (h : RepInI W F v m l g b Kv) : PcI W m g b Kv (keysL l) (fun k => (getL l k).map Value.string) l.length := ⟨h.row, h.keys, h.map, h.gb, h.kg, h.kb⟩
theorem PcI.keep (h : PcI W m g b Kv xs f N) (hk : ∀ x, fpT g b Kv x → W'.heap[x]? = W.heap[x]?) : PcI W' m g b Kv xs f N :=
  ⟨h.row.of_block (hk g (.inl rfl)), h.keys.keep (fun x hx => hk x (.inr (.inr hx))), h.map.keep (hk b (.inr (.inl rfl))), h.gb, h.kg, h.kb⟩
theorem PcI.lt (h : PcI W m g b Kv xs f N) : ∀ x, fpT g b Kv x → x < W.heap.size := fun x hx => by
  rcases hx with e | e | e
  · rw [e]; exact h.row.lt
  · rw [e]; exact h.map.lt
  · exact (h.keys.lt x e).2
theorem PcI.below (h : PcI W m g b Kv xs f N) (hb : Below W.heap.size W W') : PcI W' m g b Kv xs f N := h.keep (fun x hx => hb.block x (h.lt x hx))
theorem PcI.mapped (h : PcI W m g b Kv xs f N) {f' : Int → Option Value} {N' : Nat} (hm : MapFn Try.prog 3 okI (Lit.int .i64) W' b f' N') (hg : W.grownBy W' (some b)) : PcI W' m g b Kv xs f' N' :=
  ⟨h.row.of_block (hg.block g h.row.lt (fun e => h.gb (Option.some.inj e))), h.keys.keep (fun x hx => hg.block x (h.keys.lt x hx).2 (fun e => h.kb (by rw [hx, e]))), hm, h.gb, h.kg, h.kb⟩
theorem PcI.keyed (h : PcI W m g b Kv xs f N) {Kv' : Value} {xs' : List Int} (hk : OwnQ W' 0 3 Kv' (xs'.map (Value.int .i64))) (hg : W.grownBy W' Kv.ownBlock) (hv : Kv'.ownBlock = Kv.ownBlock ∨ Kv'.ownBlock = some W.heap.size) :
    PcI (W'.setCell ⟨g, 2, none⟩ Kv') m g b Kv' xs' f N := by
  have hgg : W'.heap[g]? = W.heap[g]? := hg.block g h.row.lt (fun e => h.kg e.symm)
  have hbb : W'.heap[b]? = W.heap[b]? := hg.block b h.map.lt (fun e => h.kb e.symm)
  have kg : Kv'.ownBlock ≠ some g := fun e => by
    rcases hv with h1 | h1
    · exact h.kg (h1 ▸ e)
    · have := h.row.lt; rw [h1] at e; have := Option.some.inj e; omega
  have kb : Kv'.ownBlock ≠ some b := fun e => by
    rcases hv with h1 | h1
    · exact h.kb (h1 ▸ e)
    · have := h.map.lt; rw [h1] at e; have := Option.some.inj e; omega
  refine ⟨((h.row.of_block hgg).set 2 Kv').congr (fun i hi => ?_), hk.keep (fun x hx => Below.heap_setCell _ _ _ _ (fun e => kg (by rw [hx, e]))), (h.map.keep hbb).keep (Below.heap_setCell _ _ _ _ (fun e => h.gb e.symm)), h.gb, kg, kb⟩
  unfold tabQI
  rcases (show i = 0 ∨ i = 1 ∨ i = 2 by omega) with rfl | rfl | rfl <;> rfl
set_option maxRecDepth 100000 in
set_option maxHeartbeats 1000000 in
theorem remove_inI {w : World} (h : PcI w m g b Kv xs f N) (i : Nat) (k : Int) (hi : xs[i]? = some k) (hk : okI k) (hf : (f k).isSome = true) (hn : xs.length ≤ 1000) :
    Calls Try.prog 23 #[.pointer (some ⟨g, 0, none⟩), .int .i64 (i : Int)] w fun e w' => e = .returned (.tuple #[]) ∧ ∃ Kv', PcI w' m g b Kv' (cutI xs i) (cutF f k) (N - 1) ∧ Leaves (fpT g b Kv) w w' ∧ Kv'.ownBlock = Kv.ownBlock := by
  have hlt : i < xs.length := (List.getElem?_eq_some_iff.1 hi).1
  obtain ⟨A, c, hv, hc, hsh⟩ := h.keys.shape
  rw [mapLenI] at hv hc
  obtain ⟨gk, o, rfl, _, _, _, hcell, _⟩ := hsh (by omega)
  have d0 := hcell i (Value.int .i64 k) (by rw [List.getElem?_map, hi]; rfl)
  have c2 := h.row.cell (i := 2) (by omega)
  rw [show tabQI m b Kv 2 = Kv from rfl, hv] at c2
  obtain ⟨n, hnn⟩ : ∃ n, n = xs.length := ⟨_, rfl⟩
  rw [← hnn] at hlt hv hc c2 hn
  have i0 : (0 : Int) ≤ (i : Int) := by omega
  have i1 : (i : Int) < (n : Int) := by omega
  have H := Lib.hid h
  have HF := Lib.hid hf
  have HK := Lib.hid hk
  have HI := Lib.hid hi
  have HV := Lib.hid hv
  have HN := Lib.hid hnn
  clear h hf hk hi hv hsh hcell hnn
  go_enter Try.func23, Try.ntmps23
  go_wp2_with (go_at_call 24; refine (eqselfI k _).mono ?_)
  rintro e w1 ⟨rfl, hb⟩
  have h1 := H.out.below hb
  have H1 := Lib.hid h1
  have HL1 : Hid (Leaves (fpT g b Kv) w w1) := Lib.hid (Leaves.of_below hb)
  have c1 := h1.row.cell (i := 1) (by omega)
  rw [show tabQI m b Kv 1 = .map (some b) from rfl] at c1
  clear h1 hb H c2 d0
  go_wp2_with (at_delete; refine map_delete (by rfl) (.tmp 17) (.tmp 18) 57 (by rfl) keyIsI Try.underlying57 H1.out.map (by rfl) k HK.out (by rfl) ?_; intro w2 hm2 hg2; rw [if_pos HF.out] at hm2
               have h2 := H1.out.mapped hm2 hg2
               have c2 := h2.row.cell (i := 2) (by omega)
               rw [show tabQI m b Kv 2 = Kv from rfl, HV.out] at c2
               have H2 := Lib.hid h2
               have HL2 : Hid (Leaves (fpT g b Kv) w w2) := Lib.hid (HL1.out.trans (leaves_grown hg2 (fun x e => .inr (.inl (Option.some.inj e).symm))) (fun x hx _ => hx))
               clear hm2 hg2 h2 c1 H1 HL1)
  have hk2 := H2.out.keys
  rw [HV.out] at hk2
  refine (deleteI 0 (xs.map (Value.int .i64)) _ _ hk2 (oneCellI xs) i (by rw [mapLenI, ← HN.out]; exact hlt) (by rw [mapLenI, ← HN.out]; omega)).mono ?_
  rintro e w3 ⟨r, rfl, hown, hg3, hr⟩
  rw [← HV.out] at hg3 hr
  have hown' : OwnQ w3 0 3 r ((cutI xs i).map (Value.int .i64)) := by rw [cut_map]; exact hown
  have h3 := H2.out.keyed hown' hg3 (.inl hr)
  have hgg : w3.heap[g]? = w2.heap[g]? := hg3.block g H2.out.row.lt (fun e => H2.out.kg e.symm)
  have hrow3 := H2.out.row.of_block hgg
  have c3 := hrow3.cell (i := 2) (by omega)
  have z3 := hrow3.frozen 2
  have HL3 : Hid (Leaves (fpT g b Kv) w (w3.setCell ⟨g, 2, none⟩ r)) := Lib.hid ((HL2.out.trans (leaves_grown hg3 (fun x e => .inr (.inr e))) (fun x hx _ => hx)).trans (leaves_cell w3 ⟨g, 2, none⟩ r (.inl rfl)) (fun x hx _ => hx))
  have H3 := Lib.hid h3
  have HR := Lib.hid hr
  obtain ⟨A', c', hv', _, _⟩ := hown.shape
  obtain ⟨n', hn'⟩ : ∃ n', n' = (List.take i (xs.map (Value.int .i64)) ++ List.drop (i + 1) (xs.map (Value.int .i64))).length := ⟨_, rfl⟩
  rw [← hn'] at hv'
  clear hk2 hown hown' hn' hg3 h3 hgg hrow3 hr H2 HL2 c2 HV
  subst hv'
  go_wp2
  go_end0
  exact ⟨rfl, _, H3.out, HL3.out, HR.out⟩
/-- Where a key that is there stands. -/
theorem placeI {l : List (Int × ByteArray)} {k : Int} (h : hasK (keysL l) k = true) : ∃ i : Nat, idxK (keysL l) k = (i : Int) ∧ (keysL l)[i]? = some k := by
  refine ⟨atN (keysL l) k, by unfold idxK; rw [if_pos h], at_key ?_⟩
  rw [at_has] at h
  exact of_decide_eq_true h
theorem RepInI.cut (h : RepInI W F v m l g b Kv) {i : Nat} {k : Int} (hi : (keysL l)[i]? = some k) {Kv' : Value} (hp : PcI W' m g b Kv' (cutI (keysL l) i) (cutF (fun k => (getL l k).map Value.string) k) (l.length - 1)) (hv : Kv'.ownBlock = Kv.ownBlock) : RepInI W' F v m (cutI l i) g b Kv' := by
  have hlt : i < l.length := by rw [← keys_len]; exact (List.getElem?_eq_some_iff.1 hi).1
  have hlen := cut_len hlt
  exact {
    ptr := h.ptr
    foot := fun x => by rw [h.foot x, hv]
    row := hp.row
    keys := by rw [keys_cut]; exact hp.keys
    map := by
      have := hp.map.congr (g := fun c => (getL (cutI l i) c).map Value.string) (fun c _ => by
        rw [get_cut h.nodup hi c]
        unfold cutF
        split <;> rfl)
      rwa [show l.length - 1 = (cutI l i).length by omega] at this
    ok := fun c hc => h.ok c (by rw [keys_cut] at hc; exact cut_sub hc)
    nodup := by rw [keys_cut]; exact cut_nodup h.nodup i
    len := by have := h.len; omega
    most := h.most
    gb := hp.gb
    kg := hp.kg
    kb := hp.kb }
theorem RepInI.leaves (h : RepInI W F v m l g b Kv) {a c : World} (hl : Leaves (fpT g b Kv) a c) : Leaves F a c := hl.mono (fun x _ hx => (h.foot x).2 hx)
theorem RepInI.listAt (h : RepInI W F v m l g b Kv) : ListAt W Kv (keysL l).length (fun i => Value.int .i64 ((keysL l).getD i (0 : Int))) := by
  obtain ⟨A, c, hv, hc, hsh⟩ := h.keys.shape
  rw [mapLenI] at hv hc
  refine ⟨A, c, hv, hc, fun h0 => ?_⟩
  obtain ⟨gk, o, e, _, _, _, hcell, _⟩ := hsh (by omega)
  refine ⟨gk, o, e, fun i hi => hcell i _ ?_⟩
  show (List.map (Value.int .i64) (keysL l))[i]? = some (Value.int .i64 ((keysL l).getD i (0 : Int)))
  rw [List.getElem?_map, List.getD_eq_getElem?_getD, List.getElem?_eq_getElem hi]
  rfl
set_option maxRecDepth 100000 in
set_option maxHeartbeats 1000000 in
theorem drop_inI {w : World} (k : Int) (hk : okI k) (h : RepInI w F v m l g b Kv) :
    Calls Try.prog 11 #[v, Value.int .i64 k] w fun e w' => e = .returned (.bool (hasK (keysL l) k)) ∧ Moved RepOwnI F w w' v m (dropL l k) := by
  have hG := get_inI k hk h
  obtain rfl := h.ptr
  obtain ⟨U, hU⟩ : ∃ U, U = Value.string ((getL l k).getD ByteArray.empty) := ⟨_, rfl⟩
  rw [← hU] at hG
  clear hU
  have hkl : (keysL l).length = l.length := keys_len l
  have hlen : l.length ≤ 1000 := Nat.le_trans h.len h.most.2
  cases hp : hasK (keysL l) k with
  | false =>
    rw [hp] at hG
    have HX : Hid (dropL l k = l) := Lib.hid (drop_not (not_has hp))
    have HG := Lib.hid hG
    have H := Lib.hid h
    clear hG h hp hk
    go_enter Try.func11, Try.ntmps11
    go_wp2_with (go_at_call 13; refine HG.out.mono ?_)
    rintro e w1 ⟨rfl, hb⟩
    have HM : Hid (Moved RepOwnI F w w1 _ m l) := Lib.hid (H.out.moved hb)
    clear hb H HG
    go_wp2
    go_ret
    exact ⟨rfl, by rw [HX.out]; exact HM.out⟩
  | true =>
    rw [hp] at hG
    obtain ⟨i, hidx, hi⟩ := placeI hp
    have HX : Hid (dropL l k = cutI l i) := Lib.hid (drop_cut h.nodup hi)
    have HS : Hid (((fun k => (getL l k).map Value.string) k).isSome = true) := Lib.hid (by rw [Option.isSome_map, get_some, hp])
    have HG := Lib.hid hG
    have H := Lib.hid h
    have HI := Lib.hid hi
    have HIX := Lib.hid hidx
    have HK := Lib.hid hk
    clear hG h hp hi hidx hk
    go_enter Try.func11, Try.ntmps11
    go_wp2_with (first
      | (go_at_call 13; refine HG.out.mono ?_; rintro e w1 ⟨rfl, hb⟩
         have hb2 := hb
         have h1 := H.out.below hb2
         have c2 := h1.row.cell (i := 2) (by omega)
         rw [show tabQI m b Kv 2 = Kv from rfl] at c2
         have H1 := Lib.hid h1
         have HB := Lib.hid hb2
         clear hb hb2 h1 H HG)
      | (go_at_call 26; refine (indexI (keysL l) k Kv _ H1.out.listAt (by omega)).mono ?_))
    rintro e w2 ⟨rfl, rfl⟩
    rw [HIX.out]
    go_wp2_with fail
    refine (remove_inI H1.out.pc i k HI.out HK.out HS.out (by omega)).mono ?_
    rintro e w3 ⟨rfl, Kv', hp3, hl3, hv3⟩
    have HM : Hid (Moved RepOwnI F w w3 _ m (cutI l i)) := Lib.hid ⟨F, ⟨g, b, Kv', H1.out.cut HI.out hp3 hv3⟩, (Leaves.of_below (F := F) HB.out).trans (H1.out.leaves hl3) (fun x hx _ => hx), fun _ hx => .inl hx⟩
    clear hp3 hl3 hv3 H1 HB
    go_wp2
    go_ret
    exact ⟨rfl, by rw [HX.out]; exact HM.out⟩
end
end Go.Proofs.Ytmoepcobhapghaa.Cache
