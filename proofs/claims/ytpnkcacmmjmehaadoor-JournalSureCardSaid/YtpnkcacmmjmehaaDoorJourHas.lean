/-
  What the law of layer 14 needs of the program's store and journal, as one bundle. RJ: a journal in memory of its own, on a store, that is not broken, stands for its records.
-/
import Derived.Test.YtpnkcacmmjmehaaDoorJourStep
import Derived.Test.YtpnkcacmmjmehaaDoorApart
import Derived.Test.YtpnkcacmmjmehaaDoorProg
namespace Go.Proofs.YtpnkcacmmjmehaaDoor.Jour
open Go Go.RowKit Go.Proofs.YtpnkcacmmjmehaaDoor.Aid Go.Proofs.YtpnkcacmmjmehaaDoor.Cache Go.Proofs.YtpnkcacmmjmehaaDoor.Store

/-- Records as slices of bytes, all in blocks where P holds. -/
def PartsP (W : World) (P : Nat → Prop) (M : List By) (v : Value) : Prop :=
  ∃ A c, v = .slice A M.length c ∧ M.length ≤ c ∧ (0 < M.length → ∃ sb so, A = some ⟨sb, so, none⟩ ∧ P sb ∧ ∀ (i : Nat) (x : By), M[i]? = some x → ∃ u, W.cell? ⟨sb, so + i, none⟩ = some u ∧ BytesIn W P x.length (fnL x) u)
theorem PartsP.less {W : World} {P P' : Nat → Prop} {M : List By} {v : Value} (h : PartsP W P M v) (hF : ∀ b, b < W.heap.size → P b → P' b) : PartsP W P' M v := by
  obtain ⟨A, c, hv, hc, hr⟩ := h
  refine ⟨A, c, hv, hc, fun h0 => ?_⟩
  obtain ⟨sb, so, hA, hP, hj⟩ := hr h0
  obtain ⟨u0, hu0, _⟩ := hj 0 M[0] (List.getElem?_eq_getElem h0)
  exact ⟨sb, so, hA, hF sb (block_lt_of_cell hu0) hP, fun i x hx => by obtain ⟨u, hu, hb⟩ := hj i x hx; exact ⟨u, hu, hb.less hF⟩⟩
theorem PartsP.keep {W W' : World} {P : Nat → Prop} {M : List By} {v : Value} (h : PartsP W P M v) (hk : ∀ b, b < W.heap.size → P b → W'.heap[b]? = W.heap[b]?) : PartsP W' P M v := by
  obtain ⟨A, c, hv, hc, hr⟩ := h
  refine ⟨A, c, hv, hc, fun h0 => ?_⟩
  obtain ⟨sb, so, hA, hP, hj⟩ := hr h0
  refine ⟨sb, so, hA, hP, fun i x hx => ?_⟩
  obtain ⟨u, hu, hb⟩ := hj i x hx
  refine ⟨u, ?_, hb.keep hk⟩
  rw [← hu]
  unfold World.cell?
  rw [hk sb (block_lt_of_cell hu) hP]
theorem PartsP.below {W W' : World} {P : Nat → Prop} {M : List By} {v : Value} (h : PartsP W P M v) (hb : Below W.heap.size W W') : PartsP W' P M v := h.keep (fun b hb' _ => hb.block b hb')
abbrev RepSt := World → (Nat → Prop) → Value → Nat → St → Prop
abbrev RepJ := World → (Nat → Prop) → Value → Value → List By → Prop
/-- In all worlds behind w0: where the program's tables lie as they lay. -/
structure JourHas (w0 : World) (RS : RepSt) (RJ : RepJ) (D : By → By) : Prop where
  dlen : ∀ x, (D x).length = 8
  keep : KeepR RS
  lt : ∀ {W : World} {F : Nat → Prop} {v : Value} {m : Nat} {s : St}, RS W F v m s → ∀ b, F b → b < W.heap.size
  ok : ∀ {W : World} {F : Nat → Prop} {v : Value} {m : Nat} {s : St}, RS W F v m s → s.ok m
  keepJ : ∀ {W W' : World} {F : Nat → Prop} {j s : Value} {L : List By}, RJ W F j s L → (∀ b, F b → W'.heap[b]? = W.heap[b]?) → RJ W' F j s L
  ltJ : ∀ {W : World} {F : Nat → Prop} {j s : Value} {L : List By}, RJ W F j s L → ∀ b, F b → b < W.heap.size
  new : ∀ (room : Nat) (w : World), room ≤ 1048576 → Calls Tryd.prog 6 #[.int .i64 (room : Int)] w fun x w' => ∃ p F, x = .returned (.tuple #[.pointer (some p), .int .i64 0]) ∧ RS w' F (.pointer (some p)) room st0 ∧ (∀ b, F b → w.heap.size ≤ b) ∧ Below w.heap.size w w'
  fuse : ∀ {w : World} {F : Nat → Prop} {v : Value} {m : Nat} {s : St} (k : Int), RS w F v m s → -9223372036854775808 ≤ k → k ≤ 9223372036854775807 → Calls Tryd.prog 8 #[v, .int .i64 k] w fun x w' => x = .returned (.tuple #[]) ∧ Moved RS F w w' v m (fuseS s k)
  crash : ∀ {w : World} {F : Nat → Prop} {v : Value} {m : Nat} {s : St} (k : Int), RS w F v m s → -9223372036854775808 ≤ k → k ≤ 9223372036854775807 → Calls Tryd.prog 11 #[v, .int .i64 k] w fun x w' => x = .returned (.tuple #[]) ∧ Moved RS F w w' v m (crashS s k)
  read : ∀ {w : World} {F : Nat → Prop} {v : Value} {m : Nat} {s : St}, RS w F v m s → Calls Tryd.prog 14 #[v] w fun x w' => ∃ A c F', x = .returned (.slice A s.n c) ∧ RS w' F' v m s ∧ Cache.Leaves F w w' ∧ (∀ b, F' b → F b ∨ w.heap.size ≤ b)
  open_nil : ∀ (w : World), Calls Tryd.prog 7 #[.pointer none] w fun x w' => x = .returned (.tuple #[.pointer none, .int .i64 1]) ∧ Below w.heap.size w w'
  open_up : ∀ {w : World} {F : Nat → Prop} {s : Value} {m : Nat} {st : St} {R : List By} {t : By}, Below w0.heap.size w0 w → RS w F s m st → scan D (bytesL st) = some (R, t) → st.burn = -1 → st.down = false → st.n ≤ 100000 →
    Calls Tryd.prog 7 #[s] w fun x w' => ∃ p F' FJ, x = .returned (.tuple #[.pointer (some p), .int .i64 0]) ∧ RS w' F' s m (openS m st t) ∧ RJ w' FJ (.pointer (some p)) s R ∧ (∀ b, FJ b → ¬ F' b) ∧ Cache.Leaves F w w' ∧ ∀ b, F' b ∨ FJ b → F b ∨ w.heap.size ≤ b
  add : ∀ {w : World} {F FJ : Nat → Prop} {s j : Value} {m : Nat} {st : St} {L : List By} (x : By) (bv : Value), Below w0.heap.size w0 w → RS w F s m st → RJ w FJ j s L → (∀ b, FJ b → ¬ F b) → BytesIn w (fun b => ¬ F b ∧ ¬ FJ b) x.length (fnL x) bv → x.length ≤ 2000 → st.n ≤ 100000 → L.length ≤ 10000 →
    Calls Tryd.prog 10 #[j, bv] w fun y w' => y = .returned (.int .i64 (addC D m st x)) ∧ ∃ F' FJ', RS w' F' s m (addS D m st x) ∧ (addC D m st x ≠ 8 → RJ w' FJ' j s (addL D m st L x)) ∧ (∀ b, FJ' b → ¬ F' b) ∧ Cache.Leaves (fun b => F b ∨ FJ b) w w' ∧ (∀ b, F' b ∨ FJ' b → (F b ∨ FJ b) ∨ w.heap.size ≤ b)
  only : ∀ {w : World} {F FJ : Nat → Prop} {s j : Value} {m : Nat} {st : St} {L : List By} (M : List By) (v : Value), Below w0.heap.size w0 w → RS w F s m st → RJ w FJ j s L → (∀ b, FJ b → ¬ F b) → PartsP w (fun b => ¬ F b ∧ ¬ FJ b) M v → M.length ≤ 10 → (∀ x ∈ M, x.length ≤ 2000) → st.n ≤ 100000 →
    Calls Tryd.prog 9 #[j, v] w fun y w' => y = .returned (.int .i64 (onlyC D m st M)) ∧ ∃ F' FJ', RS w' F' s m (onlyS D m st M) ∧ (onlyC D m st M ≠ 8 → RJ w' FJ' j s (onlyL D m st L M)) ∧ (∀ b, FJ' b → ¬ F' b) ∧ Cache.Leaves (fun b => F b ∨ FJ b) w w' ∧ (∀ b, F' b ∨ FJ' b → (F b ∨ FJ b) ∨ w.heap.size ≤ b)
  recs : ∀ {w : World} {FJ : Nat → Prop} {s j : Value} {L : List By}, RJ w FJ j s L → L.length ≤ 10000 → (∀ x ∈ L, x.length ≤ 1000) →
    Calls Tryd.prog 13 #[j] w fun y w' => ∃ v FJ', y = .returned v ∧ RJ w' FJ' j s L ∧ Cache.Leaves FJ w w' ∧ (∀ b, FJ' b → FJ b ∨ w.heap.size ≤ b) ∧ PartsP w' (fun b => w.heap.size ≤ b ∧ ¬ FJ' b) L v
theorem JourHas.up {w0 w1 : World} {RS : RepSt} {RJ : RepJ} {D : By → By} (H : JourHas w0 RS RJ D) (hb : Below w0.heap.size w0 w1) : JourHas w1 RS RJ D :=
  { H with
    open_up := fun h => H.open_up (hb.trans (h.mono hb.size))
    add := fun x bv h => H.add x bv (hb.trans (h.mono hb.size))
    only := fun M v h => H.only M v (hb.trans (h.mono hb.size)) }
end Go.Proofs.YtpnkcacmmjmehaaDoor.Jour
