/-
  A region that draws its order, by what holds of each operation's value: whatever order is drawn, each operation finds what it waits for, and makes memory at most; so a region with many chains that make memory is walked once for each operation, not once for each order.
-/
import Derived.Test.YtpnkcacmmjmehaaDoorMixTail
namespace Go.Proofs.YtpnkcacmmjmehaaDoor.Aid
open Go Go.RowKit
variable {P : Program} {ops : Array Oper} {md : Region.Mode} {Q : Exit → Act → World → Prop}

def cntU (done : Array Bool) : Nat → Nat
  | 0 => 0
  | n + 1 => cntU done n + if done.getD n true = false then 1 else 0
theorem cntU_set {done : Array Bool} {i : Nat} (h : done.getD i true = false) : ∀ m, cntU (done.setIfInBounds i true) m + (if i < m then 1 else 0) = cntU done m
  | 0 => by simp [cntU]
  | m + 1 => by
    have ih := cntU_set h m
    have hlt : i < done.size := by
      rcases Nat.lt_or_ge i done.size with h' | h'
      · exact h'
      · simp [Array.getD, Nat.not_lt.2 h'] at h
    have e1 : cntU (done.setIfInBounds i true) (m + 1) = cntU (done.setIfInBounds i true) m + if (done.setIfInBounds i true).getD m true = false then 1 else 0 := rfl
    have e2 : cntU done (m + 1) = cntU done m + if done.getD m true = false then 1 else 0 := rfl
    rw [e1, e2]
    by_cases hm : m = i
    · subst hm
      rw [if_neg (Nat.lt_irrefl _)] at ih
      have h1 : (done.setIfInBounds m true).getD m true = true := by simp [Array.getD, hlt]
      rw [h1, h, if_neg (by decide), if_pos (Nat.lt_succ_self m), if_pos rfl]
      omega
    · rw [getD_set_ne true (fun e => hm e.symm)]
      generalize (if done.getD m true = false then 1 else 0) = z
      by_cases hlt' : i < m
      · rw [if_pos hlt'] at ih
        rw [if_pos (by omega)]
        omega
      · rw [if_neg hlt'] at ih
        rw [if_neg (by omega)]
        omega
theorem cntU_zero {done : Array Bool} : ∀ {m}, cntU done m = 0 → ∀ i, i < m → done.getD i true = true
  | 0, _, i, hi => by omega
  | m + 1, h, i, hi => by
    unfold cntU at h
    by_cases hm : i = m
    · subst hm
      cases hd : done.getD i true with
      | true => rfl
      | false => rw [hd, if_pos rfl] at h; omega
    · exact cntU_zero (m := m) (by omega) i (by omega)
theorem cntU_pos {done : Array Bool} : ∀ {m}, (∀ i, i < m → done.getD i true = true) → cntU done m = 0
  | 0, _ => rfl
  | m + 1, h => by
    unfold cntU
    rw [cntU_pos (fun i hi => h i (by omega)), h m (by omega)]
    rfl
/-- Who is not done, and the first such, may come up. -/
theorem ready_first {done : Array Bool} (hac : ∀ i o, ops[i]? = some o → ∀ e ∈ o.after, Region.binds md e = true → e.on < i) (hsz : ops.size = done.size) : ∀ m, m ≤ ops.size → cntU done m ≠ 0 → Region.ready md ops done ≠ []
  | 0, _, h => absurd rfl h
  | m + 1, hm, h => by
    by_cases h0 : cntU done m = 0
    · have hd : done.getD m true = false := by
        cases hd : done.getD m true with
        | false => rfl
        | true =>
          unfold cntU at h
          rw [h0, hd] at h
          exact absurd rfl h
      have hlt : m < ops.size := by omega
      intro hr
      have : m ∈ Region.ready md ops done := mem_ready.2 ⟨hd, ops[m], by simp [hlt], fun e he hb => by
        have h1 := hac m ops[m] (by simp [hlt]) e he hb
        have h2 := cntU_zero h0 e.on h1
        have h3 : e.on < done.size := by omega
        simpa [Array.getD, h3] using h2⟩
      rw [hr] at this
      cases this
    · exact ready_first hac hsz m (by omega) h0
def upd (xs : Nat → Value) (i : Nat) (v : Value) (j : Nat) : Value := if j = i then v else xs j
/-- What is to be shown of one operation. -/
def stepI (A0 : (Nat → Value) → Act) (Post : Nat → Value → World → Prop) (xs : Nat → Value) (i : Nat) (w : World) : Exit → Act → World → Prop
  | .normal, a', w' => ∃ v, a' = A0 (upd xs i v) ∧ Post i v w' ∧ Below w.heap.size w w'
  | _, _, _ => False
def wpOneI (P : Program) (ops : Array Oper) (A0 : (Nat → Value) → Act) (Post : Nat → Value → World → Prop) (w0 : World) (i : Nat) : Prop :=
  ∃ op, ops[i]? = some op ∧ ∀ xs w, Below w0.heap.size w0 w → (∀ j, Region.waitsFor .any ops i j = true → Post j (xs j) w) → wpList P ops (stepI A0 Post xs i w) [op] (A0 xs) w
def allI (p : Nat → Prop) : Nat → Prop
  | 0 => True
  | n + 1 => allI p n ∧ p n
theorem allI_at {p : Nat → Prop} : ∀ {n}, allI p n → ∀ i, i < n → p i
  | 0, _, i, hi => by omega
  | n + 1, h, i, hi => by
    by_cases e : i = n
    · subst e; exact h.2
    · exact allI_at h.1 i (by omega)
def checkI (ops : Array Oper) (L : Nat) : Bool := (ops.toList.zipIdx.all fun x => x.1.after.all fun e => !Region.binds .any e || decide (e.on < x.2)) && (decide (L = ops.size) || (decide (L + 1 = ops.size) && (List.range L).all fun i => reach .any ops ops.size L i))
theorem check_ac {L : Nat} (h : checkI ops L = true) : ∀ i o, ops[i]? = some o → ∀ e ∈ o.after, Region.binds .any e = true → e.on < i := fun i o ho e he hb => by
  unfold checkI at h
  simp only [Bool.and_eq_true, List.all_eq_true] at h
  have h1 := h.1 (o, i) (by rw [List.mem_zipIdx_iff_getElem?]; simpa using ho)
  have h2 := Array.all_eq_true.1 h1
  obtain ⟨k, hk, rfl⟩ := Array.mem_iff_getElem.1 he
  have h3 := h2 k hk
  rw [hb] at h3
  simpa using h3
/-- All operations below L, whatever order is drawn. -/
theorem wpAny_inv {A0 : (Nat → Value) → Act} {Post : Nat → Value → World → Prop} {w0 : World} {L : Nat} (hchk : checkI ops L = true)
    (mono : ∀ i v w w', Below w.heap.size w w' → Post i v w → Post i v w')
    (step : ∀ i, i < L → wpOneI P ops A0 Post w0 i)
    (fin : L = ops.size → ∀ xs w, Below w0.heap.size w0 w → (∀ j, j < L → Post j (xs j) w) → Q .normal (A0 xs) w)
    (tail : L + 1 = ops.size → ∃ oL, ops[L]? = some oL ∧ ∀ xs w, Below w0.heap.size w0 w → (∀ j, j < L → Post j (xs j) w) → wpList P ops (NoPanic Q) [oL] (A0 xs) w) :
    ∀ (k : Nat) (done : Array Bool) (xs : Nat → Value) (w : World), cntU done ops.size = k → Closed .any ops done → ops.size = done.size → done.getD L false = false → Below w0.heap.size w0 w → (∀ j, j < L → done.getD j false = true → Post j (xs j) w) → (k = 0 → L = ops.size) → wpAny P .any ops (NoPanic Q) k done (A0 xs) w
  | 0, done, xs, w, hk, _, hsz, _, hb, hp, h0 => by
    have hall := cntU_zero hk
    have hL := h0 rfl
    refine ⟨?_, NoPanic.normal (fin hL xs w hb (fun j hj => hp j hj ?_))⟩
    · cases hr : Region.ready .any ops done with
      | nil => rfl
      | cons x l =>
        have hx : x ∈ Region.ready .any ops done := by rw [hr]; exact List.mem_cons_self ..
        obtain ⟨h1, o, ho, _⟩ := mem_ready.1 hx
        rw [hall x (Array.getElem?_eq_some_iff.1 ho).1] at h1
        cases h1
    · have h1 := hall j (by omega)
      have h2 : j < done.size := by omega
      simpa [Array.getD, h2] using h1
  | k + 1, done, xs, w, hk, hcl, hsz, hL, hb, hp, _ => by
    refine ⟨fun hr => absurd hr (ready_first (check_ac hchk) hsz ops.size (Nat.le_refl _) (by omega)), fun i hi => ?_⟩
    obtain ⟨hun, o, ho, hall⟩ := mem_ready.1 hi
    have hin : i < ops.size := (Array.getElem?_eq_some_iff.1 ho).1
    have hcnt := cntU_set hun ops.size
    rw [if_pos hin] at hcnt
    by_cases hiL : i < L
    · obtain ⟨op, hop, hstep⟩ := step i hiL
      obtain rfl : op = o := Option.some.inj (hop.symm.trans ho)
      have hs := hstep xs w hb (fun j hj => by
        obtain ⟨o', ho', e, he, hbb, hei⟩ := Region.waitsFor_spec hj
        obtain rfl : op = o' := Option.some.inj (hop.symm.trans ho')
        have h1 := check_ac hchk i op hop e he hbb
        have h2 := hall e he hbb
        rw [hei] at h1 h2
        exact hp j (by omega) h2)
      have hset : ∀ x, x ≠ i → (done.setIfInBounds i true).getD x false = done.getD x false := fun x hx => getD_set_ne false (fun e => hx e.symm)
      have hK : ∀ (a' : Act) (w' : World), wpList P ops (stepI A0 Post xs i w) [] a' w' → wpAny P .any ops (NoPanic Q) k (done.setIfInBounds i true) a' w' := fun a' w' h => by
        obtain ⟨v, rfl, hpv, hbw⟩ := (h : stepI A0 Post xs i w .normal a' w')
        refine wpAny_inv hchk mono step fin tail k _ (upd xs i v) w' (by omega) (hcl.step hi) (by simpa using hsz) (by rw [hset L (by omega)]; exact hL) (hb.trans (hbw.mono hb.size)) (fun j hj hd => ?_) (fun hk0 => ?_)
        · unfold upd
          by_cases hji : j = i
          · subst hji; rw [if_pos rfl]; exact hpv
          · rw [if_neg hji]
            rw [hset j hji] at hd
            exact mono j _ w w' hbw (hp j hj hd)
        · subst hk0
          rcases Nat.lt_or_ge L ops.size with hlt | hge
          · have h1 := cntU_zero (show cntU (done.setIfInBounds i true) ops.size = 0 by omega) L hlt
            have h2 : L < done.size := by omega
            rw [getD_set_ne true (by omega)] at h1
            simp [Array.getD, h2] at h1 hL
            rw [hL] at h1
            cases h1
          · unfold checkI at hchk
            simp only [Bool.and_eq_true, Bool.or_eq_true, decide_eq_true_eq] at hchk
            rcases hchk.2 with h | h <;> omega
      unfold wpOp
      simp only [hop]
      unfold wpList at hs
      by_cases hw : Region.wanted op (yielded ops (A0 xs).tmps) = true
      · rw [if_pos hw] at hs ⊢
        exact hs.imp (wp_mix hK (fun _ _ _ hpp => hpp.elim) (fun _ _ hpp => hpp.elim)) (fun hx => ⟨hx.1, by
          obtain ⟨a', w', h'⟩ := hx.2
          exact (h' : False).elim⟩)
      · rw [if_neg hw] at hs ⊢
        exact hK _ _ hs
    · have hchk2 := hchk
      unfold checkI at hchk2
      simp only [Bool.and_eq_true, Bool.or_eq_true, decide_eq_true_eq] at hchk2
      have hL1 : L + 1 = ops.size := by
        rcases hchk2.2 with h | h
        · omega
        · exact h.1
      obtain rfl : i = L := by omega
      have hreach : ∀ j, j < i → reach .any ops ops.size i j = true := fun j hj => by
        rcases hchk2.2 with h | h
        · omega
        · exact List.all_eq_true.1 h.2 j (List.mem_range.2 hj)
      have hdone : ∀ j, j < i → done.getD j true = true := fun j hj => closed_reach hcl hsz ops.size i j (ready_all hi) (hreach j hj)
      have hk0 : k = 0 := by
        have h1 := cntU_pos hdone
        have h2 : cntU done ops.size = 1 := by
          rw [← hL1]
          show cntU done i + _ = 1
          rw [h1, hun]
          rfl
        omega
      subst hk0
      obtain ⟨oL, hoL, ht⟩ := tail hL1
      have hs := ht xs w hb (fun j hj => hp j hj (by
        have h1 := hdone j hj
        have h2 : j < done.size := by omega
        simpa [Array.getD, h2] using h1))
      have hend : Region.ready .any ops (done.setIfInBounds i true) = [] := by
        have hz : cntU (done.setIfInBounds i true) ops.size = 0 := by omega
        cases hr : Region.ready .any ops (done.setIfInBounds i true) with
        | nil => rfl
        | cons x l =>
          have hx : x ∈ Region.ready .any ops (done.setIfInBounds i true) := by rw [hr]; exact List.mem_cons_self ..
          obtain ⟨h1, o', ho', _⟩ := mem_ready.1 hx
          rw [cntU_zero hz x (Array.getElem?_eq_some_iff.1 ho').1] at h1
          cases h1
      have hK : ∀ (a' : Act) (w' : World), wpList P ops (NoPanic Q) [] a' w' → wpAny P .any ops (NoPanic Q) 0 (done.setIfInBounds i true) a' w' := fun a' w' h => ⟨hend, h⟩
      unfold wpOp
      simp only [hoL]
      unfold wpList at hs
      by_cases hw : Region.wanted oL (yielded ops (A0 xs).tmps) = true
      · rw [if_pos hw] at hs ⊢
        exact hs.imp (wp_mix hK (fun _ _ _ hpp => hpp) (fun _ _ hpp => hpp)) (fun hx => ⟨hx.1, hx.2⟩)
      · rw [if_neg hw] at hs ⊢
        exact hK _ _ hs
/-- The act with the values in their slots. -/
def fillI : List Oper → Nat → (Nat → Value) → Array Value → Array Value
  | [], _, _, t => t
  | o :: l, i, xs, t => fillI l (i + 1) xs (match o.dst with | some d => t.setIfInBounds d (xs i) | none => t)
def startI : List Oper → Nat → Array Value → Nat → Value
  | [], _, _ => fun _ => undef
  | o :: l, i, t => fun j => if j = i then (match o.dst with | some d => t.getD d undef | none => undef) else startI l (i + 1) t j
theorem set_self (t : Array Value) (d : Nat) : t.setIfInBounds d (t.getD d undef) = t := by
  apply Array.ext_getElem?
  intro i
  by_cases hd : d = i
  · subst hd
    by_cases hlt : d < t.size
    · simp [Array.getD, hlt]
    · simp [hlt]
  · rw [Array.getElem?_setIfInBounds_ne hd]
theorem fill_congr : ∀ (l : List Oper) (i : Nat) (xs ys : Nat → Value) (t : Array Value), (∀ j, i ≤ j → xs j = ys j) → fillI l i xs t = fillI l i ys t
  | [], _, _, _, _, _ => rfl
  | o :: l, i, xs, ys, t, h => by
    unfold fillI
    rw [h i (Nat.le_refl _)]
    exact fill_congr l (i + 1) xs ys _ (fun j hj => h j (by omega))
theorem fill_start : ∀ (l : List Oper) (i : Nat) (t : Array Value), fillI l i (startI l i t) t = t
  | [], _, _ => rfl
  | o :: l, i, t => by
    unfold fillI
    have h0 : startI (o :: l) i t i = (match o.dst with | some d => t.getD d undef | none => undef) := by unfold startI; rw [if_pos rfl]
    have h1 : (match o.dst with | some d => t.setIfInBounds d (startI (o :: l) i t i) | none => t) = t := by
      rw [h0]
      cases o.dst with
      | none => rfl
      | some d => exact set_self t d
    rw [h1]
    refine Eq.trans (fill_congr l (i + 1) _ (startI l (i + 1) t) t (fun j hj => ?_)) (fill_start l (i + 1) t)
    show (if j = i then _ else _) = _
    rw [if_neg (by omega)]
/-- The region: 'step' for each operation below L; then the last one, where there is one that waits for all. -/
theorem region_inv {id : Nat} {a : Act} {w : World} {ls : List Oper} (Post : Nat → Value → World → Prop) (L : Nat) (hm : P.follows .mixedOrders = true) (hchk : checkI ls.toArray L = true)
    (mono : ∀ i v w w', Below w.heap.size w w' → Post i v w → Post i v w')
    (step : allI (wpOneI P ls.toArray (fun xs => { a with tmps := fillI (ls.take L) 0 xs a.tmps }) Post w.drew) L)
    (tail : L + 1 = ls.length → ∃ oL, ls[L]? = some oL ∧ ∀ xs w', Below w.drew.heap.size w.drew w' → (∀ j, j < L → Post j (xs j) w') → wpList P ls.toArray (NoPanic Q) [oL] { a with tmps := fillI (ls.take L) 0 xs a.tmps } w')
    (fin : L = ls.length → ∀ xs w', Below w.drew.heap.size w.drew w' → (∀ j, j < L → Post j (xs j) w') → Q .normal { a with tmps := fillI (ls.take L) 0 xs a.tmps } w') : (Code.region id ls.toArray true).wp P Q a w := by
  refine wp_region_noPanic (wp_region_any hm ?_)
  have hst : a = (fun xs => ({ a with tmps := fillI (ls.take L) 0 xs a.tmps } : Act)) (startI (ls.take L) 0 a.tmps) := by
    show a = { a with tmps := fillI (ls.take L) 0 (startI (ls.take L) 0 a.tmps) a.tmps }
    rw [fill_start]
  have hfalse : ∀ j d, j < ls.toArray.size ∨ d = false → (Array.replicate ls.toArray.size false).getD j d = false := fun j d h => by
    have hz : ∀ n : Nat, (j < n ∨ d = false) → (Array.replicate n false).getD j d = false := fun n h => by
      by_cases hj : j < n
      · simp [Array.getD, hj]
      · rcases h with h | h
        · exact absurd h hj
        · subst h; simp [Array.getD]
    exact hz _ h
  have key := wpAny_inv (Q := Q) (w0 := w.drew) hchk mono (fun i hi => allI_at step i hi) (fun h xs w' h1 h2 => fin (by simpa using h) xs w' h1 h2) (fun h => by
    obtain ⟨oL, h1, h2⟩ := tail (by simpa using h)
    exact ⟨oL, by simpa using h1, h2⟩) (cntU (Array.replicate ls.toArray.size false) ls.toArray.size) (Array.replicate ls.toArray.size false) (startI (ls.take L) 0 a.tmps) w.drew rfl
    (fun j i hj hlt _ => by rw [hfalse j true (.inl (by simpa using hlt))] at hj; cases hj) (by simp) (hfalse L false (.inr rfl)) (Below.refl _ _) (fun j _ hd => by rw [hfalse j false (.inr rfl)] at hd; cases hd) (fun h0 => by
      have hz := cntU_zero h0
      rcases Nat.eq_zero_or_pos ls.toArray.size with h | h
      · unfold checkI at hchk
        simp only [Bool.and_eq_true, Bool.or_eq_true, decide_eq_true_eq] at hchk
        rcases hchk.2 with h' | h'
        · exact h'
        · omega
      · have := hz 0 h
        rw [hfalse 0 true (.inl h)] at this
        cases this)
  have hcnt : ∀ m, m ≤ ls.toArray.size → cntU (Array.replicate ls.toArray.size false) m = m := by
    intro m
    induction m with
    | zero => intro _; rfl
    | succ m ih =>
      intro hm'
      unfold cntU
      rw [ih (by omega), hfalse m true (.inl (by omega))]
      rfl
  rw [hcnt _ (Nat.le_refl _)] at key
  rw [hst]
  exact key
theorem region_inv_all {id : Nat} {a : Act} {w : World} {ls : List Oper} (Post : Nat → Value → World → Prop) (L : Nat) (hL : (L == ls.length) = true) (hm : P.follows .mixedOrders = true) (hchk : checkI ls.toArray L = true)
    (mono : ∀ i v w w', Below w.heap.size w w' → Post i v w → Post i v w')
    (step : allI (wpOneI P ls.toArray (fun xs => { a with tmps := fillI (ls.take L) 0 xs a.tmps }) Post w.drew) L)
    (fin : ∀ xs w', Below w.drew.heap.size w.drew w' → (∀ j, j < L → Post j (xs j) w') → Q .normal { a with tmps := fillI (ls.take L) 0 xs a.tmps } w') : (Code.region id ls.toArray true).wp P Q a w :=
  region_inv Post L hm hchk mono step (fun h => by have := eq_of_beq hL; omega) (fun _ => fin)
theorem region_inv_tail {id : Nat} {a : Act} {w : World} {ls : List Oper} {oL : Oper} (Post : Nat → Value → World → Prop) (L : Nat) (hL : (L + 1 == ls.length) = true) (hm : P.follows .mixedOrders = true) (hchk : checkI ls.toArray L = true) (ho : ls[L]? = some oL)
    (mono : ∀ i v w w', Below w.heap.size w w' → Post i v w → Post i v w')
    (step : allI (wpOneI P ls.toArray (fun xs => { a with tmps := fillI (ls.take L) 0 xs a.tmps }) Post w.drew) L)
    (tail : ∀ xs w', Below w.drew.heap.size w.drew w' → (∀ j, j < L → Post j (xs j) w') → wpList P ls.toArray (NoPanic Q) [oL] { a with tmps := fillI (ls.take L) 0 xs a.tmps } w') : (Code.region id ls.toArray true).wp P Q a w :=
  region_inv Post L hm hchk mono step (fun _ => ⟨oL, ho, tail⟩) (fun h => by have := eq_of_beq hL; omega)
theorem undrew {w W : World} (h : Below w.drew.heap.size w.drew W) : Below w.heap.size w W := ⟨h.os, h.tape, h.output, h.size, h.block⟩
theorem upd_self {xs : Nat → Value} {i : Nat} {v : Value} (h : xs i = v) : xs = upd xs i v := by
  funext j
  unfold upd
  split
  · rename_i e; rw [e]; exact h
  · rfl
end Go.Proofs.YtpnkcacmmjmehaaDoor.Aid
