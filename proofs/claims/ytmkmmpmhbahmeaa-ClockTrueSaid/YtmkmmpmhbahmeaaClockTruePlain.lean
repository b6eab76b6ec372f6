/-
  P8.4 over plain integers: what one server's answer does to what is known.
-/
import Derived.Test.YtmkmmpmhbahmeaaClockPlain
namespace Go.Proofs.Ytmkmmpmhbahmeaa.Clock
open Go Go.Proofs.Ytmkmmpmhbahmeaa.Span Go.Proofs.Ytmkmmpmhbahmeaa.Sweep

/-- A time that lay in a span lies in what it is grown to, Far or not. -/
theorem grow_has {a b t ticks ran p : Int} (h1 : a ≤ t) (h2 : t ≤ b) (hm : mayB ticks p = true) (h3 : -(slackZ ticks p) ≤ ran - ticks) (h4 : ran - ticks ≤ slackZ ticks p) (h5 : -1152921504606846976 ≤ t + ran) (h6 : t + ran ≤ 1152921504606846976) :
    growLo a ticks p ≤ t + ran ∧ t + ran ≤ growHi b ticks p := by
  unfold growLo growHi lim
  rw [if_pos hm, if_pos hm]
  constructor <;> omega
theorem votes_to (e f : Nat → Int × Int) (t u : Int) : ∀ n, (∀ i, i < n → hasE e t i = true → hasE f u i = true) → votes e t n ≤ votes f u n
  | 0, _ => Nat.le_refl _
  | n + 1, h => by
    have h1 := votes_to e f t u n (fun i hi => h i (by omega))
    have h2 := h n (by omega)
    show votes e t n + (hasE e t n).toNat ≤ votes f u n + (hasE f u n).toNat
    cases h3 : hasE e t n
    · simp; omega
    · rw [h2 h3]; simp; omega
/-- All samples grown. -/
def grown (e : Nat → Int × Int) (ticks p : Int) (i : Nat) : Int × Int := (growLo (e i).1 ticks p, growHi (e i).2 ticks p)
def addE (e : Nat → Int × Int) (k : Nat) (s : Int × Int) (i : Nat) : Int × Int := if i = k then s else e i
/-- What is known behind k servers: of k samples, that may all be, but so many have the time. -/
structure Known (e : Nat → Int × Int) (k : Nat) (now read liars : Int) : Prop where
  now0 : 0 ≤ now
  now1 : now ≤ 1099511627776 + (k : Int) * 2147483648
  read0 : 0 ≤ read
  read1 : read ≤ 1099511627776 + (k : Int) * 2203318222848
  liars0 : 0 ≤ liars
  liars1 : liars ≤ k
  right : ∀ j, j < k → rightB (e j).1 (e j).2 = true
  votes : (k : Int) - liars ≤ (votes e now k : Int)
theorem known_next {e : Nat → Int × Int} {k : Nat} {now read liars : Int} (h : Known e k now read liars) (hk : k < 12) {to back one two p : Int} (h1 : 0 ≤ to) (h2 : to < 1073741824) (h3 : 0 ≤ back) (h4 : back < 1073741824)
    (a1 : 0 ≤ one) (a2 : one ≤ 1100585369600) (b1 : 0 ≤ two) (b2 : two ≤ 1100585369600) (hm : mayB (one + two) p = true) (c1 : -(slackZ (one + two) p) ≤ to + back - (one + two)) (c2 : to + back - (one + two) ≤ slackZ (one + two) p)
    {lo hi : Int} (hr : rightB lo hi = true) (lies : Int) (hl : lies = 1 ∨ (lies = 0 ∧ lo ≤ now + to ∧ now + to ≤ hi)) :
    Known (addE (grown e (one + two) p) k (lo, growHi hi (one + two) p)) (k + 1) (now + to + back) (read + one + two) (liars + lies) := by
  have q1 := h.now0
  have q2 := h.now1
  have q3 := h.read0
  have q4 := h.read1
  have q5 := h.liars0
  have q6 := h.liars1
  have q7 := h.votes
  obtain ⟨k0, k1, k2⟩ := slack_bounds _ p hm
  obtain ⟨r0, r1, r2⟩ := right_range lo hi hr
  have hh : hi ≤ growHi hi (one + two) p ∧ growHi hi (one + two) p ≤ 1152921504606846976 := by unfold growHi lim; rw [if_pos hm]; omega
  have hx : lies = 0 → now + to + back ≤ growHi hi (one + two) p := fun h0 => by
    rcases hl with hl | ⟨_, _, hl⟩
    · omega
    · unfold growHi lim; rw [if_pos hm]; omega
  have hv : votes e now k ≤ votes (addE (grown e (one + two) p) k (lo, growHi hi (one + two) p)) (now + to + back) k := by
    refine votes_to _ _ _ _ k (fun i hi' hh' => ?_)
    have := hasE_iff.1 hh'
    have g := grow_has this.1 this.2 hm (ran := to + back) c1 c2 (by omega) (by omega)
    refine hasE_iff.2 ?_
    unfold addE
    rw [if_neg (by omega)]
    unfold grown
    exact ⟨by have := g.1; show growLo _ _ _ ≤ _; omega, by have := g.2; show _ ≤ growHi _ _ _; omega⟩
  have hv2 : (votes (addE (grown e (one + two) p) k (lo, growHi hi (one + two) p)) (now + to + back) (k + 1) : Int) = votes (addE (grown e (one + two) p) k (lo, growHi hi (one + two) p)) (now + to + back) k + (hasE (addE (grown e (one + two) p) k (lo, growHi hi (one + two) p)) (now + to + back) k).toNat := rfl
  have hs : lies = 0 → hasE (addE (grown e (one + two) p) k (lo, growHi hi (one + two) p)) (now + to + back) k = true := fun h0 => by
    refine hasE_iff.2 ?_
    unfold addE
    rw [if_pos rfl]
    have := hx h0
    rcases hl with hl | ⟨_, hl, _⟩
    · omega
    · exact ⟨by show lo ≤ _; omega, this⟩
  refine ⟨by omega, by omega, by omega, by omega, by omega, by omega, fun j hj => ?_, ?_⟩
  · unfold addE
    by_cases e1 : j = k
    · rw [if_pos e1]
      unfold rightB
      rw [decide_eq_true_iff]
      exact ⟨r0, hh.2, by show lo ≤ growHi _ _ _; omega⟩
    · rw [if_neg e1]
      exact grow_right _ _ _ p hm (h.right j (by omega))
  · rw [hv2]
    rcases hl with hl | hl
    · omega
    · rw [hs hl.1]; simp; omega
/-- The end: what Set and Now answer. -/
theorem known_end {e : Nat → Int × Int} {n : Nat} {now read liars p : Int} (h : Known e n now read liars) (h1 : 1 ≤ n) (h2 : n ≤ 12) (hl : liars < n) (hp : ppmB p = true) :
    ∃ lo hi, setC read e n liars = 0 ∧ setV p read e n liars = ck p true read lo hi ∧ lo ≤ now ∧ now ≤ hi ∧ rightB lo hi = true ∧ mayC p true read lo hi = true ∧ readB read = true := by
  have q1 := h.now0
  have q2 := h.now1
  have q3 := h.read0
  have q4 := h.read1
  have q5 := h.liars0
  have q7 := h.votes
  have hs := fuseR_spec e n liars
  have hm : may e n liars := ⟨by unfold validB; rw [decide_eq_true_iff]; exact ⟨h1, by omega, h.right⟩, q5, hl⟩
  obtain ⟨c0, c1, c2⟩ := true_in hs hm (t := now) (by unfold enough; omega)
  obtain ⟨r1, r2, r3, r4⟩ := fused_range hs
  have hr : readB read = true := by unfold readB; rw [decide_eq_true_iff]; omega
  have hc : setC read e n liars = 0 := by unfold setC; rw [if_pos hr, c0]
  have hR : rightB (fuseR e n liars).1 (fuseR e n liars).2.1 = true := by unfold rightB; rw [decide_eq_true_iff]; omega
  exact ⟨_, _, hc, by unfold setV; rw [if_pos hc], c1, c2, hR, by unfold mayC; rw [hp, hr, hR]; rfl, hr⟩
/-- Read later, with the time that ran. -/
theorem now_later {p t lo hi now later ran : Int} (hm : mayC p true t lo hi = true) (hp : ppmB p = true) (h1 : lo ≤ now) (h2 : now ≤ hi) (h3 : 0 ≤ later) (h4 : readB (t + later) = true) (ht : 0 ≤ t) (c1 : -(slackZ later p) ≤ ran - later) (c2 : ran - later ≤ slackZ later p)
    (h5 : 0 ≤ now + ran) (h6 : now + ran ≤ 1152921504606846976) : nowC p true t lo hi (t + later) = 0 ∧ nowLo p true t lo hi (t + later) ≤ now + ran ∧ now + ran ≤ nowHi p true t lo hi (t + later) := by
  have hb : nowB p true t lo hi (t + later) = true := by unfold nowB; rw [hm, h4, decide_eq_true (by omega)]; rfl
  have h4' := h4
  unfold readB at h4'
  rw [decide_eq_true_iff] at h4'
  have hmay := may_of h3 (by omega) hp
  unfold nowC nowLo nowHi
  rw [if_pos hb, if_pos hb, if_pos hb, show t + later - t = later by omega]
  exact ⟨rfl, (grow_has h1 h2 hmay c1 c2 (by omega) h6)⟩
end Go.Proofs.Ytmkmmpmhbahmeaa.Clock
