/-
  bartizanlaw08.parted: what a hardware clock tells, and whether it may part so.
-/
import Derived.Test.YtmkmmpmhbahmeaaClockTruePlain
import Derived.Test.YtmkmmpmhbahmeaaSpanRefSlack
namespace Go.Proofs.Ytmkmmpmhbahmeaa.Clock
open Go Go.RowKit Go.Proofs.Ytmkmmpmhbahmeaa.Aid Go.Proofs.Ytmkmmpmhbahmeaa.Span Go.Proofs.Ytmkmmpmhbahmeaa.Sweep

def partIn (ran by_ : Int) : Bool := decide (-1099511627776 ≤ by_ ∧ by_ ≤ 1099511627776 ∧ 0 ≤ IntKind.i64.wrap (ran + by_))
def partT (ran by_ : Int) : Int := if partIn ran by_ then IntKind.i64.wrap (ran + by_) else 0
def partB (ran by_ p : Int) : Bool := partIn ran by_ && decide (by_ ≤ slackZ (IntKind.i64.wrap (ran + by_)) p ∧ -(slackZ (IntKind.i64.wrap (ran + by_)) p) ≤ by_)
theorem slack_range (t p : Int) : 0 ≤ slackZ t p ∧ slackZ t p ≤ 115292150460700000 := by
  cases h : mayB t p
  · rw [show slackZ t p = 0 by unfold slackZ; rw [h]; rfl]; omega
  · have := slack_bounds t p h; omega
set_option maxRecDepth 100000 in
theorem parted_any (ran by_ p : Int) (w : World) : Calls Try.prog 16 #[.int .i64 ran, .int .i64 by_, .int .i64 p] w fun x w' => x = .returned (.tuple #[.int .i64 (partT ran by_), .bool (partB ran by_ p)]) ∧ w = w' := by
  have hs := refSlack_any (IntKind.i64.wrap (ran + by_)) p
  obtain ⟨k0, k1⟩ := slack_range (IntKind.i64.wrap (ran + by_)) p
  have hI : partIn ran by_ = decide (-1099511627776 ≤ by_ ∧ by_ ≤ 1099511627776 ∧ 0 ≤ IntKind.i64.wrap (ran + by_)) := rfl
  have hT : partT ran by_ = if partIn ran by_ then IntKind.i64.wrap (ran + by_) else 0 := rfl
  have hB : partB ran by_ p = (partIn ran by_ && decide (by_ ≤ slackZ (IntKind.i64.wrap (ran + by_)) p ∧ -(slackZ (IntKind.i64.wrap (ran + by_)) p) ≤ by_)) := rfl
  generalize hz : IntKind.i64.wrap (ran + by_) = z at *
  generalize slackZ z p = k at *
  generalize partT ran by_ = T at *
  generalize partB ran by_ p = B at *
  have HS := Lib.hid hs
  clear hs
  by_cases h1 : by_ < -1099511627776
  · have e0 : partIn ran by_ = false := by rw [hI, decide_eq_false (by omega)]
    rw [e0] at hT hB
    simp at hT hB
    subst hT hB
    clear hI e0 hz
    go_enter Try.func16, Try.ntmps16
    go_wp2
    exact bodyPost_ret (v := .tuple #[.int .i64 0, .bool false]) (by simp [results, Try.results16, go_sem]) rfl ⟨rfl, rfl⟩
  · by_cases h2 : 1099511627776 < by_
    · have e0 : partIn ran by_ = false := by rw [hI, decide_eq_false (by omega)]
      rw [e0] at hT hB
      simp at hT hB
      subst hT hB
      clear hI e0 hz
      go_enter Try.func16, Try.ntmps16
      go_wp2
      exact bodyPost_ret (v := .tuple #[.int .i64 0, .bool false]) (by simp [results, Try.results16, go_sem]) rfl ⟨rfl, rfl⟩
    · by_cases h3 : z < 0
      · have e0 : partIn ran by_ = false := by rw [hI, decide_eq_false (by omega)]
        rw [e0] at hT hB
        simp at hT hB
        subst hT hB
        clear hI e0
        go_enter Try.func16, Try.ntmps16
        go_wp2
        exact bodyPost_ret (v := .tuple #[.int .i64 0, .bool false]) (by simp [results, Try.results16, go_sem]) rfl ⟨rfl, rfl⟩
      · have e0 : partIn ran by_ = true := by rw [hI, decide_eq_true (by omega)]
        rw [e0] at hT hB
        simp only [if_true, Bool.true_and] at hT hB
        subst hT hB
        clear hI e0
        by_cases hh : by_ ≤ k ∧ -k ≤ by_
        · rw [decide_eq_true hh]
          obtain ⟨h4, h5⟩ := hh
          go_enter Try.func16, Try.ntmps16
          go_wp2_with fail
          refine (HS.out _).mono ?_
          rintro _ u1 ⟨rfl, rfl⟩
          go_wp2
          exact bodyPost_ret (v := .tuple #[.int .i64 T, .bool true]) (by simp [results, Try.results16, go_sem]) rfl ⟨rfl, rfl⟩
        · rw [decide_eq_false hh]
          by_cases h4 : by_ ≤ k
          · have h5 : ¬ -k ≤ by_ := fun h5 => hh ⟨h4, h5⟩
            clear hh
            go_enter Try.func16, Try.ntmps16
            go_wp2_with fail
            refine (HS.out _).mono ?_
            rintro _ u1 ⟨rfl, rfl⟩
            go_wp2
            exact bodyPost_ret (v := .tuple #[.int .i64 T, .bool false]) (by simp [results, Try.results16, go_sem]; omega) rfl ⟨rfl, rfl⟩
          · clear hh
            go_enter Try.func16, Try.ntmps16
            go_wp2_with fail
            refine (HS.out _).mono ?_
            rintro _ u1 ⟨rfl, rfl⟩
            go_wp2
            exact bodyPost_ret (v := .tuple #[.int .i64 T, .bool false]) (by simp [results, Try.results16, go_sem]) rfl ⟨rfl, rfl⟩
/-- What it says where the time that ran is small. -/
theorem parted_small {ran by_ p : Int} (h0 : 0 ≤ ran) (h1 : ran ≤ 2305843009213693952) (h : partB ran by_ p = true) :
    partT ran by_ = ran + by_ ∧ 0 ≤ ran + by_ ∧ -1099511627776 ≤ by_ ∧ by_ ≤ 1099511627776 ∧ by_ ≤ slackZ (ran + by_) p ∧ -(slackZ (ran + by_) p) ≤ by_ := by
  unfold partB at h
  rw [Bool.and_eq_true] at h
  obtain ⟨hi, hk⟩ := h
  have hi' := hi
  unfold partIn at hi
  rw [decide_eq_true_iff] at hi hk
  have hw : IntKind.i64.wrap (ran + by_) = ran + by_ := IntWalk.i64_in _ (by omega)
  rw [hw] at hk hi
  exact ⟨by unfold partT; rw [if_pos hi', hw], hi.2.2, hi.1, hi.2.1, hk.1, hk.2⟩
end Go.Proofs.Ytmkmmpmhbahmeaa.Clock
