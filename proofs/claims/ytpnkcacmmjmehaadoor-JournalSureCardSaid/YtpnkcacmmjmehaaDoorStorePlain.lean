/-
  A store as bytes, how many of them are sure, a fuse, and whether there is power; what each operation does to it.
-/
import Derived.Test.YtpnkcacmmjmehaaDoorBytes
import Derived.Test.YtpnkcacmmjmehaaDoorOwn
import Derived.Test.YtpnkcacmmjmehaaDoorKept
namespace Go.Proofs.YtpnkcacmmjmehaaDoor.Store
open Go Go.RowKit Go.Proofs.YtpnkcacmmjmehaaDoor.Aid Go.Proofs.YtpnkcacmmjmehaaDoor.Cache

structure St where
  n : Nat
  e : Nat → BitVec 8
  sure : Nat
  burn : Int
  down : Bool
structure St.ok (s : St) (m : Nat) : Prop where
  sure : s.sure ≤ s.n
  n : s.n ≤ m
  m : m ≤ 1048576
  lo : -1 ≤ s.burn
  hi : s.burn ≤ 9223372036854775807
def st0 : St := ⟨0, fun _ => 0, 0, -1, false⟩
def power (s : St) : Bool := !(s.down || decide (s.burn = 0))
def burnS (s : St) : St := if s.down = true ∨ s.burn = 0 then { s with down := true } else if 0 < s.burn then { s with burn := s.burn - 1 } else s
def appS (m : Nat) (s : St) (n : Nat) (e : Nat → BitVec 8) : St := if power s = true ∧ s.n + n ≤ m then { burnS s with n := s.n + n, e := cat s.e s.n e } else burnS s
def appC (m : Nat) (s : St) (n : Nat) : Int := if power s = true then if s.n + n ≤ m then 0 else 7 else 8
def syncS (s : St) : St := if power s = true then { burnS s with sure := s.n } else burnS s
def syncC (s : St) : Int := if power s = true then 0 else 8
def repS (m : Nat) (s : St) (n : Nat) (e : Nat → BitVec 8) : St := if power s = true ∧ n ≤ m then { burnS s with n := n, e := e, sure := n } else burnS s
def repC (m : Nat) (s : St) (n : Nat) : Int := if power s = true then if n ≤ m then 0 else 7 else 8
def fuseS (s : St) (k : Int) : St := { s with burn := max k (-1) }
def crashN (s : St) (k : Int) : Nat := if k < (s.n : Int) - (s.sure : Int) then s.sure + k.toNat else s.n
def crashS (s : St) (k : Int) : St := { s with n := crashN s k, sure := crashN s k, burn := -1, down := false }
def turnE (e : Nat → BitVec 8) (k : Nat) (x : BitVec 8) (j : Nat) : BitVec 8 := if j = k then e j ^^^ x else e j
def turnS (s : St) (k : Int) (x : BitVec 8) : St := if 0 ≤ k ∧ k < (s.n : Int) then { s with e := turnE s.e k.toNat x } else s
def turnC (s : St) (k : Int) : Int := if 0 ≤ k ∧ k < (s.n : Int) then 0 else 4
theorem burn_ok {s : St} {m : Nat} (h : s.ok m) : (burnS s).ok m := by
  unfold burnS
  split
  · exact ⟨h.sure, h.n, h.m, h.lo, h.hi⟩
  · split
    · exact ⟨h.sure, h.n, h.m, by show -1 ≤ s.burn - 1; omega, by show s.burn - 1 ≤ _; have := h.hi; omega⟩
    · exact h
theorem burn_n (s : St) : (burnS s).n = s.n ∧ (burnS s).e = s.e ∧ (burnS s).sure = s.sure := by
  unfold burnS
  split
  · exact ⟨rfl, rfl, rfl⟩
  · split <;> exact ⟨rfl, rfl, rfl⟩
theorem app_ok {s : St} {m : Nat} (h : s.ok m) (n : Nat) (e : Nat → BitVec 8) : (appS m s n e).ok m := by
  have hb := burn_ok h
  have hs := (burn_n s).2.2
  unfold appS
  split
  · exact ⟨by show (burnS s).sure ≤ s.n + n; rw [hs]; have := h.sure; omega, by show s.n + n ≤ m; omega, h.m, hb.lo, hb.hi⟩
  · exact hb
theorem sync_ok {s : St} {m : Nat} (h : s.ok m) : (syncS s).ok m := by
  have hb := burn_ok h
  have hs := (burn_n s).1
  unfold syncS
  split
  · exact ⟨by show s.n ≤ (burnS s).n; rw [hs]; exact Nat.le_refl _, hb.n, h.m, hb.lo, hb.hi⟩
  · exact hb
theorem rep_ok {s : St} {m : Nat} (h : s.ok m) (n : Nat) (e : Nat → BitVec 8) : (repS m s n e).ok m := by
  have hb := burn_ok h
  unfold repS
  split
  · rename_i hc
    exact ⟨Nat.le_refl _, hc.2, h.m, hb.lo, hb.hi⟩
  · exact hb
theorem fuse_ok {s : St} {m : Nat} (h : s.ok m) (k : Int) (hk : k ≤ 9223372036854775807) : (fuseS s k).ok m := ⟨h.sure, h.n, h.m, by show -1 ≤ max k (-1); omega, by show max k (-1) ≤ _; omega⟩
theorem crash_le {s : St} {m : Nat} (h : s.ok m) (k : Int) : crashN s k ≤ s.n ∧ s.sure ≤ crashN s k := by
  have := h.sure
  unfold crashN
  split <;> constructor <;> omega
theorem crash_ok {s : St} {m : Nat} (h : s.ok m) (k : Int) : (crashS s k).ok m := ⟨Nat.le_refl _, by have := (crash_le h k).1; have := h.n; show crashN s k ≤ m; omega, h.m, by show (-1 : Int) ≤ -1; omega, by show (-1 : Int) ≤ _; omega⟩
theorem turn_ok {s : St} {m : Nat} (h : s.ok m) (k : Int) (x : BitVec 8) : (turnS s k x).ok m := by
  unfold turnS
  split
  · exact ⟨h.sure, h.n, h.m, h.lo, h.hi⟩
  · exact h
end Go.Proofs.YtpnkcacmmjmehaaDoor.Store
