/-
  Operations on a store as a law's arguments: three cells each; what one does.
-/
import Derived.Test.YthacldkmjpjgiaaStoreHas
import Derived.Test.YthacldkmjpjgiaaRowsAt
namespace Go.Proofs.Ythacldkmjpjgiaa.Store
open Go Go.RowKit Go.Proofs.Ythacldkmjpjgiaa.Aid Go.Proofs.Ythacldkmjpjgiaa.Cache

structure OpT where
  d : Int
  k : Int
  n : Nat
  e : Nat → BitVec 8
  bv : Value
def OpT.vals (p : OpT) : List Value := [.int .i64 p.d, .int .i64 p.k, p.bv]
/-- What is sure of an operation that came in. -/
structure OpTIn (W : World) (p : OpT) : Prop where
  read : SliceOf W W.heap.size p.n p.e p.bv
  n : p.n ≤ 140737488351232
  k : -9223372036854775808 ≤ p.k ∧ p.k ≤ 9223372036854775807
structure OpsTIn (W : World) (n : Nat) (X : Nat → OpT) (v : Value) : Prop where
  rows : RowsAt W 3 n (fun i => (X i).vals) v
  lt : ∀ i, i < n → OpTIn W (X i)
theorem OpTIn.shape {W : World} {p : OpT} (h : OpTIn W p) : ∃ A c, p.bv = .slice A p.n c := by obtain ⟨A, c, hv, _⟩ := h.read; exact ⟨A, c, hv⟩
/-- What an operation makes of a store, and what it answers. -/
def doS (m : Nat) (s : St) (d k : Int) (n : Nat) (e : Nat → BitVec 8) : St :=
  if d = 0 then appS m s n e else if d = 1 then syncS s else if d = 2 then repS m s n e else if d = 3 then fuseS s k else if d = 4 then crashS s k else turnS s k (BitVec.ofNat 8 n)
def doC (m : Nat) (s : St) (d k : Int) (n : Nat) : Int :=
  if d = 0 then appC m s n else if d = 1 then syncC s else if d = 2 then repC m s n else if d = 3 then 0 else if d = 4 then 0 else turnC s k
theorem doS_ok {m : Nat} {s : St} (h : s.ok m) (d k : Int) (n : Nat) (e : Nat → BitVec 8) (hk : k ≤ 9223372036854775807) : (doS m s d k n e).ok m := by
  unfold doS
  split
  · exact app_ok h n e
  · split
    · exact sync_ok h
    · split
      · exact rep_ok h n e
      · split
        · exact fuse_ok h k hk
        · split
          · exact crash_ok h k
          · exact turn_ok h k _
theorem doS_n {m : Nat} {s : St} (h : s.ok m) (d k : Int) (n : Nat) (e : Nat → BitVec 8) : (doS m s d k n e).n ≤ s.n + n := by
  have hb := (burn_n s).1
  unfold doS
  split
  · unfold appS
    split
    · exact Nat.le_refl _
    · omega
  · split
    · unfold syncS
      split
      · show (burnS s).n ≤ _; omega
      · omega
    · split
      · unfold repS
        split
        · show n ≤ _; omega
        · omega
      · split
        · show s.n ≤ _; omega
        · split
          · have := (crash_le h k).1
            show crashN s k ≤ _
            omega
          · unfold turnS
            split
            · show s.n ≤ _; omega
            · omega
/-- How many bytes the first k operations bear. -/
def sumN (X : Nat → OpT) : Nat → Nat
  | 0 => 0
  | k + 1 => sumN X k + (X k).n
theorem moved_behind {γ : Type} {Rep : World → (Nat → Prop) → Value → Nat → γ → Prop} {F : Nat → Prop} {w w1 W : World} {v : Value} {m : Nat} {s : γ} (h : Moved Rep F w1 W v m s) (hl : Cache.Leaves F w w1) : Moved Rep F w W v m s := by
  obtain ⟨F', h1, h2, h3⟩ := h
  exact ⟨F', h1, hl.trans h2 (fun x hx _ => hx), fun b hb => (h3 b hb).imp_right (fun h => Nat.le_trans hl.size h)⟩
end Go.Proofs.Ythacldkmjpjgiaa.Store
