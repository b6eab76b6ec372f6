/-
  What the laws of layer 13 need of the program's store, as one bundle; a store in memory of its own stands for its bytes, how many are sure, its fuse and its power.
-/
import Derived.Test.YthacldkmjpjgiaaApart
import Derived.Test.YthacldkmjpjgiaaProg
namespace Go.Proofs.Ythacldkmjpjgiaa.Store
open Go Go.RowKit Go.Proofs.Ythacldkmjpjgiaa.Aid Go.Proofs.Ythacldkmjpjgiaa.Cache

abbrev RepSt := World → (Nat → Prop) → Value → Nat → St → Prop
/-- What the program's store and the document's have in common. -/
structure StForm (fNew fApp fSync fRep fFuse fCrash fTurn : FuncId) (Rep : RepSt) : Prop where
  keep : KeepR Rep
  lt : ∀ {W : World} {F : Nat → Prop} {v : Value} {m : Nat} {s : St}, Rep W F v m s → ∀ b, F b → b < W.heap.size
  ptr : ∀ {W : World} {F : Nat → Prop} {v : Value} {m : Nat} {s : St}, Rep W F v m s → ∃ p, v = .pointer (some p)
  ok : ∀ {W : World} {F : Nat → Prop} {v : Value} {m : Nat} {s : St}, Rep W F v m s → s.ok m
  new_no : ∀ (room : Int) (w : World), ¬ (0 ≤ room ∧ room ≤ 1048576) → Calls Try.prog fNew #[.int .i64 room] w fun x w' => x = .returned (.tuple #[.pointer none, .int .i64 1]) ∧ Below w.heap.size w w'
  new_ok : ∀ (room : Nat) (w : World), room ≤ 1048576 → Calls Try.prog fNew #[.int .i64 (room : Int)] w fun x w' => ∃ v F, x = .returned (.tuple #[v, .int .i64 0]) ∧ Rep w' F v room st0 ∧ (∀ b, F b → w.heap.size ≤ b) ∧ Below w.heap.size w w'
  app : ∀ {w : World} {F : Nat → Prop} {v : Value} {m : Nat} {s : St} (n : Nat) (e : Nat → BitVec 8) (bv : Value), Rep w F v m s → Apart w F n e bv → n ≤ 2000 → Calls Try.prog fApp #[v, bv] w fun x w' => x = .returned (.int .i64 (appC m s n)) ∧ Moved Rep F w w' v m (appS m s n e)
  sync : ∀ {w : World} {F : Nat → Prop} {v : Value} {m : Nat} {s : St}, Rep w F v m s → Calls Try.prog fSync #[v] w fun x w' => x = .returned (.int .i64 (syncC s)) ∧ Moved Rep F w w' v m (syncS s)
  rep : ∀ {w : World} {F : Nat → Prop} {v : Value} {m : Nat} {s : St} (n : Nat) (e : Nat → BitVec 8) (bv : Value), Rep w F v m s → Apart w F n e bv → n ≤ 2000 → Calls Try.prog fRep #[v, bv] w fun x w' => x = .returned (.int .i64 (repC m s n)) ∧ Moved Rep F w w' v m (repS m s n e)
  fuse : ∀ {w : World} {F : Nat → Prop} {v : Value} {m : Nat} {s : St} (k : Int), Rep w F v m s → -9223372036854775808 ≤ k → k ≤ 9223372036854775807 → Calls Try.prog fFuse #[v, .int .i64 k] w fun x w' => x = .returned (.tuple #[]) ∧ Moved Rep F w w' v m (fuseS s k)
  crash : ∀ {w : World} {F : Nat → Prop} {v : Value} {m : Nat} {s : St} (k : Int), Rep w F v m s → -9223372036854775808 ≤ k → k ≤ 9223372036854775807 → Calls Try.prog fCrash #[v, .int .i64 k] w fun x w' => x = .returned (.tuple #[]) ∧ Moved Rep F w w' v m (crashS s k)
  turn : ∀ {w : World} {F : Nat → Prop} {v : Value} {m : Nat} {s : St} (k : Int) (x : BitVec 8), Rep w F v m s → -9223372036854775808 ≤ k → k ≤ 9223372036854775807 → Calls Try.prog fTurn #[v, .int .i64 k, .int .u8 (x.toNat : Int)] w fun y w' => y = .returned (.int .i64 (turnC s k)) ∧ Moved Rep F w w' v m (turnS s k x)
/-- The program's own store. -/
structure StoreHas (Rep : RepSt) : Prop where
  form : StForm 8 16 17 19 15 14 18 Rep
  /-- Read hands back bytes of the caller's own. -/
  read : ∀ {w : World} {F : Nat → Prop} {v : Value} {m : Nat} {s : St}, Rep w F v m s → Calls Try.prog 13 #[v] w fun x w' => ∃ bv F', x = .returned bv ∧ Rep w' F' v m s ∧ Cache.Leaves F w w' ∧ (∀ b, F' b → F b ∨ w.heap.size ≤ b) ∧ Apart w' (fun b => F' b ∨ b < w.heap.size) s.n s.e bv
end Go.Proofs.Ythacldkmjpjgiaa.Store
