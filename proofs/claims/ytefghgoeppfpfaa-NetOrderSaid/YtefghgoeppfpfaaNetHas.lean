/-
  What the laws of layer 12 need of the program's net, as one bundle; a net in memory of its own stands for a list of letters.
-/
import Derived.Test.YtefghgoeppfpfaaNetPlain
import Derived.Test.YtefghgoeppfpfaaKept
import Derived.Test.YtefghgoeppfpfaaProg
namespace Go.Proofs.Ytefghgoeppfpfaa.Net
open Go Go.RowKit Go.Proofs.Ytefghgoeppfpfaa.Aid Go.Proofs.Ytefghgoeppfpfaa.Cache

abbrev RepN := World → (Nat → Prop) → Value → Nat → List Lt → Prop
/-- What the program's net and the document's have in common. -/
structure NetForm (fNew fSend fTake fLater fTwice : FuncId) (Rep : RepN) : Prop where
  keep : KeepR Rep
  lt : ∀ {W : World} {F : Nat → Prop} {v : Value} {m : Nat} {l : List Lt}, Rep W F v m l → ∀ b, F b → b < W.heap.size
  ptr : ∀ {W : World} {F : Nat → Prop} {v : Value} {m : Nat} {l : List Lt}, Rep W F v m l → ∃ p, v = .pointer (some p)
  fits : ∀ {W : World} {F : Nat → Prop} {v : Value} {m : Nat} {l : List Lt}, Rep W F v m l → l.length ≤ m ∧ 1 ≤ m ∧ m ≤ 1000
  small : ∀ {W : World} {F : Nat → Prop} {v : Value} {m : Nat} {l : List Lt}, Rep W F v m l → (l.headD zeroL).n ≤ 2000
  new_no : ∀ (room : Int) (w : World), ¬ (1 ≤ room ∧ room ≤ 1000) → Calls Try.prog fNew #[.int .i64 room] w fun x w' => x = .returned (.tuple #[.pointer none, .int .i64 1]) ∧ Below w.heap.size w w'
  new_ok : ∀ (room : Nat) (w : World), 1 ≤ room ∧ room ≤ 1000 → Calls Try.prog fNew #[.int .i64 (room : Int)] w fun x w' => ∃ v F, x = .returned (.tuple #[v, .int .i64 0]) ∧ Rep w' F v room [] ∧ (∀ b, F b → w.heap.size ≤ b) ∧ Below w.heap.size w w'
  send : ∀ {w : World} {F : Nat → Prop} {v : Value} {m : Nat} {l : List Lt} (x : Lt) (bv : Value), Rep w F v m l → SliceOf w w.heap.size x.n x.e bv → x.n ≤ 2000 → Calls Try.prog fSend #[v, ltV x bv] w fun e w' => e = .returned (.int .i64 (sendC m l)) ∧ Moved Rep F w w' v m (sendL m l x)
  take : ∀ {w : World} {F : Nat → Prop} {v : Value} {m : Nat} {l : List Lt}, Rep w F v m l → Calls Try.prog fTake #[v] w fun e w' => ∃ bv, e = .returned (.tuple #[ltV (l.headD zeroL) bv, .bool (decide (0 < l.length))]) ∧ Moved Rep F w w' v m l.tail ∧ SliceOf w' w'.heap.size (l.headD zeroL).n (l.headD zeroL).e bv
  later : ∀ {w : World} {F : Nat → Prop} {v : Value} {m : Nat} {l : List Lt}, Rep w F v m l → Calls Try.prog fLater #[v] w fun e w' => e = .returned (.bool (decide (0 < l.length))) ∧ Moved Rep F w w' v m (laterL l)
  twice : ∀ {w : World} {F : Nat → Prop} {v : Value} {m : Nat} {l : List Lt}, Rep w F v m l → Calls Try.prog fTwice #[v] w fun e w' => e = .returned (.int .i64 (twiceC m l)) ∧ Moved Rep F w w' v m (twiceL m l)
/-- Bytes of the caller's own: no block of the net's holds them, and they can be written. -/
def TakenOwn (w w' : World) (F F' : Nat → Prop) (n : Nat) (e : Nat → BitVec 8) (bv : Value) : Prop :=
  ∃ A c, bv = .slice A n c ∧ n ≤ c ∧ (0 < n → ∃ g o, A = some ⟨g, o, none⟩ ∧ (F g ∨ w.heap.size ≤ g) ∧ ¬ F' g ∧ (∀ j, j < n → w'.cell? ⟨g, o + j, none⟩ = some (.int .u8 ((e j).toNat : Int))) ∧ ∀ j, w'.frozen? ⟨g, j, none⟩ = false)
/-- The program's own net. -/
structure NetHas (Rep : RepN) : Prop where
  form : NetForm 8 10 12 15 17 Rep
  len : ∀ {w : World} {F : Nat → Prop} {v : Value} {m : Nat} {l : List Lt}, Rep w F v m l → Calls Try.prog 19 #[v] w fun e w' => e = .returned (.int .i64 (l.length : Int)) ∧ Moved Rep F w w' v m l
  own : ∀ {w : World} {F : Nat → Prop} {v : Value} {m : Nat} {l : List Lt}, Rep w F v m l → Calls Try.prog 12 #[v] w fun e w' => ∃ bv F', e = .returned (.tuple #[ltV (l.headD zeroL) bv, .bool (decide (0 < l.length))]) ∧ Rep w' F' v m l.tail ∧ Cache.Leaves F w w' ∧ (∀ b, F' b → F b ∨ w.heap.size ≤ b) ∧ TakenOwn w w' F F' (l.headD zeroL).n (l.headD zeroL).e bv
end Go.Proofs.Ytefghgoeppfpfaa.Net
