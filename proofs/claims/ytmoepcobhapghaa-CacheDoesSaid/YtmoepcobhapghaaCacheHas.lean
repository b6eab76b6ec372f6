/-
  What the laws of layer 11 need of the program's own tables, as one bundle: a table of some memory of its own stands for a list.
-/
import Derived.Test.YtmoepcobhapghaaCachePlain
import Derived.Test.YtmoepcobhapghaaKept
import Derived.Test.YtmoepcobhapghaaRefInts
namespace Go.Proofs.Ytmoepcobhapghaa.Cache
open Go Go.RowKit Go.Proofs.Ytmoepcobhapghaa.Aid

/-- A list of values that lies in new memory, of no table. -/
def NewList (w w' : World) (F : Nat → Prop) (v : Value) (xs : List Value) : Prop :=
  ∃ A c, v = .slice A xs.length c ∧ xs.length ≤ c ∧ (0 < xs.length → ∃ g o, A = some ⟨g, o, none⟩ ∧ w.heap.size ≤ g ∧ ¬ F g ∧ ∀ i u, xs[i]? = some u → w'.cell? ⟨g, o + i, none⟩ = some u)
structure TabHas {α β : Type} [DecidableEq α] (ok : α → Prop) (kv : α → Value) (vv : β → Value) (kz : α) (vz : β) (fNew fPut fGet fDrop fLen : FuncId) (Rep : World → (Nat → Prop) → Value → Nat → List (α × β) → Prop) : Prop where
  keep : ∀ {W W' : World} {F : Nat → Prop} {v : Value} {m : Nat} {l : List (α × β)}, Rep W F v m l → (∀ b, F b → W'.heap[b]? = W.heap[b]?) → Rep W' F v m l
  lt : ∀ {W : World} {F : Nat → Prop} {v : Value} {m : Nat} {l : List (α × β)}, Rep W F v m l → ∀ b, F b → b < W.heap.size
  ptr : ∀ {W : World} {F : Nat → Prop} {v : Value} {m : Nat} {l : List (α × β)}, Rep W F v m l → ∃ p, v = .pointer (some p)
  new_no : ∀ (most : Int) (w : World), ¬ (1 ≤ most ∧ most ≤ 1000) → Calls Try.prog fNew #[.int .i64 most] w fun x w' => x = .returned (.tuple #[.pointer none, .int .i64 1]) ∧ Below w.heap.size w w'
  new_ok : ∀ (m : Nat) (w : World), 1 ≤ m ∧ m ≤ 1000 → Calls Try.prog fNew #[.int .i64 (m : Int)] w fun x w' => ∃ v F, x = .returned (.tuple #[v, .int .i64 0]) ∧ Rep w' F v m [] ∧ (∀ b, F b → w.heap.size ≤ b) ∧ Below w.heap.size w w'
  put : ∀ {w : World} {F : Nat → Prop} {v : Value} {m : Nat} {l : List (α × β)} (k : α) (x : β), ok k → Rep w F v m l → Calls Try.prog fPut #[v, kv k, vv x] w fun e w' => e = .returned (.tuple #[kv (goneK kz m (keysL l) k), .bool (goneB m (keysL l) k)]) ∧ Moved Rep F w w' v m (putL m l k x)
  get : ∀ {w : World} {F : Nat → Prop} {v : Value} {m : Nat} {l : List (α × β)} (k : α), ok k → Rep w F v m l → Calls Try.prog fGet #[v, kv k] w fun e w' => e = .returned (.tuple #[vv ((getL l k).getD vz), .bool (hasK (keysL l) k)]) ∧ Moved Rep F w w' v m l
  drop : ∀ {w : World} {F : Nat → Prop} {v : Value} {m : Nat} {l : List (α × β)} (k : α), ok k → Rep w F v m l → Calls Try.prog fDrop #[v, kv k] w fun e w' => e = .returned (.bool (hasK (keysL l) k)) ∧ Moved Rep F w w' v m (dropL l k)
  len : ∀ {w : World} {F : Nat → Prop} {v : Value} {m : Nat} {l : List (α × β)}, Rep w F v m l → Calls Try.prog fLen #[v] w fun e w' => e = .returned (.int .i64 (l.length : Int)) ∧ Moved Rep F w w' v m l
/-- The keys that a law may come with. -/
def okI (k : Int) : Prop := -9223372036854775808 ≤ k ∧ k ≤ 9223372036854775807
def okS (s : ByteArray) : Prop := s.size ≤ 100
abbrev RepI := World → (Nat → Prop) → Value → Nat → List (Int × ByteArray) → Prop
abbrev RepS := World → (Nat → Prop) → Value → Nat → List (ByteArray × (Int × Int)) → Prop
/-- A table of numbers and texts. -/
structure CacheHas (Rep : RepI) : Prop where
  tab : TabHas okI (Value.int .i64) Value.string 0 ByteArray.empty 7 9 13 11 17 Rep
  keys : ∀ {w : World} {F : Nat → Prop} {v : Value} {m : Nat} {l : List (Int × ByteArray)}, Rep w F v m l → Calls Try.prog 16 #[v] w fun e w' => ∃ r F', e = .returned r ∧ Rep w' F' v m l ∧ Leaves F w w' ∧ (∀ b, F' b → F b ∨ w.heap.size ≤ b) ∧ NewList w w' F' r ((keysL l).map (Value.int .i64))
theorem TabHas.moved {α β : Type} [DecidableEq α] {ok : α → Prop} {kv : α → Value} {vv : β → Value} {kz : α} {vz : β} {fNew fPut fGet fDrop fLen : FuncId} {Rep : World → (Nat → Prop) → Value → Nat → List (α × β) → Prop} (H : TabHas ok kv vv kz vz fNew fPut fGet fDrop fLen Rep)
    {W W' : World} {F G : Nat → Prop} {v : Value} {m : Nat} {l : List (α × β)} (h : Rep W F v m l) (hl : Leaves G W W') (hd : ∀ b, F b → ¬ G b) : Rep W' F v m l := H.keep h (fun b hb => hl.block b (H.lt h b hb) (hd b hb))
theorem TabHas.below {α β : Type} [DecidableEq α] {ok : α → Prop} {kv : α → Value} {vv : β → Value} {kz : α} {vz : β} {fNew fPut fGet fDrop fLen : FuncId} {Rep : World → (Nat → Prop) → Value → Nat → List (α × β) → Prop} (H : TabHas ok kv vv kz vz fNew fPut fGet fDrop fLen Rep)
    {W W' : World} {F : Nat → Prop} {v : Value} {m : Nat} {l : List (α × β)} (h : Rep W F v m l) (hb : Below W.heap.size W W') : Rep W' F v m l := H.keep h (fun b hf => hb.block b (H.lt h b hf))
end Go.Proofs.Ytmoepcobhapghaa.Cache
