/-
  Two tables of the program, of unlike kinds, side by side, and blocks X that no call on them touches.
-/
import Derived.Test.YtmoepcobhapghaaCacheHeld
namespace Go.Proofs.Ytmoepcobhapghaa.Cache
open Go Go.RowKit Go.Proofs.Ytmoepcobhapghaa.Aid

def spanV (z : Int × Int) : Value := .agg #[.int .i64 z.1, .int .i64 z.2]
/-- A table of texts and spans. -/
structure KindsHas (Rep : RepS) : Prop where
  tab : TabHas okS Value.string spanV ByteArray.empty ((0 : Int), (0 : Int)) 18 20 21 19 22 Rep
theorem TabHas.keepR {α β : Type} [DecidableEq α] {ok : α → Prop} {kv : α → Value} {vv : β → Value} {kz : α} {vz : β} {fNew fPut fGet fDrop fLen : FuncId} {Rep : World → (Nat → Prop) → Value → Nat → List (α × β) → Prop} (H : TabHas ok kv vv kz vz fNew fPut fGet fDrop fLen Rep) : KeepR Rep := fun _ _ _ _ _ _ h hk => H.keep h hk
section
variable {α β δ : Type} [DecidableEq α] {ok : α → Prop} {kv : α → Value} {vv : β → Value} {kz : α} {vz : β} {fNew fPut fGet fDrop fLen : FuncId} {Rep : World → (Nat → Prop) → Value → Nat → List (α × β) → Prop} {RB : World → (Nat → Prop) → Value → Nat → δ → Prop}
  {w0 W : World} {X : Nat → Prop} {a b : Value} {m : Nat} {l : List (α × β)} {lb : δ}
theorem TabHas.mv2 (H : TabHas ok kv vv kz vz fNew fPut fGet fDrop fLen Rep) (hkb : KeepR RB) {W' : World} {FA FB : Nat → Prop} {l' : List (α × β)}
    (h : TwoIn Rep RB w0 W X FA FB a b m l lb) (hm : Moved Rep FA W W' a m l') : Two Rep RB w0 W' X a b m l' lb ∧ Keep X W W' := h.move H.lt (fun hx => hkb _ _ _ _ _ _ h.rb hx) hm
theorem TabHas.put2 (H : TabHas ok kv vv kz vz fNew fPut fGet fDrop fLen Rep) (hkb : KeepR RB) (h : Two Rep RB w0 W X a b m l lb) (k : α) (x : β) (hk : ok k) :
    Calls Try.prog fPut #[a, kv k, vv x] W fun e W' => e = .returned (.tuple #[kv (goneK kz m (keysL l) k), .bool (goneB m (keysL l) k)]) ∧ Two Rep RB w0 W' X a b m (putL m l k x) lb ∧ Keep X W W' := by
  obtain ⟨FA, FB, h⟩ := h
  exact (H.put k x hk h.ra).mono (fun e W' ⟨h1, h2⟩ => ⟨h1, H.mv2 hkb h h2⟩)
theorem TabHas.get2 (H : TabHas ok kv vv kz vz fNew fPut fGet fDrop fLen Rep) (hkb : KeepR RB) (h : Two Rep RB w0 W X a b m l lb) (k : α) (hk : ok k) :
    Calls Try.prog fGet #[a, kv k] W fun e W' => e = .returned (.tuple #[vv ((getL l k).getD vz), .bool (hasK (keysL l) k)]) ∧ Two Rep RB w0 W' X a b m l lb ∧ Keep X W W' := by
  obtain ⟨FA, FB, h⟩ := h
  exact (H.get k hk h.ra).mono (fun e W' ⟨h1, h2⟩ => ⟨h1, H.mv2 hkb h h2⟩)
theorem TabHas.drop2 (H : TabHas ok kv vv kz vz fNew fPut fGet fDrop fLen Rep) (hkb : KeepR RB) (h : Two Rep RB w0 W X a b m l lb) (k : α) (hk : ok k) :
    Calls Try.prog fDrop #[a, kv k] W fun e W' => e = .returned (.bool (hasK (keysL l) k)) ∧ Two Rep RB w0 W' X a b m (dropL l k) lb ∧ Keep X W W' := by
  obtain ⟨FA, FB, h⟩ := h
  exact (H.drop k hk h.ra).mono (fun e W' ⟨h1, h2⟩ => ⟨h1, H.mv2 hkb h h2⟩)
theorem TabHas.len2 (H : TabHas ok kv vv kz vz fNew fPut fGet fDrop fLen Rep) (hkb : KeepR RB) (h : Two Rep RB w0 W X a b m l lb) :
    Calls Try.prog fLen #[a] W fun e W' => e = .returned (.int .i64 (l.length : Int)) ∧ Two Rep RB w0 W' X a b m l lb ∧ Keep X W W' := by
  obtain ⟨FA, FB, h⟩ := h
  exact (H.len h.ra).mono (fun e W' ⟨h1, h2⟩ => ⟨h1, H.mv2 hkb h h2⟩)
end
end Go.Proofs.Ytmoepcobhapghaa.Cache
