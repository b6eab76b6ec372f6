/-
  A table's memory; what is left by a step that turns a part of it.
-/
import Derived.Test.YtmoepcobhapghaaLeaves
import Derived.BigQuiet
namespace Go.Proofs.Ytmoepcobhapghaa.Cache
open Go Go.RowKit Go.Proofs.Ytmoepcobhapghaa.Aid

/-- A table's memory. -/
def fpT (g b : Nat) (Kv : Value) (x : Nat) : Prop := x = g ∨ x = b ∨ Kv.ownBlock = some x
theorem leaves_grown {F : Nat → Prop} {W W' : World} {row : Option Nat} (h : W.grownBy W' row) (hr : ∀ x, row = some x → F x) : Leaves F W W' :=
  ⟨h.os, h.tape, h.output, h.size, fun k hk hn => h.block k hk (fun e => hn (hr k e.symm))⟩
theorem leaves_cell {F : Nat → Prop} (W : World) (p : Addr) (u : Value) (hp : F p.block) : Leaves F W (W.setCell p u) :=
  ⟨rfl, rfl, rfl, by simp [World.setCell], fun k _ hn => Below.heap_setCell W p u k (fun e => hn (e ▸ hp))⟩
theorem below_drewN {B : Nat} {w W : World} (h : Below B w W) : ∀ q, Below B w (W.drewN q)
  | 0 => h
  | q + 1 => (below_drewN h q).drew
end Go.Proofs.Ytmoepcobhapghaa.Cache
