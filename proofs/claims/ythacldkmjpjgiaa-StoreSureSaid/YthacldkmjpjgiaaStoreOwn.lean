/-
  The program's own store, as the laws want it.
-/
import Derived.Test.YthacldkmjpjgiaaStoreHas
import Derived.Test.YthacldkmjpjgiaaStAppend
import Derived.Test.YthacldkmjpjgiaaStReplace
import Derived.Test.YthacldkmjpjgiaaStTurn
namespace Go.Proofs.Ythacldkmjpjgiaa.Store
open Go Go.RowKit Go.Proofs.Ythacldkmjpjgiaa.Aid Go.Proofs.Ythacldkmjpjgiaa.Cache

theorem storeOwn : StoreHas RepOwn where
  form := {
    keep := fun W W' F v m s h hk => by obtain ⟨g, Bv, z, hv, h⟩ := h; exact ⟨g, Bv, z, hv, h.kept hk⟩
    lt := fun h => by obtain ⟨g, Bv, z, hv, h⟩ := h; exact h.lt
    ptr := fun h => by obtain ⟨g, Bv, z, hv, h⟩ := h; exact ⟨_, hv⟩
    ok := fun h => by obtain ⟨g, Bv, z, hv, h⟩ := h; exact h.ok
    new_no := new_no
    new_ok := new_ok
    app := fun n e bv h hb _ => append_any h n e bv hb
    sync := fun h => sync_any h
    rep := fun n e bv h hb _ => replace_any h n e bv hb
    fuse := fun k h h1 h2 => fuse_any h k h1 h2
    crash := fun k h h1 h2 => crash_any h k h1 h2
    turn := fun k x h _ _ => turn_any h k x }
  read := fun {w F v m s} h => (read_any h).mono fun x w' ⟨bv, hx, hr, hb, ho⟩ => ⟨bv, F, hx, hr, Cache.Leaves.of_below hb, fun b hf => .inl hf, by
    rcases ho.form with ⟨rfl, h0⟩ | ⟨g, cap, cur, rfl, hg, hlt, hm, hh, hs, hc⟩
    · exact ⟨none, 0, by rw [h0], by omega, fun h => by omega⟩
    · refine ⟨_, cap, rfl, hm, fun h0 => ⟨g, 0, rfl, ?_, fun j hj => ?_⟩⟩
      · have hl : ∀ b, F b → b < w.heap.size := by obtain ⟨g', Bv', z', hv', h'⟩ := h; exact h'.lt
        rintro (hf | hf)
        · have := hl g hf; omega
        · omega
      · rw [Nat.zero_add]; exact (own_at ho j hj).1⟩
end Go.Proofs.Ythacldkmjpjgiaa.Store
