/-
  The program's own store and journal, as the law of layer 14 wants them.
-/
import Derived.Test.YtpnkcacmmjmehaaDoorJrOnly
import Derived.Test.YtpnkcacmmjmehaaDoorStHold
namespace Go.Proofs.YtpnkcacmmjmehaaDoor.Jour
open Go Go.RowKit Go.Proofs.YtpnkcacmmjmehaaDoor.Aid Go.Proofs.YtpnkcacmmjmehaaDoor.Cache Go.Proofs.YtpnkcacmmjmehaaDoor.Store
open Go.Proofs.YtpnkcacmmjmehaaDoor.Sha (Consts)

/-- A journal that is not broken. -/
def RepJ2 (W : World) (F : Nat → Prop) (j s : Value) (L : List By) : Prop := (∃ p, s = .pointer (some p)) ∧ RepJO W F j s L
theorem rep_ptr {W : World} {F : Nat → Prop} {v : Value} {m : Nat} {s : St} (h : RepOwn W F v m s) : ∃ p, v = .pointer (some p) := by obtain ⟨g, Bv, z, hv, h⟩ := h; exact ⟨_, hv⟩
theorem journalOwn {w0 : World} (hk : Consts w0) : JourHas w0 RepOwn RepJ2 Dg where
  dlen := dg_len
  keep := fun W W' F v m s h hk => rep_keep h hk
  lt := rep_lt
  ok := fun h => by obtain ⟨g, Bv, z, hv, h⟩ := h; exact h.ok
  keepJ := fun h hk => by obtain ⟨hp, g, V, hj, h⟩ := h; exact ⟨hp, g, V, hj, h.kept hk⟩
  ltJ := fun h => by obtain ⟨hp, g, V, hj, h⟩ := h; exact h.lt
  new := fun room w h => (new_ok room w h).mono fun x w' ⟨v, F, h1, h2, h3, h4⟩ => by
    obtain ⟨p, rfl⟩ := rep_ptr h2
    exact ⟨p, F, h1, h2, h3, h4⟩
  fuse := fun k h h1 h2 => fuse_any h k h1 h2
  crash := fun k h h1 h2 => crash_any h k h1 h2
  read := fun {w F v m s} h => (read_any h).mono fun x w' ⟨bv, hx, hr, hb, ho⟩ => by
    obtain ⟨A, c, rfl, -, -⟩ := own_shape ho
    exact ⟨A, c, F, hx, hr, Cache.Leaves.of_below hb, fun b hf => .inl hf⟩
  open_nil := jopen_nil
  open_up := fun {w F s m st R t} hb h hs hbu hd _ => (jopen (hk.below hb (Nat.le_refl _)) h).mono fun x w' hp => by
    have hok : st.ok m := by obtain ⟨g, Bv, z, hv, h⟩ := h; exact h.ok
    rcases hp with ⟨h1, _⟩ | ⟨R', t', F', h1, h2, h3, h4, _, h6⟩
    · rw [hs] at h1; cases h1
    · rw [hs] at h1
      cases h1
      have h0 : openC m st t = 0 := by
        unfold openC
        by_cases ht : t = []
        · rw [if_pos ht]
        · have hpw : power st = true := by unfold power; rw [hbu, hd]; rfl
          rw [if_neg ht]
          unfold repC
          rw [if_pos hpw, if_pos (by have := hok.n; omega)]
      rcases h6 with ⟨h7, _⟩ | ⟨_, p, FJ, hx, hj, hd', hge⟩
      · exact absurd h0 h7
      · exact ⟨p, F', FJ, hx, h2, ⟨rep_ptr h, hj⟩, hd', h3, fun b hb => hb.elim (h4 b) (fun h => .inr (hge b h))⟩
  add := fun {w F FJ s j m st L} x bv hb h hj hab hbv _ _ hL => by
    obtain ⟨⟨p, rfl⟩, g, V, rfl, ho⟩ := hj
    exact (jadd (hk.below hb (Nat.le_refl _)) h ho hab x bv hbv (by omega)).mono fun y w' ⟨h1, F', FJ', V', h2, h3, _, h5, h6, h7⟩ => ⟨h1, F', FJ', h2, fun hne => ⟨⟨p, rfl⟩, g, V', rfl, h3 hne⟩, h5, h6, h7⟩
  only := fun {w F FJ s j m st L} M v hb h hj hab hM hn hs _ => by
    obtain ⟨⟨p, rfl⟩, g, V, rfl, ho⟩ := hj
    exact (jonly (hk.below hb (Nat.le_refl _)) h ho hab M v hM (by omega) (fun x hx => by have := hs x hx; omega)).mono fun y w' ⟨h1, F', FJ', V', h2, h3, _, h5, h6, h7⟩ => ⟨h1, F', FJ', h2, fun hne => ⟨⟨p, rfl⟩, g, V', rfl, h3 hne⟩, h5, h6, h7⟩
  recs := fun {w FJ s j L} hj hL hs => by
    obtain ⟨hp, g, V, rfl, ho⟩ := hj
    exact (jrecs ho (by omega) (fun x hx => by have := hs x hx; omega)).mono fun y w' ⟨v, h1, hb, hP⟩ => ⟨v, FJ, h1, ⟨hp, g, V, rfl, ho.below hb⟩, Cache.Leaves.of_below hb, fun b hb' => .inl hb', hP.less (fun b _ hb' => ⟨hb', fun hf => by have := ho.lt b hf; omega⟩)⟩
end Go.Proofs.YtpnkcacmmjmehaaDoor.Jour
