/- JO: layer 13: VotesOnce. -/
import Derived.Test.YtkoncjcnpconkaaJL
namespace Go.V
open Go.RowKit
/-- the vote, turned to one that was written -/
def wrV (m : Vt) : Vt := { m with k := 2, ps := [] }
/-- the same of another batch -/
def otV (m : Vt) (h : List UInt8) (b : List UInt8) (hh : h.length = 32) : Vt := ⟨2, m.v, m.r, m.s, h, b, [], hh⟩
theorem set_k {m : Vt} (ub up : Value) (x : Value) (h : x = .int .i64 2) : (m.l ub up).set 0 x = ({ m with k := 2 } : Vt).l ub up := by subst h; rfl
theorem set_ps {m : Vt} (ub up u : Value) : (({ m with k := 2 } : Vt).l ub up).set 37 u = (wrV m).l ub u := by
  have : (bvs m.h ++ [ub, up]).set 33 u = bvs m.h ++ [ub, u] := by
    rw [List.set_append_right _ _ (by simp [bvs, m.hh])]
    simp [bvs, m.hh]
  simpa [Vt.l, wrV] using this
theorem set_b {m : Vt} {h b : List UInt8} (hh : h.length = 32) (ub up u : Value) : ((otV m h b hh).l ub up).set 36 u = (otV m h b hh).l u up := by
  have : (bvs h ++ [ub, up]).set 32 u = bvs h ++ [u, up] := by
    rw [List.set_append_right _ _ (by simp [bvs, hh])]
    simp [bvs, hh]
  simpa [Vt.l, otV] using this
theorem splice_h {m : Vt} {h b : List UInt8} (hh : h.length = 32) (ub up : Value) : ((wrV m).l ub up).take 4 ++ bvs h ++ ((wrV m).l ub up).drop (4 + (bvs h).length) = (otV m h b hh).l ub up := by
  have hl : (bvs h).length = 32 := by simp [bvs, hh]
  have h2 : (bvs m.h).length = 32 := by simp [bvs, m.hh]
  have e : (bvs m.h ++ [ub, up]).drop 32 = [ub, up] := by rw [← h2, List.drop_left]
  rw [hl]
  simp only [Vt.l, wrV, otV, List.take_succ_cons, List.take_zero, List.drop_succ_cons]
  rw [e]
  rfl
end Go.V
namespace Go.Proofs.Ytkoncjcnpconkaa
open Go.RowKit Go.V
theorem long_wr {m : Vt} (h : longV m = false) : longV (wrV m) = false := by
  obtain ⟨h1, _, _⟩ := longV_bd h
  exact longV_f (by show ¬ 500 < m.b.length; omega) (by show ¬ 20 < 0; omega) (fun t ht => by cases ht)
theorem long_ot {m : Vt} {h b : List UInt8} {hh : h.length = 32} (hb : b.length ≤ 500) : longV (otV m h b hh) = false :=
  longV_f (by show ¬ 500 < b.length; omega) (by show ¬ 20 < 0; omega) (fun t ht => by cases ht)
theorem err_wr {m : Vt} (h : longV m = false) : errV (wrV m) = if partsV (wrV m) then 0 else 15 := by
  have := len_vby (long_wr h)
  unfold errV
  rw [if_neg (show ¬ 16 < (wrV m).ps.length by show ¬ 16 < 0; omega), if_neg (by omega)]
theorem parts_ot {m : Vt} {h b : List UInt8} {hh : h.length = 32} (hp : partsV (wrV m) = true) : partsV (otV m h b hh) = true := by
  unfold partsV at hp ⊢
  rw [decide_eq_true_iff] at hp ⊢
  obtain ⟨_, h2, h3, h4, _⟩ := hp
  exact ⟨⟨by show (1 : Int) ≤ 2; omega, by show (2 : Int) ≤ 3; omega⟩, h2, h3, h4, fun e => absurd e (by show ¬ (2 : Int) = 1; omega), .inr rfl⟩
theorem err_ot {m : Vt} {h b : List UInt8} {hh : h.length = 32} (hb : b.length ≤ 500) (hp : partsV (wrV m) = true) : errV (otV m h b hh) = 0 := by
  have := len_vby (long_ot (m := m) (h := h) (b := b) (hh := hh) hb)
  unfold errV
  rw [if_neg (show ¬ 16 < (otV m h b hh).ps.length by show ¬ 16 < 0; omega), if_neg (by omega), if_pos (parts_ot hp)]
theorem slot_wr {m : Vt} (hs : 0 ≤ m.s) : slotF [wrV m] = m.s := by
  show slotS 0 (wrV m) = m.s
  unfold slotS
  split
  · rfl
  · next h => have : ¬ 0 < m.s := fun e => h ⟨by show (1 : Int) < 2; omega, e⟩
              omega
theorem take_ot {m : Vt} {h b : List UInt8} {hh : h.length = 32} (hb : b.length ≤ 500) (hp : partsV (wrV m) = true) : takeF [wrV m] (otV m h b hh) = 0 := by
  have hs : 0 ≤ m.s := (fine_of hp).s
  unfold takeF
  rw [if_neg (by rw [err_ot hb hp]; simp), if_neg (by rw [slot_wr hs]; rintro ⟨_, h⟩; exact absurd h (by show ¬ m.s < m.s; omega))]
theorem wrote_ot {m : Vt} {h b : List UInt8} {hh : h.length = 32} (hp : partsV (wrV m) = true) : wroteF ([wrV m] ++ [otV m h b hh]) m.v m.r = some (wrV m) := by
  have hs : 0 ≤ m.s := (fine_of hp).s
  have e : slotF ([wrV m] ++ [otV m h b hh]) = m.s := by
    rw [slotF_snoc, slot_wr hs]
    exact if_neg (by rintro ⟨_, h⟩; exact absurd h (by show ¬ m.s < m.s; omega))
  unfold wroteF
  rw [e]
  show List.find? _ [wrV m, otV m h b hh] = _
  rw [List.find?_cons, show isW m.s m.v m.r (wrV m) = true from isW_mk rfl rfl rfl rfl]
theorem take_wr {m : Vt} (h : longV m = false) : takeF [] (wrV m) = if partsV (wrV m) then 0 else 15 := by
  unfold takeF
  rw [err_wr h]
  cases hp : partsV (wrV m) with
  | false => rfl
  | true =>
    have hs : 0 ≤ m.s := (fine_of hp).s
    rw [if_neg (by simp), if_neg (by rintro ⟨_, h⟩; exact absurd h (by show ¬ m.s < 0; omega)), if_pos rfl]
end Go.Proofs.Ytkoncjcnpconkaa
