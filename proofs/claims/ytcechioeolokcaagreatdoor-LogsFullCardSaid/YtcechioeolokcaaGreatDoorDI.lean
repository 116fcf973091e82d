/- DI: layer 10: what holds of a disk behind i acts. -/
import Derived.Test.YtcechioeolokcaaGreatDoorDU
import Derived.Test.YtcechioeolokcaaGreatDoorFA
namespace Go.V
open Go.RowKit
theorem room_bd (x : Int) : 0 ≤ roomF x ∧ roomF x ≤ 1048576 := by
  unfold roomF
  split
  · omega
  · split <;> omega
theorem room_le {x : Int} (h : 0 ≤ x) : roomF x ≤ x := by
  unfold roomF
  split
  · omega
  · split <;> omega
structure InvD (x : Int) (i : Nat) (D : Dk) : Prop where
  room : D.room = roomF x
  n : mN D ≤ i
  t : mT D ≤ 300 * i
  fuse : i64R D.fuse
  uq : uq D.syn
theorem InvD.new (x : Int) : InvD x 0 ⟨roomF x, [], [], -1, false⟩ :=
  ⟨rfl, Nat.le_refl _, Nat.le_refl _, ⟨by show (-9223372036854775808 : Int) ≤ -1; omega, by show (-1 : Int) ≤ 9223372036854775807; omega⟩, by unfold Go.V.uq; simp⟩
theorem InvD.mono {x : Int} {i j : Nat} {D : Dk} (h : InvD x i D) (hi : i ≤ j) : InvD x j D :=
  ⟨h.room, Nat.le_trans h.n hi, by have := h.t; omega, h.fuse, h.uq⟩
theorem InvD.step {x : Int} {i : Nat} {D : Dk} {a : Ac} (h : InvD x i D) (hb : a.b.length ≤ 300) (hm : i64R a.m) : InvD x (i + 1) (doF D a).1 := by
  obtain ⟨h1, h2⟩ := do_bd D a
  obtain ⟨h3, h4⟩ := dk_fuse D a h.fuse hm
  have h5 := h.n
  have h6 := h.t
  exact ⟨h4.trans h.room, by omega, by omega, h3, do_uq D a h.uq⟩
theorem InvD.sm {x : Int} {i : Nat} {D : Dk} (h : InvD x i D) (hi : i ≤ 1000) : DkSm D := by
  have h1 := room_bd x
  have h2 := h.room
  have h3 := h.n
  have h4 := h.t
  exact dk_sm (by omega) (by omega) (by omega) h.fuse
theorem AcIn.sm {a : Ac} (h : AcIn a) (hb : a.b.length ≤ 300) : AcSm a :=
  ⟨by omega, h.keep, h.cut, h.m, h.n, h.t⟩
theorem nowLen (D : Dk) : (nowF D).length ≤ mN D ∧ tot (nowF D) ≤ mT D := now_bd D.pend D.syn
theorem tot_snoc {l : List Fl} {i : Nat} {f : Fl} (h : l[i]? = some f) : tot (l.take (i + 1)) = tot (l.take i) + f.b.length := by
  rw [take_snocF h, tot_app, tot_one]
end Go.V
