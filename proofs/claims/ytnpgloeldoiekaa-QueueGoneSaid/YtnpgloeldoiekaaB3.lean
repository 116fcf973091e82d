/- B3: layer 16: the law's acts in memory. -/
import Derived.Test.YtnpgloeldoiekaaB1
import Derived.Test.YtnpgloeldoiekaaLW
namespace Go.Proofs.Ytnpgloeldoiekaa
open Go.RowKit Go.V
structure Aq where
  k : Int
  r : Rq
  a : List Rp
  ha : a.length = 6
def Aq.l (x : Aq) (u : Value) : List Value := .int .i64 x.k :: (x.r.l u ++ ras x.a)
def aqDat (x : Aq) : List Dat := .atom (.int .i64 x.k) :: (rqD x.r ++ (ras x.a).map Dat.atom)
theorem len_aqDat (x : Aq) : (aqDat x).length = 38 := by
  unfold aqDat
  rw [List.length_cons, List.length_append, List.length_map, len_ras, x.ha, len_rqD]
def aqD : WD Aq 38 := ⟨aqDat, len_aqDat, by omega⟩
theorem len_aq (x : Aq) (u : Value) : (x.l u).length = 38 := by
  unfold Aq.l
  rw [List.length_cons, List.length_append, len_ras, x.ha, len_l]
theorem aq_one (x : Aq) (A : Option Addr) (n c : Nat) : ∀ v ∈ x.l (.slice A n c), v.oneCell' = true := by
  intro v hv
  unfold Aq.l at hv
  rcases List.mem_cons.1 hv with rfl | hv
  · rfl
  · rcases List.mem_append.1 hv with hv | hv
    · exact one_rq16 x.r A n c v hv
    · exact one_ras _ v hv
theorem aq_open {w : World} {F : Nat → Prop} {x : Aq} {cs : List Value} (h : WdEl w F aqD x cs) : ∃ u, cs = x.l u ∧ Rd w F u (bys x.r.g) := by
  obtain ⟨hl, ha⟩ := h
  obtain ⟨u, hu⟩ : ∃ u, cs[7]? = some u := ⟨_, List.getElem?_eq_getElem (by omega)⟩
  refine ⟨u, ?_, ha 7 u _ hu rfl⟩
  apply List.ext_getElem?
  intro j
  by_cases hj : j < 38
  · obtain ⟨c, hc⟩ : ∃ c, cs[j]? = some c := ⟨_, List.getElem?_eq_getElem (by omega)⟩
    by_cases h7 : j = 7
    · subst h7
      rw [hu]
      rfl
    · have hz : ∃ z, (aqDat x)[j]? = some (.atom z) ∧ (x.l u)[j]? = some z := by
        match j, h7 with
        | 0, _ => exact ⟨_, rfl, rfl⟩
        | 1, _ => exact ⟨_, rfl, rfl⟩
        | 2, _ => exact ⟨_, rfl, rfl⟩
        | 3, _ => exact ⟨_, rfl, rfl⟩
        | 4, _ => exact ⟨_, rfl, rfl⟩
        | 5, _ => exact ⟨_, rfl, rfl⟩
        | 6, _ => exact ⟨_, rfl, rfl⟩
        | q + 8, _ =>
          obtain ⟨z, hz⟩ : ∃ z, (ras x.a)[q]? = some z := ⟨_, List.getElem?_eq_getElem (by rw [len_ras, x.ha]; omega)⟩
          refine ⟨z, ?_, hz⟩
          show ((ras x.a).map Dat.atom)[q]? = _
          rw [List.getElem?_map, hz]
          rfl
      obtain ⟨z, h1, h2⟩ := hz
      have := ha j c _ hc h1
      unfold Rd at this
      rw [hc, h2, this]
  · rw [List.getElem?_eq_none (by omega), List.getElem?_eq_none (by rw [len_aq]; omega)]
theorem aq_mk {w : World} {F : Nat → Prop} {x : Aq} {u : Value} (hu : Rd w F u (bys x.r.g)) : WdEl w F aqD x (x.l u) := by
  refine ⟨len_aq x u, fun j v d hv hd => ?_⟩
  match j with
  | 0 => simp [Aq.l] at hv; simp [aqD, aqDat] at hd; subst hv hd; unfold Rd; rfl
  | 1 => simp [Aq.l, Rq.l] at hv; simp [aqD, aqDat, rqD] at hd; subst hv hd; unfold Rd; rfl
  | 2 => simp [Aq.l, Rq.l] at hv; simp [aqD, aqDat, rqD] at hd; subst hv hd; unfold Rd; rfl
  | 3 => simp [Aq.l, Rq.l] at hv; simp [aqD, aqDat, rqD] at hd; subst hv hd; unfold Rd; rfl
  | 4 => simp [Aq.l, Rq.l] at hv; simp [aqD, aqDat, rqD] at hd; subst hv hd; unfold Rd; rfl
  | 5 => simp [Aq.l, Rq.l] at hv; simp [aqD, aqDat, rqD] at hd; subst hv hd; unfold Rd; rfl
  | 6 => simp [Aq.l, Rq.l] at hv; simp [aqD, aqDat, rqD] at hd; subst hv hd; unfold Rd; rfl
  | 7 => simp [Aq.l, Rq.l] at hv; simp [aqD, aqDat, rqD] at hd; subst hv hd; exact hu
  | q + 8 =>
    have hv : (ras x.a)[q]? = some v := hv
    have hd : ((ras x.a).map Dat.atom)[q]? = some d := hd
    rw [List.getElem?_map, hv] at hd
    injection hd with hd
    subst hd
    unfold Rd
    rfl
/-- its request and its replies, in a block that holds it -/
theorem aq_req (x : Aq) (u : Value) : ∀ j v, (x.r.l u)[j]? = some v → (x.l u)[1 + j]? = some v := fun j v hv => by
  rw [Nat.add_comm]
  show (x.r.l u ++ ras x.a)[j]? = _
  rw [List.getElem?_append_left (List.getElem?_eq_some_iff.1 hv).1]
  exact hv
theorem aq_last (x : Aq) (u : Value) : ∀ j v, (ras x.a)[j]? = some v → (x.l u)[8 + j]? = some v := fun j v hv => by
  rw [Nat.add_comm]
  exact hv
def zAq : List Value := Aq.l ⟨0, ⟨0, 0, 0, 0, 0, 0, []⟩, List.replicate 6 ⟨0, 0, 0, false, 0⟩, rfl⟩ (.slice none 0 0)
structure AqIn (x : Aq) : Prop where
  r : in64 x.r.a ∧ in64 x.r.b
  a : ∀ p ∈ x.a, RpIn p
theorem zeroAq : (Try.prog.info? 39).map (·.zero) = some (some (.agg zAq.toArray)) := by kernel_rfl
theorem sizeAq : (Try.prog.info? 39).map (·.size) = some 38 := by kernel_rfl
def longA (l : List Aq) : Bool := decide (60 < l.length ∨ ∃ x ∈ l, 2000 < x.r.g.length)
set_option maxRecDepth 100000 in
set_option maxHeartbeats 2000000 in
theorem long16_any (l : List Aq) (v : Value) (F : Nat → Prop) (w : World) (h : Rd w F v (wds aqD l)) :
    Calls Try.prog 10 #[v] w fun e w' => e = .returned (.bool (longA l)) ∧ Below w.heap.size w w' := by
  obtain ⟨A, c, rfl, _, _⟩ := wds_shape h
  obtain ⟨Z, hZ⟩ : ∃ Z, Z = longA l := ⟨_, rfl⟩
  have HZ : Hid (Z = decide (60 < l.length ∨ ∃ x ∈ l, 2000 < x.r.g.length)) := hZ
  rw [← hZ]
  clear hZ
  go_enter Try.func10, Try.ntmps10
  by_cases h60 : 60 < l.length
  · have hI : (60 : Int) < (l.length : Int) := by omega
    have Hz : Hid (Z = true) := HZ.out.trans (decide_eq_true (.inl h60))
    clear HZ
    go_wp2
    go_ret
    exact ⟨by rw [Hz.out]; rfl, Below.refl _ _⟩
  · have hI : ¬ (60 : Int) < (l.length : Int) := by omega
    go_wp2
    go_loopw [9] (fun iv wr => ∃ i : Nat, i ≤ l.length ∧ iv = .int .i64 i ∧ Hid (∀ j x, j < i → l[j]? = some x → x.r.g.length ≤ 2000) ∧ wr = w) (fun i _ => l.length - (intOf i).toNat)
    case atStart => exact ⟨0, Nat.zero_le _, rfl, hid (fun j x hj => absurd hj (Nat.not_lt_zero _)), rfl⟩
    case round =>
      obtain ⟨i, hi, rfl, hs, rfl⟩ := hrel
      by_cases hlt : i < l.length
      · have hI2 : (i : Int) < (l.length : Int) := by omega
        obtain ⟨x, hx⟩ : ∃ x, l[i]? = some x := ⟨_, List.getElem?_eq_getElem hlt⟩
        obtain ⟨g, off, cs, rfl, _, hrg, hel⟩ := wd_el h hx
        obtain ⟨u, rfl, hu⟩ := aq_open hel
        obtain ⟨Au, cu, rfl⟩ := Rd.shape hu
        have c7 : wr.cell? ⟨g, off + i * 38 + 7, none⟩ = some (.slice Au x.r.g.length cu) := hrg 7 _ rfl
        have Hx := hid hx
        clear hx hrg hel hu
        by_cases h2 : 2000 < x.r.g.length
        · have hI3 : (2000 : Int) < (x.r.g.length : Int) := by omega
          have Hz : Hid (Z = true) := HZ.out.trans (decide_eq_true (.inr ⟨x, List.mem_of_getElem? Hx.out, h2⟩))
          clear HZ
          go_wp2
          go_ret
          exact ⟨by rw [Hz.out]; rfl, Below.refl _ _⟩
        · have hI3 : ¬ (2000 : Int) < (x.r.g.length : Int) := by omega
          have Hs := hid (fun j y (hj : j < i + 1) (hy : l[j]? = some y) => show y.r.g.length ≤ 2000 from by
            rcases Nat.lt_or_ge j i with h' | h'
            · exact hs.out j y h' hy
            · have e : j = i := by omega
              subst e
              have := hy.symm.trans Hx.out
              injection this with this
              subst this
              omega)
          go_wp2
          go_roundw
          case rel => exact ⟨i + 1, by omega, by go_num, Hs, by trivial⟩
          case measure => simp [intOf]; omega
      · have hi' : i = l.length := by omega
        subst hi'
        have hI2 : ¬ (l.length : Int) < (l.length : Int) := by omega
        have Hz : Hid (Z = false) := HZ.out.trans (decide_eq_false (fun h' => by
          rcases h' with h' | ⟨x, hx, h'⟩
          · omega
          · obtain ⟨j, hj⟩ := List.mem_iff_getElem?.1 hx
            have hjl : j < l.length := by
              rcases Nat.lt_or_ge j l.length with h | h
              · exact h
              · rw [List.getElem?_eq_none h] at hj; cases hj
            have := hs.out j x hjl hj
            omega))
        clear HZ
        go_wp2
        go_ret
        exact ⟨by rw [Hz.out]; rfl, Below.refl _ _⟩
theorem longA_out {l : List Aq} (h : longA l = false) : l.length ≤ 60 ∧ ∀ x ∈ l, x.r.g.length ≤ 2000 := by
  have := of_decide_eq_false h
  refine ⟨?_, fun x hx => ?_⟩
  · rcases Nat.lt_or_ge 60 l.length with h | h
    · exact absurd (.inl h) this
    · exact h
  · rcases Nat.lt_or_ge 2000 x.r.g.length with h | h
    · exact absurd (.inr ⟨x, hx, h⟩) this
    · exact h
end Go.Proofs.Ytnpgloeldoiekaa
