/- J2: layer 13: contracts of the document's Parts, Slot, Reg, Wrote. -/
import Derived.Test.YtkoncjcnpconkaaJ0
import Derived.Test.YtkoncjcnpconkaaD1
namespace Go.V
open Go.RowKit
theorem take_snocV {l : List Vt} {i : Nat} {r : Vt} (h : l[i]? = some r) : l.take (i + 1) = l.take i ++ [r] := by
  rw [List.take_add_one, h]; rfl
theorem find_at {α : Type} {p : α → Bool} : ∀ {l : List α} {i : Nat} {x : α}, l[i]? = some x → p x = true → (∀ (j : Nat) (y : α), j < i → l[j]? = some y → p y = false) → l.find? p = some x
  | [], i, x, h, _, _ => by simp at h
  | y :: l, 0, x, h, hp, _ => by simp at h; subst h; simp [List.find?, hp]
  | y :: l, i + 1, x, h, hp, ha => by
    have h0 := ha 0 y (by omega) rfl
    rw [List.find?_cons_of_neg (by simp [h0])]
    exact find_at (by simpa using h) hp (fun j z hj hz => ha (j + 1) z (by omega) (by simpa using hz))
theorem find_no {α : Type} {p : α → Bool} {l : List α} (h : ∀ (j : Nat) (y : α), l[j]? = some y → p y = false) : l.find? p = none := by
  rw [List.find?_eq_none]
  intro x hx
  obtain ⟨j, hj⟩ := List.mem_iff_getElem?.1 hx
  simp [h j x hj]
end Go.V
namespace Go.Proofs.Ytkoncjcnpconkaa
open Go.RowKit Go.V
def zVl : List Value := .int .i64 0 :: .int .i64 0 :: .int .i64 0 :: .int .i64 0 :: (zs8 32 ++ [.slice none 0 0, .slice none 0 0])
theorem zV_l : zV.l (.slice none 0 0) (.slice none 0 0) = zVl := rfl
theorem one_zVl : ∀ v ∈ zVl, v.oneCell' = true := fun v hv => by rw [← zV_l] at hv; exact one_vt v hv
theorem len_zVl : zVl.length = 38 := by simp [zVl, zs8]
theorem eqZ13 (p : List UInt8) (hp : p.length = 32) : ∀ W : World, (Op.equalIn 10000 23 (.agg (bvs p).toArray) (.agg (zs8 32).toArray)).run Try.prog W = .ok (decide (p = zH)) W := fun W => by
  have := run_equalIn_bytes (P := Try.prog) W 9998 23 5 32 Try.underlying23 Try.underlying5 Try.sizeOf5 p zH hp rfl
  rw [show (p == zH) = decide (p = zH) from by rw [Bool.eq_iff_iff]; simp] at this
  exact this
theorem bldH13 : ∀ W : World, (Instr.build 23 #[]).run Try.prog W = .ok (.agg (zs8 32).toArray) W := fun _ => by kernel_rfl
theorem bldV13 : ∀ W : World, (Instr.build 27 #[]).run Try.prog W = .ok (.agg zVl.toArray) W := fun _ => by kernel_rfl
theorem zeroV13 : (Try.prog.info? 27).map (·.zero) = some (some (.agg zVl.toArray)) := by kernel_rfl
theorem slV13 : SlW Try.prog 30 27 zVl 38 112 := .of Try.underlying30 (by kernel_rfl) (by simp [zVl, zs8]) (by omega) (by omega)
set_option maxRecDepth 100000 in
set_option maxHeartbeats 4000000 in
theorem parts13_any (m : Vt) (ub up : Value) (F1 F2 : Nat → Prop) (w : World) (hub : Rd w F1 ub (bys m.b)) (hup : Rd w F2 up (tx m.ps)) :
    Calls Try.prog 22 #[m.val ub up] w fun e w' => e = .returned (.bool (partsV m)) ∧ Below w.heap.size w w' := by
  obtain ⟨AB, cb, rfl⟩ := hub.shape
  obtain ⟨AP, cpp, rfl, _, _⟩ := hup.slShape
  unfold Vt.val
  have hh := m.hh
  have hvb := Blk.new' w 27 (m.l (.slice AB m.b.length cb) (.slice AP m.ps.length cpp))
  have hB : Below w.heap.size w (w.alloc (.cells (m.l (.slice AB m.b.length cb) (.slice AP m.ps.length cpp)).toArray 27)) := (Below.refl _ _).alloc (Nat.le_refl _) _
  have c0 := hvb.cellAt 0 _ rfl
  have c1 := hvb.cellAt 1 _ rfl
  have c2 := hvb.cellAt 2 _ rfl
  have c3 := hvb.cellAt 3 _ rfl
  obtain ⟨q, hq⟩ : ∃ q, q = partsV m := ⟨_, rfl⟩
  rw [← hq]
  unfold partsV at hq
  have Hq0 := hid hq
  clear hq
  by_cases n1 : m.k < 1
  · have hq : q = false := by rw [Hq0.out, decide_eq_false_iff_not]; rintro ⟨h1, h2, h3, h4, _⟩; omega
    subst hq
    go_enter Try.func22, Try.ntmps22
    go_wp2
    go_ret
    exact ⟨rfl, hB⟩
  by_cases n2 : 3 < m.k
  · have hq : q = false := by rw [Hq0.out, decide_eq_false_iff_not]; rintro ⟨h1, h2, h3, h4, _⟩; omega
    subst hq
    go_enter Try.func22, Try.ntmps22
    go_wp2
    go_ret
    exact ⟨rfl, hB⟩
  by_cases n3 : m.v < 0
  · have hq : q = false := by rw [Hq0.out, decide_eq_false_iff_not]; rintro ⟨h1, h2, h3, h4, _⟩; omega
    subst hq
    go_enter Try.func22, Try.ntmps22
    go_wp2
    go_ret
    exact ⟨rfl, hB⟩
  by_cases n4 : 60 < m.v
  · have hq : q = false := by rw [Hq0.out, decide_eq_false_iff_not]; rintro ⟨h1, h2, h3, h4, _⟩; omega
    subst hq
    go_enter Try.func22, Try.ntmps22
    go_wp2
    go_ret
    exact ⟨rfl, hB⟩
  by_cases n5 : m.r < 0
  · have hq : q = false := by rw [Hq0.out, decide_eq_false_iff_not]; rintro ⟨h1, h2, h3, h4, _⟩; omega
    subst hq
    go_enter Try.func22, Try.ntmps22
    go_wp2
    go_ret
    exact ⟨rfl, hB⟩
  by_cases n6 : 40 < m.r
  · have hq : q = false := by rw [Hq0.out, decide_eq_false_iff_not]; rintro ⟨h1, h2, h3, h4, _⟩; omega
    subst hq
    go_enter Try.func22, Try.ntmps22
    go_wp2
    go_ret
    exact ⟨rfl, hB⟩
  by_cases n7 : m.s < 0
  · have hq : q = false := by rw [Hq0.out, decide_eq_false_iff_not]; rintro ⟨h1, h2, h3, h4, _⟩; omega
    subst hq
    go_enter Try.func22, Try.ntmps22
    go_wp2
    go_ret
    exact ⟨rfl, hB⟩
  by_cases n8 : 60 < m.s
  · have hq : q = false := by rw [Hq0.out, decide_eq_false_iff_not]; rintro ⟨h1, h2, h3, h4, _⟩; omega
    subst hq
    go_enter Try.func22, Try.ntmps22
    go_wp2
    go_ret
    exact ⟨rfl, hB⟩
  have c36 := hvb.cellAt 36 _ (vt_body hh _ _)
  have c37 := hvb.cellAt 37 _ (vt_parts hh _ _)
  have r4 := hvb.range 4 (bvs m.h) (vt_hash hh _ _)
  have heq := eqZ13 m.h hh
  obtain ⟨zz, hzz⟩ : ∃ zz : Bool, zz = decide (m.h = zH) := ⟨_, rfl⟩
  rw [← hzz] at heq
  have Hzz := hid hzz
  clear hzz
  have hlen : (bvs m.h).length = 32 := by rw [len_bvs, hh]
  have hq : q = decide ((m.k = 1 → m.s ≤ 0 ∧ m.h = zH ∧ m.b.length = 0) ∧ (m.k = 3 ∨ m.ps.length = 0)) := by
    rw [Hq0.out]
    by_cases h : ((m.k = 1 → m.s ≤ 0 ∧ m.h = zH ∧ m.b.length = 0) ∧ (m.k = 3 ∨ m.ps.length = 0))
    · rw [decide_eq_true h, decide_eq_true ⟨⟨by omega, by omega⟩, ⟨by omega, by omega⟩, ⟨by omega, by omega⟩, ⟨by omega, by omega⟩, h.1, h.2⟩]
    · rw [decide_eq_false h, decide_eq_false (fun x => h ⟨x.2.2.2.2.1, x.2.2.2.2.2⟩)]
  have Hq1 := hid hq
  clear hq
  go_enter Try.func22, Try.ntmps22
  go_wp2_with (first | refine wp_ld 23 (.tmp 42) rfl rfl rfl r4 Try.underlying23 rfl (by rw [hlen]; exact size25) ?_ | refine wp_bld 23 [] rfl rfl [] rfl bldH13 ?_ | (with_reducible refine wp_at 45 rfl ?_))
  by_cases hk1 : m.k = 1
  · have kk1 : (m.k == 1) = true := beq_iff_eq.2 hk1
    have kk3 : (m.k == 3) = false := beq_eq_false_iff_ne.2 (by omega)
    by_cases hs : 0 < m.s
    · have hq : q = false := by rw [Hq1.out, decide_eq_false_iff_not]; intro h; have := (h.1 hk1).1; omega
      subst hq
      clear hk1
      refine wp_on ?_
      go_wp2
      go_ret
      exact ⟨rfl, hB⟩
    by_cases hz : m.h = zH
    case neg =>
      have hq : q = false := by rw [Hq1.out, decide_eq_false_iff_not]; intro h; exact hz (h.1 hk1).2.1
      have hz2 : zz = false := by rw [Hzz.out, decide_eq_false hz]
      subst hz2
      subst hq
      clear hk1 hz
      refine wp_on ?_
      go_wp2
      go_ret
      exact ⟨rfl, hB⟩
    have hz2 : zz = true := by rw [Hzz.out, decide_eq_true hz]
    subst hz2
    have Hz := hid hz
    by_cases hb : 0 < m.b.length
    · have hI : (0 : Int) < (m.b.length : Int) := by omega
      have hq : q = false := by rw [Hq1.out, decide_eq_false_iff_not]; intro h; have := (h.1 hk1).2.2; omega
      subst hq
      clear hk1 hz
      refine wp_on ?_
      go_wp2
      go_ret
      exact ⟨rfl, hB⟩
    have hI : ¬ (0 : Int) < (m.b.length : Int) := by omega
    have hq : q = ((m.ps.length : Int) == 0) := by
      rw [Hq1.out]
      by_cases hp : m.ps.length = 0
      · rw [decide_eq_true ⟨fun _ => ⟨by omega, hz, by omega⟩, .inr hp⟩, hp]; rfl
      · rw [decide_eq_false (by rintro ⟨_, h | h⟩ <;> omega)]
        exact (beq_eq_false_iff_ne.2 (by omega)).symm
    have Hq := hid hq
    clear hk1 hz hq
    refine wp_on ?_
    go_wp2
    go_ret
    exact ⟨by rw [Hq.out]; rfl, hB⟩
  have kk1 : (m.k == 1) = false := beq_eq_false_iff_ne.2 hk1
  by_cases hk3 : m.k = 3
  · have kk3 : (m.k == 3) = true := beq_iff_eq.2 hk3
    have hq : q = true := by rw [Hq1.out, decide_eq_true_iff]; exact ⟨fun h => absurd h hk1, .inl hk3⟩
    subst hq
    clear hk1 hk3
    refine wp_on ?_
    go_wp2
    go_ret
    exact ⟨rfl, hB⟩
  have kk3 : (m.k == 3) = false := beq_eq_false_iff_ne.2 hk3
  have hq : q = ((m.ps.length : Int) == 0) := by
    rw [Hq1.out]
    by_cases hp : m.ps.length = 0
    · rw [decide_eq_true ⟨fun h => absurd h hk1, .inr hp⟩, hp]; rfl
    · rw [decide_eq_false (by rintro ⟨_, h | h⟩ <;> omega)]
      exact (beq_eq_false_iff_ne.2 (by omega)).symm
  have Hq := hid hq
  clear hk1 hk3 hq
  refine wp_on ?_
  go_wp2
  go_ret
  exact ⟨by rw [Hq.out]; rfl, hB⟩
end Go.Proofs.Ytkoncjcnpconkaa
