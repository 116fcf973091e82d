/- YE: layer 8: contracts of wire: formed, bytesOf, Put. -/
import Derived.Test.YthejallmkcohpaaYC
import Derived.Test.YthejallmkcohpaaYD
namespace Go.V
open Go.RowKit
def fx (m : Mg) (i : Nat) : Int := if i = 0 then m.k else if i = 1 then m.f else if i = 2 then m.v else if i = 3 then m.r else m.s
theorem mg_num {m : Mg} (ub up : Value) (i : Nat) (h : i < 5) : (m.l ub up)[i]? = some (.int .i64 (fx m i)) := by
  match i, h with
  | 0, _ => rfl
  | 1, _ => rfl
  | 2, _ => rfl
  | 3, _ => rfl
  | 4, _ => rfl
theorem all5 {p : Nat → Prop} : (∀ j, j < 5 → p j) ↔ p 0 ∧ p 1 ∧ p 2 ∧ p 3 ∧ p 4 := by
  constructor
  · exact fun h => ⟨h 0 (by omega), h 1 (by omega), h 2 (by omega), h 3 (by omega), h 4 (by omega)⟩
  · rintro ⟨h0, h1, h2, h3, h4⟩ j hj
    match j, hj with
    | 0, _ => exact h0
    | 1, _ => exact h1
    | 2, _ => exact h2
    | 3, _ => exact h3
    | 4, _ => exact h4
theorem numB_true {m : Mg} (h : ∀ j, j < 5 → (flo j : Int) ≤ fx m j ∧ fx m j ≤ (fhi j : Int)) : numB m = true := by
  unfold numB
  rw [all5] at h
  simp [flo, fhi, fx] at h
  exact decide_eq_true (by omega)
theorem numB_false {m : Mg} (i : Nat) (hi : i < 5) (h : ¬ ((flo i : Int) ≤ fx m i ∧ fx m i ≤ (fhi i : Int))) : numB m = false := by
  unfold numB
  refine decide_eq_false (fun hn => h ?_)
  have : ∀ j, j < 5 → (flo j : Int) ≤ fx m j ∧ fx m j ≤ (fhi j : Int) := by
    rw [all5]
    simp [flo, fhi, fx]
    omega
  exact this i hi
theorem fx_in {m : Mg} (hm : MgIn m) (i : Nat) : in64w (fx m i) := by
  unfold fx
  repeat' split
  · exact hm.k
  · exact hm.f
  · exact hm.v
  · exact hm.r
  · exact hm.s
theorem own_ch {w0 w : World} {v : Value} {base n : Nat} {e : TypeId} {xs : List Value} (h : w0.ownsRow base e 1 v n xs) (hc : Ch nob w0 w) : w.ownsRow base e 1 v n xs := own_bel h hc.below
/-- 'append(v, s...)', v the call's own, in a region that draws its order -/
theorem step_app1 {P : Program} {w : World} {ops : Array Oper} {o : Oper} {a : Act} {K : Act → World → Prop} {Q : Exit → Act → World → Prop} {E : Prop} (s x : Operand) {t e : TypeId} {z : Value} {by_ : Nat} (ht : SlT P t e z by_) (hgd : o.guard = none)
    (ho : o.op = .call { callee := .builtin .append, args := #[s, x], argTypes := #[t, t] })
    {base : Nat} {v : Value} {n : Nat} {xs : List Value} (hs : a.eval s = v) (hown : w.ownsRow base e 1 v n xs)
    {A : Option Addr} {m c : Nat} {news : List Value} (hx : a.eval x = .slice A m c) (hsrc : Src w A m news) (h1 : ∀ u ∈ news, u.oneCell' = true)
    (h63 : n + m ≤ maxLen) (hb : (n + m) * by_ ≤ 140737488355328) (hbase : base ≤ w.heap.size)
    (h : ∀ v' w', w'.ownsRow base e 1 v' (n + m) (xs ++ news) → w.grownBy w' v.ownBlock → K (a.put o.dst v') w') :
    if Region.wanted o (yielded ops a.tmps) = true then Oper.wp P o a w K Q else E := by
  have hw : Region.wanted o (yielded ops a.tmps) = true := by simp [Region.wanted, hgd]
  rw [if_pos hw]
  obtain ⟨v', w', hr, h2, h3, _⟩ := run_append_src (P := P) base t o.type e z by_ ht v n xs hown A m c news hsrc h1 h63 hb hbase
  unfold Oper.wp execOp
  simp only [ho, resolve, invoke, builtin, Sem.run_bind, Sem.run_pure, Result.andThen_ok, List.map_toArray, List.map_cons, List.map_nil, hs, hx, hr]
  exact h v' w' h2 h3
end Go.V
namespace Go.Proofs.Ythejallmkcohpaa
open Go.RowKit Go.V
theorem okN_fsz (i : Nat) : okN (fsz i : Int) := by
  unfold okN fsz
  split <;> omega
def hp8 (m : Mg) (i : Nat) : List UInt8 := (List.range i).flatMap fun j => fixR (fsz j : Int) (un (fx m j))
theorem hp8_succ (m : Mg) (i : Nat) : hp8 m (i + 1) = hp8 m i ++ fixR (fsz i : Int) (un (fx m i)) := by
  unfold hp8
  rw [List.range_succ, List.flatMap_append, List.flatMap_singleton]
theorem hp8_hd (m : Mg) : hp8 m 5 ++ m.h = Mg.hd m := by
  unfold Mg.hd
  congr 1
theorem len_fixS (i x : Nat) : (fixR (fsz i : Int) x).length = fsz i := fix_len (fsz i) x (okN_fsz i)
theorem len_hp8 (m : Mg) : ∀ i, (hp8 m i).length ≤ 2 * i
  | 0 => by unfold hp8; simp
  | i + 1 => by
    rw [hp8_succ, List.length_append, len_fixS]
    have := len_hp8 m i
    have : fsz i ≤ 2 := by unfold fsz; split <;> omega
    omega
set_option maxRecDepth 100000 in
set_option maxHeartbeats 4000000 in
theorem formed8_any (m : Mg) (ub up : Value) (w : World) (hm : MgIn m) :
    Calls Try.prog 16 #[m.val ub up] w fun e w' => e = .returned (.bool (numB m)) ∧ Below w.heap.size w w' := by
  have hnum := fun i h => mg_num (m := m) ub up i h
  have hfx := fun i => fx_in hm i
  unfold Mg.val
  obtain ⟨l, hl⟩ : ∃ l, l = m.l ub up := ⟨_, rfl⟩
  rw [← hl] at hnum ⊢
  clear hl hm
  have hvb := Blk.new' w 27 l
  have hB : Below w.heap.size w (w.alloc (.cells l.toArray 27)) := (Below.refl _ _).alloc (Nat.le_refl _) _
  have Hnum := hid hnum
  have Hfx := hid hfx
  clear hnum hfx
  go_enter Try.func16, Try.ntmps16
  go_wp2_with (fail)
  obtain ⟨w0, hw0⟩ : ∃ w0, w0 = w.alloc (.cells l.toArray 27) := ⟨_, rfl⟩
  rw [← hw0] at hvb hB ⊢
  clear hw0
  obtain ⟨g, hg⟩ : ∃ g, g = w.heap.size := ⟨_, rfl⟩
  rw [← hg] at hvb ⊢
  clear hg
  refine (fields_any g w0).mono ?_
  rintro e w1 ⟨rfl, hB1⟩
  go_wp2
  go_loopw [6] (fun iv wr => ∃ i : Nat, i ≤ 5 ∧ iv = .int .i64 i ∧ Hid (∀ j, j < i → (flo j : Int) ≤ fx m j ∧ fx m j ≤ (fhi j : Int)) ∧ Below w0.heap.size w0 wr) (fun i _ => 5 - (intOf i).toNat)
  case atStart => exact ⟨0, Nat.zero_le _, rfl, fun j hj => absurd hj (Nat.not_lt_zero _), hB1⟩
  case round =>
    clear hB1
    obtain ⟨i, hi, rfl, hall, hBr⟩ := hrel
    by_cases hlt : i < 5
    · have hI : (i : Int) < 5 := by omega
      obtain ⟨x, hx⟩ : ∃ x, x = fx m i := ⟨_, rfl⟩
      obtain ⟨lo, hlo⟩ : ∃ lo, lo = flo i := ⟨_, rfl⟩
      obtain ⟨hi2, hhi⟩ : ∃ hi2, hi2 = fhi i := ⟨_, rfl⟩
      have hl := Hnum.out i hlt
      rw [← hx] at hl
      have e0 : (fE g i)[0]? = some (.pointer (some ⟨g, i, none⟩)) := rfl
      have e2 : (fE g i)[2]? = some (.int .i64 (lo : Int)) := by rw [hlo]; rfl
      have e3 : (fE g i)[3]? = some (.int .i64 (hi2 : Int)) := by rw [hhi]; rfl
      have Hx := hid hx
      have Hlo := hid hlo
      have Hhi := hid hhi
      clear hx hlo hhi
      go_wp2_with (first | refine wp_idxW 48 (.tmp 5) (.tmp 6) rfl rfl (l := fV g) rfl rfl Try.underlying48 hlt aggF sizeF1 ?_; rw [fV_at g i hlt] | refine wp_newst 47 4 (.tmp 8) rfl rfl rfl rfl rfl rfl zeroF1 (l := fE g i) rfl rfl sizeF1 (one_fE g i) (by simp [Act.put]) ?_; intro w2 hf2 hB2 hs2; refine wp_stop ?_)
      have hB2 := hBr.trans (hB2.mono hBr.size)
      have hv2 := hvb.below hB2
      obtain ⟨gf, hgf⟩ : ∃ gf, gf = wr.heap.size := ⟨_, rfl⟩
      rw [← hgf] at hf2 ⊢
      clear hgf hs2
      have HP : Hid (∀ W, Ch nob w2 W → W.cell? ⟨gf, 0, none⟩ = some (.pointer (some ⟨g, i, none⟩))) := fun W h => (hf2.ch h (fun h => h)).cellAt 0 _ e0
      have HL : Hid (∀ W, Ch nob w2 W → W.cell? ⟨gf, 2, none⟩ = some (.int .i64 (lo : Int))) := fun W h => (hf2.ch h (fun h => h)).cellAt 2 _ e2
      have HH : Hid (∀ W, Ch nob w2 W → W.cell? ⟨gf, 3, none⟩ = some (.int .i64 (hi2 : Int))) := fun W h => (hf2.ch h (fun h => h)).cellAt 3 _ e3
      have HX : Hid (∀ W, Ch nob w2 W → W.cell? ⟨g, i, none⟩ = some (.int .i64 x)) := fun W h => (hv2.ch h (fun h => h)).cellAt i _ hl
      clear e0 e2 e3 hl hf2 hv2
      refine wp_go ?_
      go_upto_region 4 with (fail)
      by_cases h1 : x < (lo : Int)
      · have hres : Hid (numB m = false) := numB_false i hlt (by rw [← Hx.out, ← Hlo.out]; omega)
        refine wp_region_noPanic ?_
        refine wp_region_held_drew (S := Ch nob w2) (by kernel_rfl) ((Ch.refl _ _).drew) (fun hHeld => ?_)
        refine wpAnyH_take (i := 0) (oi := ⟨some 9, _, _, _, _, none⟩) (v := ?_) rfl (by kernel_rfl) (by kernel_rfl) (by kernel_rfl) (fun _ _ _ h => h) (Or.inl ⟨by rfl, ?_⟩) (by assumption) ?_
        rotate_left
        · intro w hSw; go_simp; try with_reducible rfl
        try simp only [Act.put, List.setIfInBounds_toArray, List.set_cons_zero, List.set_cons_succ]
        refine wpAnyH_take (i := 1) (oi := ⟨some 10, _, _, _, _, none⟩) (v := ?_) rfl (by kernel_rfl) (by kernel_rfl) (by kernel_rfl) (fun _ _ _ h => h) (Or.inl ⟨by rfl, ?_⟩) (by assumption) ?_
        rotate_left
        · intro w hSw; have hcw := HP.out w hSw; go_simp; try with_reducible rfl
        try simp only [Act.put, List.setIfInBounds_toArray, List.set_cons_zero, List.set_cons_succ]
        refine wpAnyH_take (i := 2) (oi := ⟨some 11, _, _, _, _, none⟩) (v := ?_) rfl (by kernel_rfl) (by kernel_rfl) (by kernel_rfl) (fun _ _ _ h => h) (Or.inl ⟨by rfl, ?_⟩) (by assumption) ?_
        rotate_left
        · intro w hSw; go_simp; try with_reducible rfl
        try simp only [Act.put, List.setIfInBounds_toArray, List.set_cons_zero, List.set_cons_succ]
        refine wpAnyH_take (i := 3) (oi := ⟨some 12, _, _, _, _, none⟩) (v := ?_) rfl (by kernel_rfl) (by kernel_rfl) (by kernel_rfl) (fun _ _ _ h => h) (Or.inl ⟨by rfl, ?_⟩) (by assumption) ?_
        rotate_left
        · intro w hSw; have hcw := HX.out w hSw; go_simp; try with_reducible rfl
        try simp only [Act.put, List.setIfInBounds_toArray, List.set_cons_zero, List.set_cons_succ]
        refine wpAnyH_take (i := 4) (oi := ⟨some 13, _, _, _, _, none⟩) (v := ?_) rfl (by kernel_rfl) (by kernel_rfl) (by kernel_rfl) (fun _ _ _ h => h) (Or.inl ⟨by rfl, ?_⟩) (by assumption) ?_
        rotate_left
        · intro w hSw; go_simp; try with_reducible rfl
        try simp only [Act.put, List.setIfInBounds_toArray, List.set_cons_zero, List.set_cons_succ]
        refine wpAnyH_take (i := 5) (oi := ⟨some 14, _, _, _, _, none⟩) (v := ?_) rfl (by kernel_rfl) (by kernel_rfl) (by kernel_rfl) (fun _ _ _ h => h) (Or.inl ⟨by rfl, ?_⟩) (by assumption) ?_
        rotate_left
        · intro w hSw; have hcw := HL.out w hSw; go_simp; try with_reducible rfl
        try simp only [Act.put, List.setIfInBounds_toArray, List.set_cons_zero, List.set_cons_succ]
        refine wpAnyH_take (i := 6) (oi := ⟨some 15, _, _, _, _, none⟩) (v := ?_) rfl (by kernel_rfl) (by kernel_rfl) (by kernel_rfl) (fun _ _ _ h => h) (Or.inl ⟨by rfl, ?_⟩) (by assumption) ?_
        rotate_left
        · intro w hSw; go_simp; try with_reducible rfl
        try simp only [Act.put, List.setIfInBounds_toArray, List.set_cons_zero, List.set_cons_succ]
        refine wpAnyH_take (i := 7) (oi := ⟨some 16, _, _, _, _, none⟩) (v := ?_) rfl (by kernel_rfl) (by kernel_rfl) (by kernel_rfl) (fun _ _ _ h => h) (Or.inl ⟨by rfl, ?_⟩) (by assumption) ?_
        rotate_left
        · intro w hSw; go_simp; try with_reducible rfl
        try simp only [Act.put, List.setIfInBounds_toArray, List.set_cons_zero, List.set_cons_succ]
        refine wpAnyH_take (i := 8) (oi := ⟨some 17, _, _, _, _, some (7, false)⟩) (v := undef) rfl (by kernel_rfl) (by kernel_rfl) (by kernel_rfl) (fun _ _ _ h => h) (Or.inr ⟨by rfl, rfl⟩) (by assumption) ?_
        try simp only [Act.put, List.setIfInBounds_toArray, List.set_cons_zero, List.set_cons_succ]
        refine wpAnyH_take (i := 9) (oi := ⟨some 18, _, _, _, _, some (7, false)⟩) (v := undef) rfl (by kernel_rfl) (by kernel_rfl) (by kernel_rfl) (fun _ _ _ h => h) (Or.inr ⟨by rfl, rfl⟩) (by assumption) ?_
        try simp only [Act.put, List.setIfInBounds_toArray, List.set_cons_zero, List.set_cons_succ]
        refine wpAnyH_take (i := 10) (oi := ⟨some 19, _, _, _, _, some (7, false)⟩) (v := undef) rfl (by kernel_rfl) (by kernel_rfl) (by kernel_rfl) (fun _ _ _ h => h) (Or.inr ⟨by rfl, rfl⟩) (by assumption) ?_
        try simp only [Act.put, List.setIfInBounds_toArray, List.set_cons_zero, List.set_cons_succ]
        refine wpAnyH_take (i := 11) (oi := ⟨some 20, _, _, _, _, some (7, false)⟩) (v := undef) rfl (by kernel_rfl) (by kernel_rfl) (by kernel_rfl) (fun _ _ _ h => h) (Or.inr ⟨by rfl, rfl⟩) (by assumption) ?_
        try simp only [Act.put, List.setIfInBounds_toArray, List.set_cons_zero, List.set_cons_succ]
        refine wpAnyH_take (i := 12) (oi := ⟨some 21, _, _, _, _, some (7, false)⟩) (v := undef) rfl (by kernel_rfl) (by kernel_rfl) (by kernel_rfl) (fun _ _ _ h => h) (Or.inr ⟨by rfl, rfl⟩) (by assumption) ?_
        try simp only [Act.put, List.setIfInBounds_toArray, List.set_cons_zero, List.set_cons_succ]
        refine wpAnyH_take (i := 13) (oi := ⟨some 22, _, _, _, _, some (7, false)⟩) (v := undef) rfl (by kernel_rfl) (by kernel_rfl) (by kernel_rfl) (fun _ _ _ h => h) (Or.inr ⟨by rfl, rfl⟩) (by assumption) ?_
        try simp only [Act.put, List.setIfInBounds_toArray, List.set_cons_zero, List.set_cons_succ]
        refine wpAnyH_take (i := 14) (oi := ⟨some 23, _, _, _, _, some (7, false)⟩) (v := undef) rfl (by kernel_rfl) (by kernel_rfl) (by kernel_rfl) (fun _ _ _ h => h) (Or.inr ⟨by rfl, rfl⟩) (by assumption) ?_
        try simp only [Act.put, List.setIfInBounds_toArray, List.set_cons_zero, List.set_cons_succ]
        refine wpAnyH_take (i := 15) (oi := ⟨some 24, _, _, _, _, none⟩) (v := ?_) rfl (by kernel_rfl) (by kernel_rfl) (by kernel_rfl) (fun _ _ _ h => h) (Or.inl ⟨by rfl, ?_⟩) (by assumption) ?_
        rotate_left
        · intro w hSw; go_simp; try with_reducible rfl
        try simp only [Act.put, List.setIfInBounds_toArray, List.set_cons_zero, List.set_cons_succ]
        refine wpAnyH_done (by kernel_rfl) ?_ _
        refine NoPanic.normal ?_
        go_wp2
        go_ret
        exact ⟨by rw [hres.out]; rfl, hB.trans (((hB2.trans (hHeld.below.mono hB2.size))).mono hB.size)⟩
      · by_cases h2 : (hi2 : Int) < x
        · have hres : Hid (numB m = false) := numB_false i hlt (by rw [← Hx.out, ← Hhi.out]; omega)
          refine wp_region_noPanic ?_
          refine wp_region_held_drew (S := Ch nob w2) (by kernel_rfl) ((Ch.refl _ _).drew) (fun hHeld => ?_)
          refine wpAnyH_take (i := 0) (oi := ⟨some 9, _, _, _, _, none⟩) (v := ?_) rfl (by kernel_rfl) (by kernel_rfl) (by kernel_rfl) (fun _ _ _ h => h) (Or.inl ⟨by rfl, ?_⟩) (by assumption) ?_
          rotate_left
          · intro w hSw; go_simp; try with_reducible rfl
          try simp only [Act.put, List.setIfInBounds_toArray, List.set_cons_zero, List.set_cons_succ]
          refine wpAnyH_take (i := 1) (oi := ⟨some 10, _, _, _, _, none⟩) (v := ?_) rfl (by kernel_rfl) (by kernel_rfl) (by kernel_rfl) (fun _ _ _ h => h) (Or.inl ⟨by rfl, ?_⟩) (by assumption) ?_
          rotate_left
          · intro w hSw; have hcw := HP.out w hSw; go_simp; try with_reducible rfl
          try simp only [Act.put, List.setIfInBounds_toArray, List.set_cons_zero, List.set_cons_succ]
          refine wpAnyH_take (i := 2) (oi := ⟨some 11, _, _, _, _, none⟩) (v := ?_) rfl (by kernel_rfl) (by kernel_rfl) (by kernel_rfl) (fun _ _ _ h => h) (Or.inl ⟨by rfl, ?_⟩) (by assumption) ?_
          rotate_left
          · intro w hSw; go_simp; try with_reducible rfl
          try simp only [Act.put, List.setIfInBounds_toArray, List.set_cons_zero, List.set_cons_succ]
          refine wpAnyH_take (i := 3) (oi := ⟨some 12, _, _, _, _, none⟩) (v := ?_) rfl (by kernel_rfl) (by kernel_rfl) (by kernel_rfl) (fun _ _ _ h => h) (Or.inl ⟨by rfl, ?_⟩) (by assumption) ?_
          rotate_left
          · intro w hSw; have hcw := HX.out w hSw; go_simp; try with_reducible rfl
          try simp only [Act.put, List.setIfInBounds_toArray, List.set_cons_zero, List.set_cons_succ]
          refine wpAnyH_take (i := 4) (oi := ⟨some 13, _, _, _, _, none⟩) (v := ?_) rfl (by kernel_rfl) (by kernel_rfl) (by kernel_rfl) (fun _ _ _ h => h) (Or.inl ⟨by rfl, ?_⟩) (by assumption) ?_
          rotate_left
          · intro w hSw; go_simp; try with_reducible rfl
          try simp only [Act.put, List.setIfInBounds_toArray, List.set_cons_zero, List.set_cons_succ]
          refine wpAnyH_take (i := 5) (oi := ⟨some 14, _, _, _, _, none⟩) (v := ?_) rfl (by kernel_rfl) (by kernel_rfl) (by kernel_rfl) (fun _ _ _ h => h) (Or.inl ⟨by rfl, ?_⟩) (by assumption) ?_
          rotate_left
          · intro w hSw; have hcw := HL.out w hSw; go_simp; try with_reducible rfl
          try simp only [Act.put, List.setIfInBounds_toArray, List.set_cons_zero, List.set_cons_succ]
          refine wpAnyH_take (i := 6) (oi := ⟨some 15, _, _, _, _, none⟩) (v := ?_) rfl (by kernel_rfl) (by kernel_rfl) (by kernel_rfl) (fun _ _ _ h => h) (Or.inl ⟨by rfl, ?_⟩) (by assumption) ?_
          rotate_left
          · intro w hSw; go_simp; try with_reducible rfl
          try simp only [Act.put, List.setIfInBounds_toArray, List.set_cons_zero, List.set_cons_succ]
          refine wpAnyH_take (i := 7) (oi := ⟨some 16, _, _, _, _, none⟩) (v := ?_) rfl (by kernel_rfl) (by kernel_rfl) (by kernel_rfl) (fun _ _ _ h => h) (Or.inl ⟨by rfl, ?_⟩) (by assumption) ?_
          rotate_left
          · intro w hSw; go_simp; try with_reducible rfl
          try simp only [Act.put, List.setIfInBounds_toArray, List.set_cons_zero, List.set_cons_succ]
          refine wpAnyH_take (i := 8) (oi := ⟨some 17, _, _, _, _, some (7, false)⟩) (v := ?_) rfl (by kernel_rfl) (by kernel_rfl) (by kernel_rfl) (fun _ _ _ h => h) (Or.inl ⟨by rfl, ?_⟩) (by assumption) ?_
          rotate_left
          · intro w hSw; go_simp; try with_reducible rfl
          try simp only [Act.put, List.setIfInBounds_toArray, List.set_cons_zero, List.set_cons_succ]
          refine wpAnyH_take (i := 9) (oi := ⟨some 18, _, _, _, _, some (7, false)⟩) (v := ?_) rfl (by kernel_rfl) (by kernel_rfl) (by kernel_rfl) (fun _ _ _ h => h) (Or.inl ⟨by rfl, ?_⟩) (by assumption) ?_
          rotate_left
          · intro w hSw; have hcw := HP.out w hSw; go_simp; try with_reducible rfl
          try simp only [Act.put, List.setIfInBounds_toArray, List.set_cons_zero, List.set_cons_succ]
          refine wpAnyH_take (i := 10) (oi := ⟨some 19, _, _, _, _, some (7, false)⟩) (v := ?_) rfl (by kernel_rfl) (by kernel_rfl) (by kernel_rfl) (fun _ _ _ h => h) (Or.inl ⟨by rfl, ?_⟩) (by assumption) ?_
          rotate_left
          · intro w hSw; go_simp; try with_reducible rfl
          try simp only [Act.put, List.setIfInBounds_toArray, List.set_cons_zero, List.set_cons_succ]
          refine wpAnyH_take (i := 11) (oi := ⟨some 20, _, _, _, _, some (7, false)⟩) (v := ?_) rfl (by kernel_rfl) (by kernel_rfl) (by kernel_rfl) (fun _ _ _ h => h) (Or.inl ⟨by rfl, ?_⟩) (by assumption) ?_
          rotate_left
          · intro w hSw; have hcw := HX.out w hSw; go_simp; try with_reducible rfl
          try simp only [Act.put, List.setIfInBounds_toArray, List.set_cons_zero, List.set_cons_succ]
          refine wpAnyH_take (i := 12) (oi := ⟨some 21, _, _, _, _, some (7, false)⟩) (v := ?_) rfl (by kernel_rfl) (by kernel_rfl) (by kernel_rfl) (fun _ _ _ h => h) (Or.inl ⟨by rfl, ?_⟩) (by assumption) ?_
          rotate_left
          · intro w hSw; go_simp; try with_reducible rfl
          try simp only [Act.put, List.setIfInBounds_toArray, List.set_cons_zero, List.set_cons_succ]
          refine wpAnyH_take (i := 13) (oi := ⟨some 22, _, _, _, _, some (7, false)⟩) (v := ?_) rfl (by kernel_rfl) (by kernel_rfl) (by kernel_rfl) (fun _ _ _ h => h) (Or.inl ⟨by rfl, ?_⟩) (by assumption) ?_
          rotate_left
          · intro w hSw; have hcw := HH.out w hSw; go_simp; try with_reducible rfl
          try simp only [Act.put, List.setIfInBounds_toArray, List.set_cons_zero, List.set_cons_succ]
          refine wpAnyH_take (i := 14) (oi := ⟨some 23, _, _, _, _, some (7, false)⟩) (v := ?_) rfl (by kernel_rfl) (by kernel_rfl) (by kernel_rfl) (fun _ _ _ h => h) (Or.inl ⟨by rfl, ?_⟩) (by assumption) ?_
          rotate_left
          · intro w hSw; go_simp; try with_reducible rfl
          try simp only [Act.put, List.setIfInBounds_toArray, List.set_cons_zero, List.set_cons_succ]
          refine wpAnyH_take (i := 15) (oi := ⟨some 24, _, _, _, _, none⟩) (v := ?_) rfl (by kernel_rfl) (by kernel_rfl) (by kernel_rfl) (fun _ _ _ h => h) (Or.inl ⟨by rfl, ?_⟩) (by assumption) ?_
          rotate_left
          · intro w hSw; go_simp; try with_reducible rfl
          try simp only [Act.put, List.setIfInBounds_toArray, List.set_cons_zero, List.set_cons_succ]
          refine wpAnyH_done (by kernel_rfl) ?_ _
          refine NoPanic.normal ?_
          go_wp2
          go_ret
          exact ⟨by rw [hres.out]; rfl, hB.trans (((hB2.trans (hHeld.below.mono hB2.size))).mono hB.size)⟩
        · refine wp_region_noPanic ?_
          refine wp_region_held_drew (S := Ch nob w2) (by kernel_rfl) ((Ch.refl _ _).drew) (fun hHeld => ?_)
          refine wpAnyH_take (i := 0) (oi := ⟨some 9, _, _, _, _, none⟩) (v := ?_) rfl (by kernel_rfl) (by kernel_rfl) (by kernel_rfl) (fun _ _ _ h => h) (Or.inl ⟨by rfl, ?_⟩) (by assumption) ?_
          rotate_left
          · intro w hSw; go_simp; try with_reducible rfl
          try simp only [Act.put, List.setIfInBounds_toArray, List.set_cons_zero, List.set_cons_succ]
          refine wpAnyH_take (i := 1) (oi := ⟨some 10, _, _, _, _, none⟩) (v := ?_) rfl (by kernel_rfl) (by kernel_rfl) (by kernel_rfl) (fun _ _ _ h => h) (Or.inl ⟨by rfl, ?_⟩) (by assumption) ?_
          rotate_left
          · intro w hSw; have hcw := HP.out w hSw; go_simp; try with_reducible rfl
          try simp only [Act.put, List.setIfInBounds_toArray, List.set_cons_zero, List.set_cons_succ]
          refine wpAnyH_take (i := 2) (oi := ⟨some 11, _, _, _, _, none⟩) (v := ?_) rfl (by kernel_rfl) (by kernel_rfl) (by kernel_rfl) (fun _ _ _ h => h) (Or.inl ⟨by rfl, ?_⟩) (by assumption) ?_
          rotate_left
          · intro w hSw; go_simp; try with_reducible rfl
          try simp only [Act.put, List.setIfInBounds_toArray, List.set_cons_zero, List.set_cons_succ]
          refine wpAnyH_take (i := 3) (oi := ⟨some 12, _, _, _, _, none⟩) (v := ?_) rfl (by kernel_rfl) (by kernel_rfl) (by kernel_rfl) (fun _ _ _ h => h) (Or.inl ⟨by rfl, ?_⟩) (by assumption) ?_
          rotate_left
          · intro w hSw; have hcw := HX.out w hSw; go_simp; try with_reducible rfl
          try simp only [Act.put, List.setIfInBounds_toArray, List.set_cons_zero, List.set_cons_succ]
          refine wpAnyH_take (i := 4) (oi := ⟨some 13, _, _, _, _, none⟩) (v := ?_) rfl (by kernel_rfl) (by kernel_rfl) (by kernel_rfl) (fun _ _ _ h => h) (Or.inl ⟨by rfl, ?_⟩) (by assumption) ?_
          rotate_left
          · intro w hSw; go_simp; try with_reducible rfl
          try simp only [Act.put, List.setIfInBounds_toArray, List.set_cons_zero, List.set_cons_succ]
          refine wpAnyH_take (i := 5) (oi := ⟨some 14, _, _, _, _, none⟩) (v := ?_) rfl (by kernel_rfl) (by kernel_rfl) (by kernel_rfl) (fun _ _ _ h => h) (Or.inl ⟨by rfl, ?_⟩) (by assumption) ?_
          rotate_left
          · intro w hSw; have hcw := HL.out w hSw; go_simp; try with_reducible rfl
          try simp only [Act.put, List.setIfInBounds_toArray, List.set_cons_zero, List.set_cons_succ]
          refine wpAnyH_take (i := 6) (oi := ⟨some 15, _, _, _, _, none⟩) (v := ?_) rfl (by kernel_rfl) (by kernel_rfl) (by kernel_rfl) (fun _ _ _ h => h) (Or.inl ⟨by rfl, ?_⟩) (by assumption) ?_
          rotate_left
          · intro w hSw; go_simp; try with_reducible rfl
          try simp only [Act.put, List.setIfInBounds_toArray, List.set_cons_zero, List.set_cons_succ]
          refine wpAnyH_take (i := 7) (oi := ⟨some 16, _, _, _, _, none⟩) (v := ?_) rfl (by kernel_rfl) (by kernel_rfl) (by kernel_rfl) (fun _ _ _ h => h) (Or.inl ⟨by rfl, ?_⟩) (by assumption) ?_
          rotate_left
          · intro w hSw; go_simp; try with_reducible rfl
          try simp only [Act.put, List.setIfInBounds_toArray, List.set_cons_zero, List.set_cons_succ]
          refine wpAnyH_take (i := 8) (oi := ⟨some 17, _, _, _, _, some (7, false)⟩) (v := ?_) rfl (by kernel_rfl) (by kernel_rfl) (by kernel_rfl) (fun _ _ _ h => h) (Or.inl ⟨by rfl, ?_⟩) (by assumption) ?_
          rotate_left
          · intro w hSw; go_simp; try with_reducible rfl
          try simp only [Act.put, List.setIfInBounds_toArray, List.set_cons_zero, List.set_cons_succ]
          refine wpAnyH_take (i := 9) (oi := ⟨some 18, _, _, _, _, some (7, false)⟩) (v := ?_) rfl (by kernel_rfl) (by kernel_rfl) (by kernel_rfl) (fun _ _ _ h => h) (Or.inl ⟨by rfl, ?_⟩) (by assumption) ?_
          rotate_left
          · intro w hSw; have hcw := HP.out w hSw; go_simp; try with_reducible rfl
          try simp only [Act.put, List.setIfInBounds_toArray, List.set_cons_zero, List.set_cons_succ]
          refine wpAnyH_take (i := 10) (oi := ⟨some 19, _, _, _, _, some (7, false)⟩) (v := ?_) rfl (by kernel_rfl) (by kernel_rfl) (by kernel_rfl) (fun _ _ _ h => h) (Or.inl ⟨by rfl, ?_⟩) (by assumption) ?_
          rotate_left
          · intro w hSw; go_simp; try with_reducible rfl
          try simp only [Act.put, List.setIfInBounds_toArray, List.set_cons_zero, List.set_cons_succ]
          refine wpAnyH_take (i := 11) (oi := ⟨some 20, _, _, _, _, some (7, false)⟩) (v := ?_) rfl (by kernel_rfl) (by kernel_rfl) (by kernel_rfl) (fun _ _ _ h => h) (Or.inl ⟨by rfl, ?_⟩) (by assumption) ?_
          rotate_left
          · intro w hSw; have hcw := HX.out w hSw; go_simp; try with_reducible rfl
          try simp only [Act.put, List.setIfInBounds_toArray, List.set_cons_zero, List.set_cons_succ]
          refine wpAnyH_take (i := 12) (oi := ⟨some 21, _, _, _, _, some (7, false)⟩) (v := ?_) rfl (by kernel_rfl) (by kernel_rfl) (by kernel_rfl) (fun _ _ _ h => h) (Or.inl ⟨by rfl, ?_⟩) (by assumption) ?_
          rotate_left
          · intro w hSw; go_simp; try with_reducible rfl
          try simp only [Act.put, List.setIfInBounds_toArray, List.set_cons_zero, List.set_cons_succ]
          refine wpAnyH_take (i := 13) (oi := ⟨some 22, _, _, _, _, some (7, false)⟩) (v := ?_) rfl (by kernel_rfl) (by kernel_rfl) (by kernel_rfl) (fun _ _ _ h => h) (Or.inl ⟨by rfl, ?_⟩) (by assumption) ?_
          rotate_left
          · intro w hSw; have hcw := HH.out w hSw; go_simp; try with_reducible rfl
          try simp only [Act.put, List.setIfInBounds_toArray, List.set_cons_zero, List.set_cons_succ]
          refine wpAnyH_take (i := 14) (oi := ⟨some 23, _, _, _, _, some (7, false)⟩) (v := ?_) rfl (by kernel_rfl) (by kernel_rfl) (by kernel_rfl) (fun _ _ _ h => h) (Or.inl ⟨by rfl, ?_⟩) (by assumption) ?_
          rotate_left
          · intro w hSw; go_simp; try with_reducible rfl
          try simp only [Act.put, List.setIfInBounds_toArray, List.set_cons_zero, List.set_cons_succ]
          refine wpAnyH_take (i := 15) (oi := ⟨some 24, _, _, _, _, none⟩) (v := ?_) rfl (by kernel_rfl) (by kernel_rfl) (by kernel_rfl) (fun _ _ _ h => h) (Or.inl ⟨by rfl, ?_⟩) (by assumption) ?_
          rotate_left
          · intro w hSw; go_simp; try with_reducible rfl
          try simp only [Act.put, List.setIfInBounds_toArray, List.set_cons_zero, List.set_cons_succ]
          refine wpAnyH_done (by kernel_rfl) ?_ _
          refine NoPanic.normal ?_
          go_wp2
          go_roundw
          case rel => exact ⟨i + 1, by omega, by go_num, fun j hj => by
            rcases Nat.lt_or_ge j i with h | h
            · exact hall.out j h
            · have : j = i := by omega
              subst this
              rw [← Hx.out, ← Hlo.out, ← Hhi.out]
              omega, hB2.trans (hHeld.below.mono hB2.size)⟩
          case measure => simp [intOf]; omega
    · have hi' : i = 5 := by omega
      subst hi'
      have hI : ¬ (5 : Int) < 5 := by omega
      have hres : Hid (numB m = true) := numB_true hall.out
      go_wp2
      go_ret
      exact ⟨by rw [hres.out]; rfl, hB.trans (hBr.mono hB.size)⟩
set_option maxRecDepth 100000 in
set_option maxHeartbeats 4000000 in
theorem bytesOf_any (m : Mg) (ub up : Value) (F1 F2 : Nat → Prop) (w : World) (hm : MgIn m) (hs : MgSm m) (hub : Rd w F1 ub (bys m.b)) (hup : Rd w F2 up (tx m.ps)) :
    Calls Try.prog 17 #[m.val ub up] w fun e w' => ∃ v', e = .returned v' ∧ NewB w w' v' (Mg.by m) := by
  have hh := hm.h
  have hsz := fun W h1 h2 => size8g_any m ub up F1 F2 W hh hs h1 h2
  have hnum := fun i h => mg_num (m := m) ub up i h
  have hby := len_by2 hh
  obtain ⟨hsb, hsp, hst⟩ := hs
  obtain ⟨AB, cb, rfl⟩ := hub.shape
  obtain ⟨AP, cpp, rfl, _, _⟩ := hup.slShape
  unfold Mg.val at hsz ⊢
  have hpb := psz_bd m.b.length
  have hpp := psz_bd m.ps.length
  have hpg := len_partsG m.ps hst
  obtain ⟨L, hL⟩ : ∃ L, L = (Mg.by m).length := ⟨_, rfl⟩
  rw [← hL] at hsz
  have hLb : L ≤ 1100000000 := by omega
  obtain ⟨l, hl⟩ : ∃ l, l = m.l (.slice AB m.b.length cb) (.slice AP m.ps.length cpp) := ⟨_, rfl⟩
  have h37 : l[37]? = some (.slice AB m.b.length cb) := by rw [hl]; exact mg_body hh _ _
  have h38 : l[38]? = some (.slice AP m.ps.length cpp) := by rw [hl]; exact mg_parts hh _ _
  have hha : ∀ (j : Nat) v, (bvs m.h)[j]? = some v → l[5 + j]? = some v := by rw [hl]; exact mg_hash hh _ _
  have hmn : l.length = 39 := by rw [hl]; exact len_mg hh _ _
  rw [← hl] at hsz hnum ⊢
  have Hmn := hid hmn
  have Hnum := hid hnum
  have Hha := hid hha
  have Hby := hid hby
  clear hl hL hmn hnum hha hby hm
  have hvb := Blk.new' w 27 l
  have hB : Below w.heap.size w (w.alloc (.cells l.toArray 27)) := (Below.refl _ _).alloc (Nat.le_refl _) _
  have hub := hub.below hB
  have hup := hup.below hB
  have Hsz := hid hsz
  clear hsz
  go_enter Try.func17, Try.ntmps17
  go_wp2_with (refine wp_ld 27 (.tmp 1) rfl rfl rfl hvb.whole Try.underlying27 rfl (by rw [Hmn.out]; exact sizeM) ?_)
  obtain ⟨w0, hw0⟩ : ∃ w0, w0 = w.alloc (.cells l.toArray 27) := ⟨_, rfl⟩
  rw [← hw0] at hvb hB hub hup ⊢
  clear hw0
  have hB0 := hB
  have hBs := hB.size
  obtain ⟨g, hg⟩ : ∃ g, g = w.heap.size := ⟨_, rfl⟩
  rw [← hg] at hvb ⊢
  clear hg hB
  refine (Hsz.out _ hub hup).mono ?_
  rintro e w1 ⟨rfl, hB1⟩
  go_wp2_with (refine wp_mk0 slB rfl (.const (.int .i64 0)) (.tmp 9) rfl rfl L rfl rfl (by omega) (by simp only [maxLen]; omega) ?_; intro w2 hro hB2; refine wp_stop ?_)
  have hB2 := hB1.trans (hB2.mono hB1.size)
  have hro : w2.ownsRow w0.heap.size 5 1 (.slice (some ⟨w1.heap.size, 0, none⟩) 0 L) 0 [] := own_weak hro hB1.size
  obtain ⟨g1, hg1⟩ : ∃ g1, g1 = w1.heap.size := ⟨_, rfl⟩
  rw [← hg1] at hro ⊢
  clear hg1 hB1 Hsz
  refine wp_go ?_
  go_wp2_with (fail)
  refine (fields_any g w2).mono ?_
  rintro e w3 ⟨rfl, hB3⟩
  have hro := own_bel hro hB3
  have hB3 := hB2.trans (hB3.mono hB2.size)
  clear hB2
  go_wp2
  go_loopw [3, 12] (fun bv iv wr => ∃ i : Nat, i ≤ 5 ∧ iv = .int .i64 i ∧ wr.ownsRow w0.heap.size 5 1 bv (hp8 m i).length (bvs (hp8 m i)) ∧ Below w0.heap.size w0 wr) (fun _ i _ => 5 - (intOf i).toNat)
  case atStart => exact ⟨0, Nat.zero_le _, rfl, hro, hB3⟩
  case round =>
    clear hro hB3
    obtain ⟨i, hi, rfl, hro, hBr⟩ := hrel
    by_cases hlt : i < 5
    · have hI : (i : Int) < 5 := by omega
      have hpl := len_hp8 m i
      have hsu := hp8_succ m i
      obtain ⟨P, hP⟩ : ∃ P, P = hp8 m i := ⟨_, rfl⟩
      rw [← hP] at hro hpl hsu
      obtain ⟨q, hq⟩ : ∃ q, q = fixR (fsz i : Int) (un (fx m i)) := ⟨_, rfl⟩
      have hql : q.length ≤ 2 := by rw [hq, len_fixS]; unfold fsz; split <;> omega
      obtain ⟨x, hx⟩ : ∃ x, x = fx m i := ⟨_, rfl⟩
      obtain ⟨s, hs⟩ : ∃ s, s = fsz i := ⟨_, rfl⟩
      have hput := fun W => putx_any (.slice none 0 0) [] (un x) (s : Int) nob W (Rd.nil _ _) (un_lt x) (by simp)
      rw [← hq] at hsu
      rw [hx, hs, ← hq, List.nil_append] at hput
      rw [← hx, ← hs] at hput
      have hl := Hnum.out i hlt
      rw [← hx] at hl
      have e0 : (fE g i)[0]? = some (.pointer (some ⟨g, i, none⟩)) := rfl
      have e1 : (fE g i)[1]? = some (.int .i64 (s : Int)) := by rw [hs]; rfl
      have Hsu := hid hsu
      have Hput := hid hput
      have hwx := un_wrap x
      clear hP hq hx hs hsu hput
      go_wp2_with (first | refine wp_idxW 48 (.tmp 11) (.tmp 12) rfl rfl (l := fV g) rfl rfl Try.underlying48 hlt aggF sizeF1 ?_; rw [fV_at g i hlt] | refine wp_newst 47 5 (.tmp 14) rfl rfl rfl rfl rfl rfl zeroF1 (l := fE g i) rfl rfl sizeF1 (one_fE g i) (by simp [Act.put]) ?_; intro w2 hf2 hB2 hs2; refine wp_stop ?_)
      have hro := own_bel hro hB2
      have hB2 := hBr.trans (hB2.mono hBr.size)
      have hv2 := hvb.below hB2
      obtain ⟨gf, hgf⟩ : ∃ gf, gf = wr.heap.size := ⟨_, rfl⟩
      rw [← hgf] at hf2 ⊢
      clear hgf hs2
      have HP : Hid (∀ W, Ch (ownB u3) w2 W → W.cell? ⟨gf, 0, none⟩ = some (.pointer (some ⟨g, i, none⟩))) := fun W h => (hf2.ch h (fun h => blk_row hf2 hro (by decide) h.symm)).cellAt 0 _ e0
      have HS : Hid (∀ W, Ch (ownB u3) w2 W → W.cell? ⟨gf, 1, none⟩ = some (.int .i64 (s : Int))) := fun W h => (hf2.ch h (fun h => blk_row hf2 hro (by decide) h.symm)).cellAt 1 _ e1
      have HX : Hid (∀ W, Ch (ownB u3) w2 W → W.cell? ⟨g, i, none⟩ = some (.int .i64 x)) := fun W h => (hv2.ch h (fun h => blk_row hv2 hro (by decide) h.symm)).cellAt i _ hl
      clear e0 e1 hl
      refine wp_go ?_
      go_upto_region 5 with (fail)
      refine wp_region_noPanic ?_
      refine wp_region_held_drew (S := Ch (ownB u3) w2) (by kernel_rfl) ((Ch.refl _ _).drew) (fun hHeld => ?_)
      refine wpAnyH_take (i := 0) (oi := ⟨some 15, _, _, _, _, none⟩) (v := ?_) rfl (by kernel_rfl) (by kernel_rfl) (by kernel_rfl) (fun _ _ _ h => h) (Or.inl ⟨by rfl, ?_⟩) (by assumption) ?_
      rotate_left
      · intro w hSw; go_simp; try with_reducible rfl
      try simp only [Act.put, List.setIfInBounds_toArray, List.set_cons_zero, List.set_cons_succ]
      refine wpAnyH_take (i := 1) (oi := ⟨some 16, _, _, _, _, none⟩) (v := ?_) rfl (by kernel_rfl) (by kernel_rfl) (by kernel_rfl) (fun _ _ _ h => h) (Or.inl ⟨by rfl, ?_⟩) (by assumption) ?_
      rotate_left
      · intro w hSw; go_simp; try with_reducible rfl
      try simp only [Act.put, List.setIfInBounds_toArray, List.set_cons_zero, List.set_cons_succ]
      refine wpAnyH_take (i := 2) (oi := ⟨some 17, _, _, _, _, none⟩) (v := ?_) rfl (by kernel_rfl) (by kernel_rfl) (by kernel_rfl) (fun _ _ _ h => h) (Or.inl ⟨by rfl, ?_⟩) (by assumption) ?_
      rotate_left
      · intro w hSw; have hcw := HP.out w hSw; go_simp; try with_reducible rfl
      try simp only [Act.put, List.setIfInBounds_toArray, List.set_cons_zero, List.set_cons_succ]
      refine wpAnyH_take (i := 3) (oi := ⟨some 18, _, _, _, _, none⟩) (v := ?_) rfl (by kernel_rfl) (by kernel_rfl) (by kernel_rfl) (fun _ _ _ h => h) (Or.inl ⟨by rfl, ?_⟩) (by assumption) ?_
      rotate_left
      · intro w hSw; go_simp; try with_reducible rfl
      try simp only [Act.put, List.setIfInBounds_toArray, List.set_cons_zero, List.set_cons_succ]
      refine wpAnyH_take (i := 4) (oi := ⟨some 19, _, _, _, _, none⟩) (v := ?_) rfl (by kernel_rfl) (by kernel_rfl) (by kernel_rfl) (fun _ _ _ h => h) (Or.inl ⟨by rfl, ?_⟩) (by assumption) ?_
      rotate_left
      · intro w hSw; have hcw := HX.out w hSw; go_simp; try with_reducible rfl
      try simp only [Act.put, List.setIfInBounds_toArray, List.set_cons_zero, List.set_cons_succ]
      refine wpAnyH_take (i := 5) (oi := ⟨some 20, _, _, _, _, none⟩) (v := ?_) rfl (by kernel_rfl) (by kernel_rfl) (by kernel_rfl) (fun _ _ _ h => h) (Or.inl ⟨by rfl, ?_⟩) (by assumption) ?_
      rotate_left
      · intro w hSw; go_simp; try with_reducible rfl
      try simp only [Act.put, List.setIfInBounds_toArray, List.set_cons_zero, List.set_cons_succ]
      refine wpAnyH_take (i := 6) (oi := ⟨some 21, _, _, _, _, none⟩) (v := ?_) rfl (by kernel_rfl) (by kernel_rfl) (by kernel_rfl) (fun _ _ _ h => h) (Or.inl ⟨by rfl, ?_⟩) (by assumption) ?_
      rotate_left
      · intro w hSw; go_simp; try with_reducible rfl
      try simp only [Act.put, List.setIfInBounds_toArray, List.set_cons_zero, List.set_cons_succ]
      refine wpAnyH_take (i := 7) (oi := ⟨some 22, _, _, _, _, none⟩) (v := ?_) rfl (by kernel_rfl) (by kernel_rfl) (by kernel_rfl) (fun _ _ _ h => h) (Or.inl ⟨by rfl, ?_⟩) (by assumption) ?_
      rotate_left
      · intro w hSw; have hcw := HS.out w hSw; go_simp; try with_reducible rfl
      try simp only [Act.put, List.setIfInBounds_toArray, List.set_cons_zero, List.set_cons_succ]
      refine wpAnyH_ready (rs := [8]) (by kernel_rfl) (by simp) ?_
      refine AllReadyH.cons (o := ⟨some 23, _, _, _, _, none⟩) rfl (fun K hK => ?_) AllReadyH.nil
      go_simp
      refine (Hput.out _).mono ?_
      rintro e' w11 ⟨v11, rfl, ho11, hB11⟩
      obtain ⟨A11, c11, rfl⟩ := own_shape ho11
      have hC11 := hHeld.belowR hB11
      have hr11 := own_bel (w := w2.drew) hro hB11
      refine hK.out _ _ (hC11) (fun hHeld => ?_)
      clear hK K
      try simp only [Act.put, List.setIfInBounds_toArray, List.set_cons_zero, List.set_cons_succ]
      refine wpAnyH_ready (rs := [9]) (by kernel_rfl) (by simp) ?_
      refine AllReadyH.cons (o := ⟨some 24, _, _, _, _, none⟩) rfl (fun K hK => ?_) AllReadyH.nil
      refine step_app1 (.tmp 15) (.tmp 23) slB (by rfl) (by rfl) (by rfl) hr11 (by rfl) (Rd.of_own ho11).src (oneCell_bvs _) (by simp only [maxLen]; omega) (by omega) (Nat.le_trans hB2.size hC11.size) ?_
      intro v12 w12 ho12 hG12
      have hC12 := hC11.grow hG12 (fun k hk => .inl hk)
      refine hK.out _ _ (hC12) (fun hHeld => ?_)
      clear hK K
      try simp only [Act.put, List.setIfInBounds_toArray, List.set_cons_zero, List.set_cons_succ]
      refine wpAnyH_take (i := 10) (oi := ⟨some 3, _, _, _, _, none⟩) (v := ?_) rfl (by kernel_rfl) (by kernel_rfl) (by kernel_rfl) (fun _ _ _ h => h) (Or.inl ⟨by rfl, ?_⟩) (by assumption) ?_
      rotate_left
      · intro w hSw; go_simp; try with_reducible rfl
      try simp only [Act.put, List.setIfInBounds_toArray, List.set_cons_zero, List.set_cons_succ]
      refine wpAnyH_done (by kernel_rfl) ?_ _
      refine NoPanic.normal ?_
      have hro := own_join ho12
      rw [← Hsu.out] at hro
      have hB3 := Ch.below_of hB2 hC12 (fun k hk => (hr11.lt k hk).1) hB2.size
      go_wp2
      go_roundw
      case rel => exact ⟨i + 1, by omega, by go_num, hro, hB3⟩
      case measure => simp [intOf]; omega
    · have hi' : i = 5 := by omega
      subst hi'
      have hI : ¬ (5 : Int) < 5 := by omega
      have hB := hBr
      obtain ⟨P0, hP0, hro⟩ : ∃ P, P = hp8 m 5 ∧ wr.ownsRow w0.heap.size 5 1 u3 P.length (bvs P) := ⟨_, rfl, hro⟩
      have hm0 : P0.length ≤ 10 := by rw [hP0]; exact len_hp8 m 5
      have HP0 := hid hP0
      clear hP0 hBr
      have hv := hvb.below hB
      have hsl := fun W => run_sla_all Try.underlying23 size8 g 5 (by omega) W
      have hsr : Src wr (some ⟨g, 5, none⟩) 32 (bvs m.h) := ⟨by rw [len_bvs, hh], fun j u hu => ⟨g, 5, rfl, hv.cellAt _ u (Hha.out j u hu)⟩⟩
      go_wp2_with (refine wp_app (.tmp 26) (.tmp 28) slB rfl rfl rfl hro rfl hsr (oneCell_bvs _) (by simp only [maxLen]; omega) (by omega) hB.size ?_; intro y1 z1 hro2 hG1 _; refine wp_stop ?_)
      have hB := hB.grown hG1 hB.size (fun k hk => (hro.lt k hk).1)
      rw [show P0.length + 32 = P0.length + m.h.length from by rw [hh]] at hro2
      obtain ⟨P1, hP1, hro⟩ : ∃ P, P = P0 ++ m.h ∧ z1.ownsRow w0.heap.size 5 1 y1 P.length (bvs P) := ⟨_, rfl, own_join hro2⟩
      have hm1 : P1.length ≤ 42 := by rw [hP1, List.length_append, hh]; omega
      have HP1 := hid hP1
      clear hP1 hro2 hG1 hsr hsl hv
      have c37 := (hvb.below hB).cellAt 37 _ h37
      refine wp_go ?_
      go_wp2_with (fail)
      refine (putt_any (.slice none 0 0) _ [] m.b nob F1 _ (Rd.nil _ _) (hub.below hB) (by simp) (by omega)).mono ?_
      rintro e x6 ⟨v6, rfl, ho6, hB6⟩
      rw [List.nil_append] at ho6
      have hro := own_bel hro hB6
      have hB := hB.trans (hB6.mono hB.size)
      obtain ⟨q6, hq6⟩ : ∃ q, q = packed m.b.length ++ m.b := ⟨_, rfl⟩
      have hl6 : q6.length ≤ 1000010 := by rw [hq6]; rw [List.length_append, length_packed]; omega
      rw [← hq6] at ho6
      have Hq6 := hid hq6
      clear hq6 c37
      obtain ⟨A6, k6, rfl⟩ := own_shape ho6
      go_wp2_with (refine wp_app (.tmp 30) (.tmp 33) slB rfl rfl rfl hro rfl (Rd.of_own ho6).src (oneCell_bvs _) (by simp only [maxLen]; omega) (by omega) hB.size ?_; intro y6 z6 hro2 hG6 _; refine wp_stop ?_)
      have hB := hB.grown hG6 hB.size (fun k hk => (hro.lt k hk).1)
      obtain ⟨P6, hP6, hro⟩ : ∃ P, P = P1 ++ q6 ∧ z6.ownsRow w0.heap.size 5 1 y6 P.length (bvs P) := ⟨_, rfl, own_join hro2⟩
      have hm6 : P6.length ≤ 1000052 := by rw [hP6]; rw [List.length_append]; omega
      have HP6 := hid hP6
      clear hP6 hro2 ho6 hB6 hG6
      have c38 := (hvb.below hB).cellAt 38 _ h38
      have hw0 : IntKind.u64.wrap (m.ps.length : Int) = (m.ps.length : Int) := by rw [IntKind.wrap_u64]; omega
      refine wp_go ?_
      go_wp2_with (fail)
      refine (putp_any (.slice none 0 0) [] m.ps.length nob _ (Rd.nil _ _) (by omega) (by simp)).mono ?_
      rintro e x7 ⟨v7, rfl, ho7, hB7⟩
      rw [List.nil_append] at ho7
      have hro := own_bel hro hB7
      have hB := hB.trans (hB7.mono hB.size)
      obtain ⟨q7, hq7⟩ : ∃ q, q = packed m.ps.length := ⟨_, rfl⟩
      have hl7 : q7.length ≤ 10 := by rw [hq7]; rw [length_packed]; omega
      rw [← hq7] at ho7
      have Hq7 := hid hq7
      clear hq7 c38 hw0
      obtain ⟨A7, k7, rfl⟩ := own_shape ho7
      go_wp2_with (refine wp_app (.tmp 35) (.tmp 40) slB rfl rfl rfl hro rfl (Rd.of_own ho7).src (oneCell_bvs _) (by simp only [maxLen]; omega) (by omega) hB.size ?_; intro y7 z7 hro2 hG7 _; refine wp_stop ?_)
      have hB := hB.grown hG7 hB.size (fun k hk => (hro.lt k hk).1)
      obtain ⟨P7, hP7, hro⟩ : ∃ P, P = P6 ++ q7 ∧ z7.ownsRow w0.heap.size 5 1 y7 P.length (bvs P) := ⟨_, rfl, own_join hro2⟩
      have hm7 : P7.length ≤ 1000062 := by rw [hP7]; rw [List.length_append]; omega
      have HP7 := hid hP7
      clear hP7 hro2 ho7 hB7 hG7
      have HPS : Hid (P7 = ((Mg.hd m) ++ (packed m.b.length ++ m.b)) ++ packed m.ps.length) := by
        show _ = _
        rw [HP7.out, HP6.out, HP1.out, HP0.out, Hq6.out, Hq7.out, hp8_hd]
      clear Hq6 Hq7 HP0 HP1 HP6 HP7
      have c38 := (hvb.below hB).cellAt 38 _ h38
      refine wp_go ?_
      go_wp2
      clear c38
      go_loopw [3, 45] (fun bv iv wr => ∃ i : Nat, i ≤ m.ps.length ∧ iv = .int .i64 i ∧ wr.ownsRow w0.heap.size 5 1 bv (P7 ++ (m.ps.take i).flatMap tb1).length (bvs (P7 ++ (m.ps.take i).flatMap tb1)) ∧ Below w0.heap.size w0 wr) (fun _ i _ => m.ps.length - (intOf i).toNat)
      case atStart => exact ⟨0, Nat.zero_le _, rfl, by rw [List.take_zero, List.flatMap_nil, List.append_nil]; exact hro, hB⟩
      case round =>
        clear hro hB
        obtain ⟨i, hi, rfl, hro, hB⟩ := hrel
        by_cases hlt : i < m.ps.length
        · obtain ⟨t, ht⟩ : ∃ t, m.ps[i]? = some t := ⟨_, List.getElem?_eq_getElem hlt⟩
          have hI : (i : Int) < (m.ps.length : Int) := by omega
          obtain ⟨G, off, u, rfl, hG, hcu, hu⟩ := Rd.elem (hup.below hB) i (bys t) (by rw [List.getElem?_map, ht]; rfl)
          obtain ⟨A1, c1, rfl⟩ := hu.shape
          have htl := hst t (List.mem_of_getElem? ht)
          have hlf := len_partsG (m.ps.take i) (fun x hx => hst x (List.mem_of_mem_take hx))
          have Htk := hid (take_snocT ht)
          obtain ⟨P, hP, hro⟩ : ∃ P, P = P7 ++ (m.ps.take i).flatMap tb1 ∧ wr.ownsRow w0.heap.size 5 1 _ P.length (bvs P) := ⟨_, rfl, hro⟩
          have hPl : P.length ≤ 1100000000 := by rw [hP, List.length_append]; rw [List.length_take] at hlf; omega
          have HP := hid hP
          clear hP ht hlf
          go_wp2_with (fail)
          refine (putt_any (.slice none 0 0) _ [] t nob _ _ (Rd.nil _ _) hu (by simp) (by omega)).mono ?_
          rintro e x9 ⟨v9, rfl, ho9, hB9⟩
          rw [List.nil_append] at ho9
          obtain ⟨q, hq⟩ : ∃ q, q = packed t.length ++ t := ⟨_, rfl⟩
          have hql : q.length ≤ 1000010 := by rw [hq, List.length_append, length_packed]; have := psz_bd t.length; omega
          rw [← hq] at ho9
          have Hq := hid hq
          clear hq
          have hro := own_bel hro hB9
          have hB := hB.trans (hB9.mono hB.size)
          obtain ⟨A9, k9, rfl⟩ := own_shape ho9
          clear hcu hu
          go_wp2_with (refine wp_app (.tmp 49) (.tmp 51) slB rfl rfl rfl hro rfl (Rd.of_own ho9).src (oneCell_bvs _) (by simp only [maxLen]; omega) (by omega) hB.size ?_; intro y9 z9 hro2 hG9 _; refine wp_stop ?_)
          have hB := hB.grown hG9 hB.size (fun k hk => (hro.lt k hk).1)
          have hro2 := own_join hro2
          clear hro ho9 hB9 hG9
          refine wp_go ?_
          go_wp2
          go_roundw
          case rel =>
            refine ⟨i + 1, by omega, by go_num, ?_, hB⟩
            rw [Htk.out, List.flatMap_append, List.flatMap_singleton, ← List.append_assoc, ← HP.out]
            rw [show tb1 t = q from Hq.out.symm]
            exact hro2
          case measure => simp [intOf]; omega
        · have hi' : i = m.ps.length := by omega
          subst hi'
          have hI : ¬ (m.ps.length : Int) < (m.ps.length : Int) := by omega
          rw [List.take_length] at hro
          have hby : Mg.by m = P7 ++ m.ps.flatMap tb1 := by
            rw [HPS.out]; rfl
          have Hby := hid hby
          clear hby
          go_wp2
          go_ret
          exact ⟨_, rfl, by rw [Hby.out]; exact ⟨own_weak hro hBs, hB0.trans (hB.mono hBs)⟩⟩
def errG (m : Mg) : Nat := if 16 < m.ps.length ∨ 65504 < (Mg.by m).length then 4 else if numB m then 0 else 15
theorem errG_M {m : Mg} (hh : m.h.length = 32) (hlo : longB m = false) : errG m = errM m := by
  have := len_by hh hlo
  unfold errG errM
  by_cases h : 16 < m.ps.length
  · rw [if_pos (.inl h), if_pos h]
  · rw [if_neg (by omega), if_neg h]
set_option maxRecDepth 100000 in
set_option maxHeartbeats 4000000 in
theorem put8g_any (m : Mg) (ub up : Value) (F1 F2 : Nat → Prop) (w : World) (hm : MgIn m) (hs : MgSm m) (hub : Rd w F1 ub (bys m.b)) (hup : Rd w F2 up (tx m.ps)) :
    Calls Try.prog 9 #[m.val ub up] w fun e w' => ∃ v', e = .returned (.tuple #[v', .int .i64 (errG m : Int)]) ∧ NewB w w' v' (if errG m = 0 then Mg.by m else []) := by
  have hh := hm.h
  have hsz := fun W h1 h2 => size8g_any m ub up F1 F2 W hh hs h1 h2
  have hbo := fun W h1 h2 => bytesOf_any m ub up F1 F2 W hm hs h1 h2
  have hfm := fun W => formed8_any m ub up W hm
  have hby := len_by2 hh
  have hpb := psz_bd m.b.length
  have hpp := psz_bd m.ps.length
  have hpg := len_partsG m.ps hs.t
  obtain ⟨hsb, hsp, hst⟩ := hs
  have hLb : (Mg.by m).length ≤ 1100000000 := by omega
  obtain ⟨AB, cb, rfl⟩ := hub.shape
  obtain ⟨AP, cpp, rfl, _, _⟩ := hup.slShape
  unfold Mg.val at hsz hbo hfm ⊢
  have herr : errG m = if 16 < m.ps.length ∨ 65504 < (Mg.by m).length then 4 else if numB m then 0 else 15 := rfl
  obtain ⟨E, hE⟩ : ∃ E, E = errG m := ⟨_, rfl⟩
  rw [← hE] at herr ⊢
  clear hE
  obtain ⟨X, hX⟩ : ∃ X, X = Mg.by m := ⟨_, rfl⟩
  rw [← hX] at hsz hbo herr hLb ⊢
  obtain ⟨nb, hnb⟩ : ∃ nb, nb = numB m := ⟨_, rfl⟩
  rw [← hnb] at hfm herr
  obtain ⟨l, hl⟩ : ∃ l, l = m.l (.slice AB m.b.length cb) (.slice AP m.ps.length cpp) := ⟨_, rfl⟩
  have h38 : l[38]? = some (.slice AP m.ps.length cpp) := by rw [hl]; exact mg_parts hh _ _
  have hmn : l.length = 39 := by rw [hl]; exact len_mg hh _ _
  rw [← hl] at hsz hbo hfm ⊢
  have Hmn := hid hmn
  have Herr := hid herr
  have Hsz := hid hsz
  have Hbo := hid hbo
  have Hfm := hid hfm
  clear hl hmn hnb hX herr hsz hbo hfm hby
  have hvb := Blk.new' w 27 l
  have hB : Below w.heap.size w (w.alloc (.cells l.toArray 27)) := (Below.refl _ _).alloc (Nat.le_refl _) _
  have hub := hub.below hB
  have hup := hup.below hB
  have hn0 : ∀ W, Below w.heap.size w W → NewB w W (.slice none 0 0) [] := fun W h => ⟨World.ownsRow_nil _ _ _ _, h⟩
  go_enter Try.func9, Try.ntmps9
  go_upto_region 1 with (fail)
  obtain ⟨w0, hw0⟩ : ∃ w0, w0 = w.alloc (.cells l.toArray 27) := ⟨_, rfl⟩
  rw [← hw0] at hvb hB hub hup ⊢
  clear hw0
  obtain ⟨g, hg⟩ : ∃ g, g = w.heap.size := ⟨_, rfl⟩
  rw [← hg] at hvb ⊢
  clear hg
  have c38 := hvb.cellAt 38 _ h38
  by_cases h16 : 16 < m.ps.length
  · have hI : (16 : Int) < (m.ps.length : Int) := by omega
    have hE : E = 4 := by rw [Herr.out, if_pos (.inl h16)]
    subst hE
    go_wp2
    go_ret2
    exact ⟨_, rfl, hn0 _ hB⟩
  · have hI : ¬ (16 : Int) < (m.ps.length : Int) := by omega
    go_wp2_with (refine wp_ldg 27 (.tmp 1) (by rfl) rfl rfl hvb.whole Try.underlying27 rfl (by rw [Hmn.out]; exact sizeM) ?_)
    refine (Hsz.out _ hub hup).mono ?_
    rintro e w1 ⟨rfl, hB1⟩
    have hvb := hvb.below hB1
    have hub := hub.below hB1
    have hup := hup.below hB1
    have hB := hB.trans (hB1.mono hB.size)
    clear c38 hB1
    by_cases h65 : 65504 < X.length
    · have h65I : (65504 : Int) < (X.length : Int) := by omega
      have hE : E = 4 := by rw [Herr.out, if_pos (.inr h65)]
      subst hE
      go_wp2
      go_ret2
      exact ⟨_, rfl, hn0 _ hB⟩
    · have h65I : ¬ (65504 : Int) < (X.length : Int) := by omega
      have hE : E = if nb = true then 0 else 15 := by rw [Herr.out, if_neg (by omega)]
      have HE := hid hE
      clear hE
      go_wp2_with (refine wp_ld 27 (.tmp 1) rfl rfl rfl hvb.whole Try.underlying27 rfl (by rw [Hmn.out]; exact sizeM) ?_)
      refine (Hfm.out _).mono ?_
      rintro e w2 ⟨rfl, hB2⟩
      have hvb := hvb.below hB2
      have hub := hub.below hB2
      have hup := hup.below hB2
      have hB := hB.trans (hB2.mono hB.size)
      clear hB2
      cases nb with
      | true =>
        have hE : E = 0 := by rw [HE.out]; rfl
        clear HE
        subst hE
        go_wp2_with (refine wp_ld 27 (.tmp 1) rfl rfl rfl hvb.whole Try.underlying27 rfl (by rw [Hmn.out]; exact sizeM) ?_)
        refine (Hbo.out _ hub hup).mono ?_
        rintro e w3 ⟨v3, rfl, ho3, hB3⟩
        obtain ⟨A3, c3, rfl⟩ := own_shape ho3
        go_wp2
        go_ret2
        exact ⟨_, rfl, own_weak ho3 hB.size, hB.trans (hB3.mono hB.size)⟩
      | false =>
        have hE : E = 15 := by rw [HE.out]; rfl
        clear HE
        subst hE
        go_wp2
        go_ret2
        exact ⟨_, rfl, hn0 _ hB⟩
theorem put8_any (m : Mg) (ub up : Value) (F1 F2 : Nat → Prop) (w : World) (hm : MgIn m) (hlo : longB m = false) (hub : Rd w F1 ub (bys m.b)) (hup : Rd w F2 up (tx m.ps)) :
    Calls Try.prog 9 #[m.val ub up] w fun e w' => ∃ v', e = .returned (.tuple #[v', .int .i64 (errM m : Int)]) ∧ NewB w w' v' (if errM m = 0 then Mg.by m else []) := by
  obtain ⟨h1, h2, h3⟩ := long_bd hlo
  rw [← errG_M hm.h hlo]
  exact put8g_any m ub up F1 F2 w hm ⟨by omega, by omega, fun t ht => by have := h3 t ht; omega⟩ hub hup
end Go.Proofs.Ythejallmkcohpaa
