/- G1: layer 11: the law's long and last; the document's SameAll. -/
import Derived.Test.YtcechioeolokcaaGreatDoorG0
import Derived.Test.YtcechioeolokcaaGreatDoorR2
import Derived.Deep.RegionHeld3
import Derived.Deep.DeepCutAuto
namespace Go.V
open Go.RowKit
/-- 'l[k:]' of texts -/
theorem Rd.txcut_l {P : Program} {t e : TypeId} {z : Value} {by_ : Nat} (ht : SlT P t e z by_) {w : World} {F : Nat → Prop} {A : Option Addr} {n c : Nat} {l : List (List UInt8)} (hr : Rd w F (.slice A n c) (tx l)) (k : Int) (h0 : 0 ≤ k) (h2 : k ≤ l.length) :
    ∃ A' m c', (∀ W, (Instr.slice t (.slice A n c) (some (.int .i64 k)) none none).run P W = .ok (.slice A' m c') W) ∧ Rd w F (.slice A' m c') (tx (l.drop k.toNat)) := by
  have hn : n = l.length := by
    obtain ⟨A', c', e, _⟩ := hr.slShape
    injection e
  subst hn
  refine ⟨_, _, _, fun W => run_cut_l ht A l.length c k h0 (by omega) W, ?_⟩
  have := Rd.piece (ds := l.map bys) hr (by simp) (l := k.toNat) (m := l.length) (by omega) (by omega)
  rw [List.take_of_length_le (by simp), ← List.map_drop] at this
  unfold tx
  rw [List.length_drop]
  exact this
end Go.V
namespace Go.Proofs.YtcechioeolokcaaGreatDoor
open Go.RowKit Go.V
theorem slBBG : SlT Tryz.prog 28 33 (.slice none 0 0) 24 := .of Tryz.underlying28 (by kernel_rfl) rfl
theorem sizeLc : (Tryz.prog.info? 37).map (·.size) = some 6 := by kernel_rfl
def zLc : List Value := [.int .i64 0, .int .i64 0, .slice none 0 0, .int .u64 0, .int .i64 0, .int .i64 0]
theorem zeroLc : (Tryz.prog.info? 37).map (·.zero) = some (some (.agg zLc.toArray)) := by kernel_rfl
set_option maxRecDepth 100000 in
set_option maxHeartbeats 2000000 in
theorem long_any11 (l : List Lc) (vl : Value) (F : Nat → Prop) (w : World) (hl : Rd w F vl (wds lcD l)) :
    Calls Tryz.prog 7 #[vl] w fun e w' => e = .returned (.bool (longL l)) ∧ w' = w := by
  obtain ⟨A, c, rfl, hc1, hc2⟩ := wds_shape hl
  have hcl : l.length ≤ 9223372036854775807 := by simp [maxLen] at hc2; omega
  obtain ⟨x, hx⟩ : ∃ x, x = longL l := ⟨_, rfl⟩
  rw [← hx]
  have Hx := hid hx
  clear hx
  by_cases h80 : 40 < l.length
  · have Hr : Hid (x = true) := by show _ = _; rw [Hx.out]; exact longL_len h80
    have hI : (40 : Int) < (l.length : Int) := by omega
    go_enter Tryz.func7, Tryz.ntmps7
    go_wp2
    go_ret
    exact ⟨by rw [Hr.out]; rfl, rfl⟩
  have hI8 : ¬ (40 : Int) < (l.length : Int) := by omega
  go_enter Tryz.func7, Tryz.ntmps7
  go_wp2
  go_loopw [9] (fun iv wr => ∃ i : Nat, i ≤ l.length ∧ iv = .int .i64 i ∧ Hid (∀ j a, j < i → l[j]? = some a → ¬ 700 < a.b.length) ∧ wr = w) (fun i _ => l.length - (intOf i).toNat)
  case atStart => exact ⟨0, Nat.zero_le _, rfl, fun j a hj => absurd hj (Nat.not_lt_zero _), rfl⟩
  case round =>
    obtain ⟨i, hi, rfl, hall, rfl⟩ := hrel
    by_cases hlt : i < l.length
    · obtain ⟨a, ha⟩ : ∃ a, l[i]? = some a := ⟨_, List.getElem?_eq_getElem hlt⟩
      have hI : (i : Int) < (l.length : Int) := by omega
      obtain ⟨g, off, cs, rfl, hg, hr, he⟩ := wd_el hl ha
      obtain ⟨u, rfl, hu⟩ := lc_open he
      obtain ⟨Au, cu, rfl⟩ := hu.shape
      have c2 : wr.cell? ⟨g, off + i * 6 + 2, none⟩ = some (.slice Au a.b.length cu) := hr 2 _ rfl
      have Hyes : Hid (700 < a.b.length → x = true) := fun h => by rw [Hx.out]; exact longL_yes ha h
      have Ha := hid ha
      clear ha he hr
      by_cases hb : 700 < a.b.length
      · have hB : (700 : Int) < (a.b.length : Int) := by omega
        have Hr := hid (Hyes.out hb)
        clear hb Hyes hall
        go_wp2_with (first | refine wp_ixa 22 (.tmp 12) (.tmp 13) rfl rfl rfl rfl Tryz.underlying22 hlt sizeLc ?_)
        go_ret
        exact ⟨by rw [Hr.out]; rfl, rfl⟩
      · have hB : ¬ (700 : Int) < (a.b.length : Int) := by omega
        have Hb := hid hb
        clear hb Hyes
        go_wp2_with (first | refine wp_ixa 22 (.tmp 12) (.tmp 13) rfl rfl rfl rfl Tryz.underlying22 hlt sizeLc ?_)
        go_roundw
        case rel => exact ⟨i + 1, by omega, by go_num, fun j y hj hy => by
          rcases Nat.lt_or_ge j i with h | h
          · exact hall.out j y h hy
          · have : j = i := by omega
            subst this
            rw [Ha.out] at hy
            injection hy with hy
            subst hy
            exact Hb.out, trivial⟩
        case measure => simp [intOf]; omega
    · have hi' : i = l.length := by omega
      subst hi'
      have hI : ¬ (l.length : Int) < (l.length : Int) := by omega
      have Hr : Hid (x = false) := by show _ = _; rw [Hx.out]; exact longL_no (by omega) (fun j a ha => hall.out j a (List.getElem?_eq_some_iff.1 ha).1 ha)
      go_wp2
      go_ret
      exact ⟨by rw [Hr.out]; rfl, rfl⟩
set_option maxRecDepth 100000 in
set_option maxHeartbeats 2000000 in
theorem sameAll11_any (v1 v2 : Value) (l : List (List UInt8)) (F1 F2 : Nat → Prop) (w : World) (h1 : Rd w F1 v1 (tx l)) (h2 : Rd w F2 v2 (tx l)) (hn : l.length ≤ 1000000) :
    Calls Tryz.prog 15 #[v1, v2] w fun e w' => e = .returned (.bool true) ∧ Below w.heap.size w w' := by
  obtain ⟨A1, c1, rfl, _, _⟩ := h1.slShape
  obtain ⟨A2, c2, rfl, _, _⟩ := h2.slShape
  go_enter Tryz.func15, Tryz.ntmps15
  go_wp2
  go_loopw [5] (fun iv wr => ∃ i : Nat, i ≤ l.length ∧ iv = .int .i64 i ∧ Below w.heap.size w wr) (fun i _ => l.length - (intOf i).toNat)
  case atStart => exact ⟨0, Nat.zero_le _, rfl, Below.refl _ _⟩
  case round =>
    obtain ⟨i, hi, rfl, hBr⟩ := hrel
    by_cases hlt : i < l.length
    · obtain ⟨t, ht⟩ : ∃ t, l[i]? = some t := ⟨_, List.getElem?_eq_getElem hlt⟩
      have hI : (i : Int) < (l.length : Int) := by omega
      obtain ⟨G1, off1, u1, rfl, _, hx1, hu1⟩ := Rd.elem (h1.below hBr) i (bys t) (by rw [List.getElem?_map, ht]; rfl)
      obtain ⟨G2, off2, u2, rfl, _, hx2, hu2⟩ := Rd.elem (h2.below hBr) i (bys t) (by rw [List.getElem?_map, ht]; rfl)
      obtain ⟨B1, d1, rfl⟩ := hu1.shape
      obtain ⟨B2, d2, rfl⟩ := hu2.shape
      clear ht
      go_upto_region 6 with (fail)
      have H1 : Hid (∀ W, Ch nob wr W → W.cell? ⟨G1, off1 + i, none⟩ = some (.slice B1 t.length d1)) := fun W h => (World.cell?_of_block (h.block _ (lt_of_cell hx1) (fun h => h))).trans hx1
      have H2 : Hid (∀ W, Ch nob wr W → W.cell? ⟨G2, off2 + i, none⟩ = some (.slice B2 t.length d2)) := fun W h => (World.cell?_of_block (h.block _ (lt_of_cell hx2) (fun h => h))).trans hx2
      refine wp_region_noPanic ?_
      refine wp_region_held_drew (S := Ch nob wr) (by kernel_rfl) ((Ch.refl _ _).drew) (fun hHeld => ?_)
      refine wpAnyH_take (i := 0) (oi := ⟨some 17, _, _, _, _, none⟩) (v := ?_) rfl (by kernel_rfl) (by kernel_rfl) (by kernel_rfl) (fun _ _ _ h => h) (Or.inl ⟨by rfl, ?_⟩) (by assumption) ?_
      rotate_left
      · intro w hSw; go_simp; try with_reducible rfl
      try simp only [Act.put, List.setIfInBounds_toArray, List.set_cons_zero, List.set_cons_succ]
      refine wpAnyH_take (i := 1) (oi := ⟨some 18, _, _, _, _, none⟩) (v := ?_) rfl (by kernel_rfl) (by kernel_rfl) (by kernel_rfl) (fun _ _ _ h => h) (Or.inl ⟨by rfl, ?_⟩) (by assumption) ?_
      rotate_left
      · intro w hSw; go_simp; try with_reducible rfl
      try simp only [Act.put, List.setIfInBounds_toArray, List.set_cons_zero, List.set_cons_succ]
      refine wpAnyH_take (i := 2) (oi := ⟨some 19, _, _, _, _, none⟩) (v := ?_) rfl (by kernel_rfl) (by kernel_rfl) (by kernel_rfl) (fun _ _ _ h => h) (Or.inl ⟨by rfl, ?_⟩) (by assumption) ?_
      rotate_left
      · intro w hSw; go_simp; try with_reducible rfl
      try simp only [Act.put, List.setIfInBounds_toArray, List.set_cons_zero, List.set_cons_succ]
      refine wpAnyH_take (i := 3) (oi := ⟨some 20, _, _, _, _, none⟩) (v := ?_) rfl (by kernel_rfl) (by kernel_rfl) (by kernel_rfl) (fun _ _ _ h => h) (Or.inl ⟨by rfl, ?_⟩) (by assumption) ?_
      rotate_left
      · intro w hSw; have hcw := H1.out w hSw; go_simp; try with_reducible rfl
      try simp only [Act.put, List.setIfInBounds_toArray, List.set_cons_zero, List.set_cons_succ]
      refine wpAnyH_take (i := 4) (oi := ⟨some 21, _, _, _, _, none⟩) (v := ?_) rfl (by kernel_rfl) (by kernel_rfl) (by kernel_rfl) (fun _ _ _ h => h) (Or.inl ⟨by rfl, ?_⟩) (by assumption) ?_
      rotate_left
      · intro w hSw; go_simp; try with_reducible rfl
      try simp only [Act.put, List.setIfInBounds_toArray, List.set_cons_zero, List.set_cons_succ]
      refine wpAnyH_take (i := 5) (oi := ⟨some 22, _, _, _, _, none⟩) (v := ?_) rfl (by kernel_rfl) (by kernel_rfl) (by kernel_rfl) (fun _ _ _ h => h) (Or.inl ⟨by rfl, ?_⟩) (by assumption) ?_
      rotate_left
      · intro w hSw; go_simp; try with_reducible rfl
      try simp only [Act.put, List.setIfInBounds_toArray, List.set_cons_zero, List.set_cons_succ]
      refine wpAnyH_take (i := 6) (oi := ⟨some 23, _, _, _, _, none⟩) (v := ?_) rfl (by kernel_rfl) (by kernel_rfl) (by kernel_rfl) (fun _ _ _ h => h) (Or.inl ⟨by rfl, ?_⟩) (by assumption) ?_
      rotate_left
      · intro w hSw; go_simp; try with_reducible rfl
      try simp only [Act.put, List.setIfInBounds_toArray, List.set_cons_zero, List.set_cons_succ]
      refine wpAnyH_take (i := 7) (oi := ⟨some 24, _, _, _, _, none⟩) (v := ?_) rfl (by kernel_rfl) (by kernel_rfl) (by kernel_rfl) (fun _ _ _ h => h) (Or.inl ⟨by rfl, ?_⟩) (by assumption) ?_
      rotate_left
      · intro w hSw; have hcw := H2.out w hSw; go_simp; try with_reducible rfl
      try simp only [Act.put, List.setIfInBounds_toArray, List.set_cons_zero, List.set_cons_succ]
      refine wpAnyH_ready (rs := [8]) (by kernel_rfl) (by simp) ?_
      refine AllReadyH.cons (o := ⟨some 25, _, _, _, _, none⟩) rfl (fun K hK => ?_) AllReadyH.nil
      go_simp
      refine (same_b _ _ t t _ _ _ (hu1.ext hHeld) (hu2.ext hHeld)).mono ?_
      rintro e' w11 ⟨rfl, hB11⟩
      rw [decide_eq_true rfl]
      have hC11 := hHeld.belowR hB11
      refine hK.out _ _ (hC11) (fun hHeld => ?_)
      clear hK K
      try simp only [Act.put, List.setIfInBounds_toArray, List.set_cons_zero, List.set_cons_succ]
      refine wpAnyH_take (i := 9) (oi := ⟨some 26, _, _, _, _, none⟩) (v := ?_) rfl (by kernel_rfl) (by kernel_rfl) (by kernel_rfl) (fun _ _ _ h => h) (Or.inl ⟨by rfl, ?_⟩) (by assumption) ?_
      rotate_left
      · intro w hSw; go_simp; try with_reducible rfl
      try simp only [Act.put, List.setIfInBounds_toArray, List.set_cons_zero, List.set_cons_succ]
      refine wpAnyH_done (by kernel_rfl) ?_ _
      refine NoPanic.normal ?_
      go_wp2
      go_roundw
      case rel => exact ⟨i + 1, by omega, by go_num, hBr.trans (hC11.below.mono hBr.size)⟩
      case measure => simp [intOf]; omega
    · have hi' : i = l.length := by omega
      subst hi'
      have hI : ¬ (l.length : Int) < (l.length : Int) := by omega
      go_wp2
      go_ret
      exact ⟨rfl, hBr⟩
set_option maxRecDepth 100000 in
set_option maxHeartbeats 2000000 in
theorem last11_any (l : List (List UInt8)) (n : Int) (vl : Value) (F : Nat → Prop) (w : World) (hl : Rd w F vl (tx l)) :
    Calls Tryz.prog 11 #[vl, .int .i64 n] w fun e w' => ∃ v, e = .returned v ∧ Rd w' F v (tx (lastF l n)) ∧ Below w.heap.size w w' := by
  obtain ⟨A, c, rfl, hc1, hc2⟩ := hl.slShape
  have hcl : l.length ≤ 9223372036854775807 := by simp [maxLen] at hc2; omega
  obtain ⟨k, hk, hkl⟩ : ∃ k : Nat, min (max n 0) (l.length : Int) = (k : Int) ∧ k ≤ l.length := ⟨(min (max n 0) (l.length : Int)).toNat, by omega, by omega⟩
  obtain ⟨m, hm⟩ : ∃ m : Nat, (l.length : Int) - (k : Int) = (m : Int) := ⟨l.length - k, by omega⟩
  have hwr : IntKind.i64.wrap ((l.length : Int) - (k : Int)) = (m : Int) := by rw [hm]; exact IntWalk.i64_in _ (by omega)
  have hlast : lastF l n = l.drop m := by
    unfold lastF
    congr 1
    split
    · omega
    · split <;> omega
  obtain ⟨A', m', c', hcut, hr'⟩ := Rd.txcut_l slBBG hl (m : Int) (by omega) (by omega)
  rw [Int.toNat_natCast, ← hlast] at hr'
  obtain ⟨L, hL⟩ : ∃ L, L = lastF l n := ⟨_, rfl⟩
  rw [← hL] at hr' ⊢
  clear hL hlast hm
  go_enter Tryz.func11, Tryz.ntmps11
  go_wp2
  go_ret
  exact ⟨_, rfl, hr', Below.refl _ _⟩
end Go.Proofs.YtcechioeolokcaaGreatDoor
