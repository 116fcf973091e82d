/- Y3: layer 8: contracts of the document's SameParts, Same, Put. -/
import Derived.Test.YthejallmkcohpaaY2
import Derived.Deep.DeepCutAuto
namespace Go.Proofs.Ythejallmkcohpaa
open Go.RowKit Go.V
set_option maxRecDepth 100000 in
set_option maxHeartbeats 2000000 in
theorem sameParts_any (v1 v2 : Value) (l : List (List UInt8)) (F1 F2 : Nat → Prop) (w : World) (h1 : Rd w F1 v1 (tx l)) (h2 : Rd w F2 v2 (tx l)) (hn : l.length ≤ 1000000) :
    Calls Try.prog 19 #[v1, v2] w fun e w' => e = .returned (.bool true) ∧ Below w.heap.size w w' := by
  obtain ⟨A1, c1, rfl, _, _⟩ := h1.slShape
  obtain ⟨A2, c2, rfl, _, _⟩ := h2.slShape
  go_enter Try.func19, Try.ntmps19
  go_wp2
  go_loopw [5] (fun iv wr => ∃ i : Nat, i ≤ l.length ∧ iv = .int .i64 i ∧ Below w.heap.size w wr) (fun i _ => l.length - (intOf i).toNat)
  case atStart => exact ⟨0, Nat.zero_le _, rfl, Below.refl _ _⟩
  case round =>
    obtain ⟨i, hi, rfl, hBr⟩ := hrel
    by_cases hlt : i < l.length
    · obtain ⟨t, ht⟩ : ∃ t, l[i]? = some t := ⟨_, List.getElem?_eq_getElem hlt⟩
      have hI : (i : Int) < (l.length : Int) := by omega
      obtain ⟨G1, off1, u1, rfl, _, hx1, hu1⟩ := Rd.elem (h1.below hBr) i (bys t) (by rw [List.getElem?_map, ht]; rfl)
      obtain ⟨G2, off2, u2, rfl, _, hx2, hu2⟩ := Rd.elem (h2.below hBr) i (bys t) (by rw [List.getElem?_map, ht]; rfl)
      obtain ⟨B1, d1, rfl⟩ := hu1.shape
      obtain ⟨B2, d2, rfl⟩ := hu2.shape
      clear ht
      go_upto_region 6 with (fail)
      have H1 : Hid (∀ W, Ch nob wr W → W.cell? ⟨G1, off1 + i, none⟩ = some (.slice B1 t.length d1)) := fun W h => (World.cell?_of_block (h.block _ (lt_of_cell hx1) (fun h => h))).trans hx1
      have H2 : Hid (∀ W, Ch nob wr W → W.cell? ⟨G2, off2 + i, none⟩ = some (.slice B2 t.length d2)) := fun W h => (World.cell?_of_block (h.block _ (lt_of_cell hx2) (fun h => h))).trans hx2
      refine wp_region_noPanic ?_
      refine wp_region_held_drew (S := Ch nob wr) (by kernel_rfl) ((Ch.refl _ _).drew) (fun hHeld => ?_)
      refine wpAnyH_take (i := 0) (oi := ⟨some 17, _, _, _, _, none⟩) (v := ?_) rfl (by kernel_rfl) (by kernel_rfl) (by kernel_rfl) (fun _ _ _ h => h) (Or.inl ⟨by rfl, ?_⟩) (by assumption) ?_
      rotate_left
      · intro w hSw; go_simp; try with_reducible rfl
      try simp only [Act.put, List.setIfInBounds_toArray, List.set_cons_zero, List.set_cons_succ]
      refine wpAnyH_take (i := 1) (oi := ⟨some 18, _, _, _, _, none⟩) (v := ?_) rfl (by kernel_rfl) (by kernel_rfl) (by kernel_rfl) (fun _ _ _ h => h) (Or.inl ⟨by rfl, ?_⟩) (by assumption) ?_
      rotate_left
      · intro w hSw; go_simp; try with_reducible rfl
      try simp only [Act.put, List.setIfInBounds_toArray, List.set_cons_zero, List.set_cons_succ]
      refine wpAnyH_take (i := 2) (oi := ⟨some 19, _, _, _, _, none⟩) (v := ?_) rfl (by kernel_rfl) (by kernel_rfl) (by kernel_rfl) (fun _ _ _ h => h) (Or.inl ⟨by rfl, ?_⟩) (by assumption) ?_
      rotate_left
      · intro w hSw; go_simp; try with_reducible rfl
      try simp only [Act.put, List.setIfInBounds_toArray, List.set_cons_zero, List.set_cons_succ]
      refine wpAnyH_take (i := 3) (oi := ⟨some 20, _, _, _, _, none⟩) (v := ?_) rfl (by kernel_rfl) (by kernel_rfl) (by kernel_rfl) (fun _ _ _ h => h) (Or.inl ⟨by rfl, ?_⟩) (by assumption) ?_
      rotate_left
      · intro w hSw; have hcw := H1.out w hSw; go_simp; try with_reducible rfl
      try simp only [Act.put, List.setIfInBounds_toArray, List.set_cons_zero, List.set_cons_succ]
      refine wpAnyH_take (i := 4) (oi := ⟨some 21, _, _, _, _, none⟩) (v := ?_) rfl (by kernel_rfl) (by kernel_rfl) (by kernel_rfl) (fun _ _ _ h => h) (Or.inl ⟨by rfl, ?_⟩) (by assumption) ?_
      rotate_left
      · intro w hSw; go_simp; try with_reducible rfl
      try simp only [Act.put, List.setIfInBounds_toArray, List.set_cons_zero, List.set_cons_succ]
      refine wpAnyH_take (i := 5) (oi := ⟨some 22, _, _, _, _, none⟩) (v := ?_) rfl (by kernel_rfl) (by kernel_rfl) (by kernel_rfl) (fun _ _ _ h => h) (Or.inl ⟨by rfl, ?_⟩) (by assumption) ?_
      rotate_left
      · intro w hSw; go_simp; try with_reducible rfl
      try simp only [Act.put, List.setIfInBounds_toArray, List.set_cons_zero, List.set_cons_succ]
      refine wpAnyH_take (i := 6) (oi := ⟨some 23, _, _, _, _, none⟩) (v := ?_) rfl (by kernel_rfl) (by kernel_rfl) (by kernel_rfl) (fun _ _ _ h => h) (Or.inl ⟨by rfl, ?_⟩) (by assumption) ?_
      rotate_left
      · intro w hSw; go_simp; try with_reducible rfl
      try simp only [Act.put, List.setIfInBounds_toArray, List.set_cons_zero, List.set_cons_succ]
      refine wpAnyH_take (i := 7) (oi := ⟨some 24, _, _, _, _, none⟩) (v := ?_) rfl (by kernel_rfl) (by kernel_rfl) (by kernel_rfl) (fun _ _ _ h => h) (Or.inl ⟨by rfl, ?_⟩) (by assumption) ?_
      rotate_left
      · intro w hSw; have hcw := H2.out w hSw; go_simp; try with_reducible rfl
      try simp only [Act.put, List.setIfInBounds_toArray, List.set_cons_zero, List.set_cons_succ]
      refine wpAnyH_ready (rs := [8]) (by kernel_rfl) (by simp) ?_
      refine AllReadyH.cons (o := ⟨some 25, _, _, _, _, none⟩) rfl (fun K hK => ?_) AllReadyH.nil
      go_simp
      refine (same_b _ _ t t _ _ _ (hu1.ext hHeld) (hu2.ext hHeld)).mono ?_
      rintro e' w11 ⟨rfl, hB11⟩
      rw [decide_eq_true rfl]
      have hC11 := hHeld.belowR hB11
      refine hK.out _ _ (hC11) (fun hHeld => ?_)
      clear hK K
      try simp only [Act.put, List.setIfInBounds_toArray, List.set_cons_zero, List.set_cons_succ]
      refine wpAnyH_take (i := 9) (oi := ⟨some 26, _, _, _, _, none⟩) (v := ?_) rfl (by kernel_rfl) (by kernel_rfl) (by kernel_rfl) (fun _ _ _ h => h) (Or.inl ⟨by rfl, ?_⟩) (by assumption) ?_
      rotate_left
      · intro w hSw; go_simp; try with_reducible rfl
      try simp only [Act.put, List.setIfInBounds_toArray, List.set_cons_zero, List.set_cons_succ]
      refine wpAnyH_done (by kernel_rfl) ?_ _
      refine NoPanic.normal ?_
      go_wp2
      go_roundw
      case rel => exact ⟨i + 1, by omega, by go_num, hBr.trans (hC11.below.mono hBr.size)⟩
      case measure => simp [intOf]; omega
    · have hi' : i = l.length := by omega
      subst hi'
      have hI : ¬ (l.length : Int) < (l.length : Int) := by omega
      go_wp2
      go_ret
      exact ⟨rfl, hBr⟩
set_option maxRecDepth 100000 in
set_option maxHeartbeats 2000000 in
theorem same8_any (m : Mg) (ub1 up1 ub2 up2 : Value) (F1 F2 F3 F4 : Nat → Prop) (w : World) (hh : m.h.length = 32) (h1 : Rd w F1 ub1 (bys m.b)) (h2 : Rd w F2 up1 (tx m.ps)) (h3 : Rd w F3 ub2 (bys m.b)) (h4 : Rd w F4 up2 (tx m.ps)) (hn : m.ps.length ≤ 1000000) :
    Calls Try.prog 12 #[m.val ub1 up1, m.val ub2 up2] w fun e w' => e = .returned (.bool true) ∧ Below w.heap.size w w' := by
  obtain ⟨A1, c1, rfl⟩ := h1.shape
  obtain ⟨A2, c2, rfl, _, _⟩ := h2.slShape
  obtain ⟨A3, c3, rfl⟩ := h3.shape
  obtain ⟨A4, c4, rfl, _, _⟩ := h4.slShape
  unfold Mg.val
  obtain ⟨l1, hl1⟩ : ∃ l, l = m.l (.slice A1 m.b.length c1) (.slice A2 m.ps.length c2) := ⟨_, rfl⟩
  obtain ⟨l2, hl2⟩ : ∃ l, l = m.l (.slice A3 m.b.length c3) (.slice A4 m.ps.length c4) := ⟨_, rfl⟩
  rw [← hl1, ← hl2]
  have hal1 : Below w.heap.size w (w.alloc (.cells l1.toArray 27)) := (Below.refl _ _).alloc (Nat.le_refl _) _
  have x1 := Blk.new' w 27 l1
  obtain ⟨w1, hw1⟩ : ∃ x, x = w.alloc (.cells l1.toArray 27) := ⟨_, rfl⟩
  have hsz : w1.heap.size = w.heap.size + 1 := by rw [hw1]; simp
  have x2 := Blk.new' w1 27 l2
  have hal2 : Below w1.heap.size w1 (w1.alloc (.cells l2.toArray 27)) := (Below.refl _ _).alloc (Nat.le_refl _) _
  have x1 : Blk w1 w.heap.size 27 l1 := by rw [hw1]; exact x1
  have hB : Below w.heap.size w w1 := by rw [hw1]; exact hal1
  have x1 := x1.below hal2
  have hB2 := hB.trans (hal2.mono hB.size)
  have h1 := h1.below hB2
  have h2 := h2.below hB2
  have h3 := h3.below hB2
  have h4 := h4.below hB2
  rw [hsz] at x2
  clear hsz hal1 hal2 hB
  subst hw1
  go_enter Try.func12, Try.ntmps12
  have c0 := x1.cellAt 0 (.int .i64 m.k) (by rw [hl1]; rfl)
  have c1 := x1.cellAt 1 (.int .i64 m.f) (by rw [hl1]; rfl)
  have c2 := x1.cellAt 2 (.int .i64 m.v) (by rw [hl1]; rfl)
  have c3 := x1.cellAt 3 (.int .i64 m.r) (by rw [hl1]; rfl)
  have c4 := x1.cellAt 4 (.int .i64 m.s) (by rw [hl1]; rfl)
  have c37 := x1.cellAt 37 _ (by rw [hl1]; exact mg_body hh _ _)
  have c38 := x1.cellAt 38 _ (by rw [hl1]; exact mg_parts hh _ _)
  have d0 := x2.cellAt 0 (.int .i64 m.k) (by rw [hl2]; rfl)
  have d1 := x2.cellAt 1 (.int .i64 m.f) (by rw [hl2]; rfl)
  have d2 := x2.cellAt 2 (.int .i64 m.v) (by rw [hl2]; rfl)
  have d3 := x2.cellAt 3 (.int .i64 m.r) (by rw [hl2]; rfl)
  have d4 := x2.cellAt 4 (.int .i64 m.s) (by rw [hl2]; rfl)
  have d37 := x2.cellAt 37 _ (by rw [hl2]; exact mg_body hh _ _)
  have d38 := x2.cellAt 38 _ (by rw [hl2]; exact mg_parts hh _ _)
  have r1 := x1.range 5 (bvs m.h) (by rw [hl1]; exact mg_hash hh _ _)
  have r2 := x2.range 5 (bvs m.h) (by rw [hl2]; exact mg_hash hh _ _)
  have heq := eqH8 m.h hh
  have Hl1 := hid hl1
  have Hl2 := hid hl2
  clear hl1 hl2
  go_wp2_with (first | (refine wp_ldg 23 (.tmp 39) (by rfl) rfl rfl r1 Try.underlying23 rfl (by rw [len_bvs, hh]; exact size25) ?_) | (refine wp_ldg 23 (.tmp 41) (by rfl) rfl rfl r2 Try.underlying23 rfl (by rw [len_bvs, hh]; exact size25) ?_))
  refine (same_b _ _ m.b m.b _ _ _ h1 h3).mono ?_
  rintro e x3 ⟨rfl, hB3⟩
  rw [decide_eq_true rfl]
  have x1 := x1.below hB3
  have x2 := x2.below hB3
  have h2 := h2.below hB3
  have h4 := h4.below hB3
  have hB3' := hB2.trans (hB3.mono hB2.size)
  clear c0 c1 c2 c3 c4 c37 c38 d0 d1 d2 d3 d4 d37 d38 r1 r2
  have c38 := x1.cellAt 38 _ (by rw [Hl1.out]; exact mg_parts hh _ _)
  have d38 := x2.cellAt 38 _ (by rw [Hl2.out]; exact mg_parts hh _ _)
  go_wp2_with (fail)
  refine (sameParts_any _ _ m.ps _ _ _ h2 h4 hn).mono ?_
  rintro e x4 ⟨rfl, hB4⟩
  go_wp2
  go_ret
  exact ⟨rfl, hB3'.trans (hB4.mono hB3'.size)⟩
def errM (m : Mg) : Nat := if 16 < m.ps.length then 4 else if numB m then 0 else 15
theorem len_by {m : Mg} (hh : m.h.length = 32) (hlo : longB m = false) : (Mg.by m).length ≤ 63260 := by
  obtain ⟨h1, h2, h3⟩ := long_bd hlo
  have h4 := len_parts m.ps h3
  have h5 := psz_bd m.b.length
  have h6 := psz_bd m.ps.length
  unfold Mg.by
  simp only [List.length_append, length_packed, len_hd hh]
  omega
set_option maxRecDepth 100000 in
set_option maxHeartbeats 2000000 in
theorem rput8_any (m : Mg) (ub up : Value) (w : World) (hh : m.h.length = 32) (hlo : longB m = false) (hub : Rd w (fun b => b < w.heap.size) ub (bys m.b)) (hup : Rd w (fun b => b < w.heap.size) up (tx m.ps)) :
    Calls Try.prog 10 #[m.val ub up] w fun e w' => ∃ v', e = .returned (.tuple #[v', .int .i64 (errM m : Int)]) ∧ NewB w w' v' (if errM m = 0 then Mg.by m else []) := by
  have hby := fun W h1 h2 => rby8_any m ub up W hh hlo h1 h2
  have hnm := fun W => num8_any m ub up W
  have hlen := len_by hh hlo
  have herr : errM m = if 16 < m.ps.length then 4 else if numB m then 0 else 15 := rfl
  obtain ⟨er, her⟩ : ∃ er, er = errM m := ⟨_, rfl⟩
  obtain ⟨P, hP⟩ : ∃ P, P = Mg.by m := ⟨_, rfl⟩
  rw [← her] at herr ⊢
  rw [← hP] at hby hlen ⊢
  have Her0 := hid herr
  clear her hP herr
  obtain ⟨AB, cb, rfl⟩ := hub.shape
  obtain ⟨AP, cpp, rfl, _, _⟩ := hup.slShape
  unfold Mg.val at hby hnm ⊢
  have hml := mg_parts hh (.slice AB m.b.length cb) (.slice AP m.ps.length cpp)
  have hmn := len_mg hh (.slice AB m.b.length cb) (.slice AP m.ps.length cpp)
  obtain ⟨l, hl⟩ : ∃ l, l = m.l (.slice AB m.b.length cb) (.slice AP m.ps.length cpp) := ⟨_, rfl⟩
  rw [← hl] at hby hnm hml hmn ⊢
  clear hl
  have Hml := hid hml
  have Hmn := hid hmn
  clear hml hmn
  have hvb := Blk.new' w 27 l
  have hB : Below w.heap.size w (w.alloc (.cells l.toArray 27)) := (Below.refl _ _).alloc (Nat.le_refl _) _
  have hsz : w.heap.size < (w.alloc (.cells l.toArray 27)).heap.size := by simp
  have hub := (hub.below hB).weak (F' := fun b => b < (w.alloc (.cells l.toArray 27)).heap.size) (fun b _ h => by omega)
  have hup := (hup.below hB).weak (F' := fun b => b < (w.alloc (.cells l.toArray 27)).heap.size) (fun b _ h => by omega)
  go_enter Try.func10, Try.ntmps10
  go_wp2_with (refine wp_ld 27 (.tmp 1) rfl rfl rfl hvb.whole Try.underlying27 rfl (by rw [Hmn.out]; exact sizeM) ?_)
  refine (hby _ hub hup).mono ?_
  rintro e x1 ⟨v1, rfl, ho1, hB1⟩
  have hvb := hvb.below hB1
  have hB1' := hB.trans (hB1.mono hB.size)
  clear hby hub hup hsz
  obtain ⟨A1, k1, rfl⟩ := own_shape ho1
  have c38 := hvb.cellAt 38 _ Hml.out
  have herr := Her0.out
  by_cases h16 : 16 < m.ps.length
  · have hI : (16 : Int) < (m.ps.length : Int) := by omega
    rw [if_pos h16] at herr
    subst herr
    go_wp2
    go_ret2
    exact ⟨_, rfl, World.ownsRow_nil _ _ _ _, hB1'⟩
  · have hI : ¬ (16 : Int) < (m.ps.length : Int) := by omega
    have hI2 : ¬ (65504 : Int) < (P.length : Int) := by omega
    rw [if_neg h16] at herr
    have Herr := hid herr
    clear herr
    go_wp2_with (refine wp_ld 27 (.tmp 1) rfl rfl rfl hvb.whole Try.underlying27 rfl (by rw [Hmn.out]; exact sizeM) ?_)
    refine (hnm _).mono ?_
    rintro e x2 ⟨rfl, hB2⟩
    have hB2' := hB1'.trans (hB2.mono hB1'.size)
    have ho2 := own_bel ho1 hB2
    have herr := Herr.out
    clear hnm c38
    cases hn : numB m with
    | false =>
      rw [hn] at herr
      have herr2 : er = 15 := herr
      clear herr
      clear hn Herr hI hI2 Her0 Hml Hmn hlen
      subst herr2
      go_wp2
      go_ret2
      exact ⟨_, rfl, World.ownsRow_nil _ _ _ _, hB2'⟩
    | true =>
      rw [hn] at herr
      have herr2 : er = 0 := herr
      clear herr
      clear hn Herr hI hI2 Her0 Hml Hmn hlen
      subst herr2
      go_wp2
      go_ret2
      exact ⟨_, rfl, own_weak ho2 hB.size, hB2'⟩
end Go.Proofs.Ythejallmkcohpaa
