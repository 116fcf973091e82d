/- Q9: layer 7: the law ReqsPuts. -/
import Derived.Test.YthdkfcbfjhdpoaaQ8
namespace Go.Proofs.Ythdkfcbfjhdpoaa
open Go.RowKit Go.V
set_option maxRecDepth 100000 in
set_option maxHeartbeats 4000000 in
theorem reqsPuts_false (r : Rq) (u : Value) (cl : Int) (F : Nat → Prop) (w : World) (hu : Rd w F u (bys r.g)) (ha : in64 r.a) (hb : in64 r.b) (hf : r.fm = false) :
    Calls Try.prog 3 #[r.v u, .int .i64 cl] w fun e w' => e = .returned (.bool true) ∧ Below w.heap.size w w' := by
  have hput : ∀ u F W h, Calls Try.prog 6 #[r.v u] W fun e w' => ∃ v', e = .returned (.tuple #[v', .int .i64 15]) ∧ NewB W w' v' [] := fun u F W h => by have := put7_any r u F W h ha hb; rw [hf] at this; exact this
  have htext : ∀ u F W h, Calls Try.prog 7 #[r.v u] W fun e w' => ∃ v', e = .returned v' ∧ NewB W w' v' [] := fun u F W h => by have := text7_any r u F W h ha hb; unfold Rq.txt at this; rw [hf] at this; exact this
  have hfm := fun u F W h => rformed_any r u F W h
  rw [hf] at hfm
  obtain ⟨A, cp, rfl⟩ := hu.shape
  unfold Rq.v at hput htext hfm ⊢
  have hvb := Blk.new' w 26 [.int .i64 r.c, .int .i64 r.s, .int .i64 r.k, .int .i64 r.y, .int .i64 r.a, .int .i64 r.b, .slice A r.g.length cp]
  have hB : Below w.heap.size w (w.alloc (.cells #[.int .i64 r.c, .int .i64 r.s, .int .i64 r.k, .int .i64 r.y, .int .i64 r.a, .int .i64 r.b, .slice A r.g.length cp] 26)) := (Below.refl _ _).alloc (Nat.le_refl _) _
  have hub := hu.below hB
  clear hf
  go_enter Try.func3, Try.ntmps3
  go_wp2_with (fail)
  obtain ⟨w0, hw0⟩ : ∃ w0, w0 = w.alloc (.cells #[.int .i64 r.c, .int .i64 r.s, .int .i64 r.k, .int .i64 r.y, .int .i64 r.a, .int .i64 r.b, .slice A r.g.length cp] 26) := ⟨_, rfl⟩
  rw [← hw0] at hvb hB hub ⊢
  clear hw0
  obtain ⟨gg, hgg⟩ : ∃ g, g = w.heap.size := ⟨_, rfl⟩
  rw [← hgg] at hvb ⊢
  clear hgg
  refine (wakes7_any _).mono ?_
  rintro e w1 ⟨rfl, hB1⟩
  have hv1 := hvb.below hB1
  have hu1 := hub.below hB1
  have hB1' := hB.trans (hB1.mono hB.size)
  clear hvb hub
  have c0 := hv1.cellAt 0 _ rfl
  have c1 := hv1.cellAt 1 _ rfl
  have c2 := hv1.cellAt 2 _ rfl
  have c3 := hv1.cellAt 3 _ rfl
  have c4 := hv1.cellAt 4 _ rfl
  have c5 := hv1.cellAt 5 _ rfl
  have c6 := hv1.cellAt 6 _ rfl
  by_cases hl : 2000 < r.g.length
  · have hI : (2000 : Int) < (r.g.length : Int) := by omega
    go_wp2
    go_ret
    exact ⟨rfl, hB1'⟩
  have hI : ¬ (2000 : Int) < (r.g.length : Int) := by omega
  go_wp2_with (fail)
  refine (hput _ _ _ hu1).mono ?_
  rintro e w2 ⟨v2, rfl, ho2, hB2⟩
  obtain ⟨A2, c2', rfl⟩ := own_shape ho2
  have hp2 := Rd.of_own ho2
  have hv2 := hv1.below hB2
  have hu2 := hu1.below hB2
  have hB2' := hB1'.trans (hB2.mono hB1'.size)
  clear c0 c1 c2 c3 c4 c5 c6
  clear hv1 hu1 hput ho2
  have c0 := hv2.cellAt 0 _ rfl
  have c1 := hv2.cellAt 1 _ rfl
  have c2 := hv2.cellAt 2 _ rfl
  have c3 := hv2.cellAt 3 _ rfl
  have c4 := hv2.cellAt 4 _ rfl
  have c5 := hv2.cellAt 5 _ rfl
  have c6 := hv2.cellAt 6 _ rfl
  go_wp2_with (fail)
  refine (htext _ _ _ hu2).mono ?_
  rintro e w3 ⟨v3, rfl, ho3, hB3⟩
  obtain ⟨A3, c3', rfl⟩ := own_shape ho3
  have hp3 := Rd.of_own ho3
  have hp2 := hp2.below hB3
  have hv3 := hv2.below hB3
  have hu3 := hu2.below hB3
  have hB3' := hB2'.trans (hB3.mono hB2'.size)
  clear c0 c1 c2 c3 c4 c5 c6
  clear hv2 hu2 htext ho3
  go_upto_region 7 with (fail)
  have HV : Hid (∀ W, Ch nob w3 W → W.rangeAt gg 2 [.int .i64 r.k, .int .i64 r.y, .int .i64 r.a, .int .i64 r.b]) := fun W h => (hv3.below h.below).range 2 _ (fun j v hv => by
    match j, hv with
    | 0, hv | 1, hv | 2, hv | 3, hv => exact hv)
  refine wp_region_noPanic ?_
  refine wp_region_held_drew (S := Ch nob w3) (by kernel_rfl) ((Ch.refl _ _).drew) (fun hHeld => ?_)
  refine wpAnyH_take (i := 0) (oi := ⟨some 23, _, _, _, _, none⟩) (v := ?_) rfl (by kernel_rfl) (by kernel_rfl) (by kernel_rfl) (fun _ _ _ h => h) (Or.inl ⟨by rfl, ?_⟩) (by assumption) ?_
  rotate_left
  · intro w hSw; go_simp; try with_reducible rfl
  try simp only [Act.put, List.setIfInBounds_toArray, List.set_cons_zero, List.set_cons_succ]
  refine wpAnyH_take (i := 1) (oi := ⟨some 24, _, _, _, _, none⟩) (v := ?_) rfl (by kernel_rfl) (by kernel_rfl) (by kernel_rfl) (fun _ _ _ h => h) (Or.inl ⟨by rfl, ?_⟩) (by assumption) ?_
  rotate_left
  · intro w hSw; go_simp; try with_reducible rfl
  try simp only [Act.put, List.setIfInBounds_toArray, List.set_cons_zero, List.set_cons_succ]
  refine wpAnyH_take (i := 2) (oi := ⟨some 25, .load 23 (.tmp 24), _, _, _, none⟩) (v := _) rfl (by kernel_rfl) (by kernel_rfl) (by kernel_rfl) (fun _ _ _ h => h) (yieldsIf_load_mid (by rfl) 23 (.tmp 24) (by rfl) _ (2) (by rfl) _ _ (fun _ hs => HV.out _ hs) Try.underlying23 rfl (sizeO)) (by assumption) ?_
  try simp only [Act.put, List.setIfInBounds_toArray, List.set_cons_zero, List.set_cons_succ]
  refine wpAnyH_take (i := 4) (oi := ⟨some 27, _, _, _, _, none⟩) (v := ?_) rfl (by kernel_rfl) (by kernel_rfl) (by kernel_rfl) (fun _ _ _ h => h) (Or.inl ⟨by rfl, ?_⟩) (by assumption) ?_
  rotate_left
  · intro w hSw; go_simp; try with_reducible rfl
  try simp only [Act.put, List.setIfInBounds_toArray, List.set_cons_zero, List.set_cons_succ]
  refine wpAnyH_take (i := 5) (oi := ⟨some 28, _, _, _, _, none⟩) (v := ?_) rfl (by kernel_rfl) (by kernel_rfl) (by kernel_rfl) (fun _ _ _ h => h) (Or.inl ⟨by rfl, ?_⟩) (by assumption) ?_
  rotate_left
  · intro w hSw; go_simp; try with_reducible rfl
  try simp only [Act.put, List.setIfInBounds_toArray, List.set_cons_zero, List.set_cons_succ]
  refine wpAnyH_take (i := 6) (oi := ⟨some 29, .load 23 (.tmp 28), _, _, _, none⟩) (v := _) rfl (by kernel_rfl) (by kernel_rfl) (by kernel_rfl) (fun _ _ _ h => h) (yieldsIf_load_mid (by rfl) 23 (.tmp 28) (by rfl) _ (2) (by rfl) _ _ (fun _ hs => HV.out _ hs) Try.underlying23 rfl (sizeO)) (by assumption) ?_
  try simp only [Act.put, List.setIfInBounds_toArray, List.set_cons_zero, List.set_cons_succ]
  refine wpAnyH_ready (rs := [3]) (by kernel_rfl) (by simp) ?_
  refine AllReadyH.cons (o := ⟨some 26, _, _, _, _, none⟩) rfl (fun K hK => ?_) AllReadyH.nil
  go_simp
  refine (right7_any cl r.k r.y r.a r.b _).mono ?_
  rintro e' w11 ⟨rfl, hB11⟩
  have hC11 := hHeld.belowR hB11
  refine hK.out _ _ (hC11) (fun hHeld => ?_)
  clear hK K
  try simp only [Act.put, List.setIfInBounds_toArray, List.set_cons_zero, List.set_cons_succ]
  refine wpAnyH_ready (rs := [7]) (by kernel_rfl) (by simp) ?_
  refine AllReadyH.cons (o := ⟨some 30, _, _, _, _, none⟩) rfl (fun K hK => ?_) AllReadyH.nil
  go_simp
  refine (rright7_any cl r.k r.y r.a r.b _).mono ?_
  rintro e' w12 ⟨rfl, hB12⟩
  have hC12 := hC11.belowR hB12
  refine hK.out _ _ (hC12) (fun hHeld => ?_)
  clear hK K
  try simp only [Act.put, List.setIfInBounds_toArray, List.set_cons_zero, List.set_cons_succ]
  refine wpAnyH_take (i := 8) (oi := ⟨some 31, _, _, _, _, none⟩) (v := ?_) rfl (by kernel_rfl) (by kernel_rfl) (by kernel_rfl) (fun _ _ _ h => h) (Or.inl ⟨by rfl, ?_⟩) (by assumption) ?_
  rotate_left
  · intro w hSw; go_simp; try with_reducible rfl
  try simp only [Act.put, List.setIfInBounds_toArray, List.set_cons_zero, List.set_cons_succ]
  refine wpAnyH_done (by kernel_rfl) ?_ _
  refine NoPanic.normal ?_
  clear HV
  have hp2 := hp2.ext hC12
  have hp3 := hp3.ext hC12
  have hu4 := hu3.ext hC12
  have hv4 := hv3.below hC12.below
  have hB4' := hB3'.trans (hC12.below.mono hB3'.size)
  clear hv3 hu3 hHeld hC11 hB11 hB12 hC12
  have c0 := hv4.cellAt 0 _ rfl
  have c1 := hv4.cellAt 1 _ rfl
  have c2 := hv4.cellAt 2 _ rfl
  have c3 := hv4.cellAt 3 _ rfl
  have c4 := hv4.cellAt 4 _ rfl
  have c5 := hv4.cellAt 5 _ rfl
  have c6 := hv4.cellAt 6 _ rfl
  go_wp2_with (fail)
  refine (hfm _ _ _ hu4).mono ?_
  rintro e w5 ⟨rfl, hB5⟩
  have hp2 := hp2.below hB5
  have hp3 := hp3.below hB5
  have hu5 := hu4.below hB5
  have hv5 := hv4.below hB5
  have hB5' := hB4'.trans (hB5.mono hB4'.size)
  clear c0 c1 c2 c3 c4 c5 c6
  clear hv4 hu4 hfm
  go_wp2
  go_ret
  exact ⟨rfl, hB5'⟩
set_option maxRecDepth 100000 in
set_option maxHeartbeats 4000000 in
theorem reqsPuts_true (r : Rq) (u : Value) (cl : Int) (F : Nat → Prop) (w : World) (hu : Rd w F u (bys r.g)) (ha : in64 r.a) (hb : in64 r.b) (hf : r.fm = true) :
    Calls Try.prog 3 #[r.v u, .int .i64 cl] w fun e w' => e = .returned (.bool true) ∧ Below w.heap.size w w' := by
  have hput : ∀ u F W h, Calls Try.prog 6 #[r.v u] W fun e w' => ∃ v', e = .returned (.tuple #[v', .int .i64 0]) ∧ NewB W w' v' r.bt := fun u F W h => by have := put7_any r u F W h ha hb; rw [hf] at this; exact this
  have htext : ∀ u F W h, Calls Try.prog 7 #[r.v u] W fun e w' => ∃ v', e = .returned v' ∧ NewB W w' v' r.text := fun u F W h => by have := text7_any r u F W h ha hb; unfold Rq.txt at this; rw [hf] at this; exact this
  have hfm := fun u F W h => rformed_any r u F W h
  rw [hf] at hfm
  have hget := fun v F W h => get7_any v r F W h ha hb hf
  have hrput := fun u F W h => rput7_any r u F W h ha hb hf
  have hrtext := fun u F W h => rtext7_any r u F W h ha hb hf
  have hsame := fun u1 u2 F G W h1 h2 => same7_any r u1 u2 F G W h1 h2
  obtain ⟨A, cp, rfl⟩ := hu.shape
  unfold Rq.v at hput htext hfm hget hrput hrtext hsame ⊢
  have hvb := Blk.new' w 26 [.int .i64 r.c, .int .i64 r.s, .int .i64 r.k, .int .i64 r.y, .int .i64 r.a, .int .i64 r.b, .slice A r.g.length cp]
  have hB : Below w.heap.size w (w.alloc (.cells #[.int .i64 r.c, .int .i64 r.s, .int .i64 r.k, .int .i64 r.y, .int .i64 r.a, .int .i64 r.b, .slice A r.g.length cp] 26)) := (Below.refl _ _).alloc (Nat.le_refl _) _
  have hub := hu.below hB
  clear hf
  go_enter Try.func3, Try.ntmps3
  go_wp2_with (fail)
  obtain ⟨w0, hw0⟩ : ∃ w0, w0 = w.alloc (.cells #[.int .i64 r.c, .int .i64 r.s, .int .i64 r.k, .int .i64 r.y, .int .i64 r.a, .int .i64 r.b, .slice A r.g.length cp] 26) := ⟨_, rfl⟩
  rw [← hw0] at hvb hB hub ⊢
  clear hw0
  obtain ⟨gg, hgg⟩ : ∃ g, g = w.heap.size := ⟨_, rfl⟩
  rw [← hgg] at hvb ⊢
  clear hgg
  refine (wakes7_any _).mono ?_
  rintro e w1 ⟨rfl, hB1⟩
  have hv1 := hvb.below hB1
  have hu1 := hub.below hB1
  have hB1' := hB.trans (hB1.mono hB.size)
  clear hvb hub
  have c0 := hv1.cellAt 0 _ rfl
  have c1 := hv1.cellAt 1 _ rfl
  have c2 := hv1.cellAt 2 _ rfl
  have c3 := hv1.cellAt 3 _ rfl
  have c4 := hv1.cellAt 4 _ rfl
  have c5 := hv1.cellAt 5 _ rfl
  have c6 := hv1.cellAt 6 _ rfl
  by_cases hl : 2000 < r.g.length
  · have hI : (2000 : Int) < (r.g.length : Int) := by omega
    go_wp2
    go_ret
    exact ⟨rfl, hB1'⟩
  have hI : ¬ (2000 : Int) < (r.g.length : Int) := by omega
  go_wp2_with (fail)
  refine (hput _ _ _ hu1).mono ?_
  rintro e w2 ⟨v2, rfl, ho2, hB2⟩
  obtain ⟨A2, c2', rfl⟩ := own_shape ho2
  have hp2 := Rd.of_own ho2
  have hv2 := hv1.below hB2
  have hu2 := hu1.below hB2
  have hB2' := hB1'.trans (hB2.mono hB1'.size)
  clear c0 c1 c2 c3 c4 c5 c6
  clear hv1 hu1 hput ho2
  have c0 := hv2.cellAt 0 _ rfl
  have c1 := hv2.cellAt 1 _ rfl
  have c2 := hv2.cellAt 2 _ rfl
  have c3 := hv2.cellAt 3 _ rfl
  have c4 := hv2.cellAt 4 _ rfl
  have c5 := hv2.cellAt 5 _ rfl
  have c6 := hv2.cellAt 6 _ rfl
  go_wp2_with (fail)
  refine (htext _ _ _ hu2).mono ?_
  rintro e w3 ⟨v3, rfl, ho3, hB3⟩
  obtain ⟨A3, c3', rfl⟩ := own_shape ho3
  have hp3 := Rd.of_own ho3
  have hp2 := hp2.below hB3
  have hv3 := hv2.below hB3
  have hu3 := hu2.below hB3
  have hB3' := hB2'.trans (hB3.mono hB2'.size)
  clear c0 c1 c2 c3 c4 c5 c6
  clear hv2 hu2 htext ho3
  go_upto_region 7 with (fail)
  have HV : Hid (∀ W, Ch nob w3 W → W.rangeAt gg 2 [.int .i64 r.k, .int .i64 r.y, .int .i64 r.a, .int .i64 r.b]) := fun W h => (hv3.below h.below).range 2 _ (fun j v hv => by
    match j, hv with
    | 0, hv | 1, hv | 2, hv | 3, hv => exact hv)
  refine wp_region_noPanic ?_
  refine wp_region_held_drew (S := Ch nob w3) (by kernel_rfl) ((Ch.refl _ _).drew) (fun hHeld => ?_)
  refine wpAnyH_take (i := 0) (oi := ⟨some 23, _, _, _, _, none⟩) (v := ?_) rfl (by kernel_rfl) (by kernel_rfl) (by kernel_rfl) (fun _ _ _ h => h) (Or.inl ⟨by rfl, ?_⟩) (by assumption) ?_
  rotate_left
  · intro w hSw; go_simp; try with_reducible rfl
  try simp only [Act.put, List.setIfInBounds_toArray, List.set_cons_zero, List.set_cons_succ]
  refine wpAnyH_take (i := 1) (oi := ⟨some 24, _, _, _, _, none⟩) (v := ?_) rfl (by kernel_rfl) (by kernel_rfl) (by kernel_rfl) (fun _ _ _ h => h) (Or.inl ⟨by rfl, ?_⟩) (by assumption) ?_
  rotate_left
  · intro w hSw; go_simp; try with_reducible rfl
  try simp only [Act.put, List.setIfInBounds_toArray, List.set_cons_zero, List.set_cons_succ]
  refine wpAnyH_take (i := 2) (oi := ⟨some 25, .load 23 (.tmp 24), _, _, _, none⟩) (v := _) rfl (by kernel_rfl) (by kernel_rfl) (by kernel_rfl) (fun _ _ _ h => h) (yieldsIf_load_mid (by rfl) 23 (.tmp 24) (by rfl) _ (2) (by rfl) _ _ (fun _ hs => HV.out _ hs) Try.underlying23 rfl (sizeO)) (by assumption) ?_
  try simp only [Act.put, List.setIfInBounds_toArray, List.set_cons_zero, List.set_cons_succ]
  refine wpAnyH_take (i := 4) (oi := ⟨some 27, _, _, _, _, none⟩) (v := ?_) rfl (by kernel_rfl) (by kernel_rfl) (by kernel_rfl) (fun _ _ _ h => h) (Or.inl ⟨by rfl, ?_⟩) (by assumption) ?_
  rotate_left
  · intro w hSw; go_simp; try with_reducible rfl
  try simp only [Act.put, List.setIfInBounds_toArray, List.set_cons_zero, List.set_cons_succ]
  refine wpAnyH_take (i := 5) (oi := ⟨some 28, _, _, _, _, none⟩) (v := ?_) rfl (by kernel_rfl) (by kernel_rfl) (by kernel_rfl) (fun _ _ _ h => h) (Or.inl ⟨by rfl, ?_⟩) (by assumption) ?_
  rotate_left
  · intro w hSw; go_simp; try with_reducible rfl
  try simp only [Act.put, List.setIfInBounds_toArray, List.set_cons_zero, List.set_cons_succ]
  refine wpAnyH_take (i := 6) (oi := ⟨some 29, .load 23 (.tmp 28), _, _, _, none⟩) (v := _) rfl (by kernel_rfl) (by kernel_rfl) (by kernel_rfl) (fun _ _ _ h => h) (yieldsIf_load_mid (by rfl) 23 (.tmp 28) (by rfl) _ (2) (by rfl) _ _ (fun _ hs => HV.out _ hs) Try.underlying23 rfl (sizeO)) (by assumption) ?_
  try simp only [Act.put, List.setIfInBounds_toArray, List.set_cons_zero, List.set_cons_succ]
  refine wpAnyH_ready (rs := [3]) (by kernel_rfl) (by simp) ?_
  refine AllReadyH.cons (o := ⟨some 26, _, _, _, _, none⟩) rfl (fun K hK => ?_) AllReadyH.nil
  go_simp
  refine (right7_any cl r.k r.y r.a r.b _).mono ?_
  rintro e' w11 ⟨rfl, hB11⟩
  have hC11 := hHeld.belowR hB11
  refine hK.out _ _ (hC11) (fun hHeld => ?_)
  clear hK K
  try simp only [Act.put, List.setIfInBounds_toArray, List.set_cons_zero, List.set_cons_succ]
  refine wpAnyH_ready (rs := [7]) (by kernel_rfl) (by simp) ?_
  refine AllReadyH.cons (o := ⟨some 30, _, _, _, _, none⟩) rfl (fun K hK => ?_) AllReadyH.nil
  go_simp
  refine (rright7_any cl r.k r.y r.a r.b _).mono ?_
  rintro e' w12 ⟨rfl, hB12⟩
  have hC12 := hC11.belowR hB12
  refine hK.out _ _ (hC12) (fun hHeld => ?_)
  clear hK K
  try simp only [Act.put, List.setIfInBounds_toArray, List.set_cons_zero, List.set_cons_succ]
  refine wpAnyH_take (i := 8) (oi := ⟨some 31, _, _, _, _, none⟩) (v := ?_) rfl (by kernel_rfl) (by kernel_rfl) (by kernel_rfl) (fun _ _ _ h => h) (Or.inl ⟨by rfl, ?_⟩) (by assumption) ?_
  rotate_left
  · intro w hSw; go_simp; try with_reducible rfl
  try simp only [Act.put, List.setIfInBounds_toArray, List.set_cons_zero, List.set_cons_succ]
  refine wpAnyH_done (by kernel_rfl) ?_ _
  refine NoPanic.normal ?_
  clear HV
  have hp2 := hp2.ext hC12
  have hp3 := hp3.ext hC12
  have hu4 := hu3.ext hC12
  have hv4 := hv3.below hC12.below
  have hB4' := hB3'.trans (hC12.below.mono hB3'.size)
  clear hv3 hu3 hHeld hC11 hB11 hB12 hC12
  have c0 := hv4.cellAt 0 _ rfl
  have c1 := hv4.cellAt 1 _ rfl
  have c2 := hv4.cellAt 2 _ rfl
  have c3 := hv4.cellAt 3 _ rfl
  have c4 := hv4.cellAt 4 _ rfl
  have c5 := hv4.cellAt 5 _ rfl
  have c6 := hv4.cellAt 6 _ rfl
  go_wp2_with (fail)
  refine (hfm _ _ _ hu4).mono ?_
  rintro e w5 ⟨rfl, hB5⟩
  have hp2 := hp2.below hB5
  have hp3 := hp3.below hB5
  have hu5 := hu4.below hB5
  have hv5 := hv4.below hB5
  have hB5' := hB4'.trans (hB5.mono hB4'.size)
  clear c0 c1 c2 c3 c4 c5 c6
  clear hv4 hu4 hfm
  go_wp2_with (fail)
  refine (hget _ _ _ hp2).mono ?_
  rintro e w6 ⟨u6, rfl, hr6, hB6⟩
  obtain ⟨A6, p6, rfl⟩ := hr6.shape
  have hp2 := hp2.below hB6
  have hp3 := hp3.below hB6
  have hu6 := hu5.below hB6
  have hv6 := hv5.below hB6
  have hB6' := hB5'.trans (hB6.mono hB5'.size)
  clear hv5 hu5 hget
  go_wp2_with (refine wp_newst 26 8 (.tmp 48) rfl rfl rfl rfl rfl rfl zeroQ (l := r.l (.slice A6 r.g.length p6)) rfl rfl sizeQ (oneQ r _ _ _) (by simp) ?_; intro w7 hx7 hB7 hs7; refine wp_stop ?_)
  have hp2 := hp2.below hB7
  have hp3 := hp3.below hB7
  have hu7 := hu6.below hB7
  have hv7 := hv6.below hB7
  have hr7 := hr6.below hB7
  have hB7' := hB6'.trans (hB7.mono hB6'.size)
  clear hv6 hu6 hr6 hB7 hs7
  obtain ⟨gx, hgx⟩ : ∃ g, g = w6.heap.size := ⟨_, rfl⟩
  rw [← hgx] at hx7 ⊢
  clear hgx
  have c0 := hv7.cellAt 0 _ rfl
  have c1 := hv7.cellAt 1 _ rfl
  have c2 := hv7.cellAt 2 _ rfl
  have c3 := hv7.cellAt 3 _ rfl
  have c4 := hv7.cellAt 4 _ rfl
  have c5 := hv7.cellAt 5 _ rfl
  have c6 := hv7.cellAt 6 _ rfl
  refine wp_go ?_
  go_wp2_with (fail)
  refine (hrput _ _ _ hu7).mono ?_
  rintro e w8 ⟨v8, rfl, ho8, hB8⟩
  obtain ⟨A8, p8, rfl⟩ := own_shape ho8
  have hp2 := hp2.below hB8
  have hp3 := hp3.below hB8
  have hu8 := hu7.below hB8
  have hv8 := hv7.below hB8
  have hr8 := hr7.below hB8
  have hx8 := hx7.below hB8
  have hB8' := hB7'.trans (hB8.mono hB7'.size)
  clear c0 c1 c2 c3 c4 c5 c6
  clear hv7 hu7 hr7 hx7 hrput
  go_wp2_with (fail)
  refine (same_b _ _ r.bt r.bt _ _ _ hp2 (Rd.of_own ho8)).mono ?_
  rintro e w9 ⟨rfl, hB9⟩
  rw [decide_eq_true rfl]
  have hp3 := hp3.below hB9
  have hu9 := hu8.below hB9
  have hv9 := hv8.below hB9
  have hr9 := hr8.below hB9
  have hx9 := hx8.below hB9
  have hB9' := hB8'.trans (hB9.mono hB8'.size)
  clear hv8 hu8 hr8 hx8 ho8 hp2
  have c0 := hv9.cellAt 0 _ rfl
  have c1 := hv9.cellAt 1 _ rfl
  have c2 := hv9.cellAt 2 _ rfl
  have c3 := hv9.cellAt 3 _ rfl
  have c4 := hv9.cellAt 4 _ rfl
  have c5 := hv9.cellAt 5 _ rfl
  have c6 := hv9.cellAt 6 _ rfl
  go_wp2_with (fail)
  refine (hrtext _ _ _ hu9).mono ?_
  rintro e w10 ⟨v10, rfl, ho10, hB10⟩
  obtain ⟨A10, p10, rfl⟩ := own_shape ho10
  have hp3 := hp3.below hB10
  have hu10 := hu9.below hB10
  have hv10 := hv9.below hB10
  have hr10 := hr9.below hB10
  have hx10 := hx9.below hB10
  have hB10' := hB9'.trans (hB10.mono hB9'.size)
  clear c0 c1 c2 c3 c4 c5 c6
  clear hv9 hu9 hr9 hx9 hrtext
  go_wp2_with (fail)
  refine (same_b _ _ r.text r.text _ _ _ hp3 (Rd.of_own ho10)).mono ?_
  rintro e w11 ⟨rfl, hB11⟩
  rw [decide_eq_true rfl]
  have hu11 := hu10.below hB11
  have hv11 := hv10.below hB11
  have hr11 := hr10.below hB11
  have hx11 := hx10.below hB11
  have hB11' := hB10'.trans (hB11.mono hB10'.size)
  clear hv10 hu10 hr10 hx10 ho10 hp3
  have c0 := hv11.cellAt 0 _ rfl
  have c1 := hv11.cellAt 1 _ rfl
  have c2 := hv11.cellAt 2 _ rfl
  have c3 := hv11.cellAt 3 _ rfl
  have c4 := hv11.cellAt 4 _ rfl
  have c5 := hv11.cellAt 5 _ rfl
  have c6 := hv11.cellAt 6 _ rfl
  have d0 := hx11.cellAt 0 _ rfl
  have d1 := hx11.cellAt 1 _ rfl
  have d2 := hx11.cellAt 2 _ rfl
  have d3 := hx11.cellAt 3 _ rfl
  have d4 := hx11.cellAt 4 _ rfl
  have d5 := hx11.cellAt 5 _ rfl
  have d6 := hx11.cellAt 6 _ rfl
  go_wp2_with (fail)
  refine (hsame _ _ _ _ _ hr11 hu11).mono ?_
  rintro e w12 ⟨rfl, hB12⟩
  go_wp2
  go_ret
  exact ⟨rfl, hB11'.trans (hB12.mono hB11'.size)⟩
theorem reqsPuts_law (r : Rq) (u : Value) (cl : Int) (F : Nat → Prop) (w : World) (hu : Rd w F u (bys r.g)) (ha : in64 r.a) (hb : in64 r.b) :
    Calls Try.prog 3 #[r.v u, .int .i64 cl] w fun e w' => e = .returned (.bool true) ∧ Below w.heap.size w w' := by
  cases hf : r.fm with
  | false => exact reqsPuts_false r u cl F w hu ha hb hf
  | true => exact reqsPuts_true r u cl F w hu ha hb hf
end Go.Proofs.Ythdkfcbfjhdpoaa
