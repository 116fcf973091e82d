/- Q5: layer 7: a request's bytes: contracts of bytesOf and Put, by the program and by the document. -/
import Derived.Test.YtnpgloeldoiekaaQ4
import Derived.Deep.DeepCutAuto
namespace Go.Proofs.Ytnpgloeldoiekaa
open Go.RowKit Go.V
theorem sizeQ : (Try.prog.info? 32).map (·.size) = some 7 := by kernel_rfl
set_option maxHeartbeats 1000000 in
theorem bytesOf_any (r : Rq) (u : Value) (F : Nat → Prop) (w : World) (hu : Rd w F u (bys r.g)) (ha : in64 r.a) (hb : in64 r.b) (hf : r.fm = true) :
    Calls Try.prog 33 #[r.v u] w fun e w' => ∃ v', e = .returned v' ∧ NewB w w' v' r.bt := by
  have htx : ∀ W h, Calls Try.prog 36 #[r.v u] W fun e w' => ∃ v', e = .returned v' ∧ NewB W w' v' r.text := fun W h => by have := text7_any r u F W h ha hb; unfold Rq.txt at this; rwa [if_pos hf] at this
  have hlx := len_text r
  have hbt : r.bt = (packed r.text.length ++ r.text) ++ (packed r.g.length ++ r.g) := rfl
  have hlg : r.g.length ≤ 1000 := by obtain ⟨_, _, _, _, _, _, _, _, _, _, _, _, _, h⟩ := fm_bd hf; exact h
  obtain ⟨A, cp, rfl⟩ := hu.shape
  obtain ⟨P, hP⟩ : ∃ P, P = r.bt := ⟨_, rfl⟩
  rw [← hP] at hbt ⊢
  obtain ⟨X, hX⟩ : ∃ X, X = r.text := ⟨_, rfl⟩
  rw [← hX] at hbt htx hlx
  clear hP hX hf
  have hpx := psz_bd X.length
  have Hlp : Hid ((packed X.length ++ X).length = psz X.length + X.length) := by show _ = _; rw [List.length_append, length_packed]
  unfold Rq.v at htx ⊢
  have hvb := Blk.new' w 32 [.int .i64 r.c, .int .i64 r.s, .int .i64 r.k, .int .i64 r.y, .int .i64 r.a, .int .i64 r.b, .slice A r.g.length cp]
  have hB : Below w.heap.size w (w.alloc (.cells #[.int .i64 r.c, .int .i64 r.s, .int .i64 r.k, .int .i64 r.y, .int .i64 r.a, .int .i64 r.b, .slice A r.g.length cp] 32)) := (Below.refl _ _).alloc (Nat.le_refl _) _
  have hub := hu.below hB
  go_enter Try.func33, Try.ntmps33
  go_upto_region 1 with (fail)
  obtain ⟨wq, hwq⟩ : ∃ w0, w0 = w.alloc (.cells #[.int .i64 r.c, .int .i64 r.s, .int .i64 r.k, .int .i64 r.y, .int .i64 r.a, .int .i64 r.b, .slice A r.g.length cp] 32) := ⟨_, rfl⟩
  rw [← hwq] at hvb hB hub ⊢
  clear hwq
  obtain ⟨gg, hgg⟩ : ∃ g, g = w.heap.size := ⟨_, rfl⟩
  rw [← hgg] at hvb ⊢
  clear hgg
  have HV : Hid (∀ W, Ch nob wq W → W.rangeAt gg 0 [.int .i64 r.c, .int .i64 r.s, .int .i64 r.k, .int .i64 r.y, .int .i64 r.a, .int .i64 r.b, .slice A r.g.length cp]) := fun W h => (hvb.below h.below).whole
  have HC : Hid (∀ W, Ch nob wq W → W.cell? ⟨gg, 6, none⟩ = some (.slice A r.g.length cp)) := fun W h => (hvb.below h.below).cellAt 6 _ rfl
  have Hbt := hid hbt
  clear hbt hvb
  refine wp_region_noPanic ?_
  refine wp_region_held_drew (S := Ch nob wq) (by kernel_rfl) ((Ch.refl _ _).drew) (fun hHeld => ?_)
  refine wpAnyH_take (i := 0) (oi := ⟨some 3, .load 32 (.tmp 1), _, _, _, none⟩) (v := _) rfl (by kernel_rfl) (by kernel_rfl) (by kernel_rfl) (fun _ _ _ h => h) (yieldsIf_load_mid (by rfl) 32 (.tmp 1) (by rfl) _ (0) (by rfl) _ _ (fun _ hs => HV.out _ hs) Try.underlying32 rfl (sizeQ)) (by assumption) ?_
  try simp only [Act.put, List.setIfInBounds_toArray, List.set_cons_zero, List.set_cons_succ]
  refine wpAnyH_take (i := 3) (oi := ⟨some 6, _, _, _, _, none⟩) (v := ?_) rfl (by kernel_rfl) (by kernel_rfl) (by kernel_rfl) (fun _ _ _ h => h) (Or.inl ⟨by rfl, ?_⟩) (by assumption) ?_
  rotate_left
  · intro w hSw; go_simp; try with_reducible rfl
  try simp only [Act.put, List.setIfInBounds_toArray, List.set_cons_zero, List.set_cons_succ]
  refine wpAnyH_take (i := 4) (oi := ⟨some 7, _, _, _, _, none⟩) (v := ?_) rfl (by kernel_rfl) (by kernel_rfl) (by kernel_rfl) (fun _ _ _ h => h) (Or.inl ⟨by rfl, ?_⟩) (by assumption) ?_
  rotate_left
  · intro w hSw; have hcw := HC.out w hSw; go_simp; try with_reducible rfl
  try simp only [Act.put, List.setIfInBounds_toArray, List.set_cons_zero, List.set_cons_succ]
  refine wpAnyH_ready (rs := [1]) (by kernel_rfl) (by simp) ?_
  refine AllReadyH.cons (o := ⟨some 4, _, _, _, _, none⟩) rfl (fun K hK => ?_) AllReadyH.nil
  go_simp
  refine (htx _ (hub.ext hHeld)).mono ?_
  rintro e' w11 ⟨va, rfl, hoa, hB11⟩
  have hC11 := hHeld.belowR hB11
  refine hK.out _ _ (hC11) (fun hHeld => ?_)
  clear hK K
  try simp only [Act.put, List.setIfInBounds_toArray, List.set_cons_zero, List.set_cons_succ]
  refine wpAnyH_ready (rs := [2]) (by kernel_rfl) (by simp) ?_
  refine AllReadyH.cons (o := ⟨some 5, _, _, _, _, none⟩) rfl (fun K hK => ?_) AllReadyH.nil
  go_simp
  refine (putt_any _ _ [] X nob _ _ (Rd.nil _ _) (Rd.of_own hoa) (by simp) (by omega)).mono ?_
  rintro e' w12 ⟨vb, rfl, hob, hB12⟩
  rw [List.nil_append] at hob
  have hC12 := hC11.belowR hB12
  refine hK.out _ _ (hC12) (fun hHeld => ?_)
  clear hK K
  try simp only [Act.put, List.setIfInBounds_toArray, List.set_cons_zero, List.set_cons_succ]
  refine wpAnyH_ready (rs := [5]) (by kernel_rfl) (by simp) ?_
  refine AllReadyH.cons (o := ⟨some 8, _, _, _, _, none⟩) rfl (fun K hK => ?_) AllReadyH.nil
  go_simp
  refine (putt_any _ _ (packed X.length ++ X) r.g _ _ _ (Rd.of_own hob) (hub.ext hHeld) (by rw [Hlp.out]; omega) (by omega)).mono ?_
  rintro e' w13 ⟨vc, rfl, hoc, hB13⟩
  have hC13 := hC12.belowR hB13
  refine hK.out _ _ (hC13) (fun hHeld => ?_)
  clear hK K
  try simp only [Act.put, List.setIfInBounds_toArray, List.set_cons_zero, List.set_cons_succ]
  refine wpAnyH_take (i := 6) (oi := ⟨some 2, _, _, _, _, none⟩) (v := ?_) rfl (by kernel_rfl) (by kernel_rfl) (by kernel_rfl) (fun _ _ _ h => h) (Or.inl ⟨by rfl, ?_⟩) (by assumption) ?_
  rotate_left
  · intro w hSw; go_simp; try with_reducible rfl
  try simp only [Act.put, List.setIfInBounds_toArray, List.set_cons_zero, List.set_cons_succ]
  refine wpAnyH_done (by kernel_rfl) ?_ _
  refine NoPanic.normal ?_
  go_wp2
  go_ret
  exact ⟨vc, rfl, by rw [Hbt.out]; exact ⟨own_weak hoc (hB.trans (hC12.below.mono hB.size)).size, hB.trans (hC13.below.mono hB.size)⟩⟩
set_option maxHeartbeats 1000000 in
theorem put7_any (r : Rq) (u : Value) (F : Nat → Prop) (w : World) (hu : Rd w F u (bys r.g)) (ha : in64 r.a) (hb : in64 r.b) :
    Calls Try.prog 29 #[r.v u] w fun e w' => ∃ v', e = .returned (.tuple #[v', .int .i64 (if r.fm then 0 else 15)]) ∧ NewB w w' v' (if r.fm then r.bt else []) := by
  have hfm := fun W h => formed_any r u F W h
  have hby := fun hf W h => bytesOf_any r u F W h ha hb hf
  obtain ⟨A, cp, rfl⟩ := hu.shape
  obtain ⟨q, hq⟩ : ∃ q, q = r.fm := ⟨_, rfl⟩
  rw [← hq] at hfm hby ⊢
  clear hq
  unfold Rq.v at hfm hby ⊢
  have hvb := Blk.new' w 32 [.int .i64 r.c, .int .i64 r.s, .int .i64 r.k, .int .i64 r.y, .int .i64 r.a, .int .i64 r.b, .slice A r.g.length cp]
  have hB : Below w.heap.size w (w.alloc (.cells #[.int .i64 r.c, .int .i64 r.s, .int .i64 r.k, .int .i64 r.y, .int .i64 r.a, .int .i64 r.b, .slice A r.g.length cp] 32)) := (Below.refl _ _).alloc (Nat.le_refl _) _
  have hub := hu.below hB
  have c0 := hvb.cellAt 0 _ rfl
  have c1 := hvb.cellAt 1 _ rfl
  have c2 := hvb.cellAt 2 _ rfl
  have c3 := hvb.cellAt 3 _ rfl
  have c4 := hvb.cellAt 4 _ rfl
  have c5 := hvb.cellAt 5 _ rfl
  have c6 := hvb.cellAt 6 _ rfl
  go_enter Try.func29, Try.ntmps29
  go_wp2_with (fail)
  refine (hfm _ hub).mono ?_
  rintro e w1 ⟨rfl, hB1⟩
  have hv1 := hvb.below hB1
  have hB1' := hB.trans (hB1.mono hB.size)
  clear c0 c1 c2 c3 c4 c5 c6 hvb hfm
  have Hby := hid hby
  clear hby
  cases q with
  | false =>
    go_wp2
    go_ret2
    exact ⟨_, rfl, World.ownsRow_nil _ _ _ _, hB1'⟩
  | true =>
    have c0 := hv1.cellAt 0 _ rfl
    have c1 := hv1.cellAt 1 _ rfl
    have c2 := hv1.cellAt 2 _ rfl
    have c3 := hv1.cellAt 3 _ rfl
    have c4 := hv1.cellAt 4 _ rfl
    have c5 := hv1.cellAt 5 _ rfl
    have c6 := hv1.cellAt 6 _ rfl
    go_wp2_with (fail)
    refine (Hby.out trivial _ (hub.below hB1)).mono ?_
    rintro e w2 ⟨v2, rfl, ho2, hB2⟩
    go_wp2
    go_ret2
    exact ⟨v2, rfl, own_weak ho2 hB1'.size, hB1'.trans (hB2.mono hB1'.size)⟩
end Go.Proofs.Ytnpgloeldoiekaa
