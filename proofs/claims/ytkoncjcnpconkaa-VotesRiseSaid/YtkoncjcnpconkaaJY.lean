/- JY: layer 13: contracts of votes: Reg, Slot, Wrote, Accepted, of a nil book too. -/
import Derived.Test.YtkoncjcnpconkaaJX
namespace Go.Proofs.Ytkoncjcnpconkaa
open Go.RowKit Go.V Go.Maps
theorem err_sm {m : Vt} (h : errV m = 0) : VtSm m := by
  have h1 := len_by13 m
  have hl : (Vt.by m).length ≤ 65536 ∧ m.ps.length ≤ 16 := by
    unfold errV at h
    split at h
    · cases h
    · split at h
      · cases h
      · exact ⟨by omega, by omega⟩
  have hfl : ∀ (ps : List (List UInt8)) (t : List UInt8), t ∈ ps → t.length ≤ (ps.flatMap tb1).length := by
    intro ps
    induction ps with
    | nil => intro t ht; cases ht
    | cons x ps ih =>
      intro t ht
      rw [List.flatMap_cons, List.length_append]
      rcases List.mem_cons.1 ht with rfl | ht
      · unfold tb1; rw [List.length_append]; omega
      · have := ih t ht; omega
  exact ⟨by omega, by omega, fun t ht => by have := hfl m.ps t ht; omega⟩
theorem zV_sm : VtSm zV := ⟨by show 0 ≤ _; omega, by show 0 ≤ _; omega, fun t ht => by cases ht⟩
theorem acc_sm {B : List Vt} {S : Int} {L : List (K2 × Vt)} {A : Vt} (h : BkR B S L A) (hf : ∀ m ∈ B, errV m = 0) : VtSm A := by
  rw [h.2]
  cases hq : accQ S B with
  | none => exact zV_sm
  | some y =>
    rcases accQ_mem B none hq with h | h
    · cases h
    · exact err_sm (hf y h)
theorem ent_sm {B : List Vt} (hf : ∀ m ∈ B, errV m = 0) : VtSm (enF13 B) := by
  rcases inv_all (fun m hm => err_parts (hf m hm)) with ⟨h1, _⟩ | ⟨h1, h2, _⟩
  · rw [h1]; exact zV_sm
  · rw [← parts_reg h2 h1]; exact ⟨by show 0 ≤ _; omega, by show 0 ≤ _; omega, fun t ht => by cases ht⟩
theorem find_sm {B : List Vt} {S : Int} {L : List (K2 × Vt)} {A d : Vt} {x : K2} (h : BkR B S L A) (hf : ∀ m ∈ B, errV m = 0) (hd : findS L x = some d) : VtSm d := by
  rw [h.1 x] at hd
  exact err_sm (hf d (List.mem_of_find?_eq_some hd))
set_option maxRecDepth 100000 in
set_option maxHeartbeats 2000000 in
theorem breg13_any (v : Value) (M F : Nat → Prop) (B : List Vt) (w : World) (h : BX w v M F B) :
    Calls Try.prog 24 #[v] w fun e w' => e = .returned (.tuple #[.int .i64 (regB B).1, .int .i64 (regB B).2]) ∧ Below w.heap.size w w' := by
  obtain ⟨p, b, eb, ep, ab, ap, L, A, rfl, hbm, hM, hall, hbl⟩ := h
  have hr : regB B = ((enF13 B).v, (enF13 B).r) := ent_reg (fun m hm => err_parts (hall m hm))
  rw [hr]
  have hl1 : ((enF13 B).l eb ep)[1]? = some (.int .i64 (enF13 B).v) := rfl
  have hl2 : ((enF13 B).l eb ep)[2]? = some (.int .i64 (enF13 B).r) := rfl
  obtain ⟨x, hx⟩ : ∃ x, x = (enF13 B).v := ⟨_, rfl⟩
  obtain ⟨y, hy⟩ : ∃ y, y = (enF13 B).r := ⟨_, rfl⟩
  rw [← hx] at hl1 ⊢
  rw [← hy] at hl2 ⊢
  have H1 : Hid (∀ W, Ch nob w W → W.cell? ⟨p, 1, none⟩ = some (.int .i64 x)) := fun W hc => (hbm.blk.ch hc (fun h => h)).cellAt 1 _ (bk_atE 1 _ hl1)
  have H2 : Hid (∀ W, Ch nob w W → W.cell? ⟨p, 2, none⟩ = some (.int .i64 y)) := fun W hc => (hbm.blk.ch hc (fun h => h)).cellAt 2 _ (bk_atE 2 _ hl2)
  clear hx hy hl1 hl2 hbm hr hall
  go_enter Try.func24, Try.ntmps24
  go_upto_region 3 with (fail)
  refine wp_region_noPanic ?_
  refine wp_region_held_drew (S := Ch nob w) (by kernel_rfl) ((Ch.refl _ _).drew) (fun hHeld => ?_)
  refine wpAnyH_take (i := 0) (oi := ⟨some 6, _, _, _, _, none⟩) (v := ?_) rfl (by kernel_rfl) (by kernel_rfl) (by kernel_rfl) (fun _ _ _ h => h) (Or.inl ⟨by rfl, ?_⟩) (by assumption) ?_
  rotate_left
  · intro w hSw; go_simp; try with_reducible rfl
  try simp only [Act.put, List.setIfInBounds_toArray, List.set_cons_zero, List.set_cons_succ]
  refine wpAnyH_take (i := 1) (oi := ⟨some 7, _, _, _, _, none⟩) (v := ?_) rfl (by kernel_rfl) (by kernel_rfl) (by kernel_rfl) (fun _ _ _ h => h) (Or.inl ⟨by rfl, ?_⟩) (by assumption) ?_
  rotate_left
  · intro w hSw; go_simp; try with_reducible rfl
  try simp only [Act.put, List.setIfInBounds_toArray, List.set_cons_zero, List.set_cons_succ]
  refine wpAnyH_take (i := 2) (oi := ⟨some 8, _, _, _, _, none⟩) (v := ?_) rfl (by kernel_rfl) (by kernel_rfl) (by kernel_rfl) (fun _ _ _ h => h) (Or.inl ⟨by rfl, ?_⟩) (by assumption) ?_
  rotate_left
  · intro w hSw; go_simp; try with_reducible rfl
  try simp only [Act.put, List.setIfInBounds_toArray, List.set_cons_zero, List.set_cons_succ]
  refine wpAnyH_take (i := 3) (oi := ⟨some 9, _, _, _, _, none⟩) (v := ?_) rfl (by kernel_rfl) (by kernel_rfl) (by kernel_rfl) (fun _ _ _ h => h) (Or.inl ⟨by rfl, ?_⟩) (by assumption) ?_
  rotate_left
  · intro w hSw; go_simp; try with_reducible rfl
  try simp only [Act.put, List.setIfInBounds_toArray, List.set_cons_zero, List.set_cons_succ]
  refine wpAnyH_take (i := 4) (oi := ⟨some 10, _, _, _, _, none⟩) (v := ?_) rfl (by kernel_rfl) (by kernel_rfl) (by kernel_rfl) (fun _ _ _ h => h) (Or.inl ⟨by rfl, ?_⟩) (by assumption) ?_
  rotate_left
  · intro w hSw; have hcw := H1.out w hSw; go_simp; try with_reducible rfl
  try simp only [Act.put, List.setIfInBounds_toArray, List.set_cons_zero, List.set_cons_succ]
  refine wpAnyH_take (i := 5) (oi := ⟨some 11, _, _, _, _, none⟩) (v := ?_) rfl (by kernel_rfl) (by kernel_rfl) (by kernel_rfl) (fun _ _ _ h => h) (Or.inl ⟨by rfl, ?_⟩) (by assumption) ?_
  rotate_left
  · intro w hSw; go_simp; try with_reducible rfl
  try simp only [Act.put, List.setIfInBounds_toArray, List.set_cons_zero, List.set_cons_succ]
  refine wpAnyH_take (i := 6) (oi := ⟨some 12, _, _, _, _, none⟩) (v := ?_) rfl (by kernel_rfl) (by kernel_rfl) (by kernel_rfl) (fun _ _ _ h => h) (Or.inl ⟨by rfl, ?_⟩) (by assumption) ?_
  rotate_left
  · intro w hSw; go_simp; try with_reducible rfl
  try simp only [Act.put, List.setIfInBounds_toArray, List.set_cons_zero, List.set_cons_succ]
  refine wpAnyH_take (i := 7) (oi := ⟨some 13, _, _, _, _, none⟩) (v := ?_) rfl (by kernel_rfl) (by kernel_rfl) (by kernel_rfl) (fun _ _ _ h => h) (Or.inl ⟨by rfl, ?_⟩) (by assumption) ?_
  rotate_left
  · intro w hSw; go_simp; try with_reducible rfl
  try simp only [Act.put, List.setIfInBounds_toArray, List.set_cons_zero, List.set_cons_succ]
  refine wpAnyH_take (i := 8) (oi := ⟨some 14, _, _, _, _, none⟩) (v := ?_) rfl (by kernel_rfl) (by kernel_rfl) (by kernel_rfl) (fun _ _ _ h => h) (Or.inl ⟨by rfl, ?_⟩) (by assumption) ?_
  rotate_left
  · intro w hSw; go_simp; try with_reducible rfl
  try simp only [Act.put, List.setIfInBounds_toArray, List.set_cons_zero, List.set_cons_succ]
  refine wpAnyH_take (i := 9) (oi := ⟨some 15, _, _, _, _, none⟩) (v := ?_) rfl (by kernel_rfl) (by kernel_rfl) (by kernel_rfl) (fun _ _ _ h => h) (Or.inl ⟨by rfl, ?_⟩) (by assumption) ?_
  rotate_left
  · intro w hSw; have hcw := H2.out w hSw; go_simp; try with_reducible rfl
  try simp only [Act.put, List.setIfInBounds_toArray, List.set_cons_zero, List.set_cons_succ]
  refine wpAnyH_take (i := 10) (oi := ⟨some 2, _, _, _, _, none⟩) (v := ?_) rfl (by kernel_rfl) (by kernel_rfl) (by kernel_rfl) (fun _ _ _ h => h) (Or.inl ⟨by rfl, ?_⟩) (by assumption) ?_
  rotate_left
  · intro w hSw; go_simp; try with_reducible rfl
  try simp only [Act.put, List.setIfInBounds_toArray, List.set_cons_zero, List.set_cons_succ]
  refine wpAnyH_take (i := 11) (oi := ⟨some 3, _, _, _, _, none⟩) (v := ?_) rfl (by kernel_rfl) (by kernel_rfl) (by kernel_rfl) (fun _ _ _ h => h) (Or.inl ⟨by rfl, ?_⟩) (by assumption) ?_
  rotate_left
  · intro w hSw; go_simp; try with_reducible rfl
  try simp only [Act.put, List.setIfInBounds_toArray, List.set_cons_zero, List.set_cons_succ]
  refine wpAnyH_done (by kernel_rfl) ?_ _
  refine NoPanic.normal ?_
  go_wp2
  go_ret2
  exact ⟨rfl, hHeld.below⟩
theorem bslot13_any (v : Value) (M F : Nat → Prop) (B : List Vt) (w : World) (h : BX w v M F B) :
    Calls Try.prog 26 #[v] w fun e w' => e = .returned (.int .i64 (slotF B)) ∧ Below w.heap.size w w' := by
  obtain ⟨p, b, eb, ep, ab, ap, L, A, rfl, hbm, hM, hall, hbl⟩ := h
  obtain ⟨S, hS⟩ : ∃ S, S = slotF B := ⟨_, rfl⟩
  rw [← hS] at hbm ⊢
  have c38 := hbm.blk.cellAt 38 _ (bk_at38 (len_vt _ _ _))
  clear hS hbm
  go_enter Try.func26, Try.ntmps26
  go_wp2
  go_ret
  exact ⟨rfl, Below.refl _ _⟩
theorem wr_tail {A : Vt} {B : List Vt} {S : Int} {L : List (K2 × Vt)} (h : BkR B S L A) : accQ S B = if A.k = 0 then none else some A := by
  cases hq : accQ S B with
  | none => rw [h.2, hq]; rfl
  | some y =>
    have := accQ_out (s := S) B none (fun y hy => by cases hy) hq
    have hA : A = y := by rw [h.2, hq]; rfl
    rw [hA, if_neg (by omega)]
set_option maxRecDepth 100000 in
set_option maxHeartbeats 4000000 in
theorem bacc13_any (v : Value) (M F : Nat → Prop) (B : List Vt) (w : World) (h : BX w v M F B) :
    Calls Try.prog 25 #[v] w fun e w' => ∃ ub up, e = .returned (.tuple #[((accF B).getD zV).val ub up, .bool (accF B).isSome]) ∧ Rd w' (fun b => w.heap.size ≤ b) ub (bys ((accF B).getD zV).b) ∧ Rd w' (fun b => w.heap.size ≤ b) up (tx ((accF B).getD zV).ps) ∧ Below w.heap.size w w' := by
  obtain ⟨p, b, eb, ep, ab, ap, L, A, rfl, hbm, hM, hall, hbl⟩ := h
  have hsm := acc_sm hbm.rel hall
  have hA : (accF B).getD zV = A := hbm.rel.2.symm
  have hI : (accF B).isSome = (A.k != 0) := by
    have := wr_tail hbm.rel
    unfold accF
    rw [this]
    by_cases hk : A.k = 0
    · rw [if_pos hk, hk]; rfl
    · rw [if_neg hk]; exact (bne_iff_ne.2 hk).symm
  rw [hA, hI]
  clear hA hI
  obtain ⟨q, hq⟩ : ∃ q, q = (A.k != 0) := ⟨_, rfl⟩
  have hca := fun W => came13_any A ab ap W
  have hcp := fun W h1 h2 => copied13_any A ab ap F F W hsm h1 h2
  rw [← hq] at hca ⊢
  unfold Vt.val at hca hcp ⊢
  have Hca := hid hca
  have Hcp := hid hcp
  obtain ⟨AA, ca, rfl⟩ := hbm.ab.shape
  obtain ⟨AC, cc, rfl, _, _⟩ := hbm.ap.slShape
  clear hq hca hcp hsm
  have hz := Blk.new' w 27 zVl
  have hB0 : Below w.heap.size w (w.alloc (.cells zVl.toArray 27)) := (Below.refl _ _).alloc (Nat.le_refl _) _
  have hb0 := hbm.below hB0
  have hpl := hbm.blk.lt
  go_enter Try.func25, Try.ntmps25
  go_wp2_with (refine wp_new 27 rfl rfl zeroV13 ?_; refine wp_stop ?_)
  obtain ⟨w0, hw0⟩ : ∃ w0, w0 = w.alloc (.cells zVl.toArray 27) := ⟨_, rfl⟩
  rw [← hw0] at hz hB0 hb0 ⊢
  obtain ⟨g2, hg2⟩ : ∃ g, g = w.heap.size := ⟨_, rfl⟩
  rw [← hg2] at hz ⊢
  have hgw : w.heap.size ≤ g2 := by omega
  have hpg : p ≠ g2 := by omega
  have hFg : ∀ x, F x → ¬ x = g2 := fun x hx e => by have := (hbm.f x hx).2.2; omega
  clear hw0 hg2 hbm
  have hra := hb0.ab
  have hrq := hb0.ap
  have hzl := hz.lt
  refine wp_go ?_
  go_upto_region 3 with (fail)
  have HA : Hid (∀ W, Ch (fun x => x = g2) w0 W → W.rangeAt p 40 (A.l (.slice AA A.b.length ca) (.slice AC A.ps.length cc))) := fun W hc => (hb0.blk.ch hc hpg).range 40 _ (bk_atA (len_vt _ _ _))
  refine wp_region_noPanic ?_
  refine wp_region_held_drew (S := Ch (fun x => x = g2) w0) (by kernel_rfl) ((Ch.refl _ _).drew) (fun hHeld => ?_)
  refine wpAnyH_take (i := 0) (oi := ⟨some 7, _, _, _, _, none⟩) (v := ?_) rfl (by kernel_rfl) (by kernel_rfl) (by kernel_rfl) (fun _ _ _ h => h) (Or.inl ⟨by rfl, ?_⟩) (by assumption) ?_
  rotate_left
  · intro w hSw; go_simp; try with_reducible rfl
  try simp only [Act.put, List.setIfInBounds_toArray, List.set_cons_zero, List.set_cons_succ]
  refine wpAnyH_take (i := 1) (oi := ⟨some 8, _, _, _, _, none⟩) (v := ?_) rfl (by kernel_rfl) (by kernel_rfl) (by kernel_rfl) (fun _ _ _ h => h) (Or.inl ⟨by rfl, ?_⟩) (by assumption) ?_
  rotate_left
  · intro w hSw; go_simp; try with_reducible rfl
  try simp only [Act.put, List.setIfInBounds_toArray, List.set_cons_zero, List.set_cons_succ]
  refine wpAnyH_take (i := 2) (oi := ⟨some 9, _, _, _, _, none⟩) (v := ?_) rfl (by kernel_rfl) (by kernel_rfl) (by kernel_rfl) (fun _ _ _ h => h) (Or.inl ⟨by rfl, ?_⟩) (by assumption) ?_
  rotate_left
  · intro w hSw; go_simp; try with_reducible rfl
  try simp only [Act.put, List.setIfInBounds_toArray, List.set_cons_zero, List.set_cons_succ]
  refine wpAnyH_take (i := 3) (oi := ⟨some 10, .load 27 (.tmp 9), _, _, _, none⟩) (v := _) rfl (by kernel_rfl) (by kernel_rfl) (by kernel_rfl) (fun _ _ _ h => h) (yieldsIf_load_mid (by rfl) 27 (.tmp 9) (by rfl) _ (40) (by rfl) _ _ (fun _ hs => HA.out _ hs) Try.underlying27 rfl (by rw [len_vt]; exact sizeVt)) (by assumption) ?_
  try simp only [Act.put, List.setIfInBounds_toArray, List.set_cons_zero, List.set_cons_succ]
  refine wpAnyH_take (i := 5) (oi := ⟨some 12, _, _, _, _, none⟩) (v := ?_) rfl (by kernel_rfl) (by kernel_rfl) (by kernel_rfl) (fun _ _ _ h => h) (Or.inl ⟨by rfl, ?_⟩) (by assumption) ?_
  rotate_left
  · intro w hSw; go_simp; try with_reducible rfl
  try simp only [Act.put, List.setIfInBounds_toArray, List.set_cons_zero, List.set_cons_succ]
  refine wpAnyH_take (i := 6) (oi := ⟨some 13, _, _, _, _, none⟩) (v := ?_) rfl (by kernel_rfl) (by kernel_rfl) (by kernel_rfl) (fun _ _ _ h => h) (Or.inl ⟨by rfl, ?_⟩) (by assumption) ?_
  rotate_left
  · intro w hSw; go_simp; try with_reducible rfl
  try simp only [Act.put, List.setIfInBounds_toArray, List.set_cons_zero, List.set_cons_succ]
  refine wpAnyH_take (i := 7) (oi := ⟨some 14, _, _, _, _, none⟩) (v := ?_) rfl (by kernel_rfl) (by kernel_rfl) (by kernel_rfl) (fun _ _ _ h => h) (Or.inl ⟨by rfl, ?_⟩) (by assumption) ?_
  rotate_left
  · intro w hSw; go_simp; try with_reducible rfl
  try simp only [Act.put, List.setIfInBounds_toArray, List.set_cons_zero, List.set_cons_succ]
  refine wpAnyH_take (i := 8) (oi := ⟨some 15, .load 27 (.tmp 14), _, _, _, none⟩) (v := _) rfl (by kernel_rfl) (by kernel_rfl) (by kernel_rfl) (fun _ _ _ h => h) (yieldsIf_load_mid (by rfl) 27 (.tmp 14) (by rfl) _ (40) (by rfl) _ _ (fun _ hs => HA.out _ hs) Try.underlying27 rfl (by rw [len_vt]; exact sizeVt)) (by assumption) ?_
  try simp only [Act.put, List.setIfInBounds_toArray, List.set_cons_zero, List.set_cons_succ]
  refine wpAnyH_ready (rs := [4]) (by kernel_rfl) (by simp) ?_
  refine AllReadyH.cons (o := ⟨some 11, _, _, _, _, none⟩) rfl (fun K hK => ?_) AllReadyH.nil
  go_simp
  refine (Hcp.out _ (hra.ch hHeld hFg) (hrq.ch hHeld hFg)).mono ?_
  rintro e' w4 ⟨vb, vp, rfl, hr4, hr5, hB4⟩
  obtain ⟨A4, c4, rfl⟩ := hr4.shape
  obtain ⟨A5, c5, rfl, _, _⟩ := hr5.slShape
  have hs4 := hHeld.size
  have hC4 := hHeld.belowR hB4
  have hz4 := (hz.keep (w' := w0.drew) rfl).below hB4
  refine hK.out _ _ (hC4) (fun hHeld => ?_)
  clear hK K
  try simp only [Act.put, List.setIfInBounds_toArray, List.set_cons_zero, List.set_cons_succ]
  refine wpAnyH_ready (rs := [9]) (by kernel_rfl) (by simp) ?_
  refine AllReadyH.cons (o := ⟨some 16, _, _, _, _, none⟩) rfl (fun K hK => ?_) AllReadyH.nil
  go_simp
  refine (Hca.out _).mono ?_
  rintro e' w9 ⟨rfl, hB9⟩
  have hC9 := hC4.belowR hB9
  have hz9 := hz4.below hB9
  refine hK.out _ _ (hC9) (fun hHeld => ?_)
  clear hK K
  try simp only [Act.put, List.setIfInBounds_toArray, List.set_cons_zero, List.set_cons_succ]
  refine wpAnyH_ready (rs := [10]) (by kernel_rfl) (by simp) ?_
  refine AllReadyH.cons (o := ⟨none, _, _, _, _, none⟩) rfl (fun K hK => ?_) AllReadyH.nil
  refine step_st 27 (.tmp 2) (.tmp 11) (by rfl) (by rfl) (by rfl) (f := 0) (by rfl) (l := A.l (.slice A4 A.b.length c4) (.slice A5 A.ps.length c5)) (by rfl) hz9 (by rw [len_vt, len_zVl]; omega) (by rw [len_vt]; exact sizeVt) one_vt ?_
  intro w10 hz10 hG10
  refine hK.out _ _ (hC9.grow hG10 (fun k hk => .inl (by injection hk with hk; exact hk.symm))) (fun hHeld => ?_)
  clear hK K
  try simp only [Act.put, List.setIfInBounds_toArray, List.set_cons_zero, List.set_cons_succ]
  refine wpAnyH_take (i := 11) (oi := ⟨some 3, _, _, _, _, none⟩) (v := ?_) rfl (by kernel_rfl) (by kernel_rfl) (by kernel_rfl) (fun _ _ _ h => h) (Or.inl ⟨by rfl, ?_⟩) (by assumption) ?_
  rotate_left
  · intro w hSw; go_simp; try with_reducible rfl
  try simp only [Act.put, List.setIfInBounds_toArray, List.set_cons_zero, List.set_cons_succ]
  refine wpAnyH_done (by kernel_rfl) ?_ _
  refine NoPanic.normal ?_
  rw [show zVl.take 0 ++ A.l (.slice A4 A.b.length c4) (.slice A5 A.ps.length c5) ++ zVl.drop (0 + (A.l (.slice A4 A.b.length c4) (.slice A5 A.ps.length c5)).length) = A.l (.slice A4 A.b.length c4) (.slice A5 A.ps.length c5) from by rw [len_vt]; simp [zVl, zs8]] at hz10
  have hBw := hB0.trans ((Ch.refl nob w0).drew.below.mono hB0.size)
  have hB94 := (hBw.trans (hB4.mono hBw.size))
  have hB99 := hB94.trans (hB9.mono hB94.size)
  have hB10 := hB99.grown hG10 hB99.size (fun k hk => by injection hk with hk; omega)
  have hk10 : ∀ x, x < w9.heap.size → w0.drew.heap.size ≤ x → w.heap.size ≤ x ∧ w10.heap[x]? = w9.heap[x]? := fun x hx h => ⟨Nat.le_trans hBw.size h, hG10.block x hx (fun e => by injection e with e; have h' : w0.heap.size ≤ x := h; omega)⟩
  have hr10 := (hr4.below hB9).keep (F' := fun b => w.heap.size ≤ b) (fun x hx h => hk10 x hx h)
  have hr11 := (hr5.below hB9).keep (F' := fun b => w.heap.size ≤ b) (fun x hx h => hk10 x hx h)
  clear hk10 hB99 hB94 hBw hG10 hz9 hz4 hr4 hr5 hB4 hB9 hC4 hC9 hHeld HA Hca Hcp hb0 hra hrq hz
  go_wp2
  refine ret_cell1 rfl rfl rfl hz10.whole Try.underlying27 rfl (by rw [len_vt]; exact sizeVt) rfl ?_
  exact ⟨_, _, rfl, hr10, hr11, hB10⟩
set_option maxRecDepth 100000 in
set_option maxHeartbeats 4000000 in
theorem bwrote13_any (v : Value) (M F : Nat → Prop) (B : List Vt) (x y : Int) (w : World) (h : BX w v M F B) (hx : in64w x) (hy : in64w y) :
    Calls Try.prog 23 #[v, .int .i64 x, .int .i64 y] w fun e w' => ∃ ub up, e = .returned (.tuple #[((wroteF B x y).getD zV).val ub up, .bool (wroteF B x y).isSome]) ∧ Rd w' (fun b => w.heap.size ≤ b) ub (bys ((wroteF B x y).getD zV).b) ∧ Rd w' (fun b => w.heap.size ≤ b) up (tx ((wroteF B x y).getD zV).ps) ∧ Below w.heap.size w w' := by
  obtain ⟨p, b, eb, ep, ab, ap, L, A, rfl, hbm, hM, hall, hbl⟩ := h
  have hfd : findS L ⟨(x, y), lit64 hx, lit64 hy⟩ = wroteF B x y := hbm.rel.1 ⟨(x, y), lit64 hx, lit64 hy⟩
  have hsm : ∀ d, wroteF B x y = some d → VtSm d := fun d hd => find_sm hbm.rel hall (hfd.trans hd)
  obtain ⟨o, ho⟩ : ∃ o, o = wroteF B x y := ⟨_, rfl⟩
  rw [← ho] at hfd hsm ⊢
  have hoz : VtSm (o.getD zV) := by
    cases o with
    | none => exact zV_sm
    | some d => exact hsm d rfl
  have c39 := hbm.blk.cellAt 39 _ (bk_at39 (len_vt _ _ _))
  have hMp := hbm.map
  have hFl : ∀ z, F z → z < w.heap.size := fun z hz => (hbm.f z hz).2.2
  have hpl := hbm.blk.lt
  clear hsm hbm ho
  have hz := Blk.new' w 27 zVl
  have hB0 : Below w.heap.size w (w.alloc (.cells zVl.toArray 27)) := (Below.refl _ _).alloc (Nat.le_refl _) _
  have hM0 := hMp.below hB0
  have c39 : (w.alloc (.cells zVl.toArray 27)).cell? ⟨p, 39, none⟩ = some (.map (some b)) := (hB0.cell (p := ⟨p, 39, none⟩) hpl).trans c39
  go_enter Try.func23, Try.ntmps23
  go_wp2_with (refine wp_new 27 rfl rfl zeroV13 ?_; refine wp_stop ?_)
  obtain ⟨w0, hw0⟩ : ∃ w0, w0 = w.alloc (.cells zVl.toArray 27) := ⟨_, rfl⟩
  rw [← hw0] at hz hB0 hM0 c39 ⊢
  obtain ⟨g6, hg6⟩ : ∃ g, g = w.heap.size := ⟨_, rfl⟩
  rw [← hg6] at hz ⊢
  have hgw : w.heap.size ≤ g6 := by omega
  clear hw0 hg6 hMp
  refine wp_go ?_
  have hres : ∃ (z : Value) (ub up : Value), (o = none → z = zV.val (.slice none 0 0) (.slice none 0 0)) ∧ True ∧ ub = ub ∧ up = up := ⟨zV.val (.slice none 0 0) (.slice none 0 0), .bool false, .bool false, fun _ => rfl, trivial, rfl, rfl⟩
  clear hres
  cases o with
  | none =>
    go_wp2_with (first | (refine wp_lookS 64 27 (.tmp 17) (.tmp 20) rfl rfl Try.underlying64 (zVote _) rfl hM0 (s := ⟨(x, y), lit64 hx, lit64 hy⟩) rfl (fun _ => ?_) (fun d v h _ => by rw [hfd] at h; cases h)) | (refine wp_newst 27 8 (.tmp 22) rfl rfl rfl rfl rfl rfl zeroV13 (l := zV.l (.slice none 0 0) (.slice none 0 0)) rfl (by rw [len_vt, len_zVl]) (by rw [len_vt]; exact sizeVt) one_vt (by simp) ?_; intro w4 hq4 hB4 hs4; refine wp_stop ?_))
    have hub4 : Rd w4 nob (.slice none 0 0) (bys zV.b) := Rd.nil _ _
    have hup4 : Rd w4 nob (.slice none 0 0) (tx zV.ps) := by unfold tx Rd; exact ⟨none, 0, rfl, Nat.le_refl _, by simp [maxLen], fun _ => rfl, fun h => absurd rfl h⟩
    have hcp := copied13_any zV (.slice none 0 0) (.slice none 0 0) nob nob w4 zV_sm hub4 hup4
    unfold Vt.val at hcp
    have Hcp := hid hcp
    have hzl := hz.lt
    have hz4 := hz.below hB4
    have hB4' := hB0.trans (hB4.mono hB0.size)
    obtain ⟨g8, hg8⟩ : ∃ g, g = w0.heap.size := ⟨_, rfl⟩
    rw [← hg8] at hq4 ⊢
    clear hcp hg8 hs4 hB4 hM0 c39 hfd
    refine wp_go ?_
    go_wp2_with (first | refine wp_ld 27 (.tmp 8) rfl rfl rfl hq4.whole Try.underlying27 rfl (by rw [len_vt]; exact sizeVt) ?_)
    refine Hcp.out.mono ?_
    rintro e' w5 ⟨vb, vp, rfl, hr5, hr6, hB5⟩
    obtain ⟨A8, c8, rfl⟩ := hr5.shape
    obtain ⟨A9, c9, rfl, _, _⟩ := hr6.slShape
    have hz5 := hz4.below hB5
    have hs4 := hB4'.size
    have hzl4 := hz4.lt
    have hB5' := hB4'.trans (hB5.mono hs4)
    clear Hcp hB5 hz4 hq4
    go_wp2_with (first | (refine wp_st 27 (.tmp 6) (.tmp 25) rfl rfl rfl (f := 0) rfl (l := zV.l (.slice A8 zV.b.length c8) (.slice A9 zV.ps.length c9)) rfl hz5 (by rw [len_vt, len_zVl]; omega) (by rw [len_vt]; exact sizeVt) one_vt ?_; intro w6 hz6 hG6; refine wp_stop ?_))
    rw [show zVl.take 0 ++ zV.l (.slice A8 zV.b.length c8) (.slice A9 zV.ps.length c9) ++ zVl.drop (0 + (zV.l (.slice A8 zV.b.length c8) (.slice A9 zV.ps.length c9)).length) = zV.l (.slice A8 zV.b.length c8) (.slice A9 zV.ps.length c9) from by rw [len_vt]; simp [zVl, zs8]] at hz6
    have hk6 : ∀ x, x < w5.heap.size → w4.heap.size ≤ x → w.heap.size ≤ x ∧ w6.heap[x]? = w5.heap[x]? := fun x hx h => ⟨Nat.le_trans hs4 h, hG6.block x hx (fun e => by injection e with e; omega)⟩
    have hr7 := hr5.keep (F' := fun b => w.heap.size ≤ b) (fun x hx h => hk6 x hx h)
    have hr8 := hr6.keep (F' := fun b => w.heap.size ≤ b) (fun x hx h => hk6 x hx h)
    have hB6 := hB5'.grown hG6 hB5'.size (fun k hk => by injection hk with hk; omega)
    clear hk6 hr5 hr6 hG6 hz5 hB5' hB4' hoz
    refine wp_go ?_
    go_wp2
    refine ret_cell1 rfl rfl rfl hz6.whole Try.underlying27 rfl (by rw [len_vt]; exact sizeVt) rfl ?_
    exact ⟨_, _, rfl, hr7, hr8, hB6⟩
  | some d =>
    go_wp2_with (first | (refine wp_lookS 64 27 (.tmp 17) (.tmp 20) rfl rfl Try.underlying64 (zVote _) rfl hM0 (s := ⟨(x, y), lit64 hx, lit64 hy⟩) rfl (fun h => by rw [hfd] at h; cases h) (fun d2 v hd2 hv2 => ?_); rw [hfd] at hd2; injection hd2 with hd2; subst hd2; obtain ⟨cs2, rfl, hel2⟩ := hv2; obtain ⟨ub2, up2, rfl, hub2, hup2⟩ := vt_open hel2; obtain ⟨A6, c6, rfl⟩ := hub2.shape; obtain ⟨A7, c7, rfl, _, _⟩ := hup2.slShape) | (refine wp_newst 27 8 (.tmp 22) rfl rfl rfl rfl rfl rfl zeroV13 (l := d.l (.slice A6 d.b.length c6) (.slice A7 d.ps.length c7)) rfl (by rw [len_vt, len_zVl]) (by rw [len_vt]; exact sizeVt) one_vt (by simp) ?_; intro w4 hq4 hB4 hs4; refine wp_stop ?_))
    have hcp := copied13_any d (.slice A6 d.b.length c6) (.slice A7 d.ps.length c7) F F w4 hoz (hub2.below hB4) (hup2.below hB4)
    unfold Vt.val at hcp
    clear hel2 hub2 hup2
    have Hcp := hid hcp
    have hzl := hz.lt
    have hz4 := hz.below hB4
    have hB4' := hB0.trans (hB4.mono hB0.size)
    obtain ⟨g8, hg8⟩ : ∃ g, g = w0.heap.size := ⟨_, rfl⟩
    rw [← hg8] at hq4 ⊢
    clear hcp hg8 hs4 hB4 hM0 c39 hfd
    refine wp_go ?_
    go_wp2_with (first | refine wp_ld 27 (.tmp 8) rfl rfl rfl hq4.whole Try.underlying27 rfl (by rw [len_vt]; exact sizeVt) ?_)
    refine Hcp.out.mono ?_
    rintro e' w5 ⟨vb, vp, rfl, hr5, hr6, hB5⟩
    obtain ⟨A8, c8, rfl⟩ := hr5.shape
    obtain ⟨A9, c9, rfl, _, _⟩ := hr6.slShape
    have hz5 := hz4.below hB5
    have hs4 := hB4'.size
    have hzl4 := hz4.lt
    have hB5' := hB4'.trans (hB5.mono hs4)
    clear Hcp hB5 hz4 hq4
    go_wp2_with (first | (refine wp_st 27 (.tmp 6) (.tmp 25) rfl rfl rfl (f := 0) rfl (l := d.l (.slice A8 d.b.length c8) (.slice A9 d.ps.length c9)) rfl hz5 (by rw [len_vt, len_zVl]; omega) (by rw [len_vt]; exact sizeVt) one_vt ?_; intro w6 hz6 hG6; refine wp_stop ?_))
    rw [show zVl.take 0 ++ d.l (.slice A8 d.b.length c8) (.slice A9 d.ps.length c9) ++ zVl.drop (0 + (d.l (.slice A8 d.b.length c8) (.slice A9 d.ps.length c9)).length) = d.l (.slice A8 d.b.length c8) (.slice A9 d.ps.length c9) from by rw [len_vt]; simp [zVl, zs8]] at hz6
    have hk6 : ∀ x, x < w5.heap.size → w4.heap.size ≤ x → w.heap.size ≤ x ∧ w6.heap[x]? = w5.heap[x]? := fun x hx h => ⟨Nat.le_trans hs4 h, hG6.block x hx (fun e => by injection e with e; omega)⟩
    have hr7 := hr5.keep (F' := fun b => w.heap.size ≤ b) (fun x hx h => hk6 x hx h)
    have hr8 := hr6.keep (F' := fun b => w.heap.size ≤ b) (fun x hx h => hk6 x hx h)
    have hB6 := hB5'.grown hG6 hB5'.size (fun k hk => by injection hk with hk; omega)
    clear hk6 hr5 hr6 hG6 hz5 hB5' hB4' hoz
    refine wp_go ?_
    go_wp2
    refine ret_cell1 rfl rfl rfl hz6.whole Try.underlying27 rfl (by rw [len_vt]; exact sizeVt) rfl ?_
    exact ⟨_, _, rfl, hr7, hr8, hB6⟩
/-! a book that is not there -/
set_option maxRecDepth 100000 in
theorem btake13_nil (x : Value) (w : World) (hx : ∃ m : Vt, ∃ ub up F G, x = m.val ub up ∧ Rd w F ub (bys m.b) ∧ Rd w G up (tx m.ps) ∧ VtIn m) : Calls Try.prog 17 #[.pointer none, x] w fun e w' => e = .returned (.int .i64 16) ∧ Below w.heap.size w w' := by
  obtain ⟨m, ub, up, F, G, rfl, hub, hup, hm⟩ := hx
  unfold Vt.val
  go_enter Try.func17, Try.ntmps17
  go_wp2
  go_ret
  exact ⟨rfl, (Below.refl _ _).alloc (Nat.le_refl _) _⟩
theorem breg13_nil (w : World) : Calls Try.prog 24 #[.pointer none] w fun e w' => e = .returned (.tuple #[.int .i64 0, .int .i64 0]) ∧ Below w.heap.size w w' := by
  go_enter Try.func24, Try.ntmps24
  go_wp2
  go_ret2
  exact ⟨rfl, Below.refl _ _⟩
theorem bslot13_nil (w : World) : Calls Try.prog 26 #[.pointer none] w fun e w' => e = .returned (.int .i64 0) ∧ Below w.heap.size w w' := by
  go_enter Try.func26, Try.ntmps26
  go_wp2
  go_ret
  exact ⟨rfl, Below.refl _ _⟩
set_option maxRecDepth 100000 in
theorem bwrote13_nil (x y : Int) (w : World) : Calls Try.prog 23 #[.pointer none, .int .i64 x, .int .i64 y] w fun e w' => e = .returned (.tuple #[zV.val (.slice none 0 0) (.slice none 0 0), .bool false]) ∧ Below w.heap.size w w' := by
  have hz := Blk.new' w 27 zVl
  have hB0 : Below w.heap.size w (w.alloc (.cells zVl.toArray 27)) := (Below.refl _ _).alloc (Nat.le_refl _) _
  go_enter Try.func23, Try.ntmps23
  go_wp2_with (first | (refine wp_new 27 rfl rfl zeroV13 ?_; refine wp_stop ?_))
  obtain ⟨w0, hw0⟩ : ∃ w0, w0 = w.alloc (.cells zVl.toArray 27) := ⟨_, rfl⟩
  rw [← hw0] at hz hB0 ⊢
  obtain ⟨g, hg⟩ : ∃ g, g = w.heap.size := ⟨_, rfl⟩
  rw [← hg] at hz ⊢
  have hgw : w.heap.size ≤ g := by omega
  clear hw0 hg
  refine wp_go ?_
  go_wp2_with (first | refine wp_bld 27 [] rfl rfl [] rfl bldV13 ?_ | (refine wp_st 27 (.tmp 6) (.tmp 12) rfl rfl rfl (f := 0) rfl (l := zVl) rfl hz (by rw [len_zVl]; omega) (by rw [len_zVl]; exact sizeVt) one_zVl ?_; intro w6 hz6 hG6; refine wp_stop ?_))
  have hB6 := hB0.grown hG6 hB0.size (fun k hk => by injection hk with hk; omega)
  rw [show zVl.take 0 ++ zVl ++ zVl.drop (0 + zVl.length) = zVl from by simp [zVl, zs8]] at hz6
  clear hz hG6 hB0
  refine wp_go ?_
  go_wp2
  refine ret_cell1 rfl rfl rfl hz6.whole Try.underlying27 rfl (by rw [len_zVl]; exact sizeVt) rfl ?_
  exact ⟨rfl, hB6⟩
set_option maxRecDepth 100000 in
theorem bacc13_nil (w : World) : Calls Try.prog 25 #[.pointer none] w fun e w' => e = .returned (.tuple #[zV.val (.slice none 0 0) (.slice none 0 0), .bool false]) ∧ Below w.heap.size w w' := by
  have hz := Blk.new' w 27 zVl
  have hB0 : Below w.heap.size w (w.alloc (.cells zVl.toArray 27)) := (Below.refl _ _).alloc (Nat.le_refl _) _
  go_enter Try.func25, Try.ntmps25
  go_wp2_with (first | (refine wp_new 27 rfl rfl zeroV13 ?_; refine wp_stop ?_))
  obtain ⟨w0, hw0⟩ : ∃ w0, w0 = w.alloc (.cells zVl.toArray 27) := ⟨_, rfl⟩
  rw [← hw0] at hz hB0 ⊢
  obtain ⟨g, hg⟩ : ∃ g, g = w.heap.size := ⟨_, rfl⟩
  rw [← hg] at hz ⊢
  have hgw : w.heap.size ≤ g := by omega
  clear hw0 hg
  refine wp_go ?_
  go_wp2_with (first | refine wp_bld 27 [] rfl rfl [] rfl bldV13 ?_ | (refine wp_st 27 (.tmp 2) (.tmp 6) rfl rfl rfl (f := 0) rfl (l := zVl) rfl hz (by rw [len_zVl]; omega) (by rw [len_zVl]; exact sizeVt) one_zVl ?_; intro w6 hz6 hG6; refine wp_stop ?_))
  have hB6 := hB0.grown hG6 hB0.size (fun k hk => by injection hk with hk; omega)
  rw [show zVl.take 0 ++ zVl ++ zVl.drop (0 + zVl.length) = zVl from by simp [zVl, zs8]] at hz6
  clear hz hG6 hB0
  refine wp_go ?_
  go_wp2
  refine ret_cell1 rfl rfl rfl hz6.whole Try.underlying27 rfl (by rw [len_zVl]; exact sizeVt) rfl ?_
  exact ⟨rfl, hB6⟩
theorem ball13_nil (w : World) : Calls Try.prog 20 #[.pointer none] w fun e w' => ∃ A c, e = .returned (.slice A 0 c) ∧ Below w.heap.size w w' := by
  go_enter Try.func20, Try.ntmps20
  go_wp2
  go_ret
  exact ⟨_, _, rfl, Below.refl _ _⟩
end Go.Proofs.Ytkoncjcnpconkaa
