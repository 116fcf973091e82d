/- E9: layer 10: Copy of the landed disk. -/
import Derived.Test.YtjaiffefgjopmaaE8
namespace Go.V
open Go.RowKit
theorem wp_bs0W {P : Program} {w : World} {ops : Array Oper} {rest : List Oper} {o : Oper} {a : Act} {Q : Exit → Act → World → Prop} (t e : TypeId) (sz : Nat) (hgd : o.guard = none) (ho : o.op = .buildSlice t 0 #[]) (hr : ∀ W : World, (Instr.buildSlice t 0 #[]).run P W = .ok (.slice (some ⟨W.heap.size, 0, none⟩) 0 0) (W.alloc (.cells #[] e)))
    (h : ∀ v w', w'.ownsRow w.heap.size e sz v 0 [] → Below w.heap.size w w' → wpList P ops Q rest (a.put o.dst v) w') : wpList P ops Q (o :: rest) a w := by
  refine wpList_plain hgd fun K hK => ?_
  unfold Oper.wp execOp
  have e0 : (Array.map (fun (x : Nat × Operand) => (x.1, a.eval x.2)) #[]) = #[] := by simp
  simp only [ho, e0, Sem.run_bind, Sem.run_pure, hr, Result.andThen_ok]
  exact hK _ _ (h _ _ (World.ownsRow_made w #[] 0 (Nat.le_refl _) (by simp [maxLen]) (by simp)) ((Below.refl _ _).alloc (Nat.le_refl _) _))
def cC (c : Nat → Nat) (a x s b f e : Nat) (y : Nat) : Nat := if y < a then c y else if y = x then 0 else if y = s then 1 else if y < b then 3 else if y = f then 2 else if y < e then 4 else 5
theorem one_dc (d : Dk) (s f : Nat) (A : Option Addr) (n c : Nat) : ∀ v ∈ dcZ d s f (.slice A n c), v.oneCell' = true := by
  intro v hv
  simp [dcZ] at hv
  rcases hv with rfl | rfl | rfl | rfl | rfl | rfl <;> rfl
def zDk : List Value := [.int .i64 0, .map none, .map none, .slice none 0 0, .int .i64 0, .bool false]
end Go.V
namespace Go.Proofs.Ytjaiffefgjopmaa
open Go.RowKit Go.V Go.Maps
theorem sizeDe : (Try.prog.info? 64).map (·.size) = some 6 := by kernel_rfl
theorem zeroDk : (Try.prog.info? 64).map (·.zero) = some (some (.agg zDk.toArray)) := by kernel_rfl
set_option maxRecDepth 100000 in
set_option maxHeartbeats 2000000 in
theorem thclone_e (A : Option Addr) (n cp : Nat) (xs : List Value) (w : World) (ho : w.ownsRow 0 76 4 (.slice A n cp) n xs) (h1 : ∀ u ∈ xs, u.oneCell' = true) (hn : n ≤ 1000000) :
    Calls Try.prog 44 #[.slice A n cp] w fun e w' => ∃ v', e = .returned v' ∧ w'.ownsRow w.heap.size 76 4 v' n xs ∧ Below w.heap.size w w' := by
  have hsr := own_srcW ho
  cases A with
  | none =>
    obtain ⟨h0, h2⟩ := hsr.none0
    have hn0 : n = 0 := by omega
    subst hn0 h2
    have hnil := fun W : World => (by kernel_rfl : (Go.binOp BinOp.eql 62 (.slice none 0 cp) (.slice none 0 0)).run Try.prog W = .ok (.bool true) W)
    clear hsr
    go_enter Try.func44, Try.ntmps44
    go_wp2
    go_ret
    exact ⟨_, rfl, World.ownsRow_nil _ _ _ _, Below.refl _ _⟩
  | some ad =>
    have hnil := fun W : World => (by kernel_rfl : (Go.binOp BinOp.eql 62 (.slice (some ad) n cp) (.slice none 0 0)).run Try.prog W = .ok (.bool false) W)
    have Hbs := hid (fun W : World => (by kernel_rfl : (Instr.buildSlice 62 0 #[]).run Try.prog W = .ok (.slice (some ⟨W.heap.size, 0, none⟩) 0 0) (W.alloc (.cells #[] 76))))
    clear hsr
    go_enter Try.func44, Try.ntmps44
    go_wp2_with (first | (refine wp_bs0W 62 76 4 rfl rfl Hbs.out ?_; intro v9 w9 ho9 hB9; have hsr9 := own_srcW (own_keep10 ho (fun k hk _ => hB9.block k hk))) | (refine wp_appS (.tmp 5) (.tmp 6) slTh rfl rfl rfl ho9 rfl hsr9 h1 (by simp only [maxLen]; omega) (by omega) hB9.size ?_; intro v8 w8 ho8 hG8 _; refine wp_stop ?_) | fail)
    have hB8 : Below w.heap.size w w8 := hB9.grown hG8 hB9.size (fun k hk => (ho9.lt k hk).1)
    rw [List.nil_append, Nat.zero_add] at ho8
    obtain ⟨A8, c8, rfl⟩ := own_shape8 ho8
    clear ho9 hB9 hG8 hsr9
    refine wp_go ?_
    go_wp2
    go_ret
    exact ⟨_, rfl, ho8, hB8⟩
set_option maxRecDepth 100000 in
set_option maxHeartbeats 4000000 in
theorem copy_e (x s f : Nat) (Ms Mf F : Nat → Prop) (c : Nat → Nat) (d : Dk) (vp : Value) (xs : List Value) (w : World) (h : IE w x s f Ms Mf F c d vp xs) (hs : DkSm d) :
    Calls Try.prog 25 #[.pointer (some ⟨x, 0, none⟩)] w fun e w' => ∃ x2 s2 f2 M1 M2 c2 vp2, e = .returned (.pointer (some ⟨x2, 0, none⟩)) ∧ IE w' x s f Ms Mf F c d vp xs ∧ IE w' x2 s2 f2 M1 M2 F c2 d vp2 xs ∧ Below w.heap.size w w' ∧ ∀ y, mIE x2 s2 f2 M1 M2 vp2 y → w.heap.size ≤ y := by
  obtain ⟨Ap, cp, hvp⟩ := own_shape8 h.ho
  rw [hvp] at h ⊢
  clear hvp
  have hnb := now_bd d.pend d.syn
  have hsn := hs.n
  have hst := hs.t
  have hLn : (nowF d).length < maxLen := by unfold nowF; simp only [maxLen]; omega
  have hLs : d.syn.length < maxLen := by simp only [maxLen]; omega
  have htt : tot (nowF d) ≤ 1000000000 := by unfold nowF; omega
  have hts : tot d.syn ≤ 1000000000 := by omega
  have Hone := hid (ap_one h.hx)
  have hbw := h.hb.whole
  have hbd := h.bd
  have Hh := hid h
  have hFw : ∀ y, F y → y < w.heap.size := fun y e => (h.cF y e).2
  clear h hnb
  go_enter Try.func25, Try.ntmps25
  go_wp2_with (first | (refine wp_ld 64 (.tmp 7) rfl rfl rfl hbw Try.underlying64 rfl sizeDe ?_) | (refine wp_newst 64 3 (.tmp 8) rfl rfl rfl rfl rfl rfl zeroDk (l := dcZ d s f (.slice Ap d.pend.length cp)) rfl rfl sizeDe (one_dc _ _ _ _ _ _) (by simp [Act.put]) ?_; intro w3 hb3 hB3 hz3; refine wp_stop ?_) | fail)
  obtain ⟨x2, hx2⟩ : ∃ u, u = w.heap.size := ⟨_, rfl⟩
  rw [← hx2] at hb3 ⊢
  have hxw : w.heap.size ≤ x2 ∧ x2 ≤ w.heap.size ∧ x2 < w3.heap.size := ⟨by omega, by omega, hb3.lt⟩
  have HI : Hid (∀ W, Ch (fun y => y = x2) w3 W → IE W x s f Ms Mf F c d (.slice Ap d.pend.length cp) xs) := hid fun W hc => (Hh.out.below hB3).keep (fun y hy e => hc.block y hy (by have := hbd y e; omega)) hc.size
  have HS : Hid (∀ W, Ch (fun y => y = x2) w3 W → W.cell? ⟨x, 1, none⟩ = some (.map (some s))) := hid fun W hc => (HI.out W hc).hb.cellAt 1 _ rfl
  have HF : Hid (∀ W, Ch (fun y => y = x2) w3 W → W.cell? ⟨x, 2, none⟩ = some (.map (some f))) := hid fun W hc => (HI.out W hc).hb.cellAt 2 _ rfl
  have b3d := hb3.drew
  have HB3 := hid hB3
  clear hx2 hbw hB3 hz3 hb3
  refine wp_go ?_
  go_upto_region 4 with (fail)
  refine wp_region_noPanic ?_
  refine wp_region_held_drew (S := Ch (fun y => y = x2) w3) (by kernel_rfl) ((Ch.refl _ _).drew) (fun hHeld => ?_)
  refine wpAnyH_take (i := 0) (oi := ⟨some 9, _, _, _, _, none⟩) (v := ?_) rfl (by kernel_rfl) (by kernel_rfl) (by kernel_rfl) (fun _ _ _ h => h) (Or.inl ⟨by rfl, ?_⟩) (by assumption) ?_
  rotate_left
  · intro w hSw; go_simp; try with_reducible rfl
  try simp only [Act.put, List.setIfInBounds_toArray, List.set_cons_zero, List.set_cons_succ]
  refine wpAnyH_take (i := 1) (oi := ⟨some 10, _, _, _, _, none⟩) (v := ?_) rfl (by kernel_rfl) (by kernel_rfl) (by kernel_rfl) (fun _ _ _ h => h) (Or.inl ⟨by rfl, ?_⟩) (by assumption) ?_
  rotate_left
  · intro w hSw; go_simp; try with_reducible rfl
  try simp only [Act.put, List.setIfInBounds_toArray, List.set_cons_zero, List.set_cons_succ]
  refine wpAnyH_take (i := 2) (oi := ⟨some 11, _, _, _, _, none⟩) (v := ?_) rfl (by kernel_rfl) (by kernel_rfl) (by kernel_rfl) (fun _ _ _ h => h) (Or.inl ⟨by rfl, ?_⟩) (by assumption) ?_
  rotate_left
  · intro w hSw; go_simp; try with_reducible rfl
  try simp only [Act.put, List.setIfInBounds_toArray, List.set_cons_zero, List.set_cons_succ]
  refine wpAnyH_take (i := 3) (oi := ⟨some 12, _, _, _, _, none⟩) (v := ?_) rfl (by kernel_rfl) (by kernel_rfl) (by kernel_rfl) (fun _ _ _ h => h) (Or.inl ⟨by rfl, ?_⟩) (by assumption) ?_
  rotate_left
  · intro w hSw; have hcw := HS.out w hSw; go_simp; try with_reducible rfl
  try simp only [Act.put, List.setIfInBounds_toArray, List.set_cons_zero, List.set_cons_succ]
  refine wpAnyH_take (i := 5) (oi := ⟨some 14, _, _, _, _, none⟩) (v := ?_) rfl (by kernel_rfl) (by kernel_rfl) (by kernel_rfl) (fun _ _ _ h => h) (Or.inl ⟨by rfl, ?_⟩) (by assumption) ?_
  rotate_left
  · intro w hSw; go_simp; try with_reducible rfl
  try simp only [Act.put, List.setIfInBounds_toArray, List.set_cons_zero, List.set_cons_succ]
  refine wpAnyH_take (i := 6) (oi := ⟨some 15, _, _, _, _, none⟩) (v := ?_) rfl (by kernel_rfl) (by kernel_rfl) (by kernel_rfl) (fun _ _ _ h => h) (Or.inl ⟨by rfl, ?_⟩) (by assumption) ?_
  rotate_left
  · intro w hSw; go_simp; try with_reducible rfl
  try simp only [Act.put, List.setIfInBounds_toArray, List.set_cons_zero, List.set_cons_succ]
  refine wpAnyH_take (i := 7) (oi := ⟨some 16, _, _, _, _, none⟩) (v := ?_) rfl (by kernel_rfl) (by kernel_rfl) (by kernel_rfl) (fun _ _ _ h => h) (Or.inl ⟨by rfl, ?_⟩) (by assumption) ?_
  rotate_left
  · intro w hSw; go_simp; try with_reducible rfl
  try simp only [Act.put, List.setIfInBounds_toArray, List.set_cons_zero, List.set_cons_succ]
  refine wpAnyH_take (i := 8) (oi := ⟨some 17, _, _, _, _, none⟩) (v := ?_) rfl (by kernel_rfl) (by kernel_rfl) (by kernel_rfl) (fun _ _ _ h => h) (Or.inl ⟨by rfl, ?_⟩) (by assumption) ?_
  rotate_left
  · intro w hSw; have hcw := HF.out w hSw; go_simp; try with_reducible rfl
  try simp only [Act.put, List.setIfInBounds_toArray, List.set_cons_zero, List.set_cons_succ]
  refine wpAnyH_ready (rs := [4]) (by kernel_rfl) (by simp) ?_
  refine AllReadyH.cons (o := ⟨some 13, _, _, _, _, none⟩) rfl (fun K hK => ?_) AllReadyH.nil
  go_simp
  refine (copied_e s d.syn Ms _ (HI.out _ hHeld).fxs hLs hts).mono ?_
  rintro e w4 ⟨s2, M1, rfl, hs2, hX4, hM1, hB4⟩
  have b4 := b3d.below hB4
  refine hK.out _ _ (hHeld.belowG hB4) (fun hHeld => ?_)
  clear hK K
  try simp only [Act.put, List.setIfInBounds_toArray, List.set_cons_zero, List.set_cons_succ]
  refine wpAnyH_ready (rs := [9]) (by kernel_rfl) (by simp) ?_
  refine AllReadyH.cons (o := ⟨some 18, _, _, _, _, none⟩) rfl (fun K hK => ?_) AllReadyH.nil
  go_simp
  refine (copied_e f (nowF d) Mf _ (HI.out _ hHeld).fxf hLn htt).mono ?_
  rintro e w9 ⟨f2, M2, rfl, hf2, hX9, hM2, hB9⟩
  have b9 := b4.below hB9
  refine hK.out _ _ (hHeld.belowG hB9) (fun hHeld => ?_)
  clear hK K
  try simp only [Act.put, List.setIfInBounds_toArray, List.set_cons_zero, List.set_cons_succ]
  refine wpAnyH_take (i := 10) (oi := ⟨some 19, _, _, _, _, none⟩) (v := ?_) rfl (by kernel_rfl) (by kernel_rfl) (by kernel_rfl) (fun _ _ _ h => h) (Or.inl ⟨by rfl, ?_⟩) (by assumption) ?_
  rotate_left
  · intro w hSw; go_simp; try with_reducible rfl
  try simp only [Act.put, List.setIfInBounds_toArray, List.set_cons_zero, List.set_cons_succ]
  refine wpAnyH_ready (rs := [11]) (by kernel_rfl) (by simp) ?_
  refine AllReadyH.cons (o := ⟨none, .store _ _ _, _, _, _, none⟩) rfl (fun K hK => ?_) AllReadyH.nil
  refine step_st1 61 (.tmp 19) (.tmp 13) (by rfl) (by rfl) (by rfl) (f := 1) (by rfl) (v := .map (some s2)) (by rfl) b9 (by simp [dcZ]) sizeFs rfl rfl ?_
  intro w11 b11 hG11
  refine hK.out _ _ (hHeld.grow hG11 (fun k hk => .inl (by injection hk with hk; exact hk.symm))) (fun hHeld => ?_)
  clear hK K
  try simp only [Act.put, List.setIfInBounds_toArray, List.set_cons_zero, List.set_cons_succ]
  refine wpAnyH_take (i := 12) (oi := ⟨some 20, _, _, _, _, none⟩) (v := ?_) rfl (by kernel_rfl) (by kernel_rfl) (by kernel_rfl) (fun _ _ _ h => h) (Or.inl ⟨by rfl, ?_⟩) (by assumption) ?_
  rotate_left
  · intro w hSw; go_simp; try with_reducible rfl
  try simp only [Act.put, List.setIfInBounds_toArray, List.set_cons_zero, List.set_cons_succ]
  refine wpAnyH_ready (rs := [13]) (by kernel_rfl) (by simp) ?_
  refine AllReadyH.cons (o := ⟨none, .store _ _ _, _, _, _, none⟩) rfl (fun K hK => ?_) AllReadyH.nil
  refine step_st1 61 (.tmp 20) (.tmp 18) (by rfl) (by rfl) (by rfl) (f := 2) (by rfl) (v := .map (some f2)) (by rfl) b11 (by simp [dcZ]) sizeFs rfl rfl ?_
  intro w13 b13 hG13
  refine hK.out _ _ (hHeld.grow hG13 (fun k hk => .inl (by injection hk with hk; exact hk.symm))) (fun hHeld => ?_)
  clear hK K
  try simp only [Act.put, List.setIfInBounds_toArray, List.set_cons_zero, List.set_cons_succ]
  refine wpAnyH_done (by kernel_rfl) ?_ _
  refine NoPanic.normal ?_
  have hC13 : Ch (fun y => y = x2) w3 w13 := hHeld
  have hI13 := HI.out _ hC13
  have b13 : Blk w13 x2 64 (dcZ d s2 f2 (.slice Ap d.pend.length cp)) := b13
  have hz4 := hB4.size
  have hz9 := hB9.size
  have hz11 := hG11.size
  have hz13 := hG13.size
  have hd3 : w3.drew.heap.size = w3.heap.size := rfl
  have hk13 : ∀ y, y < w9.heap.size → y ≠ x2 → w13.heap[y]? = w9.heap[y]? := fun y hy hn => (hG13.block y (by omega) (fun e => by injection e with e; exact hn e)).trans (hG11.block y hy (fun e => by injection e with e; exact hn e))
  have hs2l := hX4.1.lt
  have hf2l := hX9.1.lt
  have hX4c : FO Try.prog 9 5 w13 M1 anyN s2 d.syn := (hX4.1.below hB9).keep (hk13 s2 (by omega) (by omega)) (fun y hy e => hk13 y hy (by have := hM1 y e; omega))
  have hX9c : FO Try.prog 9 5 w13 M2 anyN f2 (nowF d) := hX9.1.keep (hk13 f2 (by omega) (by omega)) (fun y hy e => hk13 y hy (by have := hM2 y e; omega))
  have hM1l : ∀ y, M1 y → s2 < y ∧ y < w4.heap.size := fun y e => ⟨hM1 y e, hX4.2.2 y e⟩
  have hM2l : ∀ y, M2 y → f2 < y ∧ y < w9.heap.size := fun y e => ⟨hM2 y e, hX9.2.2 y e⟩
  have c3 := hI13.hb.cellAt 3 _ rfl
  have HI13 := hid hI13
  have HX4 := hid hX4c
  have HX9 := hid hX9c
  have hord : w3.heap.size ≤ s2 ∧ s2 < w4.heap.size ∧ w4.heap.size ≤ f2 ∧ f2 < w9.heap.size ∧ w9.heap.size ≤ w13.heap.size := ⟨by omega, hs2l, hf2, hf2l, by omega⟩
  have hB13w : Below w.heap.size w w13 := Ch.below_of HB3.out hC13 (fun k (e : k = x2) => by omega) HB3.out.size
  clear hI13 hX4c hX9c hk13 hX4 hX9 hM1 hM2 hB4 hB9 hG11 hG13 b4 b9 b11 b3d HS HF hHeld hz4 hz9 hz11 hz13 hd3 hs2 hf2 hs2l hf2l
  go_wp2_with (fail)
  refine (thclone_e Ap d.pend.length cp xs _ HI13.out.ho Hone.out (by omega)).mono ?_
  rintro e w14 ⟨v14, rfl, ho14, hB14⟩
  obtain ⟨A14, c14, rfl⟩ := own_shape8 ho14
  have b14 := b13.below hB14
  have hcl : (dcZ d s2 f2 (.slice Ap d.pend.length cp)).length = 6 := rfl
  clear b13 c3
  go_wp2_with (refine wp_st1 62 (.tmp 26) (.tmp 25) rfl rfl rfl (f := 3) rfl (v := .slice A14 d.pend.length c14) rfl b14 (by rw [hcl]; omega) sizeSlTh rfl rfl ?_; intro w15 hb15 hG15; refine wp_stop ?_)
  have hb15 : Blk w15 x2 64 (dcZ d s2 f2 (.slice A14 d.pend.length c14)) := hb15
  have hz14 := hB14.size
  have hz15 := hG15.size
  have hk15 : ∀ y, y < w14.heap.size → y ≠ x2 → w15.heap[y]? = w14.heap[y]? := fun y hy hn => hG15.block y hy (fun e => by injection e with e; exact hn e)
  have hI15 : IE w15 x s f Ms Mf F c d (.slice Ap d.pend.length cp) xs := (HI13.out.below hB14).keep (fun y hy e => hk15 y hy (by have := hbd y e; omega)) hz15
  have hv14 : ∀ y, (Value.slice A14 d.pend.length c14).ownBlock = some y → w13.heap.size ≤ y ∧ y < w14.heap.size := fun y e => ho14.lt y e
  have hJ15 : IE w15 x2 s2 f2 M1 M2 F (cC c w.heap.size x2 s2 w4.heap.size f2 w9.heap.size) d (.slice A14 d.pend.length c14) xs := {
    hb := hb15
    ms := (HX4.out.below hB14).keep (hk15 s2 (by omega) (by omega)) (fun y hy e => hk15 y hy (by have := hM1l y e; omega))
    mf := (HX9.out.below hB14).keep (hk15 f2 (by omega) (by omega)) (fun y hy e => hk15 y hy (by have := hM2l y e; omega))
    ho := own_weak (own_keep10 ho14 (fun y hy e => hk15 y hy (by have := hv14 y e; omega))) (Nat.zero_le _)
    hx := hI15.hx
    cx := by unfold cC; rw [if_neg (by omega), if_pos rfl]
    cs := by unfold cC; rw [if_neg (by omega), if_neg (by omega), if_pos rfl]
    cf := by unfold cC; rw [if_neg (by omega), if_neg (by omega), if_neg (by omega), if_neg (by omega), if_pos rfl]
    cm := fun y e => by
      have := hM1l y e
      exact ⟨by unfold cC; rw [if_neg (by omega), if_neg (by omega), if_neg (by omega), if_pos (by omega)], by omega⟩
    cn := fun y e => by
      have := hM2l y e
      exact ⟨by unfold cC; rw [if_neg (by omega), if_neg (by omega), if_neg (by omega), if_neg (by omega), if_neg (by omega), if_pos (by omega)], by omega⟩
    cv := fun y e => by
      have := hv14 y e
      unfold cC
      rw [if_neg (by omega), if_neg (by omega), if_neg (by omega), if_neg (by omega), if_neg (by omega), if_neg (by omega)]
    cF := fun y e => ⟨by unfold cC; rw [if_pos (hFw y e)]; exact (Hh.out.cF y e).1, by have := hFw y e; omega⟩
    st := Hh.out.st
    dn := Hh.out.dn
    nS := Hh.out.nS
    pd := Hh.out.pd }
  have hM15 : ∀ y, mIE x2 s2 f2 M1 M2 (.slice A14 d.pend.length c14) y → w.heap.size ≤ y := by
    rintro y (e | e | e | e | e | e)
    · omega
    · omega
    · omega
    · have := hM1l y e; omega
    · have := hM2l y e; omega
    · have := hv14 y e; omega
  have hB15 := (hB13w.trans (hB14.mono hB13w.size)).grown hG15 (by omega) (fun k hk => by injection hk with hk; omega)
  have HI := hid hI15
  have HJ := hid hJ15
  have HM := hid hM15
  clear hb15 hG15 hk15 hI15 hJ15 hM15 ho14 b14 hv14 hB14
  refine wp_go ?_
  go_wp2
  go_ret
  exact ⟨x2, s2, f2, M1, M2, _, _, rfl, HI.out, HJ.out, hB15, HM.out⟩
end Go.Proofs.Ytjaiffefgjopmaa
