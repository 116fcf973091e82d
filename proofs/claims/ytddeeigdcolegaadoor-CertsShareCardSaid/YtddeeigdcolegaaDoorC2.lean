/- C2: layer 17: the laws' wakes. -/
import Derived.Test.YtddeeigdcolegaaDoorC1
import Derived.Test.YtddeeigdcolegaaDoorZ2
namespace Go.Proofs.YtddeeigdcolegaaDoor
open Go.RowKit Go.V
def zh17 : List UInt8 := List.replicate 32 0
def mW (i : Nat) : Mg := ⟨2, (i : Int), 0, 0, 1, zh17, [], []⟩
theorem mW_in {i : Nat} (h : i < 3) : MgIn (mW i) := ⟨by show in64w 2; unfold in64w; omega, by show in64w (i : Int); unfold in64w; omega, by show in64w 0; unfold in64w; omega, by show in64w 0; unfold in64w; omega, by show in64w 1; unfold in64w; omega, rfl⟩
theorem mW_sm (i : Nat) : MgSm (mW i) := ⟨by show 0 ≤ 1000000; omega, by show 0 ≤ 1000; omega, by intro t ht; cases ht⟩
theorem mW_err {i : Nat} (h : i < 3) : errS ks17 (mW i) = 0 := by
  match i, h with
  | 0, _ => rw [errS_M rfl (by decide)]; decide
  | 1, _ => rw [errS_M rfl (by decide)]; decide
  | 2, _ => rw [errS_M rfl (by decide)]; decide
  | i + 3, h => exact absurd h (by omega)
def sW17 (i : Nat) : List UInt8 := slS ks17 (mW i)
theorem sW17_len {i : Nat} (h : i < 3) : (sW17 i).length ≤ 100 := by
  unfold sW17 slS
  rw [List.length_append, len_tag, len_by2 rfl]
  match i, h with
  | 0, _ => decide
  | 1, _ => decide
  | 2, _ => decide
  | i + 3, h => exact absurd h (by omega)
theorem has15 (i : Nat) (h : i < 3) : hasB 15 (i : Int) = true := by
  unfold hasB
  rw [Bool.and_eq_true, decide_eq_true_eq, Int.toNat_natCast]
  refine ⟨by omega, ?_⟩
  have : ∀ j : Fin 3, mbit 15 j.val = true := by decide +kernel
  exact this ⟨i, h⟩
theorem cnt_W {i : Nat} (h : i < 3) : cntC ks17 ⟨0, 15⟩ ⟨2, 0, 0, 1, zh17⟩ (sW17 i) = some i := by
  have h1 := op_sl (ks := ks17) (m := mW i) rfl (mW_err h)
  have hb : hasB 15 (i : Int) = true := by
    exact has15 i h
  have h2 : opOf ks17 ⟨0, 15⟩ (sW17 i) = .ok (mW i) := by
    unfold opOf sW17
    rw [h1]
    exact if_pos hb
  unfold cntC
  rw [h2]
  exact if_pos ⟨rfl, rfl, rfl, rfl, rfl, rfl⟩
def pW (i : Nat) : List (List UInt8) := (List.range i).map sW17
theorem pW_next (i : Nat) : pW (i + 1) = pW i ++ [sW17 i] := by unfold pW; rw [List.range_succ, List.map_append]; rfl
theorem pW_len (i : Nat) : (pW i).length = i := by unfold pW; simp
theorem pW_sm : PsSm (pW 3) := by
  refine ⟨by rw [pW_len]; omega, fun X hX => ?_⟩
  unfold pW at hX
  obtain ⟨i, hi, rfl⟩ := List.mem_map.1 hX
  have := sW17_len (List.mem_range.1 hi)
  omega
theorem wri_W : wriC ks17 ⟨0, 15⟩ 0 1 zh17 (pW 3) = 0 := by
  have h1 : okC ⟨0, 15⟩ (pW 3) = true := by
    unfold okC
    rw [pW_len]
    decide
  have h2 : ((List.range 16).filter (fun i => decide (i < 3))).length ≤ (whoC ks17 ⟨0, 15⟩ ⟨2, 0, 0, 1, zh17⟩ (pW 3)).length := by
    unfold whoC
    refine fil_le (fun i hi => ?_) _
    have hi := of_decide_eq_true hi
    rw [List.any_eq_true]
    exact ⟨sW17 i, List.mem_map.2 ⟨i, List.mem_range.2 hi, rfl⟩, decide_eq_true (cnt_W hi)⟩
  have h3 : ((List.range 16).filter (fun i => decide (i < 3))).length = 3 := by decide
  have h4 : quoN 0 15 = 3 := by decide
  have h5 : enC ks17 ⟨0, 15⟩ ⟨2, 0, 0, 1, zh17⟩ (pW 3) = true := decide_eq_true (by show quoN 0 15 ≤ _; omega)
  unfold wriC
  exact if_pos ⟨h1, h5⟩
theorem wri_nil : wriC ks17 ⟨0, 15⟩ 0 1 zh17 [] = 12 := by
  have h : enC ks17 ⟨0, 15⟩ ⟨2, 0, 0, 1, zh17⟩ [] = false := by decide
  unfold wriC
  exact if_neg (fun hx => by have := hx.2; rw [show (⟨2, (⟨0, 15⟩ : Vc).n, 0, 1, zh17⟩ : Qc) = ⟨2, 0, 0, 1, zh17⟩ from rfl, h] at this; cases this)
theorem bldV15 : ∀ W : World, (Instr.build 24 #[(1, .int .u16 15)]).run Tryd.prog W = .ok (.agg #[.int .i64 0, .int .u16 15]) W := fun _ => by kernel_rfl
theorem bldW17 (f : Int) : ∀ W : World, (Instr.build 30 #[(0, .int .i64 2), (1, .int .i64 f), (4, .int .i64 1)]).run Tryd.prog W = .ok (.agg ((⟨2, f, 0, 0, 1, zh17, [], []⟩ : Mg).l (.slice none 0 0) (.slice none 0 0)).toArray) W := fun _ => by kernel_rfl
theorem bldH17 : ∀ W : World, (Instr.build 26 #[]).run Tryd.prog W = .ok (.agg (bvs zh17).toArray) W := fun _ => by kernel_rfl
theorem zeroVw17 : (Tryd.prog.info? 24).map (·.zero) = some (some (.agg #[.int .i64 0, .int .u16 0])) := by kernel_rfl
set_option maxRecDepth 100000 in
set_option maxHeartbeats 8000000 in
theorem wakes17_any (w : World) (hK : KS w) :
    Calls Tryd.prog 8 #[] w fun e w' => e = .returned (.bool true) ∧ Below w.heap.size w w' := by
  have hbv := bldV15
  go_enter Tryd.func8, Tryd.ntmps8
  go_wp2_with (first | refine wp_bld 24 [(1, .const (.int .u16 15))] rfl rfl [(1, .int .u16 15)] rfl hbv ?_ | (refine wp_newst 24 1 (.tmp 6) rfl rfl rfl rfl rfl rfl (z := [.int .i64 0, .int .u16 0]) zeroVw17 (l := [.int .i64 0, .int .u16 15]) rfl rfl sizeVw17 (by intro v hv; simp at hv; rcases hv with rfl | rfl <;> rfl) (by simp [Act.put]) ?_; intro W1 b1 hB hs1; refine wp_stop ?_))
  obtain ⟨g1, hg1⟩ : ∃ g, g = w.heap.size := ⟨_, rfl⟩
  rw [← hg1] at b1 ⊢
  have hg1w : w.heap.size ≤ g1 := by omega
  have hsW := hB.size
  have h1l := b1.lt
  clear hg1 hs1 hbv
  have hOT := OT.nil W1 27 W1.heap.size nob
  refine wp_go ?_
  go_wp2
  go_loopw [2, 7] (fun lv iv wr => ∃ (i : Nat) (us : List Value), i ≤ 3 ∧ iv = .int .i64 i ∧ OT wr 27 W1.heap.size nob lv (pW i) us ∧ Below W1.heap.size W1 wr) (fun _ i _ => 3 - (intOf i).toNat)
  case atStart => exact ⟨0, [], by omega, rfl, hOT, Below.refl _ _⟩
  case round =>
    clear hOT
    obtain ⟨i, us, hi, rfl, hOT, hBr⟩ := hrel
    have hBw := hB.trans (hBr.mono hsW)
    have hKr := hK.below hBw
    by_cases hlt : i < 3
    · have hI : (i : Int) < 3 := by omega
      have hpl := pW_len i
      have Hnx := hid (pW_next i)
      have hsl := sW17_len hlt
      have hsz := hBr.size
      have hbm := bldW17 (i : Int)
      have hse : ∀ (uk : Value) (Y : World), KS Y → Rd Y (fun b => wr.heap.size ≤ b) uk (tx ks17) → Calls Tryd.prog 22 #[.agg #[uk, .slice none 0 0], .agg ((⟨2, (i : Int), 0, 0, 1, zh17, [], []⟩ : Mg).l (.slice none 0 0) (.slice none 0 0)).toArray] Y fun e w' => ∃ v', e = .returned (.tuple #[v', .int .i64 0]) ∧ NewB Y w' v' (sW17 i) := by
        intro uk Y h1 h2
        have := seal9_any ks17 (mW i) uk (.slice none 0 0) (.slice none 0 0) (.slice none 0 0) _ nob nob Y h1 (mW_in hlt) (mW_sm i) ks17_sm h2 (Rd.nil _ _) (Rd.nil _ _)
        rw [mW_err hlt, if_pos rfl] at this
        exact this
      have Hse := hid hse
      have hpx : ∀ b, _ → W1.heap.size ≤ b ∧ b < wr.heap.size := fun b h => hOT.own.lt b h
      have Hrow := hid hpx
      obtain ⟨lm, hlm⟩ : ∃ l, l = (⟨2, (i : Int), 0, 0, 1, zh17, [], []⟩ : Mg).l (.slice none 0 0) (.slice none 0 0) := ⟨_, rfl⟩
      rw [← hlm] at hbm Hse
      obtain ⟨S, hS⟩ : ∃ S, S = sW17 i := ⟨_, rfl⟩
      rw [← hS] at Hse Hnx hsl
      clear hlm hS hse hpx
      go_wp2_with (fail)
      refine (table17_any _).mono ?_
      rintro e w2 ⟨uk, rfl, hk2, hB2⟩
      have hOT := hOT.ch (Ch.of_below hB2) (fun b hb => hb.elim)
      have hK2 := hKr.below hB2
      have hBr := hBr.trans (hB2.mono hBr.size)
      have hs2 := hB2.size
      clear hB2
      go_wp2_with (refine wp_bld 30 [(0, .const (.int .i64 2)), (1, .tmp 12), (4, .const (.int .i64 1))] rfl rfl [(0, .int .i64 2), (1, .int .i64 (i : Int)), (4, .int .i64 1)] rfl hbm ?_)
      refine (Hse.out uk _ hK2 hk2).mono ?_
      rintro e w3 ⟨v3, rfl, ho3, hB3⟩
      have hv3 := (Rd.of_own ho3)
      obtain ⟨A3, c3, rfl⟩ := own_shape ho3
      have hv3 := hv3.weak (F' := fun b => W1.heap.size ≤ b ∧ ¬ nob b ∧ _ ≠ some b) (fun b hb hF => ⟨by have hF : w2.heap.size ≤ b := hF; omega, fun h => h, fun h => by have := (Hrow.out b h).2; have hF : w2.heap.size ≤ b := hF; omega⟩)
      have hOT := hOT.ch (Ch.of_below hB3) (fun b hb => hb.elim)
      have hBr := hBr.trans (hB3.mono hBr.size)
      have hs3 := hB3.size
      clear hB3 ho3 Hse hbm hk2
      go_wp2_with (first | (refine wp_push (.tmp 17) (.tmp 18) 19 slBB8 rfl rfl rfl rfl rfl (u := .slice A3 S.length c3) rfl rfl rfl (by simp) rfl hOT.own (by rw [hpl]; simp only [maxLen]; omega) (by rw [hpl]; omega) hBr.size ?_; intro v4 w4 ho4 hG4 hd4; refine wp_stop ?_))
      have hOT := OT.pushG hOT hv3 (fun b h => h.elim) ho4 hG4 hd4
      have hBr := hBr.grown hG4 hBr.size (fun k hk => (Hrow.out k hk).1)
      rw [← Hnx.out] at hOT
      refine wp_go ?_
      go_wp2
      go_roundw
      case rel => exact ⟨i + 1, _, by omega, by go_num, hOT, hBr⟩
      case measure => simp [intOf]; omega
    · have hi' : i = 3 := by omega
      subst hi'
      have hI : ¬ (3 : Int) < 3 := by omega
      have hrd := hOT.rd
      obtain ⟨Al, cl, rfl⟩ := own_shape hOT.own
      have b1r := b1.below hBr
      have Hw0 := hid (fun uk F Y h1 h2 => (show Calls Tryd.prog 18 #[.agg #[uk, .slice none 0 0], .agg #[.int .i64 0, .int .u16 15], .int .i64 0, .int .i64 1, .agg (bvs zh17).toArray, .slice none 0 0] Y (fun e w' => e = .returned (.int .i64 12) ∧ Below Y.heap.size Y w') from by
        have := cwri17_any ks17 ⟨0, 15⟩ [] 0 1 zh17 uk (.slice none 0 0) (.slice none 0 0) F nob Y h1 ks17_sm h2 (Rd.nil _ _) ⟨by show 0 ≤ 100; omega, by intro X hX; cases hX⟩ ⟨by unfold in64w; decide, by decide⟩ ⟨by unfold in64w; decide, by unfold in64w; decide⟩ rfl
        rw [wri_nil] at this
        exact this))
      have Hw1 := hid (fun uk F Y h1 h2 h3 => (show Calls Tryd.prog 18 #[.agg #[uk, .slice none 0 0], .agg #[.int .i64 0, .int .u16 15], .int .i64 0, .int .i64 1, .agg (bvs zh17).toArray, .slice Al (pW 3).length cl] Y (fun e w' => e = .returned (.int .i64 0) ∧ Below Y.heap.size Y w') from by
        have := cwri17_any ks17 ⟨0, 15⟩ (pW 3) 0 1 zh17 uk (.slice none 0 0) (.slice Al (pW 3).length cl) F (fun b => W1.heap.size ≤ b) Y h1 ks17_sm h2 h3 pW_sm ⟨by unfold in64w; decide, by decide⟩ ⟨by unfold in64w; decide, by unfold in64w; decide⟩ rfl
        rw [wri_W] at this
        exact this))
      have X1 : Hid (∀ Z, Ch nob wr Z → Z.rangeAt g1 0 [.int .i64 0, .int .u16 15]) := fun Z h => (b1r.below h.below).whole
      have hbh := bldH17
      obtain ⟨zh, hzh⟩ : ∃ l, l = bvs zh17 := ⟨_, rfl⟩
      rw [← hzh] at hbh Hw0 Hw1
      clear hzh
      go_upto_region 9 with (fail)
      refine wp_region_noPanic ?_
      refine wp_region_held_drew (S := Ch nob wr) (by kernel_rfl) ((Ch.refl _ _).drew) (fun hHeld => ?_)
      refine wpAnyH_take (i := 1) (oi := ⟨some 23, .load 24 (.tmp 1), _, _, _, none⟩) (v := _) rfl (by kernel_rfl) (by kernel_rfl) (by kernel_rfl) (fun _ _ _ h => h) (yieldsIf_load_mid (by rfl) 24 (.tmp 1) (by rfl) _ (0) (by rfl) _ _ (fun _ hs => X1.out _ hs) Tryd.underlying24 rfl (sizeVw17)) (by assumption) ?_
      try simp only [Act.put, List.setIfInBounds_toArray, List.set_cons_zero, List.set_cons_succ]
      refine wpAnyH_take (i := 2) (oi := ⟨some 24, _, _, _, _, none⟩) (v := _) rfl (by kernel_rfl) (by kernel_rfl) (by kernel_rfl) (fun _ _ _ h => h) (y_bld (by rfl) 26 [] (by rfl) [] (by rfl) hbh) (by assumption) ?_
      try simp only [Act.put, List.setIfInBounds_toArray, List.set_cons_zero, List.set_cons_succ]
      refine wpAnyH_ready (rs := [0]) (by kernel_rfl) (by simp) ?_
      refine AllReadyH.cons (o := ⟨some 22, _, _, _, _, none⟩) rfl (fun K hK => ?_) AllReadyH.nil
      go_simp
      refine (table17_any _).mono ?_
      rintro e' x1 ⟨uk1, rfl, hk1, hB1⟩
      refine hK.out _ _ (hHeld.belowR hB1) (fun hHeld => ?_)
      clear hK K
      try simp only [Act.put, List.setIfInBounds_toArray, List.set_cons_zero, List.set_cons_succ]
      refine wpAnyH_ready (rs := [3]) (by kernel_rfl) (by simp) ?_
      refine AllReadyH.cons (o := ⟨some 25, _, _, _, _, none⟩) rfl (fun K hK => ?_) AllReadyH.nil
      go_simp
      refine (Hw0.out uk1 _ _ (hKr.below hHeld.below) hk1).mono ?_
      rintro e' x2 ⟨rfl, hB2⟩
      refine hK.out _ _ (hHeld.belowR hB2) (fun hHeld => ?_)
      clear hK K
      try simp only [Act.put, List.setIfInBounds_toArray, List.set_cons_zero, List.set_cons_succ]
      refine wpAnyH_take (i := 4) (oi := ⟨some 26, _, _, _, _, none⟩) (v := ?_) rfl (by kernel_rfl) (by kernel_rfl) (by kernel_rfl) (fun _ _ _ h => h) (Or.inl ⟨by rfl, ?_⟩) (by assumption) ?_
      rotate_left
      · intro w hSw; go_simp; try with_reducible rfl
      try simp only [Act.put, List.setIfInBounds_toArray, List.set_cons_zero, List.set_cons_succ]
      refine wpAnyH_take (i := 5) (oi := ⟨some 27, _, _, _, _, none⟩) (v := ?_) rfl (by kernel_rfl) (by kernel_rfl) (by kernel_rfl) (fun _ _ _ h => h) (Or.inl ⟨by rfl, ?_⟩) (by assumption) ?_
      rotate_left
      · intro w hSw; go_simp; try with_reducible rfl
      try simp only [Act.put, List.setIfInBounds_toArray, List.set_cons_zero, List.set_cons_succ]
      refine wpAnyH_take (i := 7) (oi := ⟨some 29, .load 24 (.tmp 1), _, _, _, some (5, true)⟩) (v := _) rfl (by kernel_rfl) (by kernel_rfl) (by kernel_rfl) (fun _ _ _ h => h) (yieldsIf_load_mid (by rfl) 24 (.tmp 1) (by rfl) _ (0) (by rfl) _ _ (fun _ hs => X1.out _ hs) Tryd.underlying24 rfl (sizeVw17)) (by assumption) ?_
      try simp only [Act.put, List.setIfInBounds_toArray, List.set_cons_zero, List.set_cons_succ]
      refine wpAnyH_take (i := 8) (oi := ⟨some 30, _, _, _, _, some (5, true)⟩) (v := _) rfl (by kernel_rfl) (by kernel_rfl) (by kernel_rfl) (fun _ _ _ h => h) (y_bld (by rfl) 26 [] (by rfl) [] (by rfl) hbh) (by assumption) ?_
      try simp only [Act.put, List.setIfInBounds_toArray, List.set_cons_zero, List.set_cons_succ]
      refine wpAnyH_take (i := 9) (oi := ⟨some 31, _, _, _, _, some (5, true)⟩) (v := ?_) rfl (by kernel_rfl) (by kernel_rfl) (by kernel_rfl) (fun _ _ _ h => h) (Or.inl ⟨by rfl, ?_⟩) (by assumption) ?_
      rotate_left
      · intro w hSw; go_simp; try with_reducible rfl
      try simp only [Act.put, List.setIfInBounds_toArray, List.set_cons_zero, List.set_cons_succ]
      refine wpAnyH_ready (rs := [6]) (by kernel_rfl) (by simp) ?_
      refine AllReadyH.cons (o := ⟨some 28, _, _, _, _, some (5, true)⟩) rfl (fun K hK => ?_) AllReadyH.nil
      go_simp
      refine (table17_any _).mono ?_
      rintro e' x3 ⟨uk3, rfl, hk3, hB3⟩
      refine hK.out _ _ (hHeld.belowR hB3) (fun hHeld => ?_)
      clear hK K
      try simp only [Act.put, List.setIfInBounds_toArray, List.set_cons_zero, List.set_cons_succ]
      refine wpAnyH_ready (rs := [10]) (by kernel_rfl) (by simp) ?_
      refine AllReadyH.cons (o := ⟨some 32, _, _, _, _, some (5, true)⟩) rfl (fun K hK => ?_) AllReadyH.nil
      go_simp
      refine (Hw1.out uk3 _ _ (hKr.below hHeld.below) hk3 (hrd.below hHeld.below)).mono ?_
      rintro e' x4 ⟨rfl, hB4⟩
      refine hK.out _ _ (hHeld.belowR hB4) (fun hHeld => ?_)
      clear hK K
      try simp only [Act.put, List.setIfInBounds_toArray, List.set_cons_zero, List.set_cons_succ]
      refine wpAnyH_take (i := 11) (oi := ⟨some 33, _, _, _, _, some (5, true)⟩) (v := ?_) rfl (by kernel_rfl) (by kernel_rfl) (by kernel_rfl) (fun _ _ _ h => h) (Or.inl ⟨by rfl, ?_⟩) (by assumption) ?_
      rotate_left
      · intro w hSw; go_simp; try with_reducible rfl
      try simp only [Act.put, List.setIfInBounds_toArray, List.set_cons_zero, List.set_cons_succ]
      refine wpAnyH_take (i := 12) (oi := ⟨some 34, _, _, _, _, none⟩) (v := ?_) rfl (by kernel_rfl) (by kernel_rfl) (by kernel_rfl) (fun _ _ _ h => h) (Or.inl ⟨by rfl, ?_⟩) (by assumption) ?_
      rotate_left
      · intro w hSw; go_simp; try with_reducible rfl
      try simp only [Act.put, List.setIfInBounds_toArray, List.set_cons_zero, List.set_cons_succ]
      refine wpAnyH_take (i := 13) (oi := ⟨some 0, _, _, _, _, none⟩) (v := ?_) rfl (by kernel_rfl) (by kernel_rfl) (by kernel_rfl) (fun _ _ _ h => h) (Or.inl ⟨by rfl, ?_⟩) (by assumption) ?_
      rotate_left
      · intro w hSw; go_simp; try with_reducible rfl
      try simp only [Act.put, List.setIfInBounds_toArray, List.set_cons_zero]
      refine wpAnyH_done (by kernel_rfl) ?_ _
      refine NoPanic.normal ?_
      go_wp2
      go_ret
      exact ⟨rfl, Ch.below_of hBw hHeld (fun k hk => hk.elim) hBw.size⟩
end Go.Proofs.YtddeeigdcolegaaDoor
