/- D5: layer 10: the document's crash. -/
import Derived.Test.YtjaiffefgjopmaaD4
namespace Go.V
open Go.RowKit
end Go.V
namespace Go.Proofs.Ytjaiffefgjopmaa
open Go.RowKit Go.V
theorem sizeSl10 : (Try.prog.info? 40).map (·.size) = some 1 := by kernel_rfl
theorem sizeSlB10 : (Try.prog.info? 29).map (·.size) = some 1 := by kernel_rfl
theorem sizeAl10 : (Try.prog.info? 22).map (·.size) = some 1 := by kernel_rfl
set_option maxRecDepth 100000 in
set_option maxHeartbeats 4000000 in
theorem crash_any (p : Nat) (r : Option Nat) (N : Nat → Prop) (d : Dk) (keep : Nat) (torn cut : Int) (w : World) (h : RX w p r N d) (hs : DkSm d) (hN : ∀ b, N b → b < w.heap.size) (hkp : keep < 18446744073709551616) (hct : -9223372036854775808 ≤ cut ∧ cut ≤ 9223372036854775807) :
    Calls Try.prog 33 #[.pointer (some ⟨p, 0, none⟩), .agg #[.int .u64 (keep : Int), .int .i64 torn, .int .i64 cut]] w fun e w' => e = .returned (.tuple #[]) ∧ RX w' p none N (crashF d keep torn cut) ∧ Ch (only10 p) w w' := by
  obtain ⟨vs, vp, xs, hb, hvs, ho, hx, hr, hrp⟩ := h
  obtain ⟨hsn, hst, _, _⟩ := hs
  obtain ⟨A, c, rfl, _, _⟩ := wds_shape hvs
  obtain ⟨Ap, cp, rfl⟩ := own_shape8 ho
  have hpp : (Value.slice Ap d.pend.length cp).ownBlock ≠ some p := by rw [hr]; exact hrp
  have hpb := Blk.new' w 32 [.int .u64 (keep : Int), .int .i64 torn, .int .i64 cut]
  have hal : Below w.heap.size w (w.alloc (.cells #[.int .u64 (keep : Int), .int .i64 torn, .int .i64 cut] 32)) := (Below.refl _ _).alloc (Nat.le_refl _) _
  have hrw : ∀ b, w.heap.size ≤ b → dkF p r N b := fun b hb2 => ⟨by have := hb.lt; omega, (by
    rintro e
    rw [← hr] at e
    have := (ho.lt b e).2
    omega), fun h => by have := hN b h; omega⟩
  have hpl := hb.lt
  have hb := hb.below hal
  have hvs := hvs.below hal
  have ho := own_bel ho hal
  have hx := hx.keep (F' := dkF p r N) (fun b hb2 hF => ⟨hF, hal.block b hb2⟩)
  have hC : Ch (only10 p) w (w.alloc (.cells #[.int .u64 (keep : Int), .int .i64 torn, .int .i64 cut] 32)) := (Ch.refl _ _).belowR hal
  go_enter Try.func33, Try.ntmps33
  go_wp2
  obtain ⟨w0, hw0⟩ : ∃ x, x = w.alloc (.cells #[.int .u64 (keep : Int), .int .i64 torn, .int .i64 cut] 32) := ⟨_, rfl⟩
  rw [← hw0] at hpb hb hvs ho hx hC ⊢
  clear hw0 hal
  obtain ⟨gp, hgp⟩ : ∃ g, g = w.heap.size := ⟨_, rfl⟩
  rw [← hgp] at hpb ⊢
  have hgpp : gp ≠ p := by omega
  clear hgp
  go_loopw [4] (fun iv wr => ∃ (i : Nat) (vs : Value), i ≤ d.pend.length ∧ iv = .int .i64 i ∧ Blk wr p 42 (d.l vs (.slice Ap d.pend.length cp)) ∧ Rd wr (dkF p r N) vs (wds flD (crF keep torn cut 0 d.syn (d.pend.take i))) ∧ Ch (only10 p) w0 wr) (fun i _ => d.pend.length - (intOf i).toNat)
  case atStart => exact ⟨0, _, Nat.zero_le _, rfl, hb, hvs, Ch.refl _ _⟩
  case round =>
    clear hb hvs
    obtain ⟨i, vs, hi, rfl, hb, hvs, hC1⟩ := hrel
    have c2 := hb.cellAt 2 _ rfl
    by_cases hlt : i < d.pend.length
    · obtain ⟨a, ha⟩ : ∃ a, d.pend[i]? = some a := ⟨_, List.getElem?_eq_getElem hlt⟩
      have hI : (i : Int) < (d.pend.length : Int) := by omega
      obtain ⟨g, cp', cs, hve, hrg, he⟩ := own_el (rd_own10 ho hC1 hpp) (hx.keep (F' := dkF p r N) (fun b hb2 hF => ⟨hF, hC1.block b hb2 (fun h => hF.1 h)⟩)) ha
      injection hve with hve hve2 hve3
      subst hve hve3
      obtain ⟨u, rfl, hu⟩ := ac_open he
      obtain ⟨Au, cu, rfl⟩ := hu.shape
      have hbd := cr_bd keep torn cut (d.pend.take i) 0 d.syn
      have htt := totA_take d.pend i
      rw [List.length_take] at hbd
      have hab := totA_mem (List.mem_of_getElem? ha)
      have hsn2 := cr_snoc keep torn cut (d.pend.take i) 0 d.syn a
      rw [← take_snocF ha, Nat.zero_add, List.length_take, Nat.min_eq_left (by omega)] at hsn2
      obtain ⟨L, hL⟩ : ∃ L, L = crF keep torn cut 0 d.syn (d.pend.take i) := ⟨_, rfl⟩
      rw [← hL] at hvs hbd hsn2
      obtain ⟨Al, cl, rfl, _, _⟩ := wds_shape hvs
      have hfb : ∀ f ∈ L, f.b.length ≤ 1000000000 := fun f hf => by have := tot_mem hf; omega
      unfold crS at hsn2
      have hpbr := hpb.ch hC1 (fun h => hgpp h)
      clear hL he
      go_wp2_with (first | refine wp_ixa 22 (.tmp 21) (.tmp 22) rfl rfl rfl rfl Try.underlying22 hlt sizeAc ?_ | refine wp_ld 34 (.tmp 23) rfl rfl rfl hrg Try.underlying34 rfl sizeAc ?_ | refine wp_newst 34 5 (.tmp 24) rfl rfl rfl rfl rfl rfl zeroAc (l := a.l (.slice Au a.b.length cu)) rfl rfl sizeAc (one_ac a _ _ _) (by simp [Act.put]) ?_; intro w2 hx2 hB2 hs2; refine wp_stop ?_)
      have hb2 := hb.below hB2
      have hvs2 := hvs.below hB2
      have hu2 := hu.below hB2
      have hvs3 := hvs.keep (F' := fun b => dkF p r N b ∧ b ≠ wr.heap.size) (fun b hb2 hF => ⟨⟨hF, by omega⟩, hB2.block b hb2⟩)
      have hu3 := hu.keep (F' := fun b => dkF p r N b ∧ b ≠ wr.heap.size) (fun b hb2 hF => ⟨⟨hF, by omega⟩, hB2.block b hb2⟩)
      have hpb2 := hpbr.below hB2
      have hC2 := hC1.belowR hB2
      have hsw := hC2.size
      have hbl := hb.lt
      obtain ⟨gx, hgx⟩ : ∃ g, g = wr.heap.size := ⟨_, rfl⟩
      rw [← hgx] at hx2 hvs3 hu3 ⊢
      have hgxp : gx ≠ p := by omega
      have hgpl := hpbr.lt
      have hgxw : w0.heap.size ≤ gx := by have := hC1.size; omega
      have hgxgp : gx ≠ gp := by omega
      clear hgx hs2 hB2 hb hvs hu hpbr c2 hrg
      refine wp_go ?_
      have hin : IntKind.i64.wrap ((i : Int) + 1) = (i : Int) + 1 := IntWalk.i64_in _ (by omega)
      have hs0 := hC.size
      have q0 := hpb2.cellAt 0 _ rfl
      have q1 := hpb2.cellAt 1 _ rfl
      have q2 := hpb2.cellAt 2 _ rfl
      have z0 := hx2.cellAt 0 _ rfl
      have z3 := hx2.cellAt 3 _ rfl
      by_cases hk : (i : Int) = torn ∧ a.k ≤ 1
      · rw [if_pos hk] at hsn2
        obtain ⟨hk1, hk2⟩ := hk
        subst hk1
        have hd2 : decide (a.k ≤ 1) = true := decide_eq_true hk2
        obtain ⟨X, hXX⟩ : ∃ X, X = tornF a cut := ⟨_, rfl⟩
        have hXe : Hid (X = tornF a cut) := hid hXX
        rw [← hXX] at hsn2
        have hDn := hid hsn2
        clear hXX hsn2
        by_cases hc0 : cut < 0
        · by_cases ha0 : a.b.length = 0
          · have hXa : X = a := by rw [hXe.out]; unfold tornF; rw [if_pos hc0]; have h0 := List.eq_nil_of_length_eq_zero ha0; cases a; simp at h0; subst h0; rfl
            subst hXa
            have hXb : X.b.length ≤ 1000000000 := by omega
            have hA0 : ¬ (0 : Int) < (X.b.length : Int) := by omega
            clear hXe ha0
            have b5 := hb2
            have v5 := hvs2
            have u5 := hu2
            have x5 := hx2
            have y5 := hpb2
            have C5 := hC2
            clear hb2 hvs2 hu2 hx2 hpb2 hC2 hvs3 hu3
            go_upto_region 11 with (fail)
            obtain ⟨wd, hwd⟩ : ∃ x, x = w2.drew := ⟨_, rfl⟩
            replace b5 := b5.drew
            replace v5 := v5.drew
            replace u5 := u5.drew
            replace x5 := x5.drew
            replace y5 := y5.drew
            replace C5 := C5.drew
            rw [← hwd] at b5 v5 u5 x5 y5 C5
            have d1 := b5.cellAt 1 _ rfl
            have hrg5 := x5.whole
            have hs5 := C5.size
            refine wp_region_noPanic ?_
            refine wp_region_any (by kernel_rfl) ?_
            change wpAny _ _ _ _ _ _ _ (World.drew _)
            rw [← hwd]
            clear hwd
            refine wpAny_take (i := 0) (oi := ⟨some 48, _, _, _, _, none⟩) (v := ?_) rfl (by kernel_rfl) (by kernel_rfl) (by kernel_rfl) (fun _ _ _ h => h) (Or.inl ⟨by rfl, ?_⟩) ?_
            rotate_left
            · intro w; go_simp; try with_reducible rfl
            try simp only [Act.put, List.setIfInBounds_toArray, List.set_cons_zero, List.set_cons_succ]
            refine wpAny_take (i := 1) (oi := ⟨some 49, _, _, _, _, none⟩) (v := ?_) rfl (by kernel_rfl) (by kernel_rfl) (by kernel_rfl) (fun _ _ _ h => h) (Or.inl ⟨by rfl, ?_⟩) ?_
            rotate_left
            · intro w; go_simp; try with_reducible rfl
            try simp only [Act.put, List.setIfInBounds_toArray, List.set_cons_zero, List.set_cons_succ]
            refine wpAny_take (i := 2) (oi := ⟨some 50, _, _, _, _, none⟩) (v := ?_) rfl (by kernel_rfl) (by kernel_rfl) (by kernel_rfl) (fun _ _ _ h => h) (Or.inl ⟨by rfl, ?_⟩) ?_
            rotate_left
            · intro w; go_simp; try with_reducible rfl
            try simp only [Act.put, List.setIfInBounds_toArray, List.set_cons_zero, List.set_cons_succ]
            refine wpAny_take (i := 3) (oi := ⟨some 51, _, _, _, _, none⟩) (v := ?_) rfl (by kernel_rfl) (by kernel_rfl) (by kernel_rfl) (fun _ _ _ h => h) (Or.inl ⟨by rfl, ?_⟩) ?_
            rotate_left
            · intro w; go_simp; try with_reducible rfl
            try simp only [Act.put, List.setIfInBounds_toArray, List.set_cons_zero, List.set_cons_succ]
            refine wpAny_ready (rs := [4, 5]) (by kernel_rfl) (by simp) ?_
            refine AllReady.cons (o := ⟨some 52, .load 40 (.tmp 51), _, _, _, none⟩) rfl (fun K hK => ?_) ?_
            · refine step_ld1 40 (.tmp 51) (by rfl) (by rfl) (by rfl) d1 Try.isAgg40 ?_
              refine hK _ _ ?_
              clear hK K
              try simp only [Act.put, List.setIfInBounds_toArray, List.set_cons_zero, List.set_cons_succ]
              refine wpAny_ready (rs := [5]) (by kernel_rfl) (by simp) ?_
              refine AllReady.cons (o := ⟨some 53, .load 34 (.tmp 5), _, _, _, none⟩) rfl (fun K hK => ?_) AllReady.nil
              refine step_ld 34 (.tmp 5) (by rfl) (by rfl) (by rfl) hrg5 Try.underlying34 rfl sizeAc ?_
              refine hK _ _ ?_
              clear hK K
              try simp only [Act.put, List.setIfInBounds_toArray, List.set_cons_zero, List.set_cons_succ]
              refine wpAny_ready (rs := [6]) (by kernel_rfl) (by simp) ?_
              refine AllReady.cons (o := ⟨some 54, _, _, _, _, none⟩) rfl (fun K hK => ?_) AllReady.nil
              go_simp
              refine (done_any10 L X _ _ (dkF p r N) _ v5 u5 (by omega) hfb hXb).mono ?_
              rintro e w6 ⟨v6, rfl, hr6, hB6⟩
              have hr6 := hr6.weak (F' := dkF p r N) (fun b _ h => h.elim id (fun h => hrw b (by omega)))
              obtain ⟨A6, c6, rfl, _, _⟩ := wds_shape hr6
              have b6 := b5.below hB6
              have y6 := y5.below hB6
              have C6 := C5.belowR hB6
              refine hK _ _ ?_
              clear hK K
              try simp only [Act.put, List.setIfInBounds_toArray, List.set_cons_zero, List.set_cons_succ]
              refine wpAny_take (i := 7) (oi := ⟨some 55, _, _, _, _, none⟩) (v := ?_) rfl (by kernel_rfl) (by kernel_rfl) (by kernel_rfl) (fun _ _ _ h => h) (Or.inl ⟨by rfl, ?_⟩) ?_
              rotate_left
              · intro w; go_simp; try with_reducible rfl
              try simp only [Act.put, List.setIfInBounds_toArray, List.set_cons_zero, List.set_cons_succ]
              refine wpAny_take (i := 8) (oi := ⟨some 56, _, _, _, _, none⟩) (v := ?_) rfl (by kernel_rfl) (by kernel_rfl) (by kernel_rfl) (fun _ _ _ h => h) (Or.inl ⟨by rfl, ?_⟩) ?_
              rotate_left
              · intro w; go_simp; try with_reducible rfl
              try simp only [Act.put, List.setIfInBounds_toArray, List.set_cons_zero, List.set_cons_succ]
              refine wpAny_ready (rs := [9]) (by kernel_rfl) (by simp) ?_
              refine AllReady.cons (o := ⟨none, .store _ _ _, _, _, _, none⟩) rfl (fun K hK => ?_) AllReady.nil
              refine step_st1 40 (.tmp 56) (.tmp 54) (by rfl) (by rfl) (by rfl) (f := 1) (by rfl) (v := .slice A6 _ c6) (by rfl) b6 (by simp [Dk.l]) sizeSl10 rfl rfl ?_
              intro w7 b7 hG7
              have b7 : Blk w7 p 42 (d.l (.slice A6 (doneF L X).length c6) _) := b7
              have v7 := hr6.keep (F' := dkF p r N) (fun b hb2 hF => ⟨hF, hG7.block b hb2 (by intro e; injection e with e; exact hF.1 e)⟩)
              have C7 := C6.grow hG7 (fun k hk => .inl (by injection hk with hk; exact hk.symm))
              have y7 := y6.keep (hG7.block _ y6.lt (by intro e; injection e with e; exact hgpp e))
              refine hK _ _ ?_
              clear hK K
              try simp only [Act.put, List.setIfInBounds_toArray, List.set_cons_zero, List.set_cons_succ]
              refine wpAny_done (by kernel_rfl) ?_ _
              refine NoPanic.normal ?_
              clear b5 v5 u5 x5 y5 C5 d1 hrg5 b6 y6 C6 hr6 hG7 hB6 y7
              go_wp2
              go_roundw
              case rel => exact ⟨i + 1, _, by omega, by go_num, b7, by rw [hDn.out]; exact v7, C7⟩
              case measure => simp [intOf]; omega
            refine AllReady.cons (o := ⟨some 53, .load 34 (.tmp 5), _, _, _, none⟩) rfl (fun K hK => ?_) AllReady.nil
            refine step_ld 34 (.tmp 5) (by rfl) (by rfl) (by rfl) hrg5 Try.underlying34 rfl sizeAc ?_
            refine hK _ _ ?_
            clear hK K
            try simp only [Act.put, List.setIfInBounds_toArray, List.set_cons_zero, List.set_cons_succ]
            refine wpAny_ready (rs := [4]) (by kernel_rfl) (by simp) ?_
            refine AllReady.cons (o := ⟨some 52, .load 40 (.tmp 51), _, _, _, none⟩) rfl (fun K hK => ?_) AllReady.nil
            refine step_ld1 40 (.tmp 51) (by rfl) (by rfl) (by rfl) d1 Try.isAgg40 ?_
            refine hK _ _ ?_
            clear hK K
            try simp only [Act.put, List.setIfInBounds_toArray, List.set_cons_zero, List.set_cons_succ]
            refine wpAny_ready (rs := [6]) (by kernel_rfl) (by simp) ?_
            refine AllReady.cons (o := ⟨some 54, _, _, _, _, none⟩) rfl (fun K hK => ?_) AllReady.nil
            go_simp
            refine (done_any10 L X _ _ (dkF p r N) _ v5 u5 (by omega) hfb hXb).mono ?_
            rintro e w6 ⟨v6, rfl, hr6, hB6⟩
            have hr6 := hr6.weak (F' := dkF p r N) (fun b _ h => h.elim id (fun h => hrw b (by omega)))
            obtain ⟨A6, c6, rfl, _, _⟩ := wds_shape hr6
            have b6 := b5.below hB6
            have y6 := y5.below hB6
            have C6 := C5.belowR hB6
            refine hK _ _ ?_
            clear hK K
            try simp only [Act.put, List.setIfInBounds_toArray, List.set_cons_zero, List.set_cons_succ]
            refine wpAny_take (i := 7) (oi := ⟨some 55, _, _, _, _, none⟩) (v := ?_) rfl (by kernel_rfl) (by kernel_rfl) (by kernel_rfl) (fun _ _ _ h => h) (Or.inl ⟨by rfl, ?_⟩) ?_
            rotate_left
            · intro w; go_simp; try with_reducible rfl
            try simp only [Act.put, List.setIfInBounds_toArray, List.set_cons_zero, List.set_cons_succ]
            refine wpAny_take (i := 8) (oi := ⟨some 56, _, _, _, _, none⟩) (v := ?_) rfl (by kernel_rfl) (by kernel_rfl) (by kernel_rfl) (fun _ _ _ h => h) (Or.inl ⟨by rfl, ?_⟩) ?_
            rotate_left
            · intro w; go_simp; try with_reducible rfl
            try simp only [Act.put, List.setIfInBounds_toArray, List.set_cons_zero, List.set_cons_succ]
            refine wpAny_ready (rs := [9]) (by kernel_rfl) (by simp) ?_
            refine AllReady.cons (o := ⟨none, .store _ _ _, _, _, _, none⟩) rfl (fun K hK => ?_) AllReady.nil
            refine step_st1 40 (.tmp 56) (.tmp 54) (by rfl) (by rfl) (by rfl) (f := 1) (by rfl) (v := .slice A6 _ c6) (by rfl) b6 (by simp [Dk.l]) sizeSl10 rfl rfl ?_
            intro w7 b7 hG7
            have b7 : Blk w7 p 42 (d.l (.slice A6 (doneF L X).length c6) _) := b7
            have v7 := hr6.keep (F' := dkF p r N) (fun b hb2 hF => ⟨hF, hG7.block b hb2 (by intro e; injection e with e; exact hF.1 e)⟩)
            have C7 := C6.grow hG7 (fun k hk => .inl (by injection hk with hk; exact hk.symm))
            have y7 := y6.keep (hG7.block _ y6.lt (by intro e; injection e with e; exact hgpp e))
            refine hK _ _ ?_
            clear hK K
            try simp only [Act.put, List.setIfInBounds_toArray, List.set_cons_zero, List.set_cons_succ]
            refine wpAny_done (by kernel_rfl) ?_ _
            refine NoPanic.normal ?_
            clear b5 v5 u5 x5 y5 C5 d1 hrg5 b6 y6 C6 hr6 hG7 hB6 y7
            go_wp2
            go_roundw
            case rel => exact ⟨i + 1, _, by omega, by go_num, b7, by rw [hDn.out]; exact v7, C7⟩
            case measure => simp [intOf]; omega
          · have hA0 : (0 : Int) < (a.b.length : Int) := by omega
            obtain ⟨A', m', c', hcut, hr'⟩ := Rd.cut_h slB hu3 0 (by omega) (by omega)
            obtain ⟨A5, c5, e5⟩ := hr'.shape
            have hXq : X.b = a.b.take (0 : Int).toNat := by rw [hXe.out]; show a.b.take _ = _; rw [if_pos hc0]; rfl
            have hXb : X.b.length ≤ 1000000000 := by rw [hXq, List.length_take]; omega
            have hm' : m' = X.b.length := by injection e5 with e1 e2 e3; rw [e2, hXq]
            subst hm'
            clear e5
            rw [← hXq] at hr'
            have HXq := hid hXq
            clear hXq
            go_wp2_with (refine wp_st1 29 (.tmp 47) (.tmp 46) rfl rfl rfl (f := 3) rfl (v := .slice A' X.b.length c') rfl hx2 (by simp [Ac.l]) sizeSlB10 rfl rfl ?_; intro w3 hx3 hG3; refine wp_stop ?_)
            have hx3 : Blk w3 gx 34 ((tornF a cut).l (.slice A' X.b.length c')) := hx3
            rw [← hXe.out] at hx3
            have hkg : ∀ b, b < w2.heap.size → (dkF p r N b ∧ b ≠ gx) → dkF p r N b ∧ w3.heap[b]? = w2.heap[b]? := fun b hb hF => ⟨hF.1, hG3.block b hb (by intro e; injection e with e; exact hF.2 e)⟩
            have x5 := hx3
            have u5 := hr'.keep hkg
            have v5 := hvs3.keep hkg
            have b5 := hb2.keep (hG3.block _ hb2.lt (by intro e; injection e with e; exact hgxp e.symm))
            have y5 := hpb2.keep (hG3.block _ hpb2.lt (by intro e; injection e with e; exact hgxgp e.symm))
            have C5 := hC2.grow hG3 (fun k hk => .inr (by injection hk with hk; omega))
            clear hb2 hvs2 hu2 hx2 hpb2 hC2 hvs3 hu3 hcut hG3 hkg hx3 hr' hXe z0 z3 q0 q1 q2
            refine wp_go ?_
            go_upto_region 11 with (fail)
            obtain ⟨wd, hwd⟩ : ∃ x, x = w3.drew := ⟨_, rfl⟩
            replace b5 := b5.drew
            replace v5 := v5.drew
            replace u5 := u5.drew
            replace x5 := x5.drew
            replace y5 := y5.drew
            replace C5 := C5.drew
            rw [← hwd] at b5 v5 u5 x5 y5 C5
            have d1 := b5.cellAt 1 _ rfl
            have hrg5 := x5.whole
            have hs5 := C5.size
            refine wp_region_noPanic ?_
            refine wp_region_any (by kernel_rfl) ?_
            change wpAny _ _ _ _ _ _ _ (World.drew _)
            rw [← hwd]
            clear hwd
            refine wpAny_take (i := 0) (oi := ⟨some 48, _, _, _, _, none⟩) (v := ?_) rfl (by kernel_rfl) (by kernel_rfl) (by kernel_rfl) (fun _ _ _ h => h) (Or.inl ⟨by rfl, ?_⟩) ?_
            rotate_left
            · intro w; go_simp; try with_reducible rfl
            try simp only [Act.put, List.setIfInBounds_toArray, List.set_cons_zero, List.set_cons_succ]
            refine wpAny_take (i := 1) (oi := ⟨some 49, _, _, _, _, none⟩) (v := ?_) rfl (by kernel_rfl) (by kernel_rfl) (by kernel_rfl) (fun _ _ _ h => h) (Or.inl ⟨by rfl, ?_⟩) ?_
            rotate_left
            · intro w; go_simp; try with_reducible rfl
            try simp only [Act.put, List.setIfInBounds_toArray, List.set_cons_zero, List.set_cons_succ]
            refine wpAny_take (i := 2) (oi := ⟨some 50, _, _, _, _, none⟩) (v := ?_) rfl (by kernel_rfl) (by kernel_rfl) (by kernel_rfl) (fun _ _ _ h => h) (Or.inl ⟨by rfl, ?_⟩) ?_
            rotate_left
            · intro w; go_simp; try with_reducible rfl
            try simp only [Act.put, List.setIfInBounds_toArray, List.set_cons_zero, List.set_cons_succ]
            refine wpAny_take (i := 3) (oi := ⟨some 51, _, _, _, _, none⟩) (v := ?_) rfl (by kernel_rfl) (by kernel_rfl) (by kernel_rfl) (fun _ _ _ h => h) (Or.inl ⟨by rfl, ?_⟩) ?_
            rotate_left
            · intro w; go_simp; try with_reducible rfl
            try simp only [Act.put, List.setIfInBounds_toArray, List.set_cons_zero, List.set_cons_succ]
            refine wpAny_ready (rs := [4, 5]) (by kernel_rfl) (by simp) ?_
            refine AllReady.cons (o := ⟨some 52, .load 40 (.tmp 51), _, _, _, none⟩) rfl (fun K hK => ?_) ?_
            · refine step_ld1 40 (.tmp 51) (by rfl) (by rfl) (by rfl) d1 Try.isAgg40 ?_
              refine hK _ _ ?_
              clear hK K
              try simp only [Act.put, List.setIfInBounds_toArray, List.set_cons_zero, List.set_cons_succ]
              refine wpAny_ready (rs := [5]) (by kernel_rfl) (by simp) ?_
              refine AllReady.cons (o := ⟨some 53, .load 34 (.tmp 5), _, _, _, none⟩) rfl (fun K hK => ?_) AllReady.nil
              refine step_ld 34 (.tmp 5) (by rfl) (by rfl) (by rfl) hrg5 Try.underlying34 rfl sizeAc ?_
              refine hK _ _ ?_
              clear hK K
              try simp only [Act.put, List.setIfInBounds_toArray, List.set_cons_zero, List.set_cons_succ]
              refine wpAny_ready (rs := [6]) (by kernel_rfl) (by simp) ?_
              refine AllReady.cons (o := ⟨some 54, _, _, _, _, none⟩) rfl (fun K hK => ?_) AllReady.nil
              go_simp
              refine (done_any10 L X _ _ (dkF p r N) _ v5 u5 (by omega) hfb hXb).mono ?_
              rintro e w6 ⟨v6, rfl, hr6, hB6⟩
              have hr6 := hr6.weak (F' := dkF p r N) (fun b _ h => h.elim id (fun h => hrw b (by omega)))
              obtain ⟨A6, c6, rfl, _, _⟩ := wds_shape hr6
              have b6 := b5.below hB6
              have y6 := y5.below hB6
              have C6 := C5.belowR hB6
              refine hK _ _ ?_
              clear hK K
              try simp only [Act.put, List.setIfInBounds_toArray, List.set_cons_zero, List.set_cons_succ]
              refine wpAny_take (i := 7) (oi := ⟨some 55, _, _, _, _, none⟩) (v := ?_) rfl (by kernel_rfl) (by kernel_rfl) (by kernel_rfl) (fun _ _ _ h => h) (Or.inl ⟨by rfl, ?_⟩) ?_
              rotate_left
              · intro w; go_simp; try with_reducible rfl
              try simp only [Act.put, List.setIfInBounds_toArray, List.set_cons_zero, List.set_cons_succ]
              refine wpAny_take (i := 8) (oi := ⟨some 56, _, _, _, _, none⟩) (v := ?_) rfl (by kernel_rfl) (by kernel_rfl) (by kernel_rfl) (fun _ _ _ h => h) (Or.inl ⟨by rfl, ?_⟩) ?_
              rotate_left
              · intro w; go_simp; try with_reducible rfl
              try simp only [Act.put, List.setIfInBounds_toArray, List.set_cons_zero, List.set_cons_succ]
              refine wpAny_ready (rs := [9]) (by kernel_rfl) (by simp) ?_
              refine AllReady.cons (o := ⟨none, .store _ _ _, _, _, _, none⟩) rfl (fun K hK => ?_) AllReady.nil
              refine step_st1 40 (.tmp 56) (.tmp 54) (by rfl) (by rfl) (by rfl) (f := 1) (by rfl) (v := .slice A6 _ c6) (by rfl) b6 (by simp [Dk.l]) sizeSl10 rfl rfl ?_
              intro w7 b7 hG7
              have b7 : Blk w7 p 42 (d.l (.slice A6 (doneF L X).length c6) _) := b7
              have v7 := hr6.keep (F' := dkF p r N) (fun b hb2 hF => ⟨hF, hG7.block b hb2 (by intro e; injection e with e; exact hF.1 e)⟩)
              have C7 := C6.grow hG7 (fun k hk => .inl (by injection hk with hk; exact hk.symm))
              have y7 := y6.keep (hG7.block _ y6.lt (by intro e; injection e with e; exact hgpp e))
              refine hK _ _ ?_
              clear hK K
              try simp only [Act.put, List.setIfInBounds_toArray, List.set_cons_zero, List.set_cons_succ]
              refine wpAny_done (by kernel_rfl) ?_ _
              refine NoPanic.normal ?_
              clear b5 v5 u5 x5 y5 C5 d1 hrg5 b6 y6 C6 hr6 hG7 hB6 y7
              go_wp2
              go_roundw
              case rel => exact ⟨i + 1, _, by omega, by go_num, b7, by rw [hDn.out]; exact v7, C7⟩
              case measure => simp [intOf]; omega
            refine AllReady.cons (o := ⟨some 53, .load 34 (.tmp 5), _, _, _, none⟩) rfl (fun K hK => ?_) AllReady.nil
            refine step_ld 34 (.tmp 5) (by rfl) (by rfl) (by rfl) hrg5 Try.underlying34 rfl sizeAc ?_
            refine hK _ _ ?_
            clear hK K
            try simp only [Act.put, List.setIfInBounds_toArray, List.set_cons_zero, List.set_cons_succ]
            refine wpAny_ready (rs := [4]) (by kernel_rfl) (by simp) ?_
            refine AllReady.cons (o := ⟨some 52, .load 40 (.tmp 51), _, _, _, none⟩) rfl (fun K hK => ?_) AllReady.nil
            refine step_ld1 40 (.tmp 51) (by rfl) (by rfl) (by rfl) d1 Try.isAgg40 ?_
            refine hK _ _ ?_
            clear hK K
            try simp only [Act.put, List.setIfInBounds_toArray, List.set_cons_zero, List.set_cons_succ]
            refine wpAny_ready (rs := [6]) (by kernel_rfl) (by simp) ?_
            refine AllReady.cons (o := ⟨some 54, _, _, _, _, none⟩) rfl (fun K hK => ?_) AllReady.nil
            go_simp
            refine (done_any10 L X _ _ (dkF p r N) _ v5 u5 (by omega) hfb hXb).mono ?_
            rintro e w6 ⟨v6, rfl, hr6, hB6⟩
            have hr6 := hr6.weak (F' := dkF p r N) (fun b _ h => h.elim id (fun h => hrw b (by omega)))
            obtain ⟨A6, c6, rfl, _, _⟩ := wds_shape hr6
            have b6 := b5.below hB6
            have y6 := y5.below hB6
            have C6 := C5.belowR hB6
            refine hK _ _ ?_
            clear hK K
            try simp only [Act.put, List.setIfInBounds_toArray, List.set_cons_zero, List.set_cons_succ]
            refine wpAny_take (i := 7) (oi := ⟨some 55, _, _, _, _, none⟩) (v := ?_) rfl (by kernel_rfl) (by kernel_rfl) (by kernel_rfl) (fun _ _ _ h => h) (Or.inl ⟨by rfl, ?_⟩) ?_
            rotate_left
            · intro w; go_simp; try with_reducible rfl
            try simp only [Act.put, List.setIfInBounds_toArray, List.set_cons_zero, List.set_cons_succ]
            refine wpAny_take (i := 8) (oi := ⟨some 56, _, _, _, _, none⟩) (v := ?_) rfl (by kernel_rfl) (by kernel_rfl) (by kernel_rfl) (fun _ _ _ h => h) (Or.inl ⟨by rfl, ?_⟩) ?_
            rotate_left
            · intro w; go_simp; try with_reducible rfl
            try simp only [Act.put, List.setIfInBounds_toArray, List.set_cons_zero, List.set_cons_succ]
            refine wpAny_ready (rs := [9]) (by kernel_rfl) (by simp) ?_
            refine AllReady.cons (o := ⟨none, .store _ _ _, _, _, _, none⟩) rfl (fun K hK => ?_) AllReady.nil
            refine step_st1 40 (.tmp 56) (.tmp 54) (by rfl) (by rfl) (by rfl) (f := 1) (by rfl) (v := .slice A6 _ c6) (by rfl) b6 (by simp [Dk.l]) sizeSl10 rfl rfl ?_
            intro w7 b7 hG7
            have b7 : Blk w7 p 42 (d.l (.slice A6 (doneF L X).length c6) _) := b7
            have v7 := hr6.keep (F' := dkF p r N) (fun b hb2 hF => ⟨hF, hG7.block b hb2 (by intro e; injection e with e; exact hF.1 e)⟩)
            have C7 := C6.grow hG7 (fun k hk => .inl (by injection hk with hk; exact hk.symm))
            have y7 := y6.keep (hG7.block _ y6.lt (by intro e; injection e with e; exact hgpp e))
            refine hK _ _ ?_
            clear hK K
            try simp only [Act.put, List.setIfInBounds_toArray, List.set_cons_zero, List.set_cons_succ]
            refine wpAny_done (by kernel_rfl) ?_ _
            refine NoPanic.normal ?_
            clear b5 v5 u5 x5 y5 C5 d1 hrg5 b6 y6 C6 hr6 hG7 hB6 y7
            go_wp2
            go_roundw
            case rel => exact ⟨i + 1, _, by omega, by go_num, b7, by rw [hDn.out]; exact v7, C7⟩
            case measure => simp [intOf]; omega
        · by_cases ha0 : (a.b.length : Int) ≤ cut
          · have hXa : X = a := by rw [hXe.out]; unfold tornF; rw [if_neg hc0]; have h0 : a.b.take cut.toNat = a.b := List.take_of_length_le (by omega); rw [h0]
            subst hXa
            have hXb : X.b.length ≤ 1000000000 := by omega
            have hA0 : ¬ cut < (X.b.length : Int) := by omega
            clear hXe ha0
            have b5 := hb2
            have v5 := hvs2
            have u5 := hu2
            have x5 := hx2
            have y5 := hpb2
            have C5 := hC2
            clear hb2 hvs2 hu2 hx2 hpb2 hC2 hvs3 hu3
            go_upto_region 11 with (fail)
            obtain ⟨wd, hwd⟩ : ∃ x, x = w2.drew := ⟨_, rfl⟩
            replace b5 := b5.drew
            replace v5 := v5.drew
            replace u5 := u5.drew
            replace x5 := x5.drew
            replace y5 := y5.drew
            replace C5 := C5.drew
            rw [← hwd] at b5 v5 u5 x5 y5 C5
            have d1 := b5.cellAt 1 _ rfl
            have hrg5 := x5.whole
            have hs5 := C5.size
            refine wp_region_noPanic ?_
            refine wp_region_any (by kernel_rfl) ?_
            change wpAny _ _ _ _ _ _ _ (World.drew _)
            rw [← hwd]
            clear hwd
            refine wpAny_take (i := 0) (oi := ⟨some 48, _, _, _, _, none⟩) (v := ?_) rfl (by kernel_rfl) (by kernel_rfl) (by kernel_rfl) (fun _ _ _ h => h) (Or.inl ⟨by rfl, ?_⟩) ?_
            rotate_left
            · intro w; go_simp; try with_reducible rfl
            try simp only [Act.put, List.setIfInBounds_toArray, List.set_cons_zero, List.set_cons_succ]
            refine wpAny_take (i := 1) (oi := ⟨some 49, _, _, _, _, none⟩) (v := ?_) rfl (by kernel_rfl) (by kernel_rfl) (by kernel_rfl) (fun _ _ _ h => h) (Or.inl ⟨by rfl, ?_⟩) ?_
            rotate_left
            · intro w; go_simp; try with_reducible rfl
            try simp only [Act.put, List.setIfInBounds_toArray, List.set_cons_zero, List.set_cons_succ]
            refine wpAny_take (i := 2) (oi := ⟨some 50, _, _, _, _, none⟩) (v := ?_) rfl (by kernel_rfl) (by kernel_rfl) (by kernel_rfl) (fun _ _ _ h => h) (Or.inl ⟨by rfl, ?_⟩) ?_
            rotate_left
            · intro w; go_simp; try with_reducible rfl
            try simp only [Act.put, List.setIfInBounds_toArray, List.set_cons_zero, List.set_cons_succ]
            refine wpAny_take (i := 3) (oi := ⟨some 51, _, _, _, _, none⟩) (v := ?_) rfl (by kernel_rfl) (by kernel_rfl) (by kernel_rfl) (fun _ _ _ h => h) (Or.inl ⟨by rfl, ?_⟩) ?_
            rotate_left
            · intro w; go_simp; try with_reducible rfl
            try simp only [Act.put, List.setIfInBounds_toArray, List.set_cons_zero, List.set_cons_succ]
            refine wpAny_ready (rs := [4, 5]) (by kernel_rfl) (by simp) ?_
            refine AllReady.cons (o := ⟨some 52, .load 40 (.tmp 51), _, _, _, none⟩) rfl (fun K hK => ?_) ?_
            · refine step_ld1 40 (.tmp 51) (by rfl) (by rfl) (by rfl) d1 Try.isAgg40 ?_
              refine hK _ _ ?_
              clear hK K
              try simp only [Act.put, List.setIfInBounds_toArray, List.set_cons_zero, List.set_cons_succ]
              refine wpAny_ready (rs := [5]) (by kernel_rfl) (by simp) ?_
              refine AllReady.cons (o := ⟨some 53, .load 34 (.tmp 5), _, _, _, none⟩) rfl (fun K hK => ?_) AllReady.nil
              refine step_ld 34 (.tmp 5) (by rfl) (by rfl) (by rfl) hrg5 Try.underlying34 rfl sizeAc ?_
              refine hK _ _ ?_
              clear hK K
              try simp only [Act.put, List.setIfInBounds_toArray, List.set_cons_zero, List.set_cons_succ]
              refine wpAny_ready (rs := [6]) (by kernel_rfl) (by simp) ?_
              refine AllReady.cons (o := ⟨some 54, _, _, _, _, none⟩) rfl (fun K hK => ?_) AllReady.nil
              go_simp
              refine (done_any10 L X _ _ (dkF p r N) _ v5 u5 (by omega) hfb hXb).mono ?_
              rintro e w6 ⟨v6, rfl, hr6, hB6⟩
              have hr6 := hr6.weak (F' := dkF p r N) (fun b _ h => h.elim id (fun h => hrw b (by omega)))
              obtain ⟨A6, c6, rfl, _, _⟩ := wds_shape hr6
              have b6 := b5.below hB6
              have y6 := y5.below hB6
              have C6 := C5.belowR hB6
              refine hK _ _ ?_
              clear hK K
              try simp only [Act.put, List.setIfInBounds_toArray, List.set_cons_zero, List.set_cons_succ]
              refine wpAny_take (i := 7) (oi := ⟨some 55, _, _, _, _, none⟩) (v := ?_) rfl (by kernel_rfl) (by kernel_rfl) (by kernel_rfl) (fun _ _ _ h => h) (Or.inl ⟨by rfl, ?_⟩) ?_
              rotate_left
              · intro w; go_simp; try with_reducible rfl
              try simp only [Act.put, List.setIfInBounds_toArray, List.set_cons_zero, List.set_cons_succ]
              refine wpAny_take (i := 8) (oi := ⟨some 56, _, _, _, _, none⟩) (v := ?_) rfl (by kernel_rfl) (by kernel_rfl) (by kernel_rfl) (fun _ _ _ h => h) (Or.inl ⟨by rfl, ?_⟩) ?_
              rotate_left
              · intro w; go_simp; try with_reducible rfl
              try simp only [Act.put, List.setIfInBounds_toArray, List.set_cons_zero, List.set_cons_succ]
              refine wpAny_ready (rs := [9]) (by kernel_rfl) (by simp) ?_
              refine AllReady.cons (o := ⟨none, .store _ _ _, _, _, _, none⟩) rfl (fun K hK => ?_) AllReady.nil
              refine step_st1 40 (.tmp 56) (.tmp 54) (by rfl) (by rfl) (by rfl) (f := 1) (by rfl) (v := .slice A6 _ c6) (by rfl) b6 (by simp [Dk.l]) sizeSl10 rfl rfl ?_
              intro w7 b7 hG7
              have b7 : Blk w7 p 42 (d.l (.slice A6 (doneF L X).length c6) _) := b7
              have v7 := hr6.keep (F' := dkF p r N) (fun b hb2 hF => ⟨hF, hG7.block b hb2 (by intro e; injection e with e; exact hF.1 e)⟩)
              have C7 := C6.grow hG7 (fun k hk => .inl (by injection hk with hk; exact hk.symm))
              have y7 := y6.keep (hG7.block _ y6.lt (by intro e; injection e with e; exact hgpp e))
              refine hK _ _ ?_
              clear hK K
              try simp only [Act.put, List.setIfInBounds_toArray, List.set_cons_zero, List.set_cons_succ]
              refine wpAny_done (by kernel_rfl) ?_ _
              refine NoPanic.normal ?_
              clear b5 v5 u5 x5 y5 C5 d1 hrg5 b6 y6 C6 hr6 hG7 hB6 y7
              go_wp2
              go_roundw
              case rel => exact ⟨i + 1, _, by omega, by go_num, b7, by rw [hDn.out]; exact v7, C7⟩
              case measure => simp [intOf]; omega
            refine AllReady.cons (o := ⟨some 53, .load 34 (.tmp 5), _, _, _, none⟩) rfl (fun K hK => ?_) AllReady.nil
            refine step_ld 34 (.tmp 5) (by rfl) (by rfl) (by rfl) hrg5 Try.underlying34 rfl sizeAc ?_
            refine hK _ _ ?_
            clear hK K
            try simp only [Act.put, List.setIfInBounds_toArray, List.set_cons_zero, List.set_cons_succ]
            refine wpAny_ready (rs := [4]) (by kernel_rfl) (by simp) ?_
            refine AllReady.cons (o := ⟨some 52, .load 40 (.tmp 51), _, _, _, none⟩) rfl (fun K hK => ?_) AllReady.nil
            refine step_ld1 40 (.tmp 51) (by rfl) (by rfl) (by rfl) d1 Try.isAgg40 ?_
            refine hK _ _ ?_
            clear hK K
            try simp only [Act.put, List.setIfInBounds_toArray, List.set_cons_zero, List.set_cons_succ]
            refine wpAny_ready (rs := [6]) (by kernel_rfl) (by simp) ?_
            refine AllReady.cons (o := ⟨some 54, _, _, _, _, none⟩) rfl (fun K hK => ?_) AllReady.nil
            go_simp
            refine (done_any10 L X _ _ (dkF p r N) _ v5 u5 (by omega) hfb hXb).mono ?_
            rintro e w6 ⟨v6, rfl, hr6, hB6⟩
            have hr6 := hr6.weak (F' := dkF p r N) (fun b _ h => h.elim id (fun h => hrw b (by omega)))
            obtain ⟨A6, c6, rfl, _, _⟩ := wds_shape hr6
            have b6 := b5.below hB6
            have y6 := y5.below hB6
            have C6 := C5.belowR hB6
            refine hK _ _ ?_
            clear hK K
            try simp only [Act.put, List.setIfInBounds_toArray, List.set_cons_zero, List.set_cons_succ]
            refine wpAny_take (i := 7) (oi := ⟨some 55, _, _, _, _, none⟩) (v := ?_) rfl (by kernel_rfl) (by kernel_rfl) (by kernel_rfl) (fun _ _ _ h => h) (Or.inl ⟨by rfl, ?_⟩) ?_
            rotate_left
            · intro w; go_simp; try with_reducible rfl
            try simp only [Act.put, List.setIfInBounds_toArray, List.set_cons_zero, List.set_cons_succ]
            refine wpAny_take (i := 8) (oi := ⟨some 56, _, _, _, _, none⟩) (v := ?_) rfl (by kernel_rfl) (by kernel_rfl) (by kernel_rfl) (fun _ _ _ h => h) (Or.inl ⟨by rfl, ?_⟩) ?_
            rotate_left
            · intro w; go_simp; try with_reducible rfl
            try simp only [Act.put, List.setIfInBounds_toArray, List.set_cons_zero, List.set_cons_succ]
            refine wpAny_ready (rs := [9]) (by kernel_rfl) (by simp) ?_
            refine AllReady.cons (o := ⟨none, .store _ _ _, _, _, _, none⟩) rfl (fun K hK => ?_) AllReady.nil
            refine step_st1 40 (.tmp 56) (.tmp 54) (by rfl) (by rfl) (by rfl) (f := 1) (by rfl) (v := .slice A6 _ c6) (by rfl) b6 (by simp [Dk.l]) sizeSl10 rfl rfl ?_
            intro w7 b7 hG7
            have b7 : Blk w7 p 42 (d.l (.slice A6 (doneF L X).length c6) _) := b7
            have v7 := hr6.keep (F' := dkF p r N) (fun b hb2 hF => ⟨hF, hG7.block b hb2 (by intro e; injection e with e; exact hF.1 e)⟩)
            have C7 := C6.grow hG7 (fun k hk => .inl (by injection hk with hk; exact hk.symm))
            have y7 := y6.keep (hG7.block _ y6.lt (by intro e; injection e with e; exact hgpp e))
            refine hK _ _ ?_
            clear hK K
            try simp only [Act.put, List.setIfInBounds_toArray, List.set_cons_zero, List.set_cons_succ]
            refine wpAny_done (by kernel_rfl) ?_ _
            refine NoPanic.normal ?_
            clear b5 v5 u5 x5 y5 C5 d1 hrg5 b6 y6 C6 hr6 hG7 hB6 y7
            go_wp2
            go_roundw
            case rel => exact ⟨i + 1, _, by omega, by go_num, b7, by rw [hDn.out]; exact v7, C7⟩
            case measure => simp [intOf]; omega
          · have hA0 : cut < (a.b.length : Int) := by omega
            obtain ⟨A', m', c', hcut, hr'⟩ := Rd.cut_h slB hu3 cut (by omega) (by omega)
            obtain ⟨A5, c5, e5⟩ := hr'.shape
            have hXq : X.b = a.b.take (cut : Int).toNat := by rw [hXe.out]; show a.b.take _ = _; rw [if_neg hc0]
            have hXb : X.b.length ≤ 1000000000 := by rw [hXq, List.length_take]; omega
            have hm' : m' = X.b.length := by injection e5 with e1 e2 e3; rw [e2, hXq]
            subst hm'
            clear e5
            rw [← hXq] at hr'
            have HXq := hid hXq
            clear hXq
            go_wp2_with (refine wp_st1 29 (.tmp 47) (.tmp 46) rfl rfl rfl (f := 3) rfl (v := .slice A' X.b.length c') rfl hx2 (by simp [Ac.l]) sizeSlB10 rfl rfl ?_; intro w3 hx3 hG3; refine wp_stop ?_)
            have hx3 : Blk w3 gx 34 ((tornF a cut).l (.slice A' X.b.length c')) := hx3
            rw [← hXe.out] at hx3
            have hkg : ∀ b, b < w2.heap.size → (dkF p r N b ∧ b ≠ gx) → dkF p r N b ∧ w3.heap[b]? = w2.heap[b]? := fun b hb hF => ⟨hF.1, hG3.block b hb (by intro e; injection e with e; exact hF.2 e)⟩
            have x5 := hx3
            have u5 := hr'.keep hkg
            have v5 := hvs3.keep hkg
            have b5 := hb2.keep (hG3.block _ hb2.lt (by intro e; injection e with e; exact hgxp e.symm))
            have y5 := hpb2.keep (hG3.block _ hpb2.lt (by intro e; injection e with e; exact hgxgp e.symm))
            have C5 := hC2.grow hG3 (fun k hk => .inr (by injection hk with hk; omega))
            clear hb2 hvs2 hu2 hx2 hpb2 hC2 hvs3 hu3 hcut hG3 hkg hx3 hr' hXe z0 z3 q0 q1 q2
            refine wp_go ?_
            go_upto_region 11 with (fail)
            obtain ⟨wd, hwd⟩ : ∃ x, x = w3.drew := ⟨_, rfl⟩
            replace b5 := b5.drew
            replace v5 := v5.drew
            replace u5 := u5.drew
            replace x5 := x5.drew
            replace y5 := y5.drew
            replace C5 := C5.drew
            rw [← hwd] at b5 v5 u5 x5 y5 C5
            have d1 := b5.cellAt 1 _ rfl
            have hrg5 := x5.whole
            have hs5 := C5.size
            refine wp_region_noPanic ?_
            refine wp_region_any (by kernel_rfl) ?_
            change wpAny _ _ _ _ _ _ _ (World.drew _)
            rw [← hwd]
            clear hwd
            refine wpAny_take (i := 0) (oi := ⟨some 48, _, _, _, _, none⟩) (v := ?_) rfl (by kernel_rfl) (by kernel_rfl) (by kernel_rfl) (fun _ _ _ h => h) (Or.inl ⟨by rfl, ?_⟩) ?_
            rotate_left
            · intro w; go_simp; try with_reducible rfl
            try simp only [Act.put, List.setIfInBounds_toArray, List.set_cons_zero, List.set_cons_succ]
            refine wpAny_take (i := 1) (oi := ⟨some 49, _, _, _, _, none⟩) (v := ?_) rfl (by kernel_rfl) (by kernel_rfl) (by kernel_rfl) (fun _ _ _ h => h) (Or.inl ⟨by rfl, ?_⟩) ?_
            rotate_left
            · intro w; go_simp; try with_reducible rfl
            try simp only [Act.put, List.setIfInBounds_toArray, List.set_cons_zero, List.set_cons_succ]
            refine wpAny_take (i := 2) (oi := ⟨some 50, _, _, _, _, none⟩) (v := ?_) rfl (by kernel_rfl) (by kernel_rfl) (by kernel_rfl) (fun _ _ _ h => h) (Or.inl ⟨by rfl, ?_⟩) ?_
            rotate_left
            · intro w; go_simp; try with_reducible rfl
            try simp only [Act.put, List.setIfInBounds_toArray, List.set_cons_zero, List.set_cons_succ]
            refine wpAny_take (i := 3) (oi := ⟨some 51, _, _, _, _, none⟩) (v := ?_) rfl (by kernel_rfl) (by kernel_rfl) (by kernel_rfl) (fun _ _ _ h => h) (Or.inl ⟨by rfl, ?_⟩) ?_
            rotate_left
            · intro w; go_simp; try with_reducible rfl
            try simp only [Act.put, List.setIfInBounds_toArray, List.set_cons_zero, List.set_cons_succ]
            refine wpAny_ready (rs := [4, 5]) (by kernel_rfl) (by simp) ?_
            refine AllReady.cons (o := ⟨some 52, .load 40 (.tmp 51), _, _, _, none⟩) rfl (fun K hK => ?_) ?_
            · refine step_ld1 40 (.tmp 51) (by rfl) (by rfl) (by rfl) d1 Try.isAgg40 ?_
              refine hK _ _ ?_
              clear hK K
              try simp only [Act.put, List.setIfInBounds_toArray, List.set_cons_zero, List.set_cons_succ]
              refine wpAny_ready (rs := [5]) (by kernel_rfl) (by simp) ?_
              refine AllReady.cons (o := ⟨some 53, .load 34 (.tmp 5), _, _, _, none⟩) rfl (fun K hK => ?_) AllReady.nil
              refine step_ld 34 (.tmp 5) (by rfl) (by rfl) (by rfl) hrg5 Try.underlying34 rfl sizeAc ?_
              refine hK _ _ ?_
              clear hK K
              try simp only [Act.put, List.setIfInBounds_toArray, List.set_cons_zero, List.set_cons_succ]
              refine wpAny_ready (rs := [6]) (by kernel_rfl) (by simp) ?_
              refine AllReady.cons (o := ⟨some 54, _, _, _, _, none⟩) rfl (fun K hK => ?_) AllReady.nil
              go_simp
              refine (done_any10 L X _ _ (dkF p r N) _ v5 u5 (by omega) hfb hXb).mono ?_
              rintro e w6 ⟨v6, rfl, hr6, hB6⟩
              have hr6 := hr6.weak (F' := dkF p r N) (fun b _ h => h.elim id (fun h => hrw b (by omega)))
              obtain ⟨A6, c6, rfl, _, _⟩ := wds_shape hr6
              have b6 := b5.below hB6
              have y6 := y5.below hB6
              have C6 := C5.belowR hB6
              refine hK _ _ ?_
              clear hK K
              try simp only [Act.put, List.setIfInBounds_toArray, List.set_cons_zero, List.set_cons_succ]
              refine wpAny_take (i := 7) (oi := ⟨some 55, _, _, _, _, none⟩) (v := ?_) rfl (by kernel_rfl) (by kernel_rfl) (by kernel_rfl) (fun _ _ _ h => h) (Or.inl ⟨by rfl, ?_⟩) ?_
              rotate_left
              · intro w; go_simp; try with_reducible rfl
              try simp only [Act.put, List.setIfInBounds_toArray, List.set_cons_zero, List.set_cons_succ]
              refine wpAny_take (i := 8) (oi := ⟨some 56, _, _, _, _, none⟩) (v := ?_) rfl (by kernel_rfl) (by kernel_rfl) (by kernel_rfl) (fun _ _ _ h => h) (Or.inl ⟨by rfl, ?_⟩) ?_
              rotate_left
              · intro w; go_simp; try with_reducible rfl
              try simp only [Act.put, List.setIfInBounds_toArray, List.set_cons_zero, List.set_cons_succ]
              refine wpAny_ready (rs := [9]) (by kernel_rfl) (by simp) ?_
              refine AllReady.cons (o := ⟨none, .store _ _ _, _, _, _, none⟩) rfl (fun K hK => ?_) AllReady.nil
              refine step_st1 40 (.tmp 56) (.tmp 54) (by rfl) (by rfl) (by rfl) (f := 1) (by rfl) (v := .slice A6 _ c6) (by rfl) b6 (by simp [Dk.l]) sizeSl10 rfl rfl ?_
              intro w7 b7 hG7
              have b7 : Blk w7 p 42 (d.l (.slice A6 (doneF L X).length c6) _) := b7
              have v7 := hr6.keep (F' := dkF p r N) (fun b hb2 hF => ⟨hF, hG7.block b hb2 (by intro e; injection e with e; exact hF.1 e)⟩)
              have C7 := C6.grow hG7 (fun k hk => .inl (by injection hk with hk; exact hk.symm))
              have y7 := y6.keep (hG7.block _ y6.lt (by intro e; injection e with e; exact hgpp e))
              refine hK _ _ ?_
              clear hK K
              try simp only [Act.put, List.setIfInBounds_toArray, List.set_cons_zero, List.set_cons_succ]
              refine wpAny_done (by kernel_rfl) ?_ _
              refine NoPanic.normal ?_
              clear b5 v5 u5 x5 y5 C5 d1 hrg5 b6 y6 C6 hr6 hG7 hB6 y7
              go_wp2
              go_roundw
              case rel => exact ⟨i + 1, _, by omega, by go_num, b7, by rw [hDn.out]; exact v7, C7⟩
              case measure => simp [intOf]; omega
            refine AllReady.cons (o := ⟨some 53, .load 34 (.tmp 5), _, _, _, none⟩) rfl (fun K hK => ?_) AllReady.nil
            refine step_ld 34 (.tmp 5) (by rfl) (by rfl) (by rfl) hrg5 Try.underlying34 rfl sizeAc ?_
            refine hK _ _ ?_
            clear hK K
            try simp only [Act.put, List.setIfInBounds_toArray, List.set_cons_zero, List.set_cons_succ]
            refine wpAny_ready (rs := [4]) (by kernel_rfl) (by simp) ?_
            refine AllReady.cons (o := ⟨some 52, .load 40 (.tmp 51), _, _, _, none⟩) rfl (fun K hK => ?_) AllReady.nil
            refine step_ld1 40 (.tmp 51) (by rfl) (by rfl) (by rfl) d1 Try.isAgg40 ?_
            refine hK _ _ ?_
            clear hK K
            try simp only [Act.put, List.setIfInBounds_toArray, List.set_cons_zero, List.set_cons_succ]
            refine wpAny_ready (rs := [6]) (by kernel_rfl) (by simp) ?_
            refine AllReady.cons (o := ⟨some 54, _, _, _, _, none⟩) rfl (fun K hK => ?_) AllReady.nil
            go_simp
            refine (done_any10 L X _ _ (dkF p r N) _ v5 u5 (by omega) hfb hXb).mono ?_
            rintro e w6 ⟨v6, rfl, hr6, hB6⟩
            have hr6 := hr6.weak (F' := dkF p r N) (fun b _ h => h.elim id (fun h => hrw b (by omega)))
            obtain ⟨A6, c6, rfl, _, _⟩ := wds_shape hr6
            have b6 := b5.below hB6
            have y6 := y5.below hB6
            have C6 := C5.belowR hB6
            refine hK _ _ ?_
            clear hK K
            try simp only [Act.put, List.setIfInBounds_toArray, List.set_cons_zero, List.set_cons_succ]
            refine wpAny_take (i := 7) (oi := ⟨some 55, _, _, _, _, none⟩) (v := ?_) rfl (by kernel_rfl) (by kernel_rfl) (by kernel_rfl) (fun _ _ _ h => h) (Or.inl ⟨by rfl, ?_⟩) ?_
            rotate_left
            · intro w; go_simp; try with_reducible rfl
            try simp only [Act.put, List.setIfInBounds_toArray, List.set_cons_zero, List.set_cons_succ]
            refine wpAny_take (i := 8) (oi := ⟨some 56, _, _, _, _, none⟩) (v := ?_) rfl (by kernel_rfl) (by kernel_rfl) (by kernel_rfl) (fun _ _ _ h => h) (Or.inl ⟨by rfl, ?_⟩) ?_
            rotate_left
            · intro w; go_simp; try with_reducible rfl
            try simp only [Act.put, List.setIfInBounds_toArray, List.set_cons_zero, List.set_cons_succ]
            refine wpAny_ready (rs := [9]) (by kernel_rfl) (by simp) ?_
            refine AllReady.cons (o := ⟨none, .store _ _ _, _, _, _, none⟩) rfl (fun K hK => ?_) AllReady.nil
            refine step_st1 40 (.tmp 56) (.tmp 54) (by rfl) (by rfl) (by rfl) (f := 1) (by rfl) (v := .slice A6 _ c6) (by rfl) b6 (by simp [Dk.l]) sizeSl10 rfl rfl ?_
            intro w7 b7 hG7
            have b7 : Blk w7 p 42 (d.l (.slice A6 (doneF L X).length c6) _) := b7
            have v7 := hr6.keep (F' := dkF p r N) (fun b hb2 hF => ⟨hF, hG7.block b hb2 (by intro e; injection e with e; exact hF.1 e)⟩)
            have C7 := C6.grow hG7 (fun k hk => .inl (by injection hk with hk; exact hk.symm))
            have y7 := y6.keep (hG7.block _ y6.lt (by intro e; injection e with e; exact hgpp e))
            refine hK _ _ ?_
            clear hK K
            try simp only [Act.put, List.setIfInBounds_toArray, List.set_cons_zero, List.set_cons_succ]
            refine wpAny_done (by kernel_rfl) ?_ _
            refine NoPanic.normal ?_
            clear b5 v5 u5 x5 y5 C5 d1 hrg5 b6 y6 C6 hr6 hG7 hB6 y7
            go_wp2
            go_roundw
            case rel => exact ⟨i + 1, _, by omega, by go_num, b7, by rw [hDn.out]; exact v7, C7⟩
            case measure => simp [intOf]; omega
      · by_cases hti : (i : Int) = torn
        · have hk2 : ¬ a.k ≤ 1 := fun h => hk ⟨hti, h⟩
          rw [if_neg hk] at hsn2
          have hd2 : decide (a.k ≤ 1) = false := decide_eq_false hk2
          subst hti
          clear hk
          go_wp2
          obtain ⟨m, hm⟩ : ∃ m, m = i % 64 := ⟨_, rfl⟩
          have hmI : (i : Int) % 64 = (m : Int) := by omega
          have hm64 : m < 64 := by omega
          rw [← hm] at hsn2
          clear hm
          go_loopw [7, 8] (fun bv kv wx => ∃ k : Nat, k ≤ m ∧ bv = .int .u64 ((keep / 2 ^ k : Nat) : Int) ∧ kv = .int .i64 (k : Int) ∧ wx = w2) (fun _ k _ => m - (intOf k).toNat)
          case atStart => exact ⟨0, Nat.zero_le _, by simp, rfl, rfl⟩
          case round =>
            obtain ⟨k, hkm, rfl, rfl, rfl⟩ := hrel
            have hbs := bit_step keep k
            have hbl0 : keep / 2 ^ k ≤ keep := Nat.div_le_self _ _
            by_cases hlk : k < m
            · have hlI : (k : Int) < (m : Int) := by omega
              obtain ⟨Bk, hBk⟩ : ∃ B, B = keep / 2 ^ k := ⟨_, rfl⟩
              rw [← hBk] at hbs hbl0 ⊢
              have Hbs := hid hbs
              clear hBk hbs
              go_wp2
              go_roundw
              case rel => exact ⟨k + 1, by omega, by rw [← Hbs.out]; go_num, by go_num, trivial⟩
              case measure => simp [intOf]; omega
            · have hke : k = m := by omega
              subst hke
              have hlI : ¬ (k : Int) < (k : Int) := by omega
              obtain ⟨Bk, hBk⟩ : ∃ B, B = keep / 2 ^ k := ⟨_, rfl⟩
              rw [← hBk] at hsn2 hbl0 ⊢
              clear hbs hBk
              by_cases hbit : Bk % 2 = 1
              · rw [if_pos hbit] at hsn2
                have hbI : ((Bk : Int) % 2 == 1) = true := by rw [beq_iff_eq]; omega
                have hDn := hid hsn2
                clear hsn2 hbit
                obtain ⟨X, rfl⟩ : ∃ X, X = a := ⟨_, rfl⟩
                have hXb : X.b.length ≤ 1000000000 := by omega
                have b5 := hb2
                have v5 := hvs2
                have u5 := hu2
                have x5 := hx2
                have y5 := hpb2
                have C5 := hC2
                clear hb2 hvs2 hu2 hx2 hpb2 hC2 hvs3 hu3
                go_upto_region 18 with (fail)
                obtain ⟨wd, hwd⟩ : ∃ x, x = wr.drew := ⟨_, rfl⟩
                replace b5 := b5.drew
                replace v5 := v5.drew
                replace u5 := u5.drew
                replace x5 := x5.drew
                replace y5 := y5.drew
                replace C5 := C5.drew
                rw [← hwd] at b5 v5 u5 x5 y5 C5
                have d1 := b5.cellAt 1 _ rfl
                have hrg5 := x5.whole
                have hs5 := C5.size
                refine wp_region_noPanic ?_
                refine wp_region_any (by kernel_rfl) ?_
                change wpAny _ _ _ _ _ _ _ (World.drew _)
                rw [← hwd]
                clear hwd
                refine wpAny_take (i := 0) (oi := ⟨some 70, _, _, _, _, none⟩) (v := ?_) rfl (by kernel_rfl) (by kernel_rfl) (by kernel_rfl) (fun _ _ _ h => h) (Or.inl ⟨by rfl, ?_⟩) ?_
                rotate_left
                · intro w; go_simp; try with_reducible rfl
                try simp only [Act.put, List.setIfInBounds_toArray, List.set_cons_zero, List.set_cons_succ]
                refine wpAny_take (i := 1) (oi := ⟨some 71, _, _, _, _, none⟩) (v := ?_) rfl (by kernel_rfl) (by kernel_rfl) (by kernel_rfl) (fun _ _ _ h => h) (Or.inl ⟨by rfl, ?_⟩) ?_
                rotate_left
                · intro w; go_simp; try with_reducible rfl
                try simp only [Act.put, List.setIfInBounds_toArray, List.set_cons_zero, List.set_cons_succ]
                refine wpAny_take (i := 2) (oi := ⟨some 72, _, _, _, _, none⟩) (v := ?_) rfl (by kernel_rfl) (by kernel_rfl) (by kernel_rfl) (fun _ _ _ h => h) (Or.inl ⟨by rfl, ?_⟩) ?_
                rotate_left
                · intro w; go_simp; try with_reducible rfl
                try simp only [Act.put, List.setIfInBounds_toArray, List.set_cons_zero, List.set_cons_succ]
                refine wpAny_take (i := 3) (oi := ⟨some 73, _, _, _, _, none⟩) (v := ?_) rfl (by kernel_rfl) (by kernel_rfl) (by kernel_rfl) (fun _ _ _ h => h) (Or.inl ⟨by rfl, ?_⟩) ?_
                rotate_left
                · intro w; go_simp; try with_reducible rfl
                try simp only [Act.put, List.setIfInBounds_toArray, List.set_cons_zero, List.set_cons_succ]
                refine wpAny_ready (rs := [4, 5]) (by kernel_rfl) (by simp) ?_
                refine AllReady.cons (o := ⟨some 74, .load 40 (.tmp 73), _, _, _, none⟩) rfl (fun K hK => ?_) ?_
                · refine step_ld1 40 (.tmp 73) (by rfl) (by rfl) (by rfl) d1 Try.isAgg40 ?_
                  refine hK _ _ ?_
                  clear hK K
                  try simp only [Act.put, List.setIfInBounds_toArray, List.set_cons_zero, List.set_cons_succ]
                  refine wpAny_ready (rs := [5]) (by kernel_rfl) (by simp) ?_
                  refine AllReady.cons (o := ⟨some 75, .load 34 (.tmp 5), _, _, _, none⟩) rfl (fun K hK => ?_) AllReady.nil
                  refine step_ld 34 (.tmp 5) (by rfl) (by rfl) (by rfl) hrg5 Try.underlying34 rfl sizeAc ?_
                  refine hK _ _ ?_
                  clear hK K
                  try simp only [Act.put, List.setIfInBounds_toArray, List.set_cons_zero, List.set_cons_succ]
                  refine wpAny_ready (rs := [6]) (by kernel_rfl) (by simp) ?_
                  refine AllReady.cons (o := ⟨some 76, _, _, _, _, none⟩) rfl (fun K hK => ?_) AllReady.nil
                  go_simp
                  refine (done_any10 L X _ _ (dkF p r N) _ v5 u5 (by omega) hfb hXb).mono ?_
                  rintro e w6 ⟨v6, rfl, hr6, hB6⟩
                  have hr6 := hr6.weak (F' := dkF p r N) (fun b _ h => h.elim id (fun h => hrw b (by omega)))
                  obtain ⟨A6, c6, rfl, _, _⟩ := wds_shape hr6
                  have b6 := b5.below hB6
                  have y6 := y5.below hB6
                  have C6 := C5.belowR hB6
                  refine hK _ _ ?_
                  clear hK K
                  try simp only [Act.put, List.setIfInBounds_toArray, List.set_cons_zero, List.set_cons_succ]
                  refine wpAny_take (i := 7) (oi := ⟨some 77, _, _, _, _, none⟩) (v := ?_) rfl (by kernel_rfl) (by kernel_rfl) (by kernel_rfl) (fun _ _ _ h => h) (Or.inl ⟨by rfl, ?_⟩) ?_
                  rotate_left
                  · intro w; go_simp; try with_reducible rfl
                  try simp only [Act.put, List.setIfInBounds_toArray, List.set_cons_zero, List.set_cons_succ]
                  refine wpAny_take (i := 8) (oi := ⟨some 78, _, _, _, _, none⟩) (v := ?_) rfl (by kernel_rfl) (by kernel_rfl) (by kernel_rfl) (fun _ _ _ h => h) (Or.inl ⟨by rfl, ?_⟩) ?_
                  rotate_left
                  · intro w; go_simp; try with_reducible rfl
                  try simp only [Act.put, List.setIfInBounds_toArray, List.set_cons_zero, List.set_cons_succ]
                  refine wpAny_ready (rs := [9]) (by kernel_rfl) (by simp) ?_
                  refine AllReady.cons (o := ⟨none, .store _ _ _, _, _, _, none⟩) rfl (fun K hK => ?_) AllReady.nil
                  refine step_st1 40 (.tmp 78) (.tmp 76) (by rfl) (by rfl) (by rfl) (f := 1) (by rfl) (v := .slice A6 _ c6) (by rfl) b6 (by simp [Dk.l]) sizeSl10 rfl rfl ?_
                  intro w7 b7 hG7
                  have b7 : Blk w7 p 42 (d.l (.slice A6 (doneF L X).length c6) _) := b7
                  have v7 := hr6.keep (F' := dkF p r N) (fun b hb2 hF => ⟨hF, hG7.block b hb2 (by intro e; injection e with e; exact hF.1 e)⟩)
                  have C7 := C6.grow hG7 (fun k hk => .inl (by injection hk with hk; exact hk.symm))
                  have y7 := y6.keep (hG7.block _ y6.lt (by intro e; injection e with e; exact hgpp e))
                  refine hK _ _ ?_
                  clear hK K
                  try simp only [Act.put, List.setIfInBounds_toArray, List.set_cons_zero, List.set_cons_succ]
                  refine wpAny_done (by kernel_rfl) ?_ _
                  refine NoPanic.normal ?_
                  clear b5 v5 u5 x5 y5 C5 d1 hrg5 b6 y6 C6 hr6 hG7 hB6 y7
                  go_wp2
                  go_roundw
                  case rel => exact ⟨i + 1, _, by omega, by go_num, b7, by rw [hDn.out]; exact v7, C7⟩
                  case measure => simp [intOf]; omega
                refine AllReady.cons (o := ⟨some 75, .load 34 (.tmp 5), _, _, _, none⟩) rfl (fun K hK => ?_) AllReady.nil
                refine step_ld 34 (.tmp 5) (by rfl) (by rfl) (by rfl) hrg5 Try.underlying34 rfl sizeAc ?_
                refine hK _ _ ?_
                clear hK K
                try simp only [Act.put, List.setIfInBounds_toArray, List.set_cons_zero, List.set_cons_succ]
                refine wpAny_ready (rs := [4]) (by kernel_rfl) (by simp) ?_
                refine AllReady.cons (o := ⟨some 74, .load 40 (.tmp 73), _, _, _, none⟩) rfl (fun K hK => ?_) AllReady.nil
                refine step_ld1 40 (.tmp 73) (by rfl) (by rfl) (by rfl) d1 Try.isAgg40 ?_
                refine hK _ _ ?_
                clear hK K
                try simp only [Act.put, List.setIfInBounds_toArray, List.set_cons_zero, List.set_cons_succ]
                refine wpAny_ready (rs := [6]) (by kernel_rfl) (by simp) ?_
                refine AllReady.cons (o := ⟨some 76, _, _, _, _, none⟩) rfl (fun K hK => ?_) AllReady.nil
                go_simp
                refine (done_any10 L X _ _ (dkF p r N) _ v5 u5 (by omega) hfb hXb).mono ?_
                rintro e w6 ⟨v6, rfl, hr6, hB6⟩
                have hr6 := hr6.weak (F' := dkF p r N) (fun b _ h => h.elim id (fun h => hrw b (by omega)))
                obtain ⟨A6, c6, rfl, _, _⟩ := wds_shape hr6
                have b6 := b5.below hB6
                have y6 := y5.below hB6
                have C6 := C5.belowR hB6
                refine hK _ _ ?_
                clear hK K
                try simp only [Act.put, List.setIfInBounds_toArray, List.set_cons_zero, List.set_cons_succ]
                refine wpAny_take (i := 7) (oi := ⟨some 77, _, _, _, _, none⟩) (v := ?_) rfl (by kernel_rfl) (by kernel_rfl) (by kernel_rfl) (fun _ _ _ h => h) (Or.inl ⟨by rfl, ?_⟩) ?_
                rotate_left
                · intro w; go_simp; try with_reducible rfl
                try simp only [Act.put, List.setIfInBounds_toArray, List.set_cons_zero, List.set_cons_succ]
                refine wpAny_take (i := 8) (oi := ⟨some 78, _, _, _, _, none⟩) (v := ?_) rfl (by kernel_rfl) (by kernel_rfl) (by kernel_rfl) (fun _ _ _ h => h) (Or.inl ⟨by rfl, ?_⟩) ?_
                rotate_left
                · intro w; go_simp; try with_reducible rfl
                try simp only [Act.put, List.setIfInBounds_toArray, List.set_cons_zero, List.set_cons_succ]
                refine wpAny_ready (rs := [9]) (by kernel_rfl) (by simp) ?_
                refine AllReady.cons (o := ⟨none, .store _ _ _, _, _, _, none⟩) rfl (fun K hK => ?_) AllReady.nil
                refine step_st1 40 (.tmp 78) (.tmp 76) (by rfl) (by rfl) (by rfl) (f := 1) (by rfl) (v := .slice A6 _ c6) (by rfl) b6 (by simp [Dk.l]) sizeSl10 rfl rfl ?_
                intro w7 b7 hG7
                have b7 : Blk w7 p 42 (d.l (.slice A6 (doneF L X).length c6) _) := b7
                have v7 := hr6.keep (F' := dkF p r N) (fun b hb2 hF => ⟨hF, hG7.block b hb2 (by intro e; injection e with e; exact hF.1 e)⟩)
                have C7 := C6.grow hG7 (fun k hk => .inl (by injection hk with hk; exact hk.symm))
                have y7 := y6.keep (hG7.block _ y6.lt (by intro e; injection e with e; exact hgpp e))
                refine hK _ _ ?_
                clear hK K
                try simp only [Act.put, List.setIfInBounds_toArray, List.set_cons_zero, List.set_cons_succ]
                refine wpAny_done (by kernel_rfl) ?_ _
                refine NoPanic.normal ?_
                clear b5 v5 u5 x5 y5 C5 d1 hrg5 b6 y6 C6 hr6 hG7 hB6 y7
                go_wp2
                go_roundw
                case rel => exact ⟨i + 1, _, by omega, by go_num, b7, by rw [hDn.out]; exact v7, C7⟩
                case measure => simp [intOf]; omega
              · rw [if_neg hbit] at hsn2
                have hbI : ((Bk : Int) % 2 == 1) = false := by rw [beq_eq_false_iff_ne]; omega
                have hDn := hid hsn2
                clear hsn2 hbit
                go_wp2
                go_roundw
                case rel => exact ⟨i + 1, _, by omega, by go_num, hb2, by rw [hDn.out]; exact hvs2, hC2⟩
                case measure => simp [intOf]; omega
        · have hd1 : ((i : Int) == torn) = false := by rw [beq_eq_false_iff_ne]; exact hti
          rw [if_neg hk] at hsn2
          clear hti
          clear hk
          go_wp2
          obtain ⟨m, hm⟩ : ∃ m, m = i % 64 := ⟨_, rfl⟩
          have hmI : (i : Int) % 64 = (m : Int) := by omega
          have hm64 : m < 64 := by omega
          rw [← hm] at hsn2
          clear hm
          go_loopw [7, 8] (fun bv kv wx => ∃ k : Nat, k ≤ m ∧ bv = .int .u64 ((keep / 2 ^ k : Nat) : Int) ∧ kv = .int .i64 (k : Int) ∧ wx = w2) (fun _ k _ => m - (intOf k).toNat)
          case atStart => exact ⟨0, Nat.zero_le _, by simp, rfl, rfl⟩
          case round =>
            obtain ⟨k, hkm, rfl, rfl, rfl⟩ := hrel
            have hbs := bit_step keep k
            have hbl0 : keep / 2 ^ k ≤ keep := Nat.div_le_self _ _
            by_cases hlk : k < m
            · have hlI : (k : Int) < (m : Int) := by omega
              obtain ⟨Bk, hBk⟩ : ∃ B, B = keep / 2 ^ k := ⟨_, rfl⟩
              rw [← hBk] at hbs hbl0 ⊢
              have Hbs := hid hbs
              clear hBk hbs
              go_wp2
              go_roundw
              case rel => exact ⟨k + 1, by omega, by rw [← Hbs.out]; go_num, by go_num, trivial⟩
              case measure => simp [intOf]; omega
            · have hke : k = m := by omega
              subst hke
              have hlI : ¬ (k : Int) < (k : Int) := by omega
              obtain ⟨Bk, hBk⟩ : ∃ B, B = keep / 2 ^ k := ⟨_, rfl⟩
              rw [← hBk] at hsn2 hbl0 ⊢
              clear hbs hBk
              by_cases hbit : Bk % 2 = 1
              · rw [if_pos hbit] at hsn2
                have hbI : ((Bk : Int) % 2 == 1) = true := by rw [beq_iff_eq]; omega
                have hDn := hid hsn2
                clear hsn2 hbit
                obtain ⟨X, rfl⟩ : ∃ X, X = a := ⟨_, rfl⟩
                have hXb : X.b.length ≤ 1000000000 := by omega
                have b5 := hb2
                have v5 := hvs2
                have u5 := hu2
                have x5 := hx2
                have y5 := hpb2
                have C5 := hC2
                clear hb2 hvs2 hu2 hx2 hpb2 hC2 hvs3 hu3
                go_upto_region 18 with (fail)
                obtain ⟨wd, hwd⟩ : ∃ x, x = wr.drew := ⟨_, rfl⟩
                replace b5 := b5.drew
                replace v5 := v5.drew
                replace u5 := u5.drew
                replace x5 := x5.drew
                replace y5 := y5.drew
                replace C5 := C5.drew
                rw [← hwd] at b5 v5 u5 x5 y5 C5
                have d1 := b5.cellAt 1 _ rfl
                have hrg5 := x5.whole
                have hs5 := C5.size
                refine wp_region_noPanic ?_
                refine wp_region_any (by kernel_rfl) ?_
                change wpAny _ _ _ _ _ _ _ (World.drew _)
                rw [← hwd]
                clear hwd
                refine wpAny_take (i := 0) (oi := ⟨some 70, _, _, _, _, none⟩) (v := ?_) rfl (by kernel_rfl) (by kernel_rfl) (by kernel_rfl) (fun _ _ _ h => h) (Or.inl ⟨by rfl, ?_⟩) ?_
                rotate_left
                · intro w; go_simp; try with_reducible rfl
                try simp only [Act.put, List.setIfInBounds_toArray, List.set_cons_zero, List.set_cons_succ]
                refine wpAny_take (i := 1) (oi := ⟨some 71, _, _, _, _, none⟩) (v := ?_) rfl (by kernel_rfl) (by kernel_rfl) (by kernel_rfl) (fun _ _ _ h => h) (Or.inl ⟨by rfl, ?_⟩) ?_
                rotate_left
                · intro w; go_simp; try with_reducible rfl
                try simp only [Act.put, List.setIfInBounds_toArray, List.set_cons_zero, List.set_cons_succ]
                refine wpAny_take (i := 2) (oi := ⟨some 72, _, _, _, _, none⟩) (v := ?_) rfl (by kernel_rfl) (by kernel_rfl) (by kernel_rfl) (fun _ _ _ h => h) (Or.inl ⟨by rfl, ?_⟩) ?_
                rotate_left
                · intro w; go_simp; try with_reducible rfl
                try simp only [Act.put, List.setIfInBounds_toArray, List.set_cons_zero, List.set_cons_succ]
                refine wpAny_take (i := 3) (oi := ⟨some 73, _, _, _, _, none⟩) (v := ?_) rfl (by kernel_rfl) (by kernel_rfl) (by kernel_rfl) (fun _ _ _ h => h) (Or.inl ⟨by rfl, ?_⟩) ?_
                rotate_left
                · intro w; go_simp; try with_reducible rfl
                try simp only [Act.put, List.setIfInBounds_toArray, List.set_cons_zero, List.set_cons_succ]
                refine wpAny_ready (rs := [4, 5]) (by kernel_rfl) (by simp) ?_
                refine AllReady.cons (o := ⟨some 74, .load 40 (.tmp 73), _, _, _, none⟩) rfl (fun K hK => ?_) ?_
                · refine step_ld1 40 (.tmp 73) (by rfl) (by rfl) (by rfl) d1 Try.isAgg40 ?_
                  refine hK _ _ ?_
                  clear hK K
                  try simp only [Act.put, List.setIfInBounds_toArray, List.set_cons_zero, List.set_cons_succ]
                  refine wpAny_ready (rs := [5]) (by kernel_rfl) (by simp) ?_
                  refine AllReady.cons (o := ⟨some 75, .load 34 (.tmp 5), _, _, _, none⟩) rfl (fun K hK => ?_) AllReady.nil
                  refine step_ld 34 (.tmp 5) (by rfl) (by rfl) (by rfl) hrg5 Try.underlying34 rfl sizeAc ?_
                  refine hK _ _ ?_
                  clear hK K
                  try simp only [Act.put, List.setIfInBounds_toArray, List.set_cons_zero, List.set_cons_succ]
                  refine wpAny_ready (rs := [6]) (by kernel_rfl) (by simp) ?_
                  refine AllReady.cons (o := ⟨some 76, _, _, _, _, none⟩) rfl (fun K hK => ?_) AllReady.nil
                  go_simp
                  refine (done_any10 L X _ _ (dkF p r N) _ v5 u5 (by omega) hfb hXb).mono ?_
                  rintro e w6 ⟨v6, rfl, hr6, hB6⟩
                  have hr6 := hr6.weak (F' := dkF p r N) (fun b _ h => h.elim id (fun h => hrw b (by omega)))
                  obtain ⟨A6, c6, rfl, _, _⟩ := wds_shape hr6
                  have b6 := b5.below hB6
                  have y6 := y5.below hB6
                  have C6 := C5.belowR hB6
                  refine hK _ _ ?_
                  clear hK K
                  try simp only [Act.put, List.setIfInBounds_toArray, List.set_cons_zero, List.set_cons_succ]
                  refine wpAny_take (i := 7) (oi := ⟨some 77, _, _, _, _, none⟩) (v := ?_) rfl (by kernel_rfl) (by kernel_rfl) (by kernel_rfl) (fun _ _ _ h => h) (Or.inl ⟨by rfl, ?_⟩) ?_
                  rotate_left
                  · intro w; go_simp; try with_reducible rfl
                  try simp only [Act.put, List.setIfInBounds_toArray, List.set_cons_zero, List.set_cons_succ]
                  refine wpAny_take (i := 8) (oi := ⟨some 78, _, _, _, _, none⟩) (v := ?_) rfl (by kernel_rfl) (by kernel_rfl) (by kernel_rfl) (fun _ _ _ h => h) (Or.inl ⟨by rfl, ?_⟩) ?_
                  rotate_left
                  · intro w; go_simp; try with_reducible rfl
                  try simp only [Act.put, List.setIfInBounds_toArray, List.set_cons_zero, List.set_cons_succ]
                  refine wpAny_ready (rs := [9]) (by kernel_rfl) (by simp) ?_
                  refine AllReady.cons (o := ⟨none, .store _ _ _, _, _, _, none⟩) rfl (fun K hK => ?_) AllReady.nil
                  refine step_st1 40 (.tmp 78) (.tmp 76) (by rfl) (by rfl) (by rfl) (f := 1) (by rfl) (v := .slice A6 _ c6) (by rfl) b6 (by simp [Dk.l]) sizeSl10 rfl rfl ?_
                  intro w7 b7 hG7
                  have b7 : Blk w7 p 42 (d.l (.slice A6 (doneF L X).length c6) _) := b7
                  have v7 := hr6.keep (F' := dkF p r N) (fun b hb2 hF => ⟨hF, hG7.block b hb2 (by intro e; injection e with e; exact hF.1 e)⟩)
                  have C7 := C6.grow hG7 (fun k hk => .inl (by injection hk with hk; exact hk.symm))
                  have y7 := y6.keep (hG7.block _ y6.lt (by intro e; injection e with e; exact hgpp e))
                  refine hK _ _ ?_
                  clear hK K
                  try simp only [Act.put, List.setIfInBounds_toArray, List.set_cons_zero, List.set_cons_succ]
                  refine wpAny_done (by kernel_rfl) ?_ _
                  refine NoPanic.normal ?_
                  clear b5 v5 u5 x5 y5 C5 d1 hrg5 b6 y6 C6 hr6 hG7 hB6 y7
                  go_wp2
                  go_roundw
                  case rel => exact ⟨i + 1, _, by omega, by go_num, b7, by rw [hDn.out]; exact v7, C7⟩
                  case measure => simp [intOf]; omega
                refine AllReady.cons (o := ⟨some 75, .load 34 (.tmp 5), _, _, _, none⟩) rfl (fun K hK => ?_) AllReady.nil
                refine step_ld 34 (.tmp 5) (by rfl) (by rfl) (by rfl) hrg5 Try.underlying34 rfl sizeAc ?_
                refine hK _ _ ?_
                clear hK K
                try simp only [Act.put, List.setIfInBounds_toArray, List.set_cons_zero, List.set_cons_succ]
                refine wpAny_ready (rs := [4]) (by kernel_rfl) (by simp) ?_
                refine AllReady.cons (o := ⟨some 74, .load 40 (.tmp 73), _, _, _, none⟩) rfl (fun K hK => ?_) AllReady.nil
                refine step_ld1 40 (.tmp 73) (by rfl) (by rfl) (by rfl) d1 Try.isAgg40 ?_
                refine hK _ _ ?_
                clear hK K
                try simp only [Act.put, List.setIfInBounds_toArray, List.set_cons_zero, List.set_cons_succ]
                refine wpAny_ready (rs := [6]) (by kernel_rfl) (by simp) ?_
                refine AllReady.cons (o := ⟨some 76, _, _, _, _, none⟩) rfl (fun K hK => ?_) AllReady.nil
                go_simp
                refine (done_any10 L X _ _ (dkF p r N) _ v5 u5 (by omega) hfb hXb).mono ?_
                rintro e w6 ⟨v6, rfl, hr6, hB6⟩
                have hr6 := hr6.weak (F' := dkF p r N) (fun b _ h => h.elim id (fun h => hrw b (by omega)))
                obtain ⟨A6, c6, rfl, _, _⟩ := wds_shape hr6
                have b6 := b5.below hB6
                have y6 := y5.below hB6
                have C6 := C5.belowR hB6
                refine hK _ _ ?_
                clear hK K
                try simp only [Act.put, List.setIfInBounds_toArray, List.set_cons_zero, List.set_cons_succ]
                refine wpAny_take (i := 7) (oi := ⟨some 77, _, _, _, _, none⟩) (v := ?_) rfl (by kernel_rfl) (by kernel_rfl) (by kernel_rfl) (fun _ _ _ h => h) (Or.inl ⟨by rfl, ?_⟩) ?_
                rotate_left
                · intro w; go_simp; try with_reducible rfl
                try simp only [Act.put, List.setIfInBounds_toArray, List.set_cons_zero, List.set_cons_succ]
                refine wpAny_take (i := 8) (oi := ⟨some 78, _, _, _, _, none⟩) (v := ?_) rfl (by kernel_rfl) (by kernel_rfl) (by kernel_rfl) (fun _ _ _ h => h) (Or.inl ⟨by rfl, ?_⟩) ?_
                rotate_left
                · intro w; go_simp; try with_reducible rfl
                try simp only [Act.put, List.setIfInBounds_toArray, List.set_cons_zero, List.set_cons_succ]
                refine wpAny_ready (rs := [9]) (by kernel_rfl) (by simp) ?_
                refine AllReady.cons (o := ⟨none, .store _ _ _, _, _, _, none⟩) rfl (fun K hK => ?_) AllReady.nil
                refine step_st1 40 (.tmp 78) (.tmp 76) (by rfl) (by rfl) (by rfl) (f := 1) (by rfl) (v := .slice A6 _ c6) (by rfl) b6 (by simp [Dk.l]) sizeSl10 rfl rfl ?_
                intro w7 b7 hG7
                have b7 : Blk w7 p 42 (d.l (.slice A6 (doneF L X).length c6) _) := b7
                have v7 := hr6.keep (F' := dkF p r N) (fun b hb2 hF => ⟨hF, hG7.block b hb2 (by intro e; injection e with e; exact hF.1 e)⟩)
                have C7 := C6.grow hG7 (fun k hk => .inl (by injection hk with hk; exact hk.symm))
                have y7 := y6.keep (hG7.block _ y6.lt (by intro e; injection e with e; exact hgpp e))
                refine hK _ _ ?_
                clear hK K
                try simp only [Act.put, List.setIfInBounds_toArray, List.set_cons_zero, List.set_cons_succ]
                refine wpAny_done (by kernel_rfl) ?_ _
                refine NoPanic.normal ?_
                clear b5 v5 u5 x5 y5 C5 d1 hrg5 b6 y6 C6 hr6 hG7 hB6 y7
                go_wp2
                go_roundw
                case rel => exact ⟨i + 1, _, by omega, by go_num, b7, by rw [hDn.out]; exact v7, C7⟩
                case measure => simp [intOf]; omega
              · rw [if_neg hbit] at hsn2
                have hbI : ((Bk : Int) % 2 == 1) = false := by rw [beq_eq_false_iff_ne]; omega
                have hDn := hid hsn2
                clear hsn2 hbit
                go_wp2
                go_roundw
                case rel => exact ⟨i + 1, _, by omega, by go_num, hb2, by rw [hDn.out]; exact hvs2, hC2⟩
                case measure => simp [intOf]; omega
    · have hi' : i = d.pend.length := by omega
      subst hi'
      have hI : ¬ (d.pend.length : Int) < (d.pend.length : Int) := by omega
      rw [List.take_length] at hvs
      have hk4 : ∀ (a b : World), a.grownBy b (some p) → ∀ q, q < a.heap.size → dkF p r N q → dkF p r N q ∧ b.heap[q]? = a.heap[q]? := fun a b hG q hq hF => ⟨hF, hG.block q hq (by intro e; injection e with e; exact hF.1 e)⟩
      go_wp2_with (refine wp_st1 22 (.tmp 81) (.const (.slice none 0 0)) rfl rfl rfl (f := 2) rfl (v := .slice none 0 0) rfl hb (by simp [Dk.l]) sizeAl10 rfl rfl ?_; intro w2 hb2 hG2; refine wp_stop ?_)
      have hvs2 := hvs.keep (hk4 _ _ hG2)
      have hC2 := hC1.grow hG2 (fun k hk => .inl (by injection hk with hk; exact hk.symm))
      clear hb hvs hG2 hC1 c2
      refine wp_go ?_
      go_wp2_with (refine wp_st1 3 (.tmp 84) (.const (.int .i64 (-1))) rfl rfl rfl (f := 3) rfl (v := .int .i64 (-1)) rfl hb2 (by simp [Dk.l]) sizeI10 rfl rfl ?_; intro w3 hb3 hG3; refine wp_stop ?_)
      have hvs3 := hvs2.keep (hk4 _ _ hG3)
      have hC3 := hC2.grow hG3 (fun k hk => .inl (by injection hk with hk; exact hk.symm))
      clear hb2 hvs2 hG3 hC2
      refine wp_go ?_
      go_wp2_with (refine wp_st1 4 (.tmp 87) (.const (.bool false)) rfl rfl rfl (f := 4) rfl (v := .bool false) rfl hb3 (by simp [Dk.l]) sizeBool rfl rfl ?_; intro w4 hb4 hG4; refine wp_stop ?_)
      have hvs4 := hvs3.keep (hk4 _ _ hG4)
      have hC4 := hC3.grow hG4 (fun k hk => .inl (by injection hk with hk; exact hk.symm))
      clear hb3 hvs3 hG4 hC3
      refine wp_go ?_
      go_wp2
      go_end0
      exact ⟨rfl, ⟨_, .slice none 0 0, [], hb4, hvs4.weak (fun b _ h => ⟨h.1, by simp, h.2.2⟩), World.ownsRow_nil _ _ _ _, rfl, rfl, by simp⟩, hC.trans hC4⟩
end Go.Proofs.Ytjaiffefgjopmaa
