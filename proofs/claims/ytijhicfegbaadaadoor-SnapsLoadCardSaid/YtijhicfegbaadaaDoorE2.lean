/- E2: layer 10: size, has, loses of files; cut, copied of a thing. -/
import Derived.Test.YtijhicfegbaadaaDoorE1
namespace Go.V
open Go.RowKit
def losF (L : List Fl) (a : Ac) : Int := if a.k = 1 then (((findF L a.n).getD []).length : Int) else 0
end Go.V
namespace Go.Proofs.YtijhicfegbaadaaDoor
open Go.RowKit Go.V Go.Maps
theorem sizeSlB : (Tryd.prog.info? 22).map (·.size) = some 1 := by kernel_rfl
theorem sizeStr : (Tryd.prog.info? 9).map (·.size) = some 1 := by kernel_rfl
set_option maxRecDepth 100000 in
set_option maxHeartbeats 2000000 in
theorem size_e (b : Nat) (L : List Fl) (F : Nat → Prop) (w : World) (h : FMs Tryd.prog 9 w F b L) (ht : tot L ≤ 1000000000) :
    Calls Tryd.prog 54 #[.map (some b)] w fun e w' => e = .returned (.int .i64 (tot L : Int)) ∧ Below w.heap.size w w' := by
  obtain ⟨F1, hF1⟩ : ∃ F1 : Nat → Prop, F1 = fun x => x < w.heap.size := ⟨_, rfl⟩
  have h := h.weak (F' := F1) (fun x hx _ => by rw [hF1]; exact hx)
  have hFr : ¬ F1 w.heap.size := by rw [hF1]; show ¬ w.heap.size < w.heap.size; omega
  clear hF1
  go_enter Tryd.func54, Tryd.ntmps54
  go_wp2_with (first | (at_range; refine wp_rangeF 54 22 (.tmp 6) rfl rfl Tryd.underlying9 Tryd.underlying54 rfl h ?_; intro w1 hr1 hg1 hs1) | go_in)
  go_frame
  have hB1 : Below w.heap.size w w1 := (Below.refl _ _).grown hg1 (Nat.le_refl _) (fun k hk => by cases hk)
  obtain ⟨r, hr⟩ : ∃ r, r = w.heap.size := ⟨_, rfl⟩
  rw [← hr] at hr1 hFr ⊢
  have hrw : w.heap.size ≤ r := by omega
  clear hr hs1 hg1
  go_loopw [3] (fun nv wr => ∃ dn rs : List Fl, L.Perm (dn ++ rs) ∧ nv = .int .i64 (tot dn : Int) ∧ FRs Tryd.prog 9 wr F1 b r dn rs ∧ Below w.heap.size w wr) (fun _ wr => wr.rangeLeft b r)
  case atStart => exact ⟨[], L, .refl _, rfl, hr1, hB1⟩
  case round =>
    obtain ⟨dn, rs, hp, rfl, hR, hB⟩ := hrel
    have hB2 := hB.size
    go_wp2_with (first | (at_next; refine wp_nextF (.tmp 7) rfl rfl Tryd.underlying9 rfl hR hFr ?_ ?_) | go_in)
    · intro hrs
      subst hrs
      rw [List.append_nil] at hp
      have Hp := hid (tot_perm hp)
      go_wp2
      go_ret
      exact ⟨by rw [Hp.out]; rfl, hB⟩
    · intro f rs' A c w2 hpp hR2 hv hlt hg2 hs2 hen
      have hp2 : L.Perm (dn ++ [f] ++ rs') := hp.trans (by rw [List.append_assoc]; exact hpp.append_left dn)
      have htt : tot (dn ++ [f]) ≤ tot L := by have := tot_app (dn ++ [f]) rs'; rw [tot_perm hp2]; omega
      have hte : tot (dn ++ [f]) = tot dn + f.b.length := by rw [tot_app, tot_one]
      have hwr : IntKind.i64.wrap ((tot dn : Int) + (f.b.length : Int)) = (tot dn : Int) + (f.b.length : Int) := IntWalk.i64_in _ (by omega)
      have hB3 := hB.grown hg2 hB2 (fun k hk => by injection hk with hk; omega)
      obtain ⟨T, hT⟩ : ∃ T, T = tot dn := ⟨_, rfl⟩
      rw [← hT] at hte hwr ⊢
      have Hte := hid hte
      have Hp2 := hid hp2
      clear hT hte htt hs2 hpp hp hp2 hB hR hg2
      go_wp2
      go_roundw
      case rel => exact ⟨dn ++ [f], rs', Hp2.out, by rw [Hte.out]; simp, hR2, hB3⟩
      case measure => exact hlt
set_option maxRecDepth 100000 in
theorem has_e (b : Nat) (L : List Fl) (F : Nat → Prop) (s : ByteArray) (w : World) (h : FMs Tryd.prog 9 w F b L) (hs : s.size ≤ maxLen) :
    Calls Tryd.prog 56 #[.map (some b), .string s] w fun e w' => e = .returned (.bool (findF L s).isSome) ∧ w' = w := by
  go_enter Tryd.func56, Tryd.ntmps56
  go_wp2_with (first | (at_lookup; refine wp_lookF 54 22 (.tmp 8) (.tmp 9) rfl rfl Tryd.underlying9 Tryd.underlying54 (zSl10 _) rfl h rfl hs ?_; intro A7 c7 hv7) | go_in)
  go_ret
  exact ⟨rfl, rfl⟩
set_option maxRecDepth 100000 in
theorem loses_e (b : Nat) (L : List Fl) (F : Nat → Prop) (a : Ac) (Aa : Option Addr) (n ca : Nat) (w : World) (h : FMs Tryd.prog 9 w F b L) (hs : a.n.size ≤ maxLen) :
    Calls Tryd.prog 55 #[.map (some b), thV a (.slice Aa n ca)] w fun e w' => e = .returned (.int .i64 (losF L a)) ∧ Below w.heap.size w w' := by
  unfold thV
  have hB : Below w.heap.size w (w.alloc (.cells [.int .i64 a.k, .string a.n, .string a.t, .slice Aa n ca].toArray 60)) := (Below.refl _ _).alloc (Nat.le_refl _) _
  replace h := h.below hB
  by_cases hk : a.k = 1
  · have hd : (a.k == 1) = true := beq_iff_eq.2 hk
    have hr : Hid (losF L a = (((findF L a.n).getD []).length : Int)) := hid (by unfold losF; rw [if_pos hk])
    clear hk
    go_enter Tryd.func55, Tryd.ntmps55
    go_wp2_with (first | (at_lookup; refine wp_look1F 54 22 (.tmp 8) (.tmp 10) rfl rfl Tryd.underlying9 Tryd.underlying54 (zSl10 _) rfl h rfl hs ?_; intro A7 c7 hv7) | go_in)
    go_ret
    exact ⟨by rw [hr.out]; rfl, hB⟩
  · have hd : (a.k == 1) = false := beq_eq_false_iff_ne.2 hk
    have hr : Hid (losF L a = 0) := hid (by unfold losF; rw [if_neg hk])
    clear hk
    go_enter Tryd.func55, Tryd.ntmps55
    go_wp2
    go_ret
    exact ⟨by rw [hr.out]; rfl, hB⟩
set_option maxRecDepth 100000 in
theorem cut_e (a : Ac) (F : Nat → Prop) (va : Value) (cut : Int) (m : Nat) (w : World) (hva : Rd w F va (bys a.b)) (hm : min (max cut 0) (a.b.length : Int) = (m : Int)) (hml : m ≤ a.b.length) :
    Calls Tryd.prog 37 #[thV a va, .int .i64 cut] w fun e w' => ∃ v', e = .returned (thV { a with b := a.b.take m } v') ∧ Rd w' F v' (bys (a.b.take m)) ∧ Below w.heap.size w w' := by
  obtain ⟨Aa, ca, rfl⟩ := hva.shape
  unfold thV
  have b0 := (Blk.new' w 60 (apL a (.slice Aa a.b.length ca))).alloc (.cells zPe.toArray 60)
  have b1 := Blk.new' (w.alloc (.cells (apL a (.slice Aa a.b.length ca)).toArray 60)) 60 zPe
  have hB := ((Below.refl w.heap.size w).alloc (Nat.le_refl _) (.cells (apL a (.slice Aa a.b.length ca)).toArray 60)).alloc (by simp) (.cells zPe.toArray 60)
  rw [show (w.alloc (.cells (apL a (.slice Aa a.b.length ca)).toArray 60)).heap.size = w.heap.size + 1 from by simp] at b1
  have ha := hva.below hB
  obtain ⟨w0, hw0⟩ : ∃ u, u = (w.alloc (.cells (apL a (.slice Aa a.b.length ca)).toArray 60)).alloc (.cells zPe.toArray 60) := ⟨_, rfl⟩
  have hws : w0.heap.size = w.heap.size + 2 := by rw [hw0]; simp
  rw [← hw0] at b0 b1 hB ha
  go_enter Tryd.func37, Tryd.ntmps37
  go_wp2_with (first | (refine wp_new 60 rfl rfl zeroTh ?_; refine wp_stop ?_) | fail)
  change StopW _ _ _ _ _ ((w.alloc (.cells (apL a (.slice Aa a.b.length ca)).toArray 60)).alloc (.cells zPe.toArray 60))
  rw [← hw0]
  clear hw0
  obtain ⟨g, hg⟩ : ∃ g, g = w.heap.size := ⟨_, rfl⟩
  rw [← hg] at b0 b1 ⊢
  have hgw : w.heap.size ≤ g := by omega
  have hg2 : g + 1 < w0.heap.size := by omega
  clear hg
  have c0 := b0.cellAt 3 _ rfl
  obtain ⟨A5, n5, c5, hcut, hr5⟩ := Rd.cut_h slB hva (m : Int) (by omega) (by omega)
  have hn5 : m = n5 := by have := hr5.cap.1; simp at this; omega
  rw [Int.toNat_natCast] at hr5
  subst hn5
  refine wp_go ?_
  go_wp2_with (refine wp_st1 22 (.tmp 14) (.tmp 13) rfl rfl rfl (f := 3) rfl (v := .slice A5 m c5) rfl b0 (by simp [apL]) sizeSlB rfl rfl ?_; intro w5 hb5 hG5; refine wp_stop ?_)
  have hb5 : Blk w5 g 60 (apL { a with b := a.b.take m } (.slice A5 m c5)) := hb5
  have hB5 := hB.grown hG5 hB.size (fun k hk => by injection hk with hk; omega)
  have b5 := b1.keep (hG5.block _ b1.lt (by intro e; injection e with e; omega))
  clear b0 b1 hG5 c0 hcut ha hB
  refine wp_go ?_
  go_wp2_with (first | (refine wp_ld 60 (.tmp 2) rfl rfl rfl hb5.whole Tryd.underlying60 rfl sizeTh ?_) | (refine wp_st 60 (.tmp 4) (.tmp 15) rfl rfl rfl (f := 0) rfl (l := apL { a with b := a.b.take m } (.slice A5 m c5)) rfl b5 (by simp [zPe, apL]) sizeTh (one_ap _ _ _ _) ?_; intro w7 hb7 hG7))
  have hb7 : Blk w7 (g + 1) 60 (apL { a with b := a.b.take m } (.slice A5 m c5)) := hb7
  have hB7 := hB5.grown hG7 hB5.size (fun k hk => by injection hk with hk; omega)
  refine ret_cell rfl rfl hb7.whole Tryd.underlying60 rfl sizeTh rfl ?_
  exact ⟨_, rfl, hr5.below hB7, hB7⟩
set_option maxRecDepth 100000 in
set_option maxHeartbeats 2000000 in
theorem tcopied_e (a : Ac) (F : Nat → Prop) (va : Value) (w : World) (hva : Rd w F va (bys a.b)) (hab : a.b.length ≤ 1000000000) (hsn : a.n.size ≤ maxLen) (hst : a.t.size ≤ maxLen) (hsn2 : a.n.size ≤ 281474976710656) (hst2 : a.t.size ≤ 281474976710656) :
    Calls Tryd.prog 41 #[thV a va] w fun e w' => ∃ v', e = .returned (thV a v') ∧ w'.ownsRow w.heap.size 5 1 v' a.b.length (bvs a.b) ∧ Below w.heap.size w w' := by
  obtain ⟨Aa, ca, rfl⟩ := hva.shape
  unfold thV
  have b0 := (Blk.new' w 60 (apL a (.slice Aa a.b.length ca))).alloc (.cells zPe.toArray 60)
  have b1 := Blk.new' (w.alloc (.cells (apL a (.slice Aa a.b.length ca)).toArray 60)) 60 zPe
  have hB := ((Below.refl w.heap.size w).alloc (Nat.le_refl _) (.cells (apL a (.slice Aa a.b.length ca)).toArray 60)).alloc (by simp) (.cells zPe.toArray 60)
  rw [show (w.alloc (.cells (apL a (.slice Aa a.b.length ca)).toArray 60)).heap.size = w.heap.size + 1 from by simp] at b1
  have ha := hva.below hB
  obtain ⟨w0, hw0⟩ : ∃ u, u = (w.alloc (.cells (apL a (.slice Aa a.b.length ca)).toArray 60)).alloc (.cells zPe.toArray 60) := ⟨_, rfl⟩
  have hws : w0.heap.size = w.heap.size + 2 := by rw [hw0]; simp
  rw [← hw0] at b0 b1 hB ha
  go_enter Tryd.func41, Tryd.ntmps41
  go_wp2_with (first | (refine wp_new 60 rfl rfl zeroTh ?_; refine wp_stop ?_) | fail)
  change StopW _ _ _ _ _ ((w.alloc (.cells (apL a (.slice Aa a.b.length ca)).toArray 60)).alloc (.cells zPe.toArray 60))
  rw [← hw0]
  clear hw0
  obtain ⟨g, hg⟩ : ∃ g, g = w.heap.size := ⟨_, rfl⟩
  rw [← hg] at b0 b1 ⊢
  have hgw : w.heap.size ≤ g := by omega
  have hg2 : g + 1 < w0.heap.size := by omega
  clear hg
  refine wp_go ?_
  go_upto_region 1 with (fail)
  obtain ⟨wq, hwq⟩ : ∃ u, u = w0.drew := ⟨_, rfl⟩
  replace b0 := b0.drew
  replace b1 := b1.drew
  replace hB : Below w.heap.size w w0.drew := ⟨hB.os, hB.tape, hB.output, hB.size, hB.block⟩
  replace hg2 : g + 1 < w0.drew.heap.size := hg2
  refine wp_region_noPanic ?_
  refine wp_region_any (by kernel_rfl) ?_
  change wpAny _ _ _ _ _ _ _ (World.drew _)
  rw [← hwq] at b0 b1 hB hg2 ⊢
  clear hwq ha hws
  refine wpAny_take (i := 0) (oi := ⟨some 3, _, _, _, _, none⟩) (v := ?_) rfl (by kernel_rfl) (by kernel_rfl) (by kernel_rfl) (fun _ _ _ h => h) (Or.inl ⟨by rfl, ?_⟩) ?_
  rotate_left
  · intro w; go_simp; try with_reducible rfl
  try simp only [Act.put, List.setIfInBounds_toArray, List.set_cons_zero, List.set_cons_succ]
  refine wpAny_take (i := 3) (oi := ⟨some 6, _, _, _, _, none⟩) (v := ?_) rfl (by kernel_rfl) (by kernel_rfl) (by kernel_rfl) (fun _ _ _ h => h) (Or.inl ⟨by rfl, ?_⟩) ?_
  rotate_left
  · intro w; go_simp; try with_reducible rfl
  try simp only [Act.put, List.setIfInBounds_toArray, List.set_cons_zero, List.set_cons_succ]
  refine wpAny_take (i := 6) (oi := ⟨some 9, _, _, _, _, none⟩) (v := ?_) rfl (by kernel_rfl) (by kernel_rfl) (by kernel_rfl) (fun _ _ _ h => h) (Or.inl ⟨by rfl, ?_⟩) ?_
  rotate_left
  · intro w; go_simp; try with_reducible rfl
  try simp only [Act.put, List.setIfInBounds_toArray, List.set_cons_zero, List.set_cons_succ]
  refine wpAny_ready (rs := [1, 4, 7]) (by kernel_rfl) (by simp) ?_
  refine AllReady.cons (o := ⟨some 4, .load 9 (.tmp 3), _, _, _, none⟩) rfl (fun K hK => ?_) ?_
  · refine step_ld1 9 (.tmp 3) (by rfl) (by rfl) (by rfl) (b0.cellAt 1 _ rfl) Tryd.isAgg9 ?_
    refine hK _ _ ?_
    clear hK K
    try simp only [Act.put, List.setIfInBounds_toArray, List.set_cons_zero, List.set_cons_succ]
    refine wpAny_ready (rs := [2, 4, 7]) (by kernel_rfl) (by simp) ?_
    refine AllReady.cons (o := ⟨some 5, _, _, _, _, none⟩) rfl (fun K hK => ?_) ?_
    · go_simp
      refine (sclone_any a.n _ hsn hsn2).mono ?_
      rintro e w2 ⟨rfl, hB2⟩
      replace b0 := b0.below hB2
      replace b1 := b1.below hB2
      replace hB := hB.trans (hB2.mono hB.size)
      clear hB2
      refine hK _ _ ?_
      clear hK K
      try simp only [Act.put, List.setIfInBounds_toArray, List.set_cons_zero, List.set_cons_succ]
      refine wpAny_ready (rs := [4, 7]) (by kernel_rfl) (by simp) ?_
      refine AllReady.cons (o := ⟨some 7, .load 9 (.tmp 6), _, _, _, none⟩) rfl (fun K hK => ?_) ?_
      · refine step_ld1 9 (.tmp 6) (by rfl) (by rfl) (by rfl) (b0.cellAt 2 _ rfl) Tryd.isAgg9 ?_
        refine hK _ _ ?_
        clear hK K
        try simp only [Act.put, List.setIfInBounds_toArray, List.set_cons_zero, List.set_cons_succ]
        refine wpAny_ready (rs := [5, 7]) (by kernel_rfl) (by simp) ?_
        refine AllReady.cons (o := ⟨some 8, _, _, _, _, none⟩) rfl (fun K hK => ?_) ?_
        · go_simp
          refine (sclone_any a.t _ hst hst2).mono ?_
          rintro e w5 ⟨rfl, hB5⟩
          replace b0 := b0.below hB5
          replace b1 := b1.below hB5
          replace hB := hB.trans (hB5.mono hB.size)
          clear hB5
          refine hK _ _ ?_
          clear hK K
          try simp only [Act.put, List.setIfInBounds_toArray, List.set_cons_zero, List.set_cons_succ]
          refine wpAny_ready (rs := [7]) (by kernel_rfl) (by simp) ?_
          refine AllReady.cons (o := ⟨some 10, .load 22 (.tmp 9), _, _, _, none⟩) rfl (fun K hK => ?_) AllReady.nil
          refine step_ld1 22 (.tmp 9) (by rfl) (by rfl) (by rfl) (b0.cellAt 3 _ rfl) Tryd.isAgg22 ?_
          refine hK _ _ ?_
          clear hK K
          try simp only [Act.put, List.setIfInBounds_toArray, List.set_cons_zero, List.set_cons_succ]
          refine wpAny_take (i := 9) (oi := ⟨some 12, _, _, _, _, none⟩) (v := ?_) rfl (by kernel_rfl) (by kernel_rfl) (by kernel_rfl) (fun _ _ _ h => h) (Or.inl ⟨by rfl, ?_⟩) ?_
          rotate_left
          · intro w; go_simp; try with_reducible rfl
          try simp only [Act.put, List.setIfInBounds_toArray, List.set_cons_zero, List.set_cons_succ]
          refine wpAny_ready (rs := [8]) (by kernel_rfl) (by simp) ?_
          refine AllReady.cons (o := ⟨some 11, _, _, _, _, none⟩) rfl (fun K hK => ?_) AllReady.nil
          go_simp
          have hva8 := hva.below hB
          refine (bclone_any a.b F _ _ hva8 hab).mono ?_
          rintro e w8 ⟨v8, rfl, ho8, hB8⟩
          obtain ⟨A8, c8, rfl⟩ := own_shape8 ho8
          have hw8 : ∀ y, (Value.slice A8 a.b.length c8).ownBlock = some y → g + 1 < y := fun y e => by have := (ho8.lt y e).1; have := b1.lt; omega
          replace ho8 := own_weak (base' := w.heap.size) ho8 hB.size
          replace b0 := b0.below hB8
          replace b1 := b1.below hB8
          replace hB := hB.trans (hB8.mono hB.size)
          clear hB8 hva8
          refine hK _ _ ?_
          clear hK K
          try simp only [Act.put, List.setIfInBounds_toArray, List.set_cons_zero, List.set_cons_succ]
          refine wpAny_ready (rs := [10]) (by kernel_rfl) (by simp) ?_
          refine AllReady.cons (o := ⟨none, .store 9 (.tmp 12) (.tmp 5), _, _, _, none⟩) rfl (fun K hK => ?_) AllReady.nil
          refine step_st1 9 (.tmp 12) (.tmp 5) (by rfl) (by rfl) (by rfl) (f := 1) (by rfl) (v := .string a.n) (by rfl) b0 (by simp [apL]) sizeStr rfl rfl ?_
          intro w10 hb10 hG10
          replace ho8 := own_keep10 ho8 (fun k hk e => hG10.block k hk (fun e2 => by injection e2 with e2; have := hw8 k e; omega))
          replace b1 := b1.keep (hG10.block _ b1.lt (by intro e; injection e with e; omega))
          replace hB := hB.grown hG10 hB.size (fun k hk => by injection hk with hk; omega)
          replace b0 : Blk w10 g 60 (apL a (.slice Aa a.b.length ca)) := hb10
          clear hb10 hG10
          refine hK _ _ ?_
          clear hK K
          try simp only [Act.put, List.setIfInBounds_toArray, List.set_cons_zero, List.set_cons_succ]
          refine wpAny_take (i := 11) (oi := ⟨some 13, _, _, _, _, none⟩) (v := ?_) rfl (by kernel_rfl) (by kernel_rfl) (by kernel_rfl) (fun _ _ _ h => h) (Or.inl ⟨by rfl, ?_⟩) ?_
          rotate_left
          · intro w; go_simp; try with_reducible rfl
          try simp only [Act.put, List.setIfInBounds_toArray, List.set_cons_zero, List.set_cons_succ]
          refine wpAny_ready (rs := [12]) (by kernel_rfl) (by simp) ?_
          refine AllReady.cons (o := ⟨none, .store 9 (.tmp 13) (.tmp 8), _, _, _, none⟩) rfl (fun K hK => ?_) AllReady.nil
          refine step_st1 9 (.tmp 13) (.tmp 8) (by rfl) (by rfl) (by rfl) (f := 2) (by rfl) (v := .string a.t) (by rfl) b0 (by simp [apL]) sizeStr rfl rfl ?_
          intro w12 hb12 hG12
          replace ho8 := own_keep10 ho8 (fun k hk e => hG12.block k hk (fun e2 => by injection e2 with e2; have := hw8 k e; omega))
          replace b1 := b1.keep (hG12.block _ b1.lt (by intro e; injection e with e; omega))
          replace hB := hB.grown hG12 hB.size (fun k hk => by injection hk with hk; omega)
          replace b0 : Blk w12 g 60 (apL a (.slice Aa a.b.length ca)) := hb12
          clear hb12 hG12
          refine hK _ _ ?_
          clear hK K
          try simp only [Act.put, List.setIfInBounds_toArray, List.set_cons_zero, List.set_cons_succ]
          refine wpAny_take (i := 13) (oi := ⟨some 14, _, _, _, _, none⟩) (v := ?_) rfl (by kernel_rfl) (by kernel_rfl) (by kernel_rfl) (fun _ _ _ h => h) (Or.inl ⟨by rfl, ?_⟩) ?_
          rotate_left
          · intro w; go_simp; try with_reducible rfl
          try simp only [Act.put, List.setIfInBounds_toArray, List.set_cons_zero, List.set_cons_succ]
          refine wpAny_ready (rs := [14]) (by kernel_rfl) (by simp) ?_
          refine AllReady.cons (o := ⟨none, .store 22 (.tmp 14) (.tmp 11), _, _, _, none⟩) rfl (fun K hK => ?_) AllReady.nil
          refine step_st1 22 (.tmp 14) (.tmp 11) (by rfl) (by rfl) (by rfl) (f := 3) (by rfl) (v := .slice A8 a.b.length c8) (by rfl) b0 (by simp [apL]) sizeSlB rfl rfl ?_
          intro w14 hb14 hG14
          replace ho8 := own_keep10 ho8 (fun k hk e => hG14.block k hk (fun e2 => by injection e2 with e2; have := hw8 k e; omega))
          replace b1 := b1.keep (hG14.block _ b1.lt (by intro e; injection e with e; omega))
          replace hB := hB.grown hG14 hB.size (fun k hk => by injection hk with hk; omega)
          replace b0 : Blk w14 g 60 (apL a (.slice A8 a.b.length c8)) := hb14
          clear hb14 hG14
          refine hK _ _ ?_
          clear hK K
          try simp only [Act.put, List.setIfInBounds_toArray, List.set_cons_zero, List.set_cons_succ]
          refine wpAny_done (by kernel_rfl) ?_ _
          refine NoPanic.normal ?_
          clear hva
          go_wp2_with (first | (refine wp_ld 60 (.tmp 1) rfl rfl rfl b0.whole Tryd.underlying60 rfl sizeTh ?_) | (refine wp_st 60 (.tmp 2) (.tmp 15) rfl rfl rfl (f := 0) rfl (l := apL a (.slice A8 a.b.length c8)) rfl b1 (by simp [zPe, apL]) sizeTh (one_ap _ _ _ _) ?_; intro w17 hb17 hG17))
          have hb17 : Blk w17 (g + 1) 60 (apL a (.slice A8 a.b.length c8)) := hb17
          have hB17 := hB.grown hG17 hB.size (fun k hk => by injection hk with hk; omega)
          have ho17 := own_keep10 ho8 (fun k hk e => hG17.block k hk (fun e2 => by injection e2 with e2; have := hw8 k e; omega))
          refine ret_cell rfl rfl hb17.whole Tryd.underlying60 rfl sizeTh rfl ?_
          exact ⟨_, rfl, ho17, hB17⟩
        refine AllReady.cons (o := ⟨some 10, .load 22 (.tmp 9), _, _, _, none⟩) rfl (fun K hK => ?_) AllReady.nil
        refine step_ld1 22 (.tmp 9) (by rfl) (by rfl) (by rfl) (b0.cellAt 3 _ rfl) Tryd.isAgg22 ?_
        refine hK _ _ ?_
        clear hK K
        try simp only [Act.put, List.setIfInBounds_toArray, List.set_cons_zero, List.set_cons_succ]
        refine wpAny_take (i := 9) (oi := ⟨some 12, _, _, _, _, none⟩) (v := ?_) rfl (by kernel_rfl) (by kernel_rfl) (by kernel_rfl) (fun _ _ _ h => h) (Or.inl ⟨by rfl, ?_⟩) ?_
        rotate_left
        · intro w; go_simp; try with_reducible rfl
        try simp only [Act.put, List.setIfInBounds_toArray, List.set_cons_zero, List.set_cons_succ]
        refine wpAny_ready (rs := [5]) (by kernel_rfl) (by simp) ?_
        refine AllReady.cons (o := ⟨some 8, _, _, _, _, none⟩) rfl (fun K hK => ?_) AllReady.nil
        go_simp
        refine (sclone_any a.t _ hst hst2).mono ?_
        rintro e w5 ⟨rfl, hB5⟩
        replace b0 := b0.below hB5
        replace b1 := b1.below hB5
        replace hB := hB.trans (hB5.mono hB.size)
        clear hB5
        refine hK _ _ ?_
        clear hK K
        try simp only [Act.put, List.setIfInBounds_toArray, List.set_cons_zero, List.set_cons_succ]
        refine wpAny_ready (rs := [8]) (by kernel_rfl) (by simp) ?_
        refine AllReady.cons (o := ⟨some 11, _, _, _, _, none⟩) rfl (fun K hK => ?_) AllReady.nil
        go_simp
        have hva8 := hva.below hB
        refine (bclone_any a.b F _ _ hva8 hab).mono ?_
        rintro e w8 ⟨v8, rfl, ho8, hB8⟩
        obtain ⟨A8, c8, rfl⟩ := own_shape8 ho8
        have hw8 : ∀ y, (Value.slice A8 a.b.length c8).ownBlock = some y → g + 1 < y := fun y e => by have := (ho8.lt y e).1; have := b1.lt; omega
        replace ho8 := own_weak (base' := w.heap.size) ho8 hB.size
        replace b0 := b0.below hB8
        replace b1 := b1.below hB8
        replace hB := hB.trans (hB8.mono hB.size)
        clear hB8 hva8
        refine hK _ _ ?_
        clear hK K
        try simp only [Act.put, List.setIfInBounds_toArray, List.set_cons_zero, List.set_cons_succ]
        refine wpAny_ready (rs := [10]) (by kernel_rfl) (by simp) ?_
        refine AllReady.cons (o := ⟨none, .store 9 (.tmp 12) (.tmp 5), _, _, _, none⟩) rfl (fun K hK => ?_) AllReady.nil
        refine step_st1 9 (.tmp 12) (.tmp 5) (by rfl) (by rfl) (by rfl) (f := 1) (by rfl) (v := .string a.n) (by rfl) b0 (by simp [apL]) sizeStr rfl rfl ?_
        intro w10 hb10 hG10
        replace ho8 := own_keep10 ho8 (fun k hk e => hG10.block k hk (fun e2 => by injection e2 with e2; have := hw8 k e; omega))
        replace b1 := b1.keep (hG10.block _ b1.lt (by intro e; injection e with e; omega))
        replace hB := hB.grown hG10 hB.size (fun k hk => by injection hk with hk; omega)
        replace b0 : Blk w10 g 60 (apL a (.slice Aa a.b.length ca)) := hb10
        clear hb10 hG10
        refine hK _ _ ?_
        clear hK K
        try simp only [Act.put, List.setIfInBounds_toArray, List.set_cons_zero, List.set_cons_succ]
        refine wpAny_take (i := 11) (oi := ⟨some 13, _, _, _, _, none⟩) (v := ?_) rfl (by kernel_rfl) (by kernel_rfl) (by kernel_rfl) (fun _ _ _ h => h) (Or.inl ⟨by rfl, ?_⟩) ?_
        rotate_left
        · intro w; go_simp; try with_reducible rfl
        try simp only [Act.put, List.setIfInBounds_toArray, List.set_cons_zero, List.set_cons_succ]
        refine wpAny_ready (rs := [12]) (by kernel_rfl) (by simp) ?_
        refine AllReady.cons (o := ⟨none, .store 9 (.tmp 13) (.tmp 8), _, _, _, none⟩) rfl (fun K hK => ?_) AllReady.nil
        refine step_st1 9 (.tmp 13) (.tmp 8) (by rfl) (by rfl) (by rfl) (f := 2) (by rfl) (v := .string a.t) (by rfl) b0 (by simp [apL]) sizeStr rfl rfl ?_
        intro w12 hb12 hG12
        replace ho8 := own_keep10 ho8 (fun k hk e => hG12.block k hk (fun e2 => by injection e2 with e2; have := hw8 k e; omega))
        replace b1 := b1.keep (hG12.block _ b1.lt (by intro e; injection e with e; omega))
        replace hB := hB.grown hG12 hB.size (fun k hk => by injection hk with hk; omega)
        replace b0 : Blk w12 g 60 (apL a (.slice Aa a.b.length ca)) := hb12
        clear hb12 hG12
        refine hK _ _ ?_
        clear hK K
        try simp only [Act.put, List.setIfInBounds_toArray, List.set_cons_zero, List.set_cons_succ]
        refine wpAny_take (i := 13) (oi := ⟨some 14, _, _, _, _, none⟩) (v := ?_) rfl (by kernel_rfl) (by kernel_rfl) (by kernel_rfl) (fun _ _ _ h => h) (Or.inl ⟨by rfl, ?_⟩) ?_
        rotate_left
        · intro w; go_simp; try with_reducible rfl
        try simp only [Act.put, List.setIfInBounds_toArray, List.set_cons_zero, List.set_cons_succ]
        refine wpAny_ready (rs := [14]) (by kernel_rfl) (by simp) ?_
        refine AllReady.cons (o := ⟨none, .store 22 (.tmp 14) (.tmp 11), _, _, _, none⟩) rfl (fun K hK => ?_) AllReady.nil
        refine step_st1 22 (.tmp 14) (.tmp 11) (by rfl) (by rfl) (by rfl) (f := 3) (by rfl) (v := .slice A8 a.b.length c8) (by rfl) b0 (by simp [apL]) sizeSlB rfl rfl ?_
        intro w14 hb14 hG14
        replace ho8 := own_keep10 ho8 (fun k hk e => hG14.block k hk (fun e2 => by injection e2 with e2; have := hw8 k e; omega))
        replace b1 := b1.keep (hG14.block _ b1.lt (by intro e; injection e with e; omega))
        replace hB := hB.grown hG14 hB.size (fun k hk => by injection hk with hk; omega)
        replace b0 : Blk w14 g 60 (apL a (.slice A8 a.b.length c8)) := hb14
        clear hb14 hG14
        refine hK _ _ ?_
        clear hK K
        try simp only [Act.put, List.setIfInBounds_toArray, List.set_cons_zero, List.set_cons_succ]
        refine wpAny_done (by kernel_rfl) ?_ _
        refine NoPanic.normal ?_
        clear hva
        go_wp2_with (first | (refine wp_ld 60 (.tmp 1) rfl rfl rfl b0.whole Tryd.underlying60 rfl sizeTh ?_) | (refine wp_st 60 (.tmp 2) (.tmp 15) rfl rfl rfl (f := 0) rfl (l := apL a (.slice A8 a.b.length c8)) rfl b1 (by simp [zPe, apL]) sizeTh (one_ap _ _ _ _) ?_; intro w17 hb17 hG17))
        have hb17 : Blk w17 (g + 1) 60 (apL a (.slice A8 a.b.length c8)) := hb17
        have hB17 := hB.grown hG17 hB.size (fun k hk => by injection hk with hk; omega)
        have ho17 := own_keep10 ho8 (fun k hk e => hG17.block k hk (fun e2 => by injection e2 with e2; have := hw8 k e; omega))
        refine ret_cell rfl rfl hb17.whole Tryd.underlying60 rfl sizeTh rfl ?_
        exact ⟨_, rfl, ho17, hB17⟩
      refine AllReady.cons (o := ⟨some 10, .load 22 (.tmp 9), _, _, _, none⟩) rfl (fun K hK => ?_) AllReady.nil
      refine step_ld1 22 (.tmp 9) (by rfl) (by rfl) (by rfl) (b0.cellAt 3 _ rfl) Tryd.isAgg22 ?_
      refine hK _ _ ?_
      clear hK K
      try simp only [Act.put, List.setIfInBounds_toArray, List.set_cons_zero, List.set_cons_succ]
      refine wpAny_ready (rs := [4]) (by kernel_rfl) (by simp) ?_
      refine AllReady.cons (o := ⟨some 7, .load 9 (.tmp 6), _, _, _, none⟩) rfl (fun K hK => ?_) AllReady.nil
      refine step_ld1 9 (.tmp 6) (by rfl) (by rfl) (by rfl) (b0.cellAt 2 _ rfl) Tryd.isAgg9 ?_
      refine hK _ _ ?_
      clear hK K
      try simp only [Act.put, List.setIfInBounds_toArray, List.set_cons_zero, List.set_cons_succ]
      refine wpAny_take (i := 9) (oi := ⟨some 12, _, _, _, _, none⟩) (v := ?_) rfl (by kernel_rfl) (by kernel_rfl) (by kernel_rfl) (fun _ _ _ h => h) (Or.inl ⟨by rfl, ?_⟩) ?_
      rotate_left
      · intro w; go_simp; try with_reducible rfl
      try simp only [Act.put, List.setIfInBounds_toArray, List.set_cons_zero, List.set_cons_succ]
      refine wpAny_ready (rs := [5]) (by kernel_rfl) (by simp) ?_
      refine AllReady.cons (o := ⟨some 8, _, _, _, _, none⟩) rfl (fun K hK => ?_) AllReady.nil
      go_simp
      refine (sclone_any a.t _ hst hst2).mono ?_
      rintro e w5 ⟨rfl, hB5⟩
      replace b0 := b0.below hB5
      replace b1 := b1.below hB5
      replace hB := hB.trans (hB5.mono hB.size)
      clear hB5
      refine hK _ _ ?_
      clear hK K
      try simp only [Act.put, List.setIfInBounds_toArray, List.set_cons_zero, List.set_cons_succ]
      refine wpAny_ready (rs := [8]) (by kernel_rfl) (by simp) ?_
      refine AllReady.cons (o := ⟨some 11, _, _, _, _, none⟩) rfl (fun K hK => ?_) AllReady.nil
      go_simp
      have hva8 := hva.below hB
      refine (bclone_any a.b F _ _ hva8 hab).mono ?_
      rintro e w8 ⟨v8, rfl, ho8, hB8⟩
      obtain ⟨A8, c8, rfl⟩ := own_shape8 ho8
      have hw8 : ∀ y, (Value.slice A8 a.b.length c8).ownBlock = some y → g + 1 < y := fun y e => by have := (ho8.lt y e).1; have := b1.lt; omega
      replace ho8 := own_weak (base' := w.heap.size) ho8 hB.size
      replace b0 := b0.below hB8
      replace b1 := b1.below hB8
      replace hB := hB.trans (hB8.mono hB.size)
      clear hB8 hva8
      refine hK _ _ ?_
      clear hK K
      try simp only [Act.put, List.setIfInBounds_toArray, List.set_cons_zero, List.set_cons_succ]
      refine wpAny_ready (rs := [10]) (by kernel_rfl) (by simp) ?_
      refine AllReady.cons (o := ⟨none, .store 9 (.tmp 12) (.tmp 5), _, _, _, none⟩) rfl (fun K hK => ?_) AllReady.nil
      refine step_st1 9 (.tmp 12) (.tmp 5) (by rfl) (by rfl) (by rfl) (f := 1) (by rfl) (v := .string a.n) (by rfl) b0 (by simp [apL]) sizeStr rfl rfl ?_
      intro w10 hb10 hG10
      replace ho8 := own_keep10 ho8 (fun k hk e => hG10.block k hk (fun e2 => by injection e2 with e2; have := hw8 k e; omega))
      replace b1 := b1.keep (hG10.block _ b1.lt (by intro e; injection e with e; omega))
      replace hB := hB.grown hG10 hB.size (fun k hk => by injection hk with hk; omega)
      replace b0 : Blk w10 g 60 (apL a (.slice Aa a.b.length ca)) := hb10
      clear hb10 hG10
      refine hK _ _ ?_
      clear hK K
      try simp only [Act.put, List.setIfInBounds_toArray, List.set_cons_zero, List.set_cons_succ]
      refine wpAny_take (i := 11) (oi := ⟨some 13, _, _, _, _, none⟩) (v := ?_) rfl (by kernel_rfl) (by kernel_rfl) (by kernel_rfl) (fun _ _ _ h => h) (Or.inl ⟨by rfl, ?_⟩) ?_
      rotate_left
      · intro w; go_simp; try with_reducible rfl
      try simp only [Act.put, List.setIfInBounds_toArray, List.set_cons_zero, List.set_cons_succ]
      refine wpAny_ready (rs := [12]) (by kernel_rfl) (by simp) ?_
      refine AllReady.cons (o := ⟨none, .store 9 (.tmp 13) (.tmp 8), _, _, _, none⟩) rfl (fun K hK => ?_) AllReady.nil
      refine step_st1 9 (.tmp 13) (.tmp 8) (by rfl) (by rfl) (by rfl) (f := 2) (by rfl) (v := .string a.t) (by rfl) b0 (by simp [apL]) sizeStr rfl rfl ?_
      intro w12 hb12 hG12
      replace ho8 := own_keep10 ho8 (fun k hk e => hG12.block k hk (fun e2 => by injection e2 with e2; have := hw8 k e; omega))
      replace b1 := b1.keep (hG12.block _ b1.lt (by intro e; injection e with e; omega))
      replace hB := hB.grown hG12 hB.size (fun k hk => by injection hk with hk; omega)
      replace b0 : Blk w12 g 60 (apL a (.slice Aa a.b.length ca)) := hb12
      clear hb12 hG12
      refine hK _ _ ?_
      clear hK K
      try simp only [Act.put, List.setIfInBounds_toArray, List.set_cons_zero, List.set_cons_succ]
      refine wpAny_take (i := 13) (oi := ⟨some 14, _, _, _, _, none⟩) (v := ?_) rfl (by kernel_rfl) (by kernel_rfl) (by kernel_rfl) (fun _ _ _ h => h) (Or.inl ⟨by rfl, ?_⟩) ?_
      rotate_left
      · intro w; go_simp; try with_reducible rfl
      try simp only [Act.put, List.setIfInBounds_toArray, List.set_cons_zero, List.set_cons_succ]
      refine wpAny_ready (rs := [14]) (by kernel_rfl) (by simp) ?_
      refine AllReady.cons (o := ⟨none, .store 22 (.tmp 14) (.tmp 11), _, _, _, none⟩) rfl (fun K hK => ?_) AllReady.nil
      refine step_st1 22 (.tmp 14) (.tmp 11) (by rfl) (by rfl) (by rfl) (f := 3) (by rfl) (v := .slice A8 a.b.length c8) (by rfl) b0 (by simp [apL]) sizeSlB rfl rfl ?_
      intro w14 hb14 hG14
      replace ho8 := own_keep10 ho8 (fun k hk e => hG14.block k hk (fun e2 => by injection e2 with e2; have := hw8 k e; omega))
      replace b1 := b1.keep (hG14.block _ b1.lt (by intro e; injection e with e; omega))
      replace hB := hB.grown hG14 hB.size (fun k hk => by injection hk with hk; omega)
      replace b0 : Blk w14 g 60 (apL a (.slice A8 a.b.length c8)) := hb14
      clear hb14 hG14
      refine hK _ _ ?_
      clear hK K
      try simp only [Act.put, List.setIfInBounds_toArray, List.set_cons_zero, List.set_cons_succ]
      refine wpAny_done (by kernel_rfl) ?_ _
      refine NoPanic.normal ?_
      clear hva
      go_wp2_with (first | (refine wp_ld 60 (.tmp 1) rfl rfl rfl b0.whole Tryd.underlying60 rfl sizeTh ?_) | (refine wp_st 60 (.tmp 2) (.tmp 15) rfl rfl rfl (f := 0) rfl (l := apL a (.slice A8 a.b.length c8)) rfl b1 (by simp [zPe, apL]) sizeTh (one_ap _ _ _ _) ?_; intro w17 hb17 hG17))
      have hb17 : Blk w17 (g + 1) 60 (apL a (.slice A8 a.b.length c8)) := hb17
      have hB17 := hB.grown hG17 hB.size (fun k hk => by injection hk with hk; omega)
      have ho17 := own_keep10 ho8 (fun k hk e => hG17.block k hk (fun e2 => by injection e2 with e2; have := hw8 k e; omega))
      refine ret_cell rfl rfl hb17.whole Tryd.underlying60 rfl sizeTh rfl ?_
      exact ⟨_, rfl, ho17, hB17⟩
    refine AllReady.cons (o := ⟨some 7, .load 9 (.tmp 6), _, _, _, none⟩) rfl (fun K hK => ?_) ?_
    · refine step_ld1 9 (.tmp 6) (by rfl) (by rfl) (by rfl) (b0.cellAt 2 _ rfl) Tryd.isAgg9 ?_
      refine hK _ _ ?_
      clear hK K
      try simp only [Act.put, List.setIfInBounds_toArray, List.set_cons_zero, List.set_cons_succ]
      refine wpAny_ready (rs := [2, 7]) (by kernel_rfl) (by simp) ?_
      refine AllReady.cons (o := ⟨some 5, _, _, _, _, none⟩) rfl (fun K hK => ?_) ?_
      · go_simp
        refine (sclone_any a.n _ hsn hsn2).mono ?_
        rintro e w2 ⟨rfl, hB2⟩
        replace b0 := b0.below hB2
        replace b1 := b1.below hB2
        replace hB := hB.trans (hB2.mono hB.size)
        clear hB2
        refine hK _ _ ?_
        clear hK K
        try simp only [Act.put, List.setIfInBounds_toArray, List.set_cons_zero, List.set_cons_succ]
        refine wpAny_ready (rs := [5, 7]) (by kernel_rfl) (by simp) ?_
        refine AllReady.cons (o := ⟨some 8, _, _, _, _, none⟩) rfl (fun K hK => ?_) ?_
        · go_simp
          refine (sclone_any a.t _ hst hst2).mono ?_
          rintro e w5 ⟨rfl, hB5⟩
          replace b0 := b0.below hB5
          replace b1 := b1.below hB5
          replace hB := hB.trans (hB5.mono hB.size)
          clear hB5
          refine hK _ _ ?_
          clear hK K
          try simp only [Act.put, List.setIfInBounds_toArray, List.set_cons_zero, List.set_cons_succ]
          refine wpAny_ready (rs := [7]) (by kernel_rfl) (by simp) ?_
          refine AllReady.cons (o := ⟨some 10, .load 22 (.tmp 9), _, _, _, none⟩) rfl (fun K hK => ?_) AllReady.nil
          refine step_ld1 22 (.tmp 9) (by rfl) (by rfl) (by rfl) (b0.cellAt 3 _ rfl) Tryd.isAgg22 ?_
          refine hK _ _ ?_
          clear hK K
          try simp only [Act.put, List.setIfInBounds_toArray, List.set_cons_zero, List.set_cons_succ]
          refine wpAny_take (i := 9) (oi := ⟨some 12, _, _, _, _, none⟩) (v := ?_) rfl (by kernel_rfl) (by kernel_rfl) (by kernel_rfl) (fun _ _ _ h => h) (Or.inl ⟨by rfl, ?_⟩) ?_
          rotate_left
          · intro w; go_simp; try with_reducible rfl
          try simp only [Act.put, List.setIfInBounds_toArray, List.set_cons_zero, List.set_cons_succ]
          refine wpAny_ready (rs := [8]) (by kernel_rfl) (by simp) ?_
          refine AllReady.cons (o := ⟨some 11, _, _, _, _, none⟩) rfl (fun K hK => ?_) AllReady.nil
          go_simp
          have hva8 := hva.below hB
          refine (bclone_any a.b F _ _ hva8 hab).mono ?_
          rintro e w8 ⟨v8, rfl, ho8, hB8⟩
          obtain ⟨A8, c8, rfl⟩ := own_shape8 ho8
          have hw8 : ∀ y, (Value.slice A8 a.b.length c8).ownBlock = some y → g + 1 < y := fun y e => by have := (ho8.lt y e).1; have := b1.lt; omega
          replace ho8 := own_weak (base' := w.heap.size) ho8 hB.size
          replace b0 := b0.below hB8
          replace b1 := b1.below hB8
          replace hB := hB.trans (hB8.mono hB.size)
          clear hB8 hva8
          refine hK _ _ ?_
          clear hK K
          try simp only [Act.put, List.setIfInBounds_toArray, List.set_cons_zero, List.set_cons_succ]
          refine wpAny_ready (rs := [10]) (by kernel_rfl) (by simp) ?_
          refine AllReady.cons (o := ⟨none, .store 9 (.tmp 12) (.tmp 5), _, _, _, none⟩) rfl (fun K hK => ?_) AllReady.nil
          refine step_st1 9 (.tmp 12) (.tmp 5) (by rfl) (by rfl) (by rfl) (f := 1) (by rfl) (v := .string a.n) (by rfl) b0 (by simp [apL]) sizeStr rfl rfl ?_
          intro w10 hb10 hG10
          replace ho8 := own_keep10 ho8 (fun k hk e => hG10.block k hk (fun e2 => by injection e2 with e2; have := hw8 k e; omega))
          replace b1 := b1.keep (hG10.block _ b1.lt (by intro e; injection e with e; omega))
          replace hB := hB.grown hG10 hB.size (fun k hk => by injection hk with hk; omega)
          replace b0 : Blk w10 g 60 (apL a (.slice Aa a.b.length ca)) := hb10
          clear hb10 hG10
          refine hK _ _ ?_
          clear hK K
          try simp only [Act.put, List.setIfInBounds_toArray, List.set_cons_zero, List.set_cons_succ]
          refine wpAny_take (i := 11) (oi := ⟨some 13, _, _, _, _, none⟩) (v := ?_) rfl (by kernel_rfl) (by kernel_rfl) (by kernel_rfl) (fun _ _ _ h => h) (Or.inl ⟨by rfl, ?_⟩) ?_
          rotate_left
          · intro w; go_simp; try with_reducible rfl
          try simp only [Act.put, List.setIfInBounds_toArray, List.set_cons_zero, List.set_cons_succ]
          refine wpAny_ready (rs := [12]) (by kernel_rfl) (by simp) ?_
          refine AllReady.cons (o := ⟨none, .store 9 (.tmp 13) (.tmp 8), _, _, _, none⟩) rfl (fun K hK => ?_) AllReady.nil
          refine step_st1 9 (.tmp 13) (.tmp 8) (by rfl) (by rfl) (by rfl) (f := 2) (by rfl) (v := .string a.t) (by rfl) b0 (by simp [apL]) sizeStr rfl rfl ?_
          intro w12 hb12 hG12
          replace ho8 := own_keep10 ho8 (fun k hk e => hG12.block k hk (fun e2 => by injection e2 with e2; have := hw8 k e; omega))
          replace b1 := b1.keep (hG12.block _ b1.lt (by intro e; injection e with e; omega))
          replace hB := hB.grown hG12 hB.size (fun k hk => by injection hk with hk; omega)
          replace b0 : Blk w12 g 60 (apL a (.slice Aa a.b.length ca)) := hb12
          clear hb12 hG12
          refine hK _ _ ?_
          clear hK K
          try simp only [Act.put, List.setIfInBounds_toArray, List.set_cons_zero, List.set_cons_succ]
          refine wpAny_take (i := 13) (oi := ⟨some 14, _, _, _, _, none⟩) (v := ?_) rfl (by kernel_rfl) (by kernel_rfl) (by kernel_rfl) (fun _ _ _ h => h) (Or.inl ⟨by rfl, ?_⟩) ?_
          rotate_left
          · intro w; go_simp; try with_reducible rfl
          try simp only [Act.put, List.setIfInBounds_toArray, List.set_cons_zero, List.set_cons_succ]
          refine wpAny_ready (rs := [14]) (by kernel_rfl) (by simp) ?_
          refine AllReady.cons (o := ⟨none, .store 22 (.tmp 14) (.tmp 11), _, _, _, none⟩) rfl (fun K hK => ?_) AllReady.nil
          refine step_st1 22 (.tmp 14) (.tmp 11) (by rfl) (by rfl) (by rfl) (f := 3) (by rfl) (v := .slice A8 a.b.length c8) (by rfl) b0 (by simp [apL]) sizeSlB rfl rfl ?_
          intro w14 hb14 hG14
          replace ho8 := own_keep10 ho8 (fun k hk e => hG14.block k hk (fun e2 => by injection e2 with e2; have := hw8 k e; omega))
          replace b1 := b1.keep (hG14.block _ b1.lt (by intro e; injection e with e; omega))
          replace hB := hB.grown hG14 hB.size (fun k hk => by injection hk with hk; omega)
          replace b0 : Blk w14 g 60 (apL a (.slice A8 a.b.length c8)) := hb14
          clear hb14 hG14
          refine hK _ _ ?_
          clear hK K
          try simp only [Act.put, List.setIfInBounds_toArray, List.set_cons_zero, List.set_cons_succ]
          refine wpAny_done (by kernel_rfl) ?_ _
          refine NoPanic.normal ?_
          clear hva
          go_wp2_with (first | (refine wp_ld 60 (.tmp 1) rfl rfl rfl b0.whole Tryd.underlying60 rfl sizeTh ?_) | (refine wp_st 60 (.tmp 2) (.tmp 15) rfl rfl rfl (f := 0) rfl (l := apL a (.slice A8 a.b.length c8)) rfl b1 (by simp [zPe, apL]) sizeTh (one_ap _ _ _ _) ?_; intro w17 hb17 hG17))
          have hb17 : Blk w17 (g + 1) 60 (apL a (.slice A8 a.b.length c8)) := hb17
          have hB17 := hB.grown hG17 hB.size (fun k hk => by injection hk with hk; omega)
          have ho17 := own_keep10 ho8 (fun k hk e => hG17.block k hk (fun e2 => by injection e2 with e2; have := hw8 k e; omega))
          refine ret_cell rfl rfl hb17.whole Tryd.underlying60 rfl sizeTh rfl ?_
          exact ⟨_, rfl, ho17, hB17⟩
        refine AllReady.cons (o := ⟨some 10, .load 22 (.tmp 9), _, _, _, none⟩) rfl (fun K hK => ?_) AllReady.nil
        refine step_ld1 22 (.tmp 9) (by rfl) (by rfl) (by rfl) (b0.cellAt 3 _ rfl) Tryd.isAgg22 ?_
        refine hK _ _ ?_
        clear hK K
        try simp only [Act.put, List.setIfInBounds_toArray, List.set_cons_zero, List.set_cons_succ]
        refine wpAny_take (i := 9) (oi := ⟨some 12, _, _, _, _, none⟩) (v := ?_) rfl (by kernel_rfl) (by kernel_rfl) (by kernel_rfl) (fun _ _ _ h => h) (Or.inl ⟨by rfl, ?_⟩) ?_
        rotate_left
        · intro w; go_simp; try with_reducible rfl
        try simp only [Act.put, List.setIfInBounds_toArray, List.set_cons_zero, List.set_cons_succ]
        refine wpAny_ready (rs := [5]) (by kernel_rfl) (by simp) ?_
        refine AllReady.cons (o := ⟨some 8, _, _, _, _, none⟩) rfl (fun K hK => ?_) AllReady.nil
        go_simp
        refine (sclone_any a.t _ hst hst2).mono ?_
        rintro e w5 ⟨rfl, hB5⟩
        replace b0 := b0.below hB5
        replace b1 := b1.below hB5
        replace hB := hB.trans (hB5.mono hB.size)
        clear hB5
        refine hK _ _ ?_
        clear hK K
        try simp only [Act.put, List.setIfInBounds_toArray, List.set_cons_zero, List.set_cons_succ]
        refine wpAny_ready (rs := [8]) (by kernel_rfl) (by simp) ?_
        refine AllReady.cons (o := ⟨some 11, _, _, _, _, none⟩) rfl (fun K hK => ?_) AllReady.nil
        go_simp
        have hva8 := hva.below hB
        refine (bclone_any a.b F _ _ hva8 hab).mono ?_
        rintro e w8 ⟨v8, rfl, ho8, hB8⟩
        obtain ⟨A8, c8, rfl⟩ := own_shape8 ho8
        have hw8 : ∀ y, (Value.slice A8 a.b.length c8).ownBlock = some y → g + 1 < y := fun y e => by have := (ho8.lt y e).1; have := b1.lt; omega
        replace ho8 := own_weak (base' := w.heap.size) ho8 hB.size
        replace b0 := b0.below hB8
        replace b1 := b1.below hB8
        replace hB := hB.trans (hB8.mono hB.size)
        clear hB8 hva8
        refine hK _ _ ?_
        clear hK K
        try simp only [Act.put, List.setIfInBounds_toArray, List.set_cons_zero, List.set_cons_succ]
        refine wpAny_ready (rs := [10]) (by kernel_rfl) (by simp) ?_
        refine AllReady.cons (o := ⟨none, .store 9 (.tmp 12) (.tmp 5), _, _, _, none⟩) rfl (fun K hK => ?_) AllReady.nil
        refine step_st1 9 (.tmp 12) (.tmp 5) (by rfl) (by rfl) (by rfl) (f := 1) (by rfl) (v := .string a.n) (by rfl) b0 (by simp [apL]) sizeStr rfl rfl ?_
        intro w10 hb10 hG10
        replace ho8 := own_keep10 ho8 (fun k hk e => hG10.block k hk (fun e2 => by injection e2 with e2; have := hw8 k e; omega))
        replace b1 := b1.keep (hG10.block _ b1.lt (by intro e; injection e with e; omega))
        replace hB := hB.grown hG10 hB.size (fun k hk => by injection hk with hk; omega)
        replace b0 : Blk w10 g 60 (apL a (.slice Aa a.b.length ca)) := hb10
        clear hb10 hG10
        refine hK _ _ ?_
        clear hK K
        try simp only [Act.put, List.setIfInBounds_toArray, List.set_cons_zero, List.set_cons_succ]
        refine wpAny_take (i := 11) (oi := ⟨some 13, _, _, _, _, none⟩) (v := ?_) rfl (by kernel_rfl) (by kernel_rfl) (by kernel_rfl) (fun _ _ _ h => h) (Or.inl ⟨by rfl, ?_⟩) ?_
        rotate_left
        · intro w; go_simp; try with_reducible rfl
        try simp only [Act.put, List.setIfInBounds_toArray, List.set_cons_zero, List.set_cons_succ]
        refine wpAny_ready (rs := [12]) (by kernel_rfl) (by simp) ?_
        refine AllReady.cons (o := ⟨none, .store 9 (.tmp 13) (.tmp 8), _, _, _, none⟩) rfl (fun K hK => ?_) AllReady.nil
        refine step_st1 9 (.tmp 13) (.tmp 8) (by rfl) (by rfl) (by rfl) (f := 2) (by rfl) (v := .string a.t) (by rfl) b0 (by simp [apL]) sizeStr rfl rfl ?_
        intro w12 hb12 hG12
        replace ho8 := own_keep10 ho8 (fun k hk e => hG12.block k hk (fun e2 => by injection e2 with e2; have := hw8 k e; omega))
        replace b1 := b1.keep (hG12.block _ b1.lt (by intro e; injection e with e; omega))
        replace hB := hB.grown hG12 hB.size (fun k hk => by injection hk with hk; omega)
        replace b0 : Blk w12 g 60 (apL a (.slice Aa a.b.length ca)) := hb12
        clear hb12 hG12
        refine hK _ _ ?_
        clear hK K
        try simp only [Act.put, List.setIfInBounds_toArray, List.set_cons_zero, List.set_cons_succ]
        refine wpAny_take (i := 13) (oi := ⟨some 14, _, _, _, _, none⟩) (v := ?_) rfl (by kernel_rfl) (by kernel_rfl) (by kernel_rfl) (fun _ _ _ h => h) (Or.inl ⟨by rfl, ?_⟩) ?_
        rotate_left
        · intro w; go_simp; try with_reducible rfl
        try simp only [Act.put, List.setIfInBounds_toArray, List.set_cons_zero, List.set_cons_succ]
        refine wpAny_ready (rs := [14]) (by kernel_rfl) (by simp) ?_
        refine AllReady.cons (o := ⟨none, .store 22 (.tmp 14) (.tmp 11), _, _, _, none⟩) rfl (fun K hK => ?_) AllReady.nil
        refine step_st1 22 (.tmp 14) (.tmp 11) (by rfl) (by rfl) (by rfl) (f := 3) (by rfl) (v := .slice A8 a.b.length c8) (by rfl) b0 (by simp [apL]) sizeSlB rfl rfl ?_
        intro w14 hb14 hG14
        replace ho8 := own_keep10 ho8 (fun k hk e => hG14.block k hk (fun e2 => by injection e2 with e2; have := hw8 k e; omega))
        replace b1 := b1.keep (hG14.block _ b1.lt (by intro e; injection e with e; omega))
        replace hB := hB.grown hG14 hB.size (fun k hk => by injection hk with hk; omega)
        replace b0 : Blk w14 g 60 (apL a (.slice A8 a.b.length c8)) := hb14
        clear hb14 hG14
        refine hK _ _ ?_
        clear hK K
        try simp only [Act.put, List.setIfInBounds_toArray, List.set_cons_zero, List.set_cons_succ]
        refine wpAny_done (by kernel_rfl) ?_ _
        refine NoPanic.normal ?_
        clear hva
        go_wp2_with (first | (refine wp_ld 60 (.tmp 1) rfl rfl rfl b0.whole Tryd.underlying60 rfl sizeTh ?_) | (refine wp_st 60 (.tmp 2) (.tmp 15) rfl rfl rfl (f := 0) rfl (l := apL a (.slice A8 a.b.length c8)) rfl b1 (by simp [zPe, apL]) sizeTh (one_ap _ _ _ _) ?_; intro w17 hb17 hG17))
        have hb17 : Blk w17 (g + 1) 60 (apL a (.slice A8 a.b.length c8)) := hb17
        have hB17 := hB.grown hG17 hB.size (fun k hk => by injection hk with hk; omega)
        have ho17 := own_keep10 ho8 (fun k hk e => hG17.block k hk (fun e2 => by injection e2 with e2; have := hw8 k e; omega))
        refine ret_cell rfl rfl hb17.whole Tryd.underlying60 rfl sizeTh rfl ?_
        exact ⟨_, rfl, ho17, hB17⟩
      refine AllReady.cons (o := ⟨some 10, .load 22 (.tmp 9), _, _, _, none⟩) rfl (fun K hK => ?_) AllReady.nil
      refine step_ld1 22 (.tmp 9) (by rfl) (by rfl) (by rfl) (b0.cellAt 3 _ rfl) Tryd.isAgg22 ?_
      refine hK _ _ ?_
      clear hK K
      try simp only [Act.put, List.setIfInBounds_toArray, List.set_cons_zero, List.set_cons_succ]
      refine wpAny_ready (rs := [2]) (by kernel_rfl) (by simp) ?_
      refine AllReady.cons (o := ⟨some 5, _, _, _, _, none⟩) rfl (fun K hK => ?_) AllReady.nil
      go_simp
      refine (sclone_any a.n _ hsn hsn2).mono ?_
      rintro e w2 ⟨rfl, hB2⟩
      replace b0 := b0.below hB2
      replace b1 := b1.below hB2
      replace hB := hB.trans (hB2.mono hB.size)
      clear hB2
      refine hK _ _ ?_
      clear hK K
      try simp only [Act.put, List.setIfInBounds_toArray, List.set_cons_zero, List.set_cons_succ]
      refine wpAny_take (i := 9) (oi := ⟨some 12, _, _, _, _, none⟩) (v := ?_) rfl (by kernel_rfl) (by kernel_rfl) (by kernel_rfl) (fun _ _ _ h => h) (Or.inl ⟨by rfl, ?_⟩) ?_
      rotate_left
      · intro w; go_simp; try with_reducible rfl
      try simp only [Act.put, List.setIfInBounds_toArray, List.set_cons_zero, List.set_cons_succ]
      refine wpAny_ready (rs := [5]) (by kernel_rfl) (by simp) ?_
      refine AllReady.cons (o := ⟨some 8, _, _, _, _, none⟩) rfl (fun K hK => ?_) AllReady.nil
      go_simp
      refine (sclone_any a.t _ hst hst2).mono ?_
      rintro e w5 ⟨rfl, hB5⟩
      replace b0 := b0.below hB5
      replace b1 := b1.below hB5
      replace hB := hB.trans (hB5.mono hB.size)
      clear hB5
      refine hK _ _ ?_
      clear hK K
      try simp only [Act.put, List.setIfInBounds_toArray, List.set_cons_zero, List.set_cons_succ]
      refine wpAny_ready (rs := [8]) (by kernel_rfl) (by simp) ?_
      refine AllReady.cons (o := ⟨some 11, _, _, _, _, none⟩) rfl (fun K hK => ?_) AllReady.nil
      go_simp
      have hva8 := hva.below hB
      refine (bclone_any a.b F _ _ hva8 hab).mono ?_
      rintro e w8 ⟨v8, rfl, ho8, hB8⟩
      obtain ⟨A8, c8, rfl⟩ := own_shape8 ho8
      have hw8 : ∀ y, (Value.slice A8 a.b.length c8).ownBlock = some y → g + 1 < y := fun y e => by have := (ho8.lt y e).1; have := b1.lt; omega
      replace ho8 := own_weak (base' := w.heap.size) ho8 hB.size
      replace b0 := b0.below hB8
      replace b1 := b1.below hB8
      replace hB := hB.trans (hB8.mono hB.size)
      clear hB8 hva8
      refine hK _ _ ?_
      clear hK K
      try simp only [Act.put, List.setIfInBounds_toArray, List.set_cons_zero, List.set_cons_succ]
      refine wpAny_ready (rs := [10]) (by kernel_rfl) (by simp) ?_
      refine AllReady.cons (o := ⟨none, .store 9 (.tmp 12) (.tmp 5), _, _, _, none⟩) rfl (fun K hK => ?_) AllReady.nil
      refine step_st1 9 (.tmp 12) (.tmp 5) (by rfl) (by rfl) (by rfl) (f := 1) (by rfl) (v := .string a.n) (by rfl) b0 (by simp [apL]) sizeStr rfl rfl ?_
      intro w10 hb10 hG10
      replace ho8 := own_keep10 ho8 (fun k hk e => hG10.block k hk (fun e2 => by injection e2 with e2; have := hw8 k e; omega))
      replace b1 := b1.keep (hG10.block _ b1.lt (by intro e; injection e with e; omega))
      replace hB := hB.grown hG10 hB.size (fun k hk => by injection hk with hk; omega)
      replace b0 : Blk w10 g 60 (apL a (.slice Aa a.b.length ca)) := hb10
      clear hb10 hG10
      refine hK _ _ ?_
      clear hK K
      try simp only [Act.put, List.setIfInBounds_toArray, List.set_cons_zero, List.set_cons_succ]
      refine wpAny_take (i := 11) (oi := ⟨some 13, _, _, _, _, none⟩) (v := ?_) rfl (by kernel_rfl) (by kernel_rfl) (by kernel_rfl) (fun _ _ _ h => h) (Or.inl ⟨by rfl, ?_⟩) ?_
      rotate_left
      · intro w; go_simp; try with_reducible rfl
      try simp only [Act.put, List.setIfInBounds_toArray, List.set_cons_zero, List.set_cons_succ]
      refine wpAny_ready (rs := [12]) (by kernel_rfl) (by simp) ?_
      refine AllReady.cons (o := ⟨none, .store 9 (.tmp 13) (.tmp 8), _, _, _, none⟩) rfl (fun K hK => ?_) AllReady.nil
      refine step_st1 9 (.tmp 13) (.tmp 8) (by rfl) (by rfl) (by rfl) (f := 2) (by rfl) (v := .string a.t) (by rfl) b0 (by simp [apL]) sizeStr rfl rfl ?_
      intro w12 hb12 hG12
      replace ho8 := own_keep10 ho8 (fun k hk e => hG12.block k hk (fun e2 => by injection e2 with e2; have := hw8 k e; omega))
      replace b1 := b1.keep (hG12.block _ b1.lt (by intro e; injection e with e; omega))
      replace hB := hB.grown hG12 hB.size (fun k hk => by injection hk with hk; omega)
      replace b0 : Blk w12 g 60 (apL a (.slice Aa a.b.length ca)) := hb12
      clear hb12 hG12
      refine hK _ _ ?_
      clear hK K
      try simp only [Act.put, List.setIfInBounds_toArray, List.set_cons_zero, List.set_cons_succ]
      refine wpAny_take (i := 13) (oi := ⟨some 14, _, _, _, _, none⟩) (v := ?_) rfl (by kernel_rfl) (by kernel_rfl) (by kernel_rfl) (fun _ _ _ h => h) (Or.inl ⟨by rfl, ?_⟩) ?_
      rotate_left
      · intro w; go_simp; try with_reducible rfl
      try simp only [Act.put, List.setIfInBounds_toArray, List.set_cons_zero, List.set_cons_succ]
      refine wpAny_ready (rs := [14]) (by kernel_rfl) (by simp) ?_
      refine AllReady.cons (o := ⟨none, .store 22 (.tmp 14) (.tmp 11), _, _, _, none⟩) rfl (fun K hK => ?_) AllReady.nil
      refine step_st1 22 (.tmp 14) (.tmp 11) (by rfl) (by rfl) (by rfl) (f := 3) (by rfl) (v := .slice A8 a.b.length c8) (by rfl) b0 (by simp [apL]) sizeSlB rfl rfl ?_
      intro w14 hb14 hG14
      replace ho8 := own_keep10 ho8 (fun k hk e => hG14.block k hk (fun e2 => by injection e2 with e2; have := hw8 k e; omega))
      replace b1 := b1.keep (hG14.block _ b1.lt (by intro e; injection e with e; omega))
      replace hB := hB.grown hG14 hB.size (fun k hk => by injection hk with hk; omega)
      replace b0 : Blk w14 g 60 (apL a (.slice A8 a.b.length c8)) := hb14
      clear hb14 hG14
      refine hK _ _ ?_
      clear hK K
      try simp only [Act.put, List.setIfInBounds_toArray, List.set_cons_zero, List.set_cons_succ]
      refine wpAny_done (by kernel_rfl) ?_ _
      refine NoPanic.normal ?_
      clear hva
      go_wp2_with (first | (refine wp_ld 60 (.tmp 1) rfl rfl rfl b0.whole Tryd.underlying60 rfl sizeTh ?_) | (refine wp_st 60 (.tmp 2) (.tmp 15) rfl rfl rfl (f := 0) rfl (l := apL a (.slice A8 a.b.length c8)) rfl b1 (by simp [zPe, apL]) sizeTh (one_ap _ _ _ _) ?_; intro w17 hb17 hG17))
      have hb17 : Blk w17 (g + 1) 60 (apL a (.slice A8 a.b.length c8)) := hb17
      have hB17 := hB.grown hG17 hB.size (fun k hk => by injection hk with hk; omega)
      have ho17 := own_keep10 ho8 (fun k hk e => hG17.block k hk (fun e2 => by injection e2 with e2; have := hw8 k e; omega))
      refine ret_cell rfl rfl hb17.whole Tryd.underlying60 rfl sizeTh rfl ?_
      exact ⟨_, rfl, ho17, hB17⟩
    refine AllReady.cons (o := ⟨some 10, .load 22 (.tmp 9), _, _, _, none⟩) rfl (fun K hK => ?_) AllReady.nil
    refine step_ld1 22 (.tmp 9) (by rfl) (by rfl) (by rfl) (b0.cellAt 3 _ rfl) Tryd.isAgg22 ?_
    refine hK _ _ ?_
    clear hK K
    try simp only [Act.put, List.setIfInBounds_toArray, List.set_cons_zero, List.set_cons_succ]
    refine wpAny_ready (rs := [2, 4]) (by kernel_rfl) (by simp) ?_
    refine AllReady.cons (o := ⟨some 5, _, _, _, _, none⟩) rfl (fun K hK => ?_) ?_
    · go_simp
      refine (sclone_any a.n _ hsn hsn2).mono ?_
      rintro e w2 ⟨rfl, hB2⟩
      replace b0 := b0.below hB2
      replace b1 := b1.below hB2
      replace hB := hB.trans (hB2.mono hB.size)
      clear hB2
      refine hK _ _ ?_
      clear hK K
      try simp only [Act.put, List.setIfInBounds_toArray, List.set_cons_zero, List.set_cons_succ]
      refine wpAny_ready (rs := [4]) (by kernel_rfl) (by simp) ?_
      refine AllReady.cons (o := ⟨some 7, .load 9 (.tmp 6), _, _, _, none⟩) rfl (fun K hK => ?_) AllReady.nil
      refine step_ld1 9 (.tmp 6) (by rfl) (by rfl) (by rfl) (b0.cellAt 2 _ rfl) Tryd.isAgg9 ?_
      refine hK _ _ ?_
      clear hK K
      try simp only [Act.put, List.setIfInBounds_toArray, List.set_cons_zero, List.set_cons_succ]
      refine wpAny_take (i := 9) (oi := ⟨some 12, _, _, _, _, none⟩) (v := ?_) rfl (by kernel_rfl) (by kernel_rfl) (by kernel_rfl) (fun _ _ _ h => h) (Or.inl ⟨by rfl, ?_⟩) ?_
      rotate_left
      · intro w; go_simp; try with_reducible rfl
      try simp only [Act.put, List.setIfInBounds_toArray, List.set_cons_zero, List.set_cons_succ]
      refine wpAny_ready (rs := [5]) (by kernel_rfl) (by simp) ?_
      refine AllReady.cons (o := ⟨some 8, _, _, _, _, none⟩) rfl (fun K hK => ?_) AllReady.nil
      go_simp
      refine (sclone_any a.t _ hst hst2).mono ?_
      rintro e w5 ⟨rfl, hB5⟩
      replace b0 := b0.below hB5
      replace b1 := b1.below hB5
      replace hB := hB.trans (hB5.mono hB.size)
      clear hB5
      refine hK _ _ ?_
      clear hK K
      try simp only [Act.put, List.setIfInBounds_toArray, List.set_cons_zero, List.set_cons_succ]
      refine wpAny_ready (rs := [8]) (by kernel_rfl) (by simp) ?_
      refine AllReady.cons (o := ⟨some 11, _, _, _, _, none⟩) rfl (fun K hK => ?_) AllReady.nil
      go_simp
      have hva8 := hva.below hB
      refine (bclone_any a.b F _ _ hva8 hab).mono ?_
      rintro e w8 ⟨v8, rfl, ho8, hB8⟩
      obtain ⟨A8, c8, rfl⟩ := own_shape8 ho8
      have hw8 : ∀ y, (Value.slice A8 a.b.length c8).ownBlock = some y → g + 1 < y := fun y e => by have := (ho8.lt y e).1; have := b1.lt; omega
      replace ho8 := own_weak (base' := w.heap.size) ho8 hB.size
      replace b0 := b0.below hB8
      replace b1 := b1.below hB8
      replace hB := hB.trans (hB8.mono hB.size)
      clear hB8 hva8
      refine hK _ _ ?_
      clear hK K
      try simp only [Act.put, List.setIfInBounds_toArray, List.set_cons_zero, List.set_cons_succ]
      refine wpAny_ready (rs := [10]) (by kernel_rfl) (by simp) ?_
      refine AllReady.cons (o := ⟨none, .store 9 (.tmp 12) (.tmp 5), _, _, _, none⟩) rfl (fun K hK => ?_) AllReady.nil
      refine step_st1 9 (.tmp 12) (.tmp 5) (by rfl) (by rfl) (by rfl) (f := 1) (by rfl) (v := .string a.n) (by rfl) b0 (by simp [apL]) sizeStr rfl rfl ?_
      intro w10 hb10 hG10
      replace ho8 := own_keep10 ho8 (fun k hk e => hG10.block k hk (fun e2 => by injection e2 with e2; have := hw8 k e; omega))
      replace b1 := b1.keep (hG10.block _ b1.lt (by intro e; injection e with e; omega))
      replace hB := hB.grown hG10 hB.size (fun k hk => by injection hk with hk; omega)
      replace b0 : Blk w10 g 60 (apL a (.slice Aa a.b.length ca)) := hb10
      clear hb10 hG10
      refine hK _ _ ?_
      clear hK K
      try simp only [Act.put, List.setIfInBounds_toArray, List.set_cons_zero, List.set_cons_succ]
      refine wpAny_take (i := 11) (oi := ⟨some 13, _, _, _, _, none⟩) (v := ?_) rfl (by kernel_rfl) (by kernel_rfl) (by kernel_rfl) (fun _ _ _ h => h) (Or.inl ⟨by rfl, ?_⟩) ?_
      rotate_left
      · intro w; go_simp; try with_reducible rfl
      try simp only [Act.put, List.setIfInBounds_toArray, List.set_cons_zero, List.set_cons_succ]
      refine wpAny_ready (rs := [12]) (by kernel_rfl) (by simp) ?_
      refine AllReady.cons (o := ⟨none, .store 9 (.tmp 13) (.tmp 8), _, _, _, none⟩) rfl (fun K hK => ?_) AllReady.nil
      refine step_st1 9 (.tmp 13) (.tmp 8) (by rfl) (by rfl) (by rfl) (f := 2) (by rfl) (v := .string a.t) (by rfl) b0 (by simp [apL]) sizeStr rfl rfl ?_
      intro w12 hb12 hG12
      replace ho8 := own_keep10 ho8 (fun k hk e => hG12.block k hk (fun e2 => by injection e2 with e2; have := hw8 k e; omega))
      replace b1 := b1.keep (hG12.block _ b1.lt (by intro e; injection e with e; omega))
      replace hB := hB.grown hG12 hB.size (fun k hk => by injection hk with hk; omega)
      replace b0 : Blk w12 g 60 (apL a (.slice Aa a.b.length ca)) := hb12
      clear hb12 hG12
      refine hK _ _ ?_
      clear hK K
      try simp only [Act.put, List.setIfInBounds_toArray, List.set_cons_zero, List.set_cons_succ]
      refine wpAny_take (i := 13) (oi := ⟨some 14, _, _, _, _, none⟩) (v := ?_) rfl (by kernel_rfl) (by kernel_rfl) (by kernel_rfl) (fun _ _ _ h => h) (Or.inl ⟨by rfl, ?_⟩) ?_
      rotate_left
      · intro w; go_simp; try with_reducible rfl
      try simp only [Act.put, List.setIfInBounds_toArray, List.set_cons_zero, List.set_cons_succ]
      refine wpAny_ready (rs := [14]) (by kernel_rfl) (by simp) ?_
      refine AllReady.cons (o := ⟨none, .store 22 (.tmp 14) (.tmp 11), _, _, _, none⟩) rfl (fun K hK => ?_) AllReady.nil
      refine step_st1 22 (.tmp 14) (.tmp 11) (by rfl) (by rfl) (by rfl) (f := 3) (by rfl) (v := .slice A8 a.b.length c8) (by rfl) b0 (by simp [apL]) sizeSlB rfl rfl ?_
      intro w14 hb14 hG14
      replace ho8 := own_keep10 ho8 (fun k hk e => hG14.block k hk (fun e2 => by injection e2 with e2; have := hw8 k e; omega))
      replace b1 := b1.keep (hG14.block _ b1.lt (by intro e; injection e with e; omega))
      replace hB := hB.grown hG14 hB.size (fun k hk => by injection hk with hk; omega)
      replace b0 : Blk w14 g 60 (apL a (.slice A8 a.b.length c8)) := hb14
      clear hb14 hG14
      refine hK _ _ ?_
      clear hK K
      try simp only [Act.put, List.setIfInBounds_toArray, List.set_cons_zero, List.set_cons_succ]
      refine wpAny_done (by kernel_rfl) ?_ _
      refine NoPanic.normal ?_
      clear hva
      go_wp2_with (first | (refine wp_ld 60 (.tmp 1) rfl rfl rfl b0.whole Tryd.underlying60 rfl sizeTh ?_) | (refine wp_st 60 (.tmp 2) (.tmp 15) rfl rfl rfl (f := 0) rfl (l := apL a (.slice A8 a.b.length c8)) rfl b1 (by simp [zPe, apL]) sizeTh (one_ap _ _ _ _) ?_; intro w17 hb17 hG17))
      have hb17 : Blk w17 (g + 1) 60 (apL a (.slice A8 a.b.length c8)) := hb17
      have hB17 := hB.grown hG17 hB.size (fun k hk => by injection hk with hk; omega)
      have ho17 := own_keep10 ho8 (fun k hk e => hG17.block k hk (fun e2 => by injection e2 with e2; have := hw8 k e; omega))
      refine ret_cell rfl rfl hb17.whole Tryd.underlying60 rfl sizeTh rfl ?_
      exact ⟨_, rfl, ho17, hB17⟩
    refine AllReady.cons (o := ⟨some 7, .load 9 (.tmp 6), _, _, _, none⟩) rfl (fun K hK => ?_) AllReady.nil
    refine step_ld1 9 (.tmp 6) (by rfl) (by rfl) (by rfl) (b0.cellAt 2 _ rfl) Tryd.isAgg9 ?_
    refine hK _ _ ?_
    clear hK K
    try simp only [Act.put, List.setIfInBounds_toArray, List.set_cons_zero, List.set_cons_succ]
    refine wpAny_ready (rs := [2]) (by kernel_rfl) (by simp) ?_
    refine AllReady.cons (o := ⟨some 5, _, _, _, _, none⟩) rfl (fun K hK => ?_) AllReady.nil
    go_simp
    refine (sclone_any a.n _ hsn hsn2).mono ?_
    rintro e w2 ⟨rfl, hB2⟩
    replace b0 := b0.below hB2
    replace b1 := b1.below hB2
    replace hB := hB.trans (hB2.mono hB.size)
    clear hB2
    refine hK _ _ ?_
    clear hK K
    try simp only [Act.put, List.setIfInBounds_toArray, List.set_cons_zero, List.set_cons_succ]
    refine wpAny_take (i := 9) (oi := ⟨some 12, _, _, _, _, none⟩) (v := ?_) rfl (by kernel_rfl) (by kernel_rfl) (by kernel_rfl) (fun _ _ _ h => h) (Or.inl ⟨by rfl, ?_⟩) ?_
    rotate_left
    · intro w; go_simp; try with_reducible rfl
    try simp only [Act.put, List.setIfInBounds_toArray, List.set_cons_zero, List.set_cons_succ]
    refine wpAny_ready (rs := [5]) (by kernel_rfl) (by simp) ?_
    refine AllReady.cons (o := ⟨some 8, _, _, _, _, none⟩) rfl (fun K hK => ?_) AllReady.nil
    go_simp
    refine (sclone_any a.t _ hst hst2).mono ?_
    rintro e w5 ⟨rfl, hB5⟩
    replace b0 := b0.below hB5
    replace b1 := b1.below hB5
    replace hB := hB.trans (hB5.mono hB.size)
    clear hB5
    refine hK _ _ ?_
    clear hK K
    try simp only [Act.put, List.setIfInBounds_toArray, List.set_cons_zero, List.set_cons_succ]
    refine wpAny_ready (rs := [8]) (by kernel_rfl) (by simp) ?_
    refine AllReady.cons (o := ⟨some 11, _, _, _, _, none⟩) rfl (fun K hK => ?_) AllReady.nil
    go_simp
    have hva8 := hva.below hB
    refine (bclone_any a.b F _ _ hva8 hab).mono ?_
    rintro e w8 ⟨v8, rfl, ho8, hB8⟩
    obtain ⟨A8, c8, rfl⟩ := own_shape8 ho8
    have hw8 : ∀ y, (Value.slice A8 a.b.length c8).ownBlock = some y → g + 1 < y := fun y e => by have := (ho8.lt y e).1; have := b1.lt; omega
    replace ho8 := own_weak (base' := w.heap.size) ho8 hB.size
    replace b0 := b0.below hB8
    replace b1 := b1.below hB8
    replace hB := hB.trans (hB8.mono hB.size)
    clear hB8 hva8
    refine hK _ _ ?_
    clear hK K
    try simp only [Act.put, List.setIfInBounds_toArray, List.set_cons_zero, List.set_cons_succ]
    refine wpAny_ready (rs := [10]) (by kernel_rfl) (by simp) ?_
    refine AllReady.cons (o := ⟨none, .store 9 (.tmp 12) (.tmp 5), _, _, _, none⟩) rfl (fun K hK => ?_) AllReady.nil
    refine step_st1 9 (.tmp 12) (.tmp 5) (by rfl) (by rfl) (by rfl) (f := 1) (by rfl) (v := .string a.n) (by rfl) b0 (by simp [apL]) sizeStr rfl rfl ?_
    intro w10 hb10 hG10
    replace ho8 := own_keep10 ho8 (fun k hk e => hG10.block k hk (fun e2 => by injection e2 with e2; have := hw8 k e; omega))
    replace b1 := b1.keep (hG10.block _ b1.lt (by intro e; injection e with e; omega))
    replace hB := hB.grown hG10 hB.size (fun k hk => by injection hk with hk; omega)
    replace b0 : Blk w10 g 60 (apL a (.slice Aa a.b.length ca)) := hb10
    clear hb10 hG10
    refine hK _ _ ?_
    clear hK K
    try simp only [Act.put, List.setIfInBounds_toArray, List.set_cons_zero, List.set_cons_succ]
    refine wpAny_take (i := 11) (oi := ⟨some 13, _, _, _, _, none⟩) (v := ?_) rfl (by kernel_rfl) (by kernel_rfl) (by kernel_rfl) (fun _ _ _ h => h) (Or.inl ⟨by rfl, ?_⟩) ?_
    rotate_left
    · intro w; go_simp; try with_reducible rfl
    try simp only [Act.put, List.setIfInBounds_toArray, List.set_cons_zero, List.set_cons_succ]
    refine wpAny_ready (rs := [12]) (by kernel_rfl) (by simp) ?_
    refine AllReady.cons (o := ⟨none, .store 9 (.tmp 13) (.tmp 8), _, _, _, none⟩) rfl (fun K hK => ?_) AllReady.nil
    refine step_st1 9 (.tmp 13) (.tmp 8) (by rfl) (by rfl) (by rfl) (f := 2) (by rfl) (v := .string a.t) (by rfl) b0 (by simp [apL]) sizeStr rfl rfl ?_
    intro w12 hb12 hG12
    replace ho8 := own_keep10 ho8 (fun k hk e => hG12.block k hk (fun e2 => by injection e2 with e2; have := hw8 k e; omega))
    replace b1 := b1.keep (hG12.block _ b1.lt (by intro e; injection e with e; omega))
    replace hB := hB.grown hG12 hB.size (fun k hk => by injection hk with hk; omega)
    replace b0 : Blk w12 g 60 (apL a (.slice Aa a.b.length ca)) := hb12
    clear hb12 hG12
    refine hK _ _ ?_
    clear hK K
    try simp only [Act.put, List.setIfInBounds_toArray, List.set_cons_zero, List.set_cons_succ]
    refine wpAny_take (i := 13) (oi := ⟨some 14, _, _, _, _, none⟩) (v := ?_) rfl (by kernel_rfl) (by kernel_rfl) (by kernel_rfl) (fun _ _ _ h => h) (Or.inl ⟨by rfl, ?_⟩) ?_
    rotate_left
    · intro w; go_simp; try with_reducible rfl
    try simp only [Act.put, List.setIfInBounds_toArray, List.set_cons_zero, List.set_cons_succ]
    refine wpAny_ready (rs := [14]) (by kernel_rfl) (by simp) ?_
    refine AllReady.cons (o := ⟨none, .store 22 (.tmp 14) (.tmp 11), _, _, _, none⟩) rfl (fun K hK => ?_) AllReady.nil
    refine step_st1 22 (.tmp 14) (.tmp 11) (by rfl) (by rfl) (by rfl) (f := 3) (by rfl) (v := .slice A8 a.b.length c8) (by rfl) b0 (by simp [apL]) sizeSlB rfl rfl ?_
    intro w14 hb14 hG14
    replace ho8 := own_keep10 ho8 (fun k hk e => hG14.block k hk (fun e2 => by injection e2 with e2; have := hw8 k e; omega))
    replace b1 := b1.keep (hG14.block _ b1.lt (by intro e; injection e with e; omega))
    replace hB := hB.grown hG14 hB.size (fun k hk => by injection hk with hk; omega)
    replace b0 : Blk w14 g 60 (apL a (.slice A8 a.b.length c8)) := hb14
    clear hb14 hG14
    refine hK _ _ ?_
    clear hK K
    try simp only [Act.put, List.setIfInBounds_toArray, List.set_cons_zero, List.set_cons_succ]
    refine wpAny_done (by kernel_rfl) ?_ _
    refine NoPanic.normal ?_
    clear hva
    go_wp2_with (first | (refine wp_ld 60 (.tmp 1) rfl rfl rfl b0.whole Tryd.underlying60 rfl sizeTh ?_) | (refine wp_st 60 (.tmp 2) (.tmp 15) rfl rfl rfl (f := 0) rfl (l := apL a (.slice A8 a.b.length c8)) rfl b1 (by simp [zPe, apL]) sizeTh (one_ap _ _ _ _) ?_; intro w17 hb17 hG17))
    have hb17 : Blk w17 (g + 1) 60 (apL a (.slice A8 a.b.length c8)) := hb17
    have hB17 := hB.grown hG17 hB.size (fun k hk => by injection hk with hk; omega)
    have ho17 := own_keep10 ho8 (fun k hk e => hG17.block k hk (fun e2 => by injection e2 with e2; have := hw8 k e; omega))
    refine ret_cell rfl rfl hb17.whole Tryd.underlying60 rfl sizeTh rfl ?_
    exact ⟨_, rfl, ho17, hB17⟩
  refine AllReady.cons (o := ⟨some 7, .load 9 (.tmp 6), _, _, _, none⟩) rfl (fun K hK => ?_) ?_
  · refine step_ld1 9 (.tmp 6) (by rfl) (by rfl) (by rfl) (b0.cellAt 2 _ rfl) Tryd.isAgg9 ?_
    refine hK _ _ ?_
    clear hK K
    try simp only [Act.put, List.setIfInBounds_toArray, List.set_cons_zero, List.set_cons_succ]
    refine wpAny_ready (rs := [1, 7]) (by kernel_rfl) (by simp) ?_
    refine AllReady.cons (o := ⟨some 4, .load 9 (.tmp 3), _, _, _, none⟩) rfl (fun K hK => ?_) ?_
    · refine step_ld1 9 (.tmp 3) (by rfl) (by rfl) (by rfl) (b0.cellAt 1 _ rfl) Tryd.isAgg9 ?_
      refine hK _ _ ?_
      clear hK K
      try simp only [Act.put, List.setIfInBounds_toArray, List.set_cons_zero, List.set_cons_succ]
      refine wpAny_ready (rs := [2, 7]) (by kernel_rfl) (by simp) ?_
      refine AllReady.cons (o := ⟨some 5, _, _, _, _, none⟩) rfl (fun K hK => ?_) ?_
      · go_simp
        refine (sclone_any a.n _ hsn hsn2).mono ?_
        rintro e w2 ⟨rfl, hB2⟩
        replace b0 := b0.below hB2
        replace b1 := b1.below hB2
        replace hB := hB.trans (hB2.mono hB.size)
        clear hB2
        refine hK _ _ ?_
        clear hK K
        try simp only [Act.put, List.setIfInBounds_toArray, List.set_cons_zero, List.set_cons_succ]
        refine wpAny_ready (rs := [5, 7]) (by kernel_rfl) (by simp) ?_
        refine AllReady.cons (o := ⟨some 8, _, _, _, _, none⟩) rfl (fun K hK => ?_) ?_
        · go_simp
          refine (sclone_any a.t _ hst hst2).mono ?_
          rintro e w5 ⟨rfl, hB5⟩
          replace b0 := b0.below hB5
          replace b1 := b1.below hB5
          replace hB := hB.trans (hB5.mono hB.size)
          clear hB5
          refine hK _ _ ?_
          clear hK K
          try simp only [Act.put, List.setIfInBounds_toArray, List.set_cons_zero, List.set_cons_succ]
          refine wpAny_ready (rs := [7]) (by kernel_rfl) (by simp) ?_
          refine AllReady.cons (o := ⟨some 10, .load 22 (.tmp 9), _, _, _, none⟩) rfl (fun K hK => ?_) AllReady.nil
          refine step_ld1 22 (.tmp 9) (by rfl) (by rfl) (by rfl) (b0.cellAt 3 _ rfl) Tryd.isAgg22 ?_
          refine hK _ _ ?_
          clear hK K
          try simp only [Act.put, List.setIfInBounds_toArray, List.set_cons_zero, List.set_cons_succ]
          refine wpAny_take (i := 9) (oi := ⟨some 12, _, _, _, _, none⟩) (v := ?_) rfl (by kernel_rfl) (by kernel_rfl) (by kernel_rfl) (fun _ _ _ h => h) (Or.inl ⟨by rfl, ?_⟩) ?_
          rotate_left
          · intro w; go_simp; try with_reducible rfl
          try simp only [Act.put, List.setIfInBounds_toArray, List.set_cons_zero, List.set_cons_succ]
          refine wpAny_ready (rs := [8]) (by kernel_rfl) (by simp) ?_
          refine AllReady.cons (o := ⟨some 11, _, _, _, _, none⟩) rfl (fun K hK => ?_) AllReady.nil
          go_simp
          have hva8 := hva.below hB
          refine (bclone_any a.b F _ _ hva8 hab).mono ?_
          rintro e w8 ⟨v8, rfl, ho8, hB8⟩
          obtain ⟨A8, c8, rfl⟩ := own_shape8 ho8
          have hw8 : ∀ y, (Value.slice A8 a.b.length c8).ownBlock = some y → g + 1 < y := fun y e => by have := (ho8.lt y e).1; have := b1.lt; omega
          replace ho8 := own_weak (base' := w.heap.size) ho8 hB.size
          replace b0 := b0.below hB8
          replace b1 := b1.below hB8
          replace hB := hB.trans (hB8.mono hB.size)
          clear hB8 hva8
          refine hK _ _ ?_
          clear hK K
          try simp only [Act.put, List.setIfInBounds_toArray, List.set_cons_zero, List.set_cons_succ]
          refine wpAny_ready (rs := [10]) (by kernel_rfl) (by simp) ?_
          refine AllReady.cons (o := ⟨none, .store 9 (.tmp 12) (.tmp 5), _, _, _, none⟩) rfl (fun K hK => ?_) AllReady.nil
          refine step_st1 9 (.tmp 12) (.tmp 5) (by rfl) (by rfl) (by rfl) (f := 1) (by rfl) (v := .string a.n) (by rfl) b0 (by simp [apL]) sizeStr rfl rfl ?_
          intro w10 hb10 hG10
          replace ho8 := own_keep10 ho8 (fun k hk e => hG10.block k hk (fun e2 => by injection e2 with e2; have := hw8 k e; omega))
          replace b1 := b1.keep (hG10.block _ b1.lt (by intro e; injection e with e; omega))
          replace hB := hB.grown hG10 hB.size (fun k hk => by injection hk with hk; omega)
          replace b0 : Blk w10 g 60 (apL a (.slice Aa a.b.length ca)) := hb10
          clear hb10 hG10
          refine hK _ _ ?_
          clear hK K
          try simp only [Act.put, List.setIfInBounds_toArray, List.set_cons_zero, List.set_cons_succ]
          refine wpAny_take (i := 11) (oi := ⟨some 13, _, _, _, _, none⟩) (v := ?_) rfl (by kernel_rfl) (by kernel_rfl) (by kernel_rfl) (fun _ _ _ h => h) (Or.inl ⟨by rfl, ?_⟩) ?_
          rotate_left
          · intro w; go_simp; try with_reducible rfl
          try simp only [Act.put, List.setIfInBounds_toArray, List.set_cons_zero, List.set_cons_succ]
          refine wpAny_ready (rs := [12]) (by kernel_rfl) (by simp) ?_
          refine AllReady.cons (o := ⟨none, .store 9 (.tmp 13) (.tmp 8), _, _, _, none⟩) rfl (fun K hK => ?_) AllReady.nil
          refine step_st1 9 (.tmp 13) (.tmp 8) (by rfl) (by rfl) (by rfl) (f := 2) (by rfl) (v := .string a.t) (by rfl) b0 (by simp [apL]) sizeStr rfl rfl ?_
          intro w12 hb12 hG12
          replace ho8 := own_keep10 ho8 (fun k hk e => hG12.block k hk (fun e2 => by injection e2 with e2; have := hw8 k e; omega))
          replace b1 := b1.keep (hG12.block _ b1.lt (by intro e; injection e with e; omega))
          replace hB := hB.grown hG12 hB.size (fun k hk => by injection hk with hk; omega)
          replace b0 : Blk w12 g 60 (apL a (.slice Aa a.b.length ca)) := hb12
          clear hb12 hG12
          refine hK _ _ ?_
          clear hK K
          try simp only [Act.put, List.setIfInBounds_toArray, List.set_cons_zero, List.set_cons_succ]
          refine wpAny_take (i := 13) (oi := ⟨some 14, _, _, _, _, none⟩) (v := ?_) rfl (by kernel_rfl) (by kernel_rfl) (by kernel_rfl) (fun _ _ _ h => h) (Or.inl ⟨by rfl, ?_⟩) ?_
          rotate_left
          · intro w; go_simp; try with_reducible rfl
          try simp only [Act.put, List.setIfInBounds_toArray, List.set_cons_zero, List.set_cons_succ]
          refine wpAny_ready (rs := [14]) (by kernel_rfl) (by simp) ?_
          refine AllReady.cons (o := ⟨none, .store 22 (.tmp 14) (.tmp 11), _, _, _, none⟩) rfl (fun K hK => ?_) AllReady.nil
          refine step_st1 22 (.tmp 14) (.tmp 11) (by rfl) (by rfl) (by rfl) (f := 3) (by rfl) (v := .slice A8 a.b.length c8) (by rfl) b0 (by simp [apL]) sizeSlB rfl rfl ?_
          intro w14 hb14 hG14
          replace ho8 := own_keep10 ho8 (fun k hk e => hG14.block k hk (fun e2 => by injection e2 with e2; have := hw8 k e; omega))
          replace b1 := b1.keep (hG14.block _ b1.lt (by intro e; injection e with e; omega))
          replace hB := hB.grown hG14 hB.size (fun k hk => by injection hk with hk; omega)
          replace b0 : Blk w14 g 60 (apL a (.slice A8 a.b.length c8)) := hb14
          clear hb14 hG14
          refine hK _ _ ?_
          clear hK K
          try simp only [Act.put, List.setIfInBounds_toArray, List.set_cons_zero, List.set_cons_succ]
          refine wpAny_done (by kernel_rfl) ?_ _
          refine NoPanic.normal ?_
          clear hva
          go_wp2_with (first | (refine wp_ld 60 (.tmp 1) rfl rfl rfl b0.whole Tryd.underlying60 rfl sizeTh ?_) | (refine wp_st 60 (.tmp 2) (.tmp 15) rfl rfl rfl (f := 0) rfl (l := apL a (.slice A8 a.b.length c8)) rfl b1 (by simp [zPe, apL]) sizeTh (one_ap _ _ _ _) ?_; intro w17 hb17 hG17))
          have hb17 : Blk w17 (g + 1) 60 (apL a (.slice A8 a.b.length c8)) := hb17
          have hB17 := hB.grown hG17 hB.size (fun k hk => by injection hk with hk; omega)
          have ho17 := own_keep10 ho8 (fun k hk e => hG17.block k hk (fun e2 => by injection e2 with e2; have := hw8 k e; omega))
          refine ret_cell rfl rfl hb17.whole Tryd.underlying60 rfl sizeTh rfl ?_
          exact ⟨_, rfl, ho17, hB17⟩
        refine AllReady.cons (o := ⟨some 10, .load 22 (.tmp 9), _, _, _, none⟩) rfl (fun K hK => ?_) AllReady.nil
        refine step_ld1 22 (.tmp 9) (by rfl) (by rfl) (by rfl) (b0.cellAt 3 _ rfl) Tryd.isAgg22 ?_
        refine hK _ _ ?_
        clear hK K
        try simp only [Act.put, List.setIfInBounds_toArray, List.set_cons_zero, List.set_cons_succ]
        refine wpAny_take (i := 9) (oi := ⟨some 12, _, _, _, _, none⟩) (v := ?_) rfl (by kernel_rfl) (by kernel_rfl) (by kernel_rfl) (fun _ _ _ h => h) (Or.inl ⟨by rfl, ?_⟩) ?_
        rotate_left
        · intro w; go_simp; try with_reducible rfl
        try simp only [Act.put, List.setIfInBounds_toArray, List.set_cons_zero, List.set_cons_succ]
        refine wpAny_ready (rs := [5]) (by kernel_rfl) (by simp) ?_
        refine AllReady.cons (o := ⟨some 8, _, _, _, _, none⟩) rfl (fun K hK => ?_) AllReady.nil
        go_simp
        refine (sclone_any a.t _ hst hst2).mono ?_
        rintro e w5 ⟨rfl, hB5⟩
        replace b0 := b0.below hB5
        replace b1 := b1.below hB5
        replace hB := hB.trans (hB5.mono hB.size)
        clear hB5
        refine hK _ _ ?_
        clear hK K
        try simp only [Act.put, List.setIfInBounds_toArray, List.set_cons_zero, List.set_cons_succ]
        refine wpAny_ready (rs := [8]) (by kernel_rfl) (by simp) ?_
        refine AllReady.cons (o := ⟨some 11, _, _, _, _, none⟩) rfl (fun K hK => ?_) AllReady.nil
        go_simp
        have hva8 := hva.below hB
        refine (bclone_any a.b F _ _ hva8 hab).mono ?_
        rintro e w8 ⟨v8, rfl, ho8, hB8⟩
        obtain ⟨A8, c8, rfl⟩ := own_shape8 ho8
        have hw8 : ∀ y, (Value.slice A8 a.b.length c8).ownBlock = some y → g + 1 < y := fun y e => by have := (ho8.lt y e).1; have := b1.lt; omega
        replace ho8 := own_weak (base' := w.heap.size) ho8 hB.size
        replace b0 := b0.below hB8
        replace b1 := b1.below hB8
        replace hB := hB.trans (hB8.mono hB.size)
        clear hB8 hva8
        refine hK _ _ ?_
        clear hK K
        try simp only [Act.put, List.setIfInBounds_toArray, List.set_cons_zero, List.set_cons_succ]
        refine wpAny_ready (rs := [10]) (by kernel_rfl) (by simp) ?_
        refine AllReady.cons (o := ⟨none, .store 9 (.tmp 12) (.tmp 5), _, _, _, none⟩) rfl (fun K hK => ?_) AllReady.nil
        refine step_st1 9 (.tmp 12) (.tmp 5) (by rfl) (by rfl) (by rfl) (f := 1) (by rfl) (v := .string a.n) (by rfl) b0 (by simp [apL]) sizeStr rfl rfl ?_
        intro w10 hb10 hG10
        replace ho8 := own_keep10 ho8 (fun k hk e => hG10.block k hk (fun e2 => by injection e2 with e2; have := hw8 k e; omega))
        replace b1 := b1.keep (hG10.block _ b1.lt (by intro e; injection e with e; omega))
        replace hB := hB.grown hG10 hB.size (fun k hk => by injection hk with hk; omega)
        replace b0 : Blk w10 g 60 (apL a (.slice Aa a.b.length ca)) := hb10
        clear hb10 hG10
        refine hK _ _ ?_
        clear hK K
        try simp only [Act.put, List.setIfInBounds_toArray, List.set_cons_zero, List.set_cons_succ]
        refine wpAny_take (i := 11) (oi := ⟨some 13, _, _, _, _, none⟩) (v := ?_) rfl (by kernel_rfl) (by kernel_rfl) (by kernel_rfl) (fun _ _ _ h => h) (Or.inl ⟨by rfl, ?_⟩) ?_
        rotate_left
        · intro w; go_simp; try with_reducible rfl
        try simp only [Act.put, List.setIfInBounds_toArray, List.set_cons_zero, List.set_cons_succ]
        refine wpAny_ready (rs := [12]) (by kernel_rfl) (by simp) ?_
        refine AllReady.cons (o := ⟨none, .store 9 (.tmp 13) (.tmp 8), _, _, _, none⟩) rfl (fun K hK => ?_) AllReady.nil
        refine step_st1 9 (.tmp 13) (.tmp 8) (by rfl) (by rfl) (by rfl) (f := 2) (by rfl) (v := .string a.t) (by rfl) b0 (by simp [apL]) sizeStr rfl rfl ?_
        intro w12 hb12 hG12
        replace ho8 := own_keep10 ho8 (fun k hk e => hG12.block k hk (fun e2 => by injection e2 with e2; have := hw8 k e; omega))
        replace b1 := b1.keep (hG12.block _ b1.lt (by intro e; injection e with e; omega))
        replace hB := hB.grown hG12 hB.size (fun k hk => by injection hk with hk; omega)
        replace b0 : Blk w12 g 60 (apL a (.slice Aa a.b.length ca)) := hb12
        clear hb12 hG12
        refine hK _ _ ?_
        clear hK K
        try simp only [Act.put, List.setIfInBounds_toArray, List.set_cons_zero, List.set_cons_succ]
        refine wpAny_take (i := 13) (oi := ⟨some 14, _, _, _, _, none⟩) (v := ?_) rfl (by kernel_rfl) (by kernel_rfl) (by kernel_rfl) (fun _ _ _ h => h) (Or.inl ⟨by rfl, ?_⟩) ?_
        rotate_left
        · intro w; go_simp; try with_reducible rfl
        try simp only [Act.put, List.setIfInBounds_toArray, List.set_cons_zero, List.set_cons_succ]
        refine wpAny_ready (rs := [14]) (by kernel_rfl) (by simp) ?_
        refine AllReady.cons (o := ⟨none, .store 22 (.tmp 14) (.tmp 11), _, _, _, none⟩) rfl (fun K hK => ?_) AllReady.nil
        refine step_st1 22 (.tmp 14) (.tmp 11) (by rfl) (by rfl) (by rfl) (f := 3) (by rfl) (v := .slice A8 a.b.length c8) (by rfl) b0 (by simp [apL]) sizeSlB rfl rfl ?_
        intro w14 hb14 hG14
        replace ho8 := own_keep10 ho8 (fun k hk e => hG14.block k hk (fun e2 => by injection e2 with e2; have := hw8 k e; omega))
        replace b1 := b1.keep (hG14.block _ b1.lt (by intro e; injection e with e; omega))
        replace hB := hB.grown hG14 hB.size (fun k hk => by injection hk with hk; omega)
        replace b0 : Blk w14 g 60 (apL a (.slice A8 a.b.length c8)) := hb14
        clear hb14 hG14
        refine hK _ _ ?_
        clear hK K
        try simp only [Act.put, List.setIfInBounds_toArray, List.set_cons_zero, List.set_cons_succ]
        refine wpAny_done (by kernel_rfl) ?_ _
        refine NoPanic.normal ?_
        clear hva
        go_wp2_with (first | (refine wp_ld 60 (.tmp 1) rfl rfl rfl b0.whole Tryd.underlying60 rfl sizeTh ?_) | (refine wp_st 60 (.tmp 2) (.tmp 15) rfl rfl rfl (f := 0) rfl (l := apL a (.slice A8 a.b.length c8)) rfl b1 (by simp [zPe, apL]) sizeTh (one_ap _ _ _ _) ?_; intro w17 hb17 hG17))
        have hb17 : Blk w17 (g + 1) 60 (apL a (.slice A8 a.b.length c8)) := hb17
        have hB17 := hB.grown hG17 hB.size (fun k hk => by injection hk with hk; omega)
        have ho17 := own_keep10 ho8 (fun k hk e => hG17.block k hk (fun e2 => by injection e2 with e2; have := hw8 k e; omega))
        refine ret_cell rfl rfl hb17.whole Tryd.underlying60 rfl sizeTh rfl ?_
        exact ⟨_, rfl, ho17, hB17⟩
      refine AllReady.cons (o := ⟨some 10, .load 22 (.tmp 9), _, _, _, none⟩) rfl (fun K hK => ?_) AllReady.nil
      refine step_ld1 22 (.tmp 9) (by rfl) (by rfl) (by rfl) (b0.cellAt 3 _ rfl) Tryd.isAgg22 ?_
      refine hK _ _ ?_
      clear hK K
      try simp only [Act.put, List.setIfInBounds_toArray, List.set_cons_zero, List.set_cons_succ]
      refine wpAny_ready (rs := [2]) (by kernel_rfl) (by simp) ?_
      refine AllReady.cons (o := ⟨some 5, _, _, _, _, none⟩) rfl (fun K hK => ?_) AllReady.nil
      go_simp
      refine (sclone_any a.n _ hsn hsn2).mono ?_
      rintro e w2 ⟨rfl, hB2⟩
      replace b0 := b0.below hB2
      replace b1 := b1.below hB2
      replace hB := hB.trans (hB2.mono hB.size)
      clear hB2
      refine hK _ _ ?_
      clear hK K
      try simp only [Act.put, List.setIfInBounds_toArray, List.set_cons_zero, List.set_cons_succ]
      refine wpAny_take (i := 9) (oi := ⟨some 12, _, _, _, _, none⟩) (v := ?_) rfl (by kernel_rfl) (by kernel_rfl) (by kernel_rfl) (fun _ _ _ h => h) (Or.inl ⟨by rfl, ?_⟩) ?_
      rotate_left
      · intro w; go_simp; try with_reducible rfl
      try simp only [Act.put, List.setIfInBounds_toArray, List.set_cons_zero, List.set_cons_succ]
      refine wpAny_ready (rs := [5]) (by kernel_rfl) (by simp) ?_
      refine AllReady.cons (o := ⟨some 8, _, _, _, _, none⟩) rfl (fun K hK => ?_) AllReady.nil
      go_simp
      refine (sclone_any a.t _ hst hst2).mono ?_
      rintro e w5 ⟨rfl, hB5⟩
      replace b0 := b0.below hB5
      replace b1 := b1.below hB5
      replace hB := hB.trans (hB5.mono hB.size)
      clear hB5
      refine hK _ _ ?_
      clear hK K
      try simp only [Act.put, List.setIfInBounds_toArray, List.set_cons_zero, List.set_cons_succ]
      refine wpAny_ready (rs := [8]) (by kernel_rfl) (by simp) ?_
      refine AllReady.cons (o := ⟨some 11, _, _, _, _, none⟩) rfl (fun K hK => ?_) AllReady.nil
      go_simp
      have hva8 := hva.below hB
      refine (bclone_any a.b F _ _ hva8 hab).mono ?_
      rintro e w8 ⟨v8, rfl, ho8, hB8⟩
      obtain ⟨A8, c8, rfl⟩ := own_shape8 ho8
      have hw8 : ∀ y, (Value.slice A8 a.b.length c8).ownBlock = some y → g + 1 < y := fun y e => by have := (ho8.lt y e).1; have := b1.lt; omega
      replace ho8 := own_weak (base' := w.heap.size) ho8 hB.size
      replace b0 := b0.below hB8
      replace b1 := b1.below hB8
      replace hB := hB.trans (hB8.mono hB.size)
      clear hB8 hva8
      refine hK _ _ ?_
      clear hK K
      try simp only [Act.put, List.setIfInBounds_toArray, List.set_cons_zero, List.set_cons_succ]
      refine wpAny_ready (rs := [10]) (by kernel_rfl) (by simp) ?_
      refine AllReady.cons (o := ⟨none, .store 9 (.tmp 12) (.tmp 5), _, _, _, none⟩) rfl (fun K hK => ?_) AllReady.nil
      refine step_st1 9 (.tmp 12) (.tmp 5) (by rfl) (by rfl) (by rfl) (f := 1) (by rfl) (v := .string a.n) (by rfl) b0 (by simp [apL]) sizeStr rfl rfl ?_
      intro w10 hb10 hG10
      replace ho8 := own_keep10 ho8 (fun k hk e => hG10.block k hk (fun e2 => by injection e2 with e2; have := hw8 k e; omega))
      replace b1 := b1.keep (hG10.block _ b1.lt (by intro e; injection e with e; omega))
      replace hB := hB.grown hG10 hB.size (fun k hk => by injection hk with hk; omega)
      replace b0 : Blk w10 g 60 (apL a (.slice Aa a.b.length ca)) := hb10
      clear hb10 hG10
      refine hK _ _ ?_
      clear hK K
      try simp only [Act.put, List.setIfInBounds_toArray, List.set_cons_zero, List.set_cons_succ]
      refine wpAny_take (i := 11) (oi := ⟨some 13, _, _, _, _, none⟩) (v := ?_) rfl (by kernel_rfl) (by kernel_rfl) (by kernel_rfl) (fun _ _ _ h => h) (Or.inl ⟨by rfl, ?_⟩) ?_
      rotate_left
      · intro w; go_simp; try with_reducible rfl
      try simp only [Act.put, List.setIfInBounds_toArray, List.set_cons_zero, List.set_cons_succ]
      refine wpAny_ready (rs := [12]) (by kernel_rfl) (by simp) ?_
      refine AllReady.cons (o := ⟨none, .store 9 (.tmp 13) (.tmp 8), _, _, _, none⟩) rfl (fun K hK => ?_) AllReady.nil
      refine step_st1 9 (.tmp 13) (.tmp 8) (by rfl) (by rfl) (by rfl) (f := 2) (by rfl) (v := .string a.t) (by rfl) b0 (by simp [apL]) sizeStr rfl rfl ?_
      intro w12 hb12 hG12
      replace ho8 := own_keep10 ho8 (fun k hk e => hG12.block k hk (fun e2 => by injection e2 with e2; have := hw8 k e; omega))
      replace b1 := b1.keep (hG12.block _ b1.lt (by intro e; injection e with e; omega))
      replace hB := hB.grown hG12 hB.size (fun k hk => by injection hk with hk; omega)
      replace b0 : Blk w12 g 60 (apL a (.slice Aa a.b.length ca)) := hb12
      clear hb12 hG12
      refine hK _ _ ?_
      clear hK K
      try simp only [Act.put, List.setIfInBounds_toArray, List.set_cons_zero, List.set_cons_succ]
      refine wpAny_take (i := 13) (oi := ⟨some 14, _, _, _, _, none⟩) (v := ?_) rfl (by kernel_rfl) (by kernel_rfl) (by kernel_rfl) (fun _ _ _ h => h) (Or.inl ⟨by rfl, ?_⟩) ?_
      rotate_left
      · intro w; go_simp; try with_reducible rfl
      try simp only [Act.put, List.setIfInBounds_toArray, List.set_cons_zero, List.set_cons_succ]
      refine wpAny_ready (rs := [14]) (by kernel_rfl) (by simp) ?_
      refine AllReady.cons (o := ⟨none, .store 22 (.tmp 14) (.tmp 11), _, _, _, none⟩) rfl (fun K hK => ?_) AllReady.nil
      refine step_st1 22 (.tmp 14) (.tmp 11) (by rfl) (by rfl) (by rfl) (f := 3) (by rfl) (v := .slice A8 a.b.length c8) (by rfl) b0 (by simp [apL]) sizeSlB rfl rfl ?_
      intro w14 hb14 hG14
      replace ho8 := own_keep10 ho8 (fun k hk e => hG14.block k hk (fun e2 => by injection e2 with e2; have := hw8 k e; omega))
      replace b1 := b1.keep (hG14.block _ b1.lt (by intro e; injection e with e; omega))
      replace hB := hB.grown hG14 hB.size (fun k hk => by injection hk with hk; omega)
      replace b0 : Blk w14 g 60 (apL a (.slice A8 a.b.length c8)) := hb14
      clear hb14 hG14
      refine hK _ _ ?_
      clear hK K
      try simp only [Act.put, List.setIfInBounds_toArray, List.set_cons_zero, List.set_cons_succ]
      refine wpAny_done (by kernel_rfl) ?_ _
      refine NoPanic.normal ?_
      clear hva
      go_wp2_with (first | (refine wp_ld 60 (.tmp 1) rfl rfl rfl b0.whole Tryd.underlying60 rfl sizeTh ?_) | (refine wp_st 60 (.tmp 2) (.tmp 15) rfl rfl rfl (f := 0) rfl (l := apL a (.slice A8 a.b.length c8)) rfl b1 (by simp [zPe, apL]) sizeTh (one_ap _ _ _ _) ?_; intro w17 hb17 hG17))
      have hb17 : Blk w17 (g + 1) 60 (apL a (.slice A8 a.b.length c8)) := hb17
      have hB17 := hB.grown hG17 hB.size (fun k hk => by injection hk with hk; omega)
      have ho17 := own_keep10 ho8 (fun k hk e => hG17.block k hk (fun e2 => by injection e2 with e2; have := hw8 k e; omega))
      refine ret_cell rfl rfl hb17.whole Tryd.underlying60 rfl sizeTh rfl ?_
      exact ⟨_, rfl, ho17, hB17⟩
    refine AllReady.cons (o := ⟨some 10, .load 22 (.tmp 9), _, _, _, none⟩) rfl (fun K hK => ?_) AllReady.nil
    refine step_ld1 22 (.tmp 9) (by rfl) (by rfl) (by rfl) (b0.cellAt 3 _ rfl) Tryd.isAgg22 ?_
    refine hK _ _ ?_
    clear hK K
    try simp only [Act.put, List.setIfInBounds_toArray, List.set_cons_zero, List.set_cons_succ]
    refine wpAny_ready (rs := [1]) (by kernel_rfl) (by simp) ?_
    refine AllReady.cons (o := ⟨some 4, .load 9 (.tmp 3), _, _, _, none⟩) rfl (fun K hK => ?_) AllReady.nil
    refine step_ld1 9 (.tmp 3) (by rfl) (by rfl) (by rfl) (b0.cellAt 1 _ rfl) Tryd.isAgg9 ?_
    refine hK _ _ ?_
    clear hK K
    try simp only [Act.put, List.setIfInBounds_toArray, List.set_cons_zero, List.set_cons_succ]
    refine wpAny_ready (rs := [2]) (by kernel_rfl) (by simp) ?_
    refine AllReady.cons (o := ⟨some 5, _, _, _, _, none⟩) rfl (fun K hK => ?_) AllReady.nil
    go_simp
    refine (sclone_any a.n _ hsn hsn2).mono ?_
    rintro e w2 ⟨rfl, hB2⟩
    replace b0 := b0.below hB2
    replace b1 := b1.below hB2
    replace hB := hB.trans (hB2.mono hB.size)
    clear hB2
    refine hK _ _ ?_
    clear hK K
    try simp only [Act.put, List.setIfInBounds_toArray, List.set_cons_zero, List.set_cons_succ]
    refine wpAny_take (i := 9) (oi := ⟨some 12, _, _, _, _, none⟩) (v := ?_) rfl (by kernel_rfl) (by kernel_rfl) (by kernel_rfl) (fun _ _ _ h => h) (Or.inl ⟨by rfl, ?_⟩) ?_
    rotate_left
    · intro w; go_simp; try with_reducible rfl
    try simp only [Act.put, List.setIfInBounds_toArray, List.set_cons_zero, List.set_cons_succ]
    refine wpAny_ready (rs := [5]) (by kernel_rfl) (by simp) ?_
    refine AllReady.cons (o := ⟨some 8, _, _, _, _, none⟩) rfl (fun K hK => ?_) AllReady.nil
    go_simp
    refine (sclone_any a.t _ hst hst2).mono ?_
    rintro e w5 ⟨rfl, hB5⟩
    replace b0 := b0.below hB5
    replace b1 := b1.below hB5
    replace hB := hB.trans (hB5.mono hB.size)
    clear hB5
    refine hK _ _ ?_
    clear hK K
    try simp only [Act.put, List.setIfInBounds_toArray, List.set_cons_zero, List.set_cons_succ]
    refine wpAny_ready (rs := [8]) (by kernel_rfl) (by simp) ?_
    refine AllReady.cons (o := ⟨some 11, _, _, _, _, none⟩) rfl (fun K hK => ?_) AllReady.nil
    go_simp
    have hva8 := hva.below hB
    refine (bclone_any a.b F _ _ hva8 hab).mono ?_
    rintro e w8 ⟨v8, rfl, ho8, hB8⟩
    obtain ⟨A8, c8, rfl⟩ := own_shape8 ho8
    have hw8 : ∀ y, (Value.slice A8 a.b.length c8).ownBlock = some y → g + 1 < y := fun y e => by have := (ho8.lt y e).1; have := b1.lt; omega
    replace ho8 := own_weak (base' := w.heap.size) ho8 hB.size
    replace b0 := b0.below hB8
    replace b1 := b1.below hB8
    replace hB := hB.trans (hB8.mono hB.size)
    clear hB8 hva8
    refine hK _ _ ?_
    clear hK K
    try simp only [Act.put, List.setIfInBounds_toArray, List.set_cons_zero, List.set_cons_succ]
    refine wpAny_ready (rs := [10]) (by kernel_rfl) (by simp) ?_
    refine AllReady.cons (o := ⟨none, .store 9 (.tmp 12) (.tmp 5), _, _, _, none⟩) rfl (fun K hK => ?_) AllReady.nil
    refine step_st1 9 (.tmp 12) (.tmp 5) (by rfl) (by rfl) (by rfl) (f := 1) (by rfl) (v := .string a.n) (by rfl) b0 (by simp [apL]) sizeStr rfl rfl ?_
    intro w10 hb10 hG10
    replace ho8 := own_keep10 ho8 (fun k hk e => hG10.block k hk (fun e2 => by injection e2 with e2; have := hw8 k e; omega))
    replace b1 := b1.keep (hG10.block _ b1.lt (by intro e; injection e with e; omega))
    replace hB := hB.grown hG10 hB.size (fun k hk => by injection hk with hk; omega)
    replace b0 : Blk w10 g 60 (apL a (.slice Aa a.b.length ca)) := hb10
    clear hb10 hG10
    refine hK _ _ ?_
    clear hK K
    try simp only [Act.put, List.setIfInBounds_toArray, List.set_cons_zero, List.set_cons_succ]
    refine wpAny_take (i := 11) (oi := ⟨some 13, _, _, _, _, none⟩) (v := ?_) rfl (by kernel_rfl) (by kernel_rfl) (by kernel_rfl) (fun _ _ _ h => h) (Or.inl ⟨by rfl, ?_⟩) ?_
    rotate_left
    · intro w; go_simp; try with_reducible rfl
    try simp only [Act.put, List.setIfInBounds_toArray, List.set_cons_zero, List.set_cons_succ]
    refine wpAny_ready (rs := [12]) (by kernel_rfl) (by simp) ?_
    refine AllReady.cons (o := ⟨none, .store 9 (.tmp 13) (.tmp 8), _, _, _, none⟩) rfl (fun K hK => ?_) AllReady.nil
    refine step_st1 9 (.tmp 13) (.tmp 8) (by rfl) (by rfl) (by rfl) (f := 2) (by rfl) (v := .string a.t) (by rfl) b0 (by simp [apL]) sizeStr rfl rfl ?_
    intro w12 hb12 hG12
    replace ho8 := own_keep10 ho8 (fun k hk e => hG12.block k hk (fun e2 => by injection e2 with e2; have := hw8 k e; omega))
    replace b1 := b1.keep (hG12.block _ b1.lt (by intro e; injection e with e; omega))
    replace hB := hB.grown hG12 hB.size (fun k hk => by injection hk with hk; omega)
    replace b0 : Blk w12 g 60 (apL a (.slice Aa a.b.length ca)) := hb12
    clear hb12 hG12
    refine hK _ _ ?_
    clear hK K
    try simp only [Act.put, List.setIfInBounds_toArray, List.set_cons_zero, List.set_cons_succ]
    refine wpAny_take (i := 13) (oi := ⟨some 14, _, _, _, _, none⟩) (v := ?_) rfl (by kernel_rfl) (by kernel_rfl) (by kernel_rfl) (fun _ _ _ h => h) (Or.inl ⟨by rfl, ?_⟩) ?_
    rotate_left
    · intro w; go_simp; try with_reducible rfl
    try simp only [Act.put, List.setIfInBounds_toArray, List.set_cons_zero, List.set_cons_succ]
    refine wpAny_ready (rs := [14]) (by kernel_rfl) (by simp) ?_
    refine AllReady.cons (o := ⟨none, .store 22 (.tmp 14) (.tmp 11), _, _, _, none⟩) rfl (fun K hK => ?_) AllReady.nil
    refine step_st1 22 (.tmp 14) (.tmp 11) (by rfl) (by rfl) (by rfl) (f := 3) (by rfl) (v := .slice A8 a.b.length c8) (by rfl) b0 (by simp [apL]) sizeSlB rfl rfl ?_
    intro w14 hb14 hG14
    replace ho8 := own_keep10 ho8 (fun k hk e => hG14.block k hk (fun e2 => by injection e2 with e2; have := hw8 k e; omega))
    replace b1 := b1.keep (hG14.block _ b1.lt (by intro e; injection e with e; omega))
    replace hB := hB.grown hG14 hB.size (fun k hk => by injection hk with hk; omega)
    replace b0 : Blk w14 g 60 (apL a (.slice A8 a.b.length c8)) := hb14
    clear hb14 hG14
    refine hK _ _ ?_
    clear hK K
    try simp only [Act.put, List.setIfInBounds_toArray, List.set_cons_zero, List.set_cons_succ]
    refine wpAny_done (by kernel_rfl) ?_ _
    refine NoPanic.normal ?_
    clear hva
    go_wp2_with (first | (refine wp_ld 60 (.tmp 1) rfl rfl rfl b0.whole Tryd.underlying60 rfl sizeTh ?_) | (refine wp_st 60 (.tmp 2) (.tmp 15) rfl rfl rfl (f := 0) rfl (l := apL a (.slice A8 a.b.length c8)) rfl b1 (by simp [zPe, apL]) sizeTh (one_ap _ _ _ _) ?_; intro w17 hb17 hG17))
    have hb17 : Blk w17 (g + 1) 60 (apL a (.slice A8 a.b.length c8)) := hb17
    have hB17 := hB.grown hG17 hB.size (fun k hk => by injection hk with hk; omega)
    have ho17 := own_keep10 ho8 (fun k hk e => hG17.block k hk (fun e2 => by injection e2 with e2; have := hw8 k e; omega))
    refine ret_cell rfl rfl hb17.whole Tryd.underlying60 rfl sizeTh rfl ?_
    exact ⟨_, rfl, ho17, hB17⟩
  refine AllReady.cons (o := ⟨some 10, .load 22 (.tmp 9), _, _, _, none⟩) rfl (fun K hK => ?_) AllReady.nil
  refine step_ld1 22 (.tmp 9) (by rfl) (by rfl) (by rfl) (b0.cellAt 3 _ rfl) Tryd.isAgg22 ?_
  refine hK _ _ ?_
  clear hK K
  try simp only [Act.put, List.setIfInBounds_toArray, List.set_cons_zero, List.set_cons_succ]
  refine wpAny_ready (rs := [1, 4]) (by kernel_rfl) (by simp) ?_
  refine AllReady.cons (o := ⟨some 4, .load 9 (.tmp 3), _, _, _, none⟩) rfl (fun K hK => ?_) ?_
  · refine step_ld1 9 (.tmp 3) (by rfl) (by rfl) (by rfl) (b0.cellAt 1 _ rfl) Tryd.isAgg9 ?_
    refine hK _ _ ?_
    clear hK K
    try simp only [Act.put, List.setIfInBounds_toArray, List.set_cons_zero, List.set_cons_succ]
    refine wpAny_ready (rs := [2, 4]) (by kernel_rfl) (by simp) ?_
    refine AllReady.cons (o := ⟨some 5, _, _, _, _, none⟩) rfl (fun K hK => ?_) ?_
    · go_simp
      refine (sclone_any a.n _ hsn hsn2).mono ?_
      rintro e w2 ⟨rfl, hB2⟩
      replace b0 := b0.below hB2
      replace b1 := b1.below hB2
      replace hB := hB.trans (hB2.mono hB.size)
      clear hB2
      refine hK _ _ ?_
      clear hK K
      try simp only [Act.put, List.setIfInBounds_toArray, List.set_cons_zero, List.set_cons_succ]
      refine wpAny_ready (rs := [4]) (by kernel_rfl) (by simp) ?_
      refine AllReady.cons (o := ⟨some 7, .load 9 (.tmp 6), _, _, _, none⟩) rfl (fun K hK => ?_) AllReady.nil
      refine step_ld1 9 (.tmp 6) (by rfl) (by rfl) (by rfl) (b0.cellAt 2 _ rfl) Tryd.isAgg9 ?_
      refine hK _ _ ?_
      clear hK K
      try simp only [Act.put, List.setIfInBounds_toArray, List.set_cons_zero, List.set_cons_succ]
      refine wpAny_take (i := 9) (oi := ⟨some 12, _, _, _, _, none⟩) (v := ?_) rfl (by kernel_rfl) (by kernel_rfl) (by kernel_rfl) (fun _ _ _ h => h) (Or.inl ⟨by rfl, ?_⟩) ?_
      rotate_left
      · intro w; go_simp; try with_reducible rfl
      try simp only [Act.put, List.setIfInBounds_toArray, List.set_cons_zero, List.set_cons_succ]
      refine wpAny_ready (rs := [5]) (by kernel_rfl) (by simp) ?_
      refine AllReady.cons (o := ⟨some 8, _, _, _, _, none⟩) rfl (fun K hK => ?_) AllReady.nil
      go_simp
      refine (sclone_any a.t _ hst hst2).mono ?_
      rintro e w5 ⟨rfl, hB5⟩
      replace b0 := b0.below hB5
      replace b1 := b1.below hB5
      replace hB := hB.trans (hB5.mono hB.size)
      clear hB5
      refine hK _ _ ?_
      clear hK K
      try simp only [Act.put, List.setIfInBounds_toArray, List.set_cons_zero, List.set_cons_succ]
      refine wpAny_ready (rs := [8]) (by kernel_rfl) (by simp) ?_
      refine AllReady.cons (o := ⟨some 11, _, _, _, _, none⟩) rfl (fun K hK => ?_) AllReady.nil
      go_simp
      have hva8 := hva.below hB
      refine (bclone_any a.b F _ _ hva8 hab).mono ?_
      rintro e w8 ⟨v8, rfl, ho8, hB8⟩
      obtain ⟨A8, c8, rfl⟩ := own_shape8 ho8
      have hw8 : ∀ y, (Value.slice A8 a.b.length c8).ownBlock = some y → g + 1 < y := fun y e => by have := (ho8.lt y e).1; have := b1.lt; omega
      replace ho8 := own_weak (base' := w.heap.size) ho8 hB.size
      replace b0 := b0.below hB8
      replace b1 := b1.below hB8
      replace hB := hB.trans (hB8.mono hB.size)
      clear hB8 hva8
      refine hK _ _ ?_
      clear hK K
      try simp only [Act.put, List.setIfInBounds_toArray, List.set_cons_zero, List.set_cons_succ]
      refine wpAny_ready (rs := [10]) (by kernel_rfl) (by simp) ?_
      refine AllReady.cons (o := ⟨none, .store 9 (.tmp 12) (.tmp 5), _, _, _, none⟩) rfl (fun K hK => ?_) AllReady.nil
      refine step_st1 9 (.tmp 12) (.tmp 5) (by rfl) (by rfl) (by rfl) (f := 1) (by rfl) (v := .string a.n) (by rfl) b0 (by simp [apL]) sizeStr rfl rfl ?_
      intro w10 hb10 hG10
      replace ho8 := own_keep10 ho8 (fun k hk e => hG10.block k hk (fun e2 => by injection e2 with e2; have := hw8 k e; omega))
      replace b1 := b1.keep (hG10.block _ b1.lt (by intro e; injection e with e; omega))
      replace hB := hB.grown hG10 hB.size (fun k hk => by injection hk with hk; omega)
      replace b0 : Blk w10 g 60 (apL a (.slice Aa a.b.length ca)) := hb10
      clear hb10 hG10
      refine hK _ _ ?_
      clear hK K
      try simp only [Act.put, List.setIfInBounds_toArray, List.set_cons_zero, List.set_cons_succ]
      refine wpAny_take (i := 11) (oi := ⟨some 13, _, _, _, _, none⟩) (v := ?_) rfl (by kernel_rfl) (by kernel_rfl) (by kernel_rfl) (fun _ _ _ h => h) (Or.inl ⟨by rfl, ?_⟩) ?_
      rotate_left
      · intro w; go_simp; try with_reducible rfl
      try simp only [Act.put, List.setIfInBounds_toArray, List.set_cons_zero, List.set_cons_succ]
      refine wpAny_ready (rs := [12]) (by kernel_rfl) (by simp) ?_
      refine AllReady.cons (o := ⟨none, .store 9 (.tmp 13) (.tmp 8), _, _, _, none⟩) rfl (fun K hK => ?_) AllReady.nil
      refine step_st1 9 (.tmp 13) (.tmp 8) (by rfl) (by rfl) (by rfl) (f := 2) (by rfl) (v := .string a.t) (by rfl) b0 (by simp [apL]) sizeStr rfl rfl ?_
      intro w12 hb12 hG12
      replace ho8 := own_keep10 ho8 (fun k hk e => hG12.block k hk (fun e2 => by injection e2 with e2; have := hw8 k e; omega))
      replace b1 := b1.keep (hG12.block _ b1.lt (by intro e; injection e with e; omega))
      replace hB := hB.grown hG12 hB.size (fun k hk => by injection hk with hk; omega)
      replace b0 : Blk w12 g 60 (apL a (.slice Aa a.b.length ca)) := hb12
      clear hb12 hG12
      refine hK _ _ ?_
      clear hK K
      try simp only [Act.put, List.setIfInBounds_toArray, List.set_cons_zero, List.set_cons_succ]
      refine wpAny_take (i := 13) (oi := ⟨some 14, _, _, _, _, none⟩) (v := ?_) rfl (by kernel_rfl) (by kernel_rfl) (by kernel_rfl) (fun _ _ _ h => h) (Or.inl ⟨by rfl, ?_⟩) ?_
      rotate_left
      · intro w; go_simp; try with_reducible rfl
      try simp only [Act.put, List.setIfInBounds_toArray, List.set_cons_zero, List.set_cons_succ]
      refine wpAny_ready (rs := [14]) (by kernel_rfl) (by simp) ?_
      refine AllReady.cons (o := ⟨none, .store 22 (.tmp 14) (.tmp 11), _, _, _, none⟩) rfl (fun K hK => ?_) AllReady.nil
      refine step_st1 22 (.tmp 14) (.tmp 11) (by rfl) (by rfl) (by rfl) (f := 3) (by rfl) (v := .slice A8 a.b.length c8) (by rfl) b0 (by simp [apL]) sizeSlB rfl rfl ?_
      intro w14 hb14 hG14
      replace ho8 := own_keep10 ho8 (fun k hk e => hG14.block k hk (fun e2 => by injection e2 with e2; have := hw8 k e; omega))
      replace b1 := b1.keep (hG14.block _ b1.lt (by intro e; injection e with e; omega))
      replace hB := hB.grown hG14 hB.size (fun k hk => by injection hk with hk; omega)
      replace b0 : Blk w14 g 60 (apL a (.slice A8 a.b.length c8)) := hb14
      clear hb14 hG14
      refine hK _ _ ?_
      clear hK K
      try simp only [Act.put, List.setIfInBounds_toArray, List.set_cons_zero, List.set_cons_succ]
      refine wpAny_done (by kernel_rfl) ?_ _
      refine NoPanic.normal ?_
      clear hva
      go_wp2_with (first | (refine wp_ld 60 (.tmp 1) rfl rfl rfl b0.whole Tryd.underlying60 rfl sizeTh ?_) | (refine wp_st 60 (.tmp 2) (.tmp 15) rfl rfl rfl (f := 0) rfl (l := apL a (.slice A8 a.b.length c8)) rfl b1 (by simp [zPe, apL]) sizeTh (one_ap _ _ _ _) ?_; intro w17 hb17 hG17))
      have hb17 : Blk w17 (g + 1) 60 (apL a (.slice A8 a.b.length c8)) := hb17
      have hB17 := hB.grown hG17 hB.size (fun k hk => by injection hk with hk; omega)
      have ho17 := own_keep10 ho8 (fun k hk e => hG17.block k hk (fun e2 => by injection e2 with e2; have := hw8 k e; omega))
      refine ret_cell rfl rfl hb17.whole Tryd.underlying60 rfl sizeTh rfl ?_
      exact ⟨_, rfl, ho17, hB17⟩
    refine AllReady.cons (o := ⟨some 7, .load 9 (.tmp 6), _, _, _, none⟩) rfl (fun K hK => ?_) AllReady.nil
    refine step_ld1 9 (.tmp 6) (by rfl) (by rfl) (by rfl) (b0.cellAt 2 _ rfl) Tryd.isAgg9 ?_
    refine hK _ _ ?_
    clear hK K
    try simp only [Act.put, List.setIfInBounds_toArray, List.set_cons_zero, List.set_cons_succ]
    refine wpAny_ready (rs := [2]) (by kernel_rfl) (by simp) ?_
    refine AllReady.cons (o := ⟨some 5, _, _, _, _, none⟩) rfl (fun K hK => ?_) AllReady.nil
    go_simp
    refine (sclone_any a.n _ hsn hsn2).mono ?_
    rintro e w2 ⟨rfl, hB2⟩
    replace b0 := b0.below hB2
    replace b1 := b1.below hB2
    replace hB := hB.trans (hB2.mono hB.size)
    clear hB2
    refine hK _ _ ?_
    clear hK K
    try simp only [Act.put, List.setIfInBounds_toArray, List.set_cons_zero, List.set_cons_succ]
    refine wpAny_take (i := 9) (oi := ⟨some 12, _, _, _, _, none⟩) (v := ?_) rfl (by kernel_rfl) (by kernel_rfl) (by kernel_rfl) (fun _ _ _ h => h) (Or.inl ⟨by rfl, ?_⟩) ?_
    rotate_left
    · intro w; go_simp; try with_reducible rfl
    try simp only [Act.put, List.setIfInBounds_toArray, List.set_cons_zero, List.set_cons_succ]
    refine wpAny_ready (rs := [5]) (by kernel_rfl) (by simp) ?_
    refine AllReady.cons (o := ⟨some 8, _, _, _, _, none⟩) rfl (fun K hK => ?_) AllReady.nil
    go_simp
    refine (sclone_any a.t _ hst hst2).mono ?_
    rintro e w5 ⟨rfl, hB5⟩
    replace b0 := b0.below hB5
    replace b1 := b1.below hB5
    replace hB := hB.trans (hB5.mono hB.size)
    clear hB5
    refine hK _ _ ?_
    clear hK K
    try simp only [Act.put, List.setIfInBounds_toArray, List.set_cons_zero, List.set_cons_succ]
    refine wpAny_ready (rs := [8]) (by kernel_rfl) (by simp) ?_
    refine AllReady.cons (o := ⟨some 11, _, _, _, _, none⟩) rfl (fun K hK => ?_) AllReady.nil
    go_simp
    have hva8 := hva.below hB
    refine (bclone_any a.b F _ _ hva8 hab).mono ?_
    rintro e w8 ⟨v8, rfl, ho8, hB8⟩
    obtain ⟨A8, c8, rfl⟩ := own_shape8 ho8
    have hw8 : ∀ y, (Value.slice A8 a.b.length c8).ownBlock = some y → g + 1 < y := fun y e => by have := (ho8.lt y e).1; have := b1.lt; omega
    replace ho8 := own_weak (base' := w.heap.size) ho8 hB.size
    replace b0 := b0.below hB8
    replace b1 := b1.below hB8
    replace hB := hB.trans (hB8.mono hB.size)
    clear hB8 hva8
    refine hK _ _ ?_
    clear hK K
    try simp only [Act.put, List.setIfInBounds_toArray, List.set_cons_zero, List.set_cons_succ]
    refine wpAny_ready (rs := [10]) (by kernel_rfl) (by simp) ?_
    refine AllReady.cons (o := ⟨none, .store 9 (.tmp 12) (.tmp 5), _, _, _, none⟩) rfl (fun K hK => ?_) AllReady.nil
    refine step_st1 9 (.tmp 12) (.tmp 5) (by rfl) (by rfl) (by rfl) (f := 1) (by rfl) (v := .string a.n) (by rfl) b0 (by simp [apL]) sizeStr rfl rfl ?_
    intro w10 hb10 hG10
    replace ho8 := own_keep10 ho8 (fun k hk e => hG10.block k hk (fun e2 => by injection e2 with e2; have := hw8 k e; omega))
    replace b1 := b1.keep (hG10.block _ b1.lt (by intro e; injection e with e; omega))
    replace hB := hB.grown hG10 hB.size (fun k hk => by injection hk with hk; omega)
    replace b0 : Blk w10 g 60 (apL a (.slice Aa a.b.length ca)) := hb10
    clear hb10 hG10
    refine hK _ _ ?_
    clear hK K
    try simp only [Act.put, List.setIfInBounds_toArray, List.set_cons_zero, List.set_cons_succ]
    refine wpAny_take (i := 11) (oi := ⟨some 13, _, _, _, _, none⟩) (v := ?_) rfl (by kernel_rfl) (by kernel_rfl) (by kernel_rfl) (fun _ _ _ h => h) (Or.inl ⟨by rfl, ?_⟩) ?_
    rotate_left
    · intro w; go_simp; try with_reducible rfl
    try simp only [Act.put, List.setIfInBounds_toArray, List.set_cons_zero, List.set_cons_succ]
    refine wpAny_ready (rs := [12]) (by kernel_rfl) (by simp) ?_
    refine AllReady.cons (o := ⟨none, .store 9 (.tmp 13) (.tmp 8), _, _, _, none⟩) rfl (fun K hK => ?_) AllReady.nil
    refine step_st1 9 (.tmp 13) (.tmp 8) (by rfl) (by rfl) (by rfl) (f := 2) (by rfl) (v := .string a.t) (by rfl) b0 (by simp [apL]) sizeStr rfl rfl ?_
    intro w12 hb12 hG12
    replace ho8 := own_keep10 ho8 (fun k hk e => hG12.block k hk (fun e2 => by injection e2 with e2; have := hw8 k e; omega))
    replace b1 := b1.keep (hG12.block _ b1.lt (by intro e; injection e with e; omega))
    replace hB := hB.grown hG12 hB.size (fun k hk => by injection hk with hk; omega)
    replace b0 : Blk w12 g 60 (apL a (.slice Aa a.b.length ca)) := hb12
    clear hb12 hG12
    refine hK _ _ ?_
    clear hK K
    try simp only [Act.put, List.setIfInBounds_toArray, List.set_cons_zero, List.set_cons_succ]
    refine wpAny_take (i := 13) (oi := ⟨some 14, _, _, _, _, none⟩) (v := ?_) rfl (by kernel_rfl) (by kernel_rfl) (by kernel_rfl) (fun _ _ _ h => h) (Or.inl ⟨by rfl, ?_⟩) ?_
    rotate_left
    · intro w; go_simp; try with_reducible rfl
    try simp only [Act.put, List.setIfInBounds_toArray, List.set_cons_zero, List.set_cons_succ]
    refine wpAny_ready (rs := [14]) (by kernel_rfl) (by simp) ?_
    refine AllReady.cons (o := ⟨none, .store 22 (.tmp 14) (.tmp 11), _, _, _, none⟩) rfl (fun K hK => ?_) AllReady.nil
    refine step_st1 22 (.tmp 14) (.tmp 11) (by rfl) (by rfl) (by rfl) (f := 3) (by rfl) (v := .slice A8 a.b.length c8) (by rfl) b0 (by simp [apL]) sizeSlB rfl rfl ?_
    intro w14 hb14 hG14
    replace ho8 := own_keep10 ho8 (fun k hk e => hG14.block k hk (fun e2 => by injection e2 with e2; have := hw8 k e; omega))
    replace b1 := b1.keep (hG14.block _ b1.lt (by intro e; injection e with e; omega))
    replace hB := hB.grown hG14 hB.size (fun k hk => by injection hk with hk; omega)
    replace b0 : Blk w14 g 60 (apL a (.slice A8 a.b.length c8)) := hb14
    clear hb14 hG14
    refine hK _ _ ?_
    clear hK K
    try simp only [Act.put, List.setIfInBounds_toArray, List.set_cons_zero, List.set_cons_succ]
    refine wpAny_done (by kernel_rfl) ?_ _
    refine NoPanic.normal ?_
    clear hva
    go_wp2_with (first | (refine wp_ld 60 (.tmp 1) rfl rfl rfl b0.whole Tryd.underlying60 rfl sizeTh ?_) | (refine wp_st 60 (.tmp 2) (.tmp 15) rfl rfl rfl (f := 0) rfl (l := apL a (.slice A8 a.b.length c8)) rfl b1 (by simp [zPe, apL]) sizeTh (one_ap _ _ _ _) ?_; intro w17 hb17 hG17))
    have hb17 : Blk w17 (g + 1) 60 (apL a (.slice A8 a.b.length c8)) := hb17
    have hB17 := hB.grown hG17 hB.size (fun k hk => by injection hk with hk; omega)
    have ho17 := own_keep10 ho8 (fun k hk e => hG17.block k hk (fun e2 => by injection e2 with e2; have := hw8 k e; omega))
    refine ret_cell rfl rfl hb17.whole Tryd.underlying60 rfl sizeTh rfl ?_
    exact ⟨_, rfl, ho17, hB17⟩
  refine AllReady.cons (o := ⟨some 7, .load 9 (.tmp 6), _, _, _, none⟩) rfl (fun K hK => ?_) AllReady.nil
  refine step_ld1 9 (.tmp 6) (by rfl) (by rfl) (by rfl) (b0.cellAt 2 _ rfl) Tryd.isAgg9 ?_
  refine hK _ _ ?_
  clear hK K
  try simp only [Act.put, List.setIfInBounds_toArray, List.set_cons_zero, List.set_cons_succ]
  refine wpAny_ready (rs := [1]) (by kernel_rfl) (by simp) ?_
  refine AllReady.cons (o := ⟨some 4, .load 9 (.tmp 3), _, _, _, none⟩) rfl (fun K hK => ?_) AllReady.nil
  refine step_ld1 9 (.tmp 3) (by rfl) (by rfl) (by rfl) (b0.cellAt 1 _ rfl) Tryd.isAgg9 ?_
  refine hK _ _ ?_
  clear hK K
  try simp only [Act.put, List.setIfInBounds_toArray, List.set_cons_zero, List.set_cons_succ]
  refine wpAny_ready (rs := [2]) (by kernel_rfl) (by simp) ?_
  refine AllReady.cons (o := ⟨some 5, _, _, _, _, none⟩) rfl (fun K hK => ?_) AllReady.nil
  go_simp
  refine (sclone_any a.n _ hsn hsn2).mono ?_
  rintro e w2 ⟨rfl, hB2⟩
  replace b0 := b0.below hB2
  replace b1 := b1.below hB2
  replace hB := hB.trans (hB2.mono hB.size)
  clear hB2
  refine hK _ _ ?_
  clear hK K
  try simp only [Act.put, List.setIfInBounds_toArray, List.set_cons_zero, List.set_cons_succ]
  refine wpAny_take (i := 9) (oi := ⟨some 12, _, _, _, _, none⟩) (v := ?_) rfl (by kernel_rfl) (by kernel_rfl) (by kernel_rfl) (fun _ _ _ h => h) (Or.inl ⟨by rfl, ?_⟩) ?_
  rotate_left
  · intro w; go_simp; try with_reducible rfl
  try simp only [Act.put, List.setIfInBounds_toArray, List.set_cons_zero, List.set_cons_succ]
  refine wpAny_ready (rs := [5]) (by kernel_rfl) (by simp) ?_
  refine AllReady.cons (o := ⟨some 8, _, _, _, _, none⟩) rfl (fun K hK => ?_) AllReady.nil
  go_simp
  refine (sclone_any a.t _ hst hst2).mono ?_
  rintro e w5 ⟨rfl, hB5⟩
  replace b0 := b0.below hB5
  replace b1 := b1.below hB5
  replace hB := hB.trans (hB5.mono hB.size)
  clear hB5
  refine hK _ _ ?_
  clear hK K
  try simp only [Act.put, List.setIfInBounds_toArray, List.set_cons_zero, List.set_cons_succ]
  refine wpAny_ready (rs := [8]) (by kernel_rfl) (by simp) ?_
  refine AllReady.cons (o := ⟨some 11, _, _, _, _, none⟩) rfl (fun K hK => ?_) AllReady.nil
  go_simp
  have hva8 := hva.below hB
  refine (bclone_any a.b F _ _ hva8 hab).mono ?_
  rintro e w8 ⟨v8, rfl, ho8, hB8⟩
  obtain ⟨A8, c8, rfl⟩ := own_shape8 ho8
  have hw8 : ∀ y, (Value.slice A8 a.b.length c8).ownBlock = some y → g + 1 < y := fun y e => by have := (ho8.lt y e).1; have := b1.lt; omega
  replace ho8 := own_weak (base' := w.heap.size) ho8 hB.size
  replace b0 := b0.below hB8
  replace b1 := b1.below hB8
  replace hB := hB.trans (hB8.mono hB.size)
  clear hB8 hva8
  refine hK _ _ ?_
  clear hK K
  try simp only [Act.put, List.setIfInBounds_toArray, List.set_cons_zero, List.set_cons_succ]
  refine wpAny_ready (rs := [10]) (by kernel_rfl) (by simp) ?_
  refine AllReady.cons (o := ⟨none, .store 9 (.tmp 12) (.tmp 5), _, _, _, none⟩) rfl (fun K hK => ?_) AllReady.nil
  refine step_st1 9 (.tmp 12) (.tmp 5) (by rfl) (by rfl) (by rfl) (f := 1) (by rfl) (v := .string a.n) (by rfl) b0 (by simp [apL]) sizeStr rfl rfl ?_
  intro w10 hb10 hG10
  replace ho8 := own_keep10 ho8 (fun k hk e => hG10.block k hk (fun e2 => by injection e2 with e2; have := hw8 k e; omega))
  replace b1 := b1.keep (hG10.block _ b1.lt (by intro e; injection e with e; omega))
  replace hB := hB.grown hG10 hB.size (fun k hk => by injection hk with hk; omega)
  replace b0 : Blk w10 g 60 (apL a (.slice Aa a.b.length ca)) := hb10
  clear hb10 hG10
  refine hK _ _ ?_
  clear hK K
  try simp only [Act.put, List.setIfInBounds_toArray, List.set_cons_zero, List.set_cons_succ]
  refine wpAny_take (i := 11) (oi := ⟨some 13, _, _, _, _, none⟩) (v := ?_) rfl (by kernel_rfl) (by kernel_rfl) (by kernel_rfl) (fun _ _ _ h => h) (Or.inl ⟨by rfl, ?_⟩) ?_
  rotate_left
  · intro w; go_simp; try with_reducible rfl
  try simp only [Act.put, List.setIfInBounds_toArray, List.set_cons_zero, List.set_cons_succ]
  refine wpAny_ready (rs := [12]) (by kernel_rfl) (by simp) ?_
  refine AllReady.cons (o := ⟨none, .store 9 (.tmp 13) (.tmp 8), _, _, _, none⟩) rfl (fun K hK => ?_) AllReady.nil
  refine step_st1 9 (.tmp 13) (.tmp 8) (by rfl) (by rfl) (by rfl) (f := 2) (by rfl) (v := .string a.t) (by rfl) b0 (by simp [apL]) sizeStr rfl rfl ?_
  intro w12 hb12 hG12
  replace ho8 := own_keep10 ho8 (fun k hk e => hG12.block k hk (fun e2 => by injection e2 with e2; have := hw8 k e; omega))
  replace b1 := b1.keep (hG12.block _ b1.lt (by intro e; injection e with e; omega))
  replace hB := hB.grown hG12 hB.size (fun k hk => by injection hk with hk; omega)
  replace b0 : Blk w12 g 60 (apL a (.slice Aa a.b.length ca)) := hb12
  clear hb12 hG12
  refine hK _ _ ?_
  clear hK K
  try simp only [Act.put, List.setIfInBounds_toArray, List.set_cons_zero, List.set_cons_succ]
  refine wpAny_take (i := 13) (oi := ⟨some 14, _, _, _, _, none⟩) (v := ?_) rfl (by kernel_rfl) (by kernel_rfl) (by kernel_rfl) (fun _ _ _ h => h) (Or.inl ⟨by rfl, ?_⟩) ?_
  rotate_left
  · intro w; go_simp; try with_reducible rfl
  try simp only [Act.put, List.setIfInBounds_toArray, List.set_cons_zero, List.set_cons_succ]
  refine wpAny_ready (rs := [14]) (by kernel_rfl) (by simp) ?_
  refine AllReady.cons (o := ⟨none, .store 22 (.tmp 14) (.tmp 11), _, _, _, none⟩) rfl (fun K hK => ?_) AllReady.nil
  refine step_st1 22 (.tmp 14) (.tmp 11) (by rfl) (by rfl) (by rfl) (f := 3) (by rfl) (v := .slice A8 a.b.length c8) (by rfl) b0 (by simp [apL]) sizeSlB rfl rfl ?_
  intro w14 hb14 hG14
  replace ho8 := own_keep10 ho8 (fun k hk e => hG14.block k hk (fun e2 => by injection e2 with e2; have := hw8 k e; omega))
  replace b1 := b1.keep (hG14.block _ b1.lt (by intro e; injection e with e; omega))
  replace hB := hB.grown hG14 hB.size (fun k hk => by injection hk with hk; omega)
  replace b0 : Blk w14 g 60 (apL a (.slice A8 a.b.length c8)) := hb14
  clear hb14 hG14
  refine hK _ _ ?_
  clear hK K
  try simp only [Act.put, List.setIfInBounds_toArray, List.set_cons_zero, List.set_cons_succ]
  refine wpAny_done (by kernel_rfl) ?_ _
  refine NoPanic.normal ?_
  clear hva
  go_wp2_with (first | (refine wp_ld 60 (.tmp 1) rfl rfl rfl b0.whole Tryd.underlying60 rfl sizeTh ?_) | (refine wp_st 60 (.tmp 2) (.tmp 15) rfl rfl rfl (f := 0) rfl (l := apL a (.slice A8 a.b.length c8)) rfl b1 (by simp [zPe, apL]) sizeTh (one_ap _ _ _ _) ?_; intro w17 hb17 hG17))
  have hb17 : Blk w17 (g + 1) 60 (apL a (.slice A8 a.b.length c8)) := hb17
  have hB17 := hB.grown hG17 hB.size (fun k hk => by injection hk with hk; omega)
  have ho17 := own_keep10 ho8 (fun k hk e => hG17.block k hk (fun e2 => by injection e2 with e2; have := hw8 k e; omega))
  refine ret_cell rfl rfl hb17.whole Tryd.underlying60 rfl sizeTh rfl ?_
  exact ⟨_, rfl, ho17, hB17⟩
end Go.Proofs.YtijhicfegbaadaaDoor
