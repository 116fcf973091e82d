/- DX: layer 10: the law DiskActs. -/
import Derived.Test.YtjaiffefgjopmaaDJ
import Derived.Deep.RegionHeld3
import Derived.Deep.DeepCutAuto
namespace Go.Proofs.Ytjaiffefgjopmaa
open Go.RowKit Go.V
set_option maxRecDepth 100000 in
set_option maxHeartbeats 16000000 in
theorem diskActs_law (x : Int) (l : List Ac) (vl : Value) (F : Nat → Prop) (w : World) (hl : Rd w F vl (wds acD l)) (hin : ∀ a ∈ l, AcIn a) :
    Calls Try.prog 3 #[.int .i64 x, vl] w fun e w' => e = .returned (.bool true) ∧ Below w.heap.size w w' := by
  have hl := hl.weak (F' := fun b => b < w.heap.size) (fun b hb _ => hb)
  obtain ⟨A, c, rfl, hc1, hc2⟩ := wds_shape hl
  have hbs : ∀ W : World, (Instr.buildSlice 29 0 #[]).run Try.prog W = .ok (.slice (some ⟨W.heap.size, 0, none⟩) 0 0) (W.alloc (.cells #[] 5)) := fun W => by kernel_rfl
  have Hbs := hid hbs
  clear hbs
  go_enter Try.func3, Try.ntmps3
  go_wp2_with (fail)
  refine (wakes10_any _).mono ?_
  rintro e w1 ⟨rfl, hB1⟩
  go_wp2_with (fail)
  refine (long_any10 l _ _ _ (hl.below hB1)).mono ?_
  rintro e w2 ⟨rfl, rfl⟩
  cases hlo : longF l with
  | true =>
    go_wp2
    go_ret
    exact ⟨rfl, hB1⟩
  | false =>
  obtain ⟨hl80, hla⟩ := longF_out hlo
  clear hlo
  go_wp2_with (fail)
  refine (new10_any x _).mono ?_
  rintro e w3 ⟨v0, M0, F0, rfl, hX0, hB3, hMF⟩
  go_wp2_with (fail)
  refine (new_any10 M0 x _).mono ?_
  rintro e w4 ⟨rfl, hR0, hB4⟩
  have hJ0 := JH.start hB1 hB3 hX0 hMF hR0 hB4
  have hI0 := InvD.new x
  have Hla := hid hla
  have Hin := hid hin
  obtain ⟨D0, hD0⟩ : ∃ D : Dk, D = ⟨roomF x, [], [], -1, false⟩ := ⟨_, rfl⟩
  rw [← hD0] at hJ0 hI0
  obtain ⟨p, hp⟩ : ∃ p, p = w3.heap.size := ⟨_, rfl⟩
  rw [← hp] at hJ0 ⊢
  clear hD0 hMF hB3 hla hin hp hX0 hR0 hB4 hB1
  go_wp2
  go_loopw [5, 21] (fun dv iv wr => ∃ (i : Nat) (r : Option Nat) (M F' : Nat → Prop) (D : Dk), i ≤ l.length ∧ iv = .int .i64 i ∧ JH w wr dv p r M F' D D ∧ InvD x i D) (fun _ i _ => l.length - (intOf i).toNat)
  case atStart => exact ⟨0, none, M0, F0, D0, Nat.zero_le _, rfl, hJ0, hI0⟩
  case round =>
    obtain ⟨i, r, M, F', D, hi, rfl, hJ, hI⟩ := hrel
    by_cases hlt : i < l.length
    · obtain ⟨a, ha⟩ : ∃ a, l[i]? = some a := ⟨_, List.getElem?_eq_getElem hlt⟩
      have hIlt : (i : Int) < (l.length : Int) := by omega
      have hin1 : IntKind.i64.wrap ((i : Int) + 1) = (i : Int) + 1 := IntWalk.i64_in _ (by omega)
      have hlr := hl.below hJ.bel
      obtain ⟨g, off, cs, rfl, hg, hr, he⟩ := wd_el hlr ha
      obtain ⟨u, rfl, hu⟩ := ac_open he
      obtain ⟨Au, cu, rfl⟩ := hu.shape
      have hAi := Hin.out a (List.mem_of_getElem? ha)
      have hAl := (Hla.out a (List.mem_of_getElem? ha)).1
      have hAs := hAi.sm hAl
      have hAm := hAi.m
      clear ha he hAi
      go_wp2_with (first | refine wp_ixa 22 (.tmp 19) (.tmp 21) rfl rfl rfl rfl Try.underlying22 hlt sizeAc ?_ | refine wp_ld 34 (.tmp 23) rfl rfl rfl hr Try.underlying34 rfl sizeAc ?_ | refine wp_newst 34 8 (.tmp 24) rfl rfl rfl rfl rfl rfl zeroAc (l := a.l (.slice Au a.b.length cu)) rfl rfl sizeAc (one_ac a _ _ _) (by simp [Act.put]) ?_; intro w4 hx4 hB4 hs4; refine wp_stop ?_)
      have hJ4 := hJ.below hB4
      have hu4 := hu.below hB4
      obtain ⟨g8, hg8⟩ : ∃ g, g = wr.heap.size := ⟨_, rfl⟩
      have hMg : ∀ b, M b ∨ F' b → b < g8 := fun b h => by have := hJ.ix.bd b h; omega
      have hpg : p < g8 := by have := hJ.rx.lt; omega
      have hrg : ∀ b, r = some b → b < g8 := fun b e => by have := hJ.rx.row b e; omega
      have hwg : w.heap.size ≤ g8 := by have := hJ.bel.size; omega
      rw [← hg8] at hx4 ⊢
      clear hg8 hJ hu hr hlr hB4 hs4
      refine wp_go ?_
      go_wp2_with (refine wp_ld 34 (.tmp 8) rfl rfl rfl hx4.whole Try.underlying34 rfl sizeAc ?_)
      refine (right_any10 a _ _).mono ?_
      rintro e w5 ⟨rfl, hB5⟩
      have hJ5 := hJ4.below hB5
      have hu5 := hu4.below hB5
      have hx5 := hx4.below hB5
      clear hJ4 hu4 hx4 hB5
      by_cases hk : 0 ≤ a.k ∧ a.k ≤ 7
      · rw [decide_eq_true hk]
        have hI' := hI.step hAl hAm
        have hsD := hI.sm (by omega)
        have hsm := hI'.sm (by omega)
        have huq := hI'.uq
        have hDd := fun (M : Nat → Prop) W h1 h2 h3 => do_any p r M D a (.slice Au a.b.length cu) W h1 hsD h2 h3 hAs
        have hDo := fun (M F' G : Nat → Prop) v u W h1 h2 h3 => dol_any v M F' G D a u W h1 hsD hAs h2 h3 hk
        unfold DoL at hDo
        unfold DoP at hDd
        obtain ⟨R, hR⟩ : ∃ R, R = doF D a := ⟨_, rfl⟩
        rw [← hR] at hI' hDo hDd hsm huq
        have Hk := hid hk
        have HDd := hid hDd
        have HDo := hid hDo
        clear hR hk hDd hDo
        go_wp2_with (first | refine wp_ld 34 (.tmp 8) rfl rfl rfl hx5.whole Try.underlying34 rfl sizeAc ?_ | refine wp_newst 34 9 (.tmp 28) rfl rfl rfl rfl rfl rfl zeroAc (l := a.l (.slice Au a.b.length cu)) rfl rfl sizeAc (one_ac a _ _ _) (by simp [Act.put]) ?_; intro w6 hy6 hB6 hs6; refine wp_stop ?_)
        have hg9 : g8 < w5.heap.size := hx5.lt
        have hx6 := hx5.below hB6
        obtain ⟨g9, hg9e⟩ : ∃ g, g = w5.heap.size := ⟨_, rfl⟩
        rw [← hg9e] at hy6 hg9 hs6 ⊢
        have hg9l : w5.heap.size ≤ g9 := by omega
        have c3 := hx6.cellAt 3 _ rfl
        clear hg9e
        refine wp_go ?_
        go_wp2_with (refine wp_bs0 29 5 rfl rfl Hbs.out ?_; intro v7 w7 ho7 hB7; refine wp_stop ?_)
        have hu7 := (hu5.below hB6).below hB7
        have hy7 := hy6.below hB7
        have c3 := (hx6.below hB7).cellAt 3 _ rfl
        have hsr := hu7.src
        have hs7 := hB7.size
        clear hx6 hy6
        refine wp_go ?_
        go_wp2_with (refine wp_app (.tmp 29) (.tmp 31) slB rfl rfl rfl ho7 rfl hsr (oneCell_bvs _) (by simp only [maxLen]; omega) (by omega) hs7 ?_; intro v8 w8 ho8 hG8 _; refine wp_stop ?_)
        rw [List.nil_append, Nat.zero_add] at ho8
        have hB58 : Below w5.heap.size w5 w8 := (hB6.trans (hB7.mono hB6.size)).grown hG8 (by omega) (fun k hk => by have := (ho7.lt k hk).1; omega)
        have hy8 := hy7.keep (hG8.block _ hy7.lt (fun e => by have := (ho7.lt _ e.symm).1; omega))
        have hr8 := Rd.of_own ho8
        obtain ⟨Ao, co, rfl⟩ := own_shape ho8
        have hs8 := hB58.size
        clear hu7 hy7 c3 hsr ho7 hG8 hs7 hB7 ho8 hB6
        refine wp_go ?_
        go_wp2_with (refine wp_st1 29 (.tmp 33) (.tmp 32) rfl rfl rfl (f := 3) rfl (v := .slice Ao a.b.length co) rfl hy8 (by simp [Ac.l]) sizeSlB10 rfl rfl ?_; intro w9 hy9 hG9; refine wp_stop ?_)
        have hy9 : Blk w9 g9 34 (a.l (.slice Ao a.b.length co)) := hy9
        have hB59 : Below w5.heap.size w5 w9 := hB58.grown hG9 hs8 (fun k hk => by injection hk with hk; omega)
        have ho9 := hr8.keep (F' := fun b => w6.heap.size ≤ b) (fun b hb hF => ⟨hF, hG9.block b hb (fun e => by injection e with e; have h' : w6.heap.size ≤ b := hF; omega)⟩)
        have ho9 := ho9.weak (F' := fun b => g8 ≤ b ∧ w6.heap.size ≤ b ∧ b < w9.heap.size) (fun b hb h => ⟨by have h' : w6.heap.size ≤ b := h; omega, h, hb⟩)
        have hJ9 := hJ5.below hB59
        have hu9 := hu5.below hB59
        have hx9 := hx5.below hB59
        have hbm := hJ9.ix.bd
        clear hJ5 hu5 hx5 hB58 hB59 hy8 hr8 hG9
        refine wp_go ?_
        go_wp2_with (refine wp_ld 34 (.tmp 9) rfl rfl rfl hy9.whole Try.underlying34 rfl sizeAc ?_)
        refine (HDo.out M F' _ _ _ _ hJ9.ix ho9 (fun b hb => ⟨hb.2.2, fun hm => by have := hMg b (.inl hm); have := hb.1; omega⟩)).mono ?_
        rintro e w10 ⟨v10, rfl, ⟨M6, F6, hX6, hC6, hM6, hF6⟩, -⟩
        have hu := hu9.keep (F' := fun b => b < w.heap.size) (fun b hb hF => ⟨hF, hC6.block b hb (fun hm => by have h' : b < w.heap.size := hF; have := hJ9.mB b hm; omega)⟩)
        have ho := ho9.keep (F' := fun b => g8 ≤ b) (fun b hb hF => ⟨hF.1, hC6.block b hb (fun hm => by have := hMg b (.inl hm); have := hF.1; omega)⟩)
        have hx8 := hx9.keep (hC6.block _ hx9.lt (fun hm => by have := hMg _ (.inl hm); omega))
        have hx9 := hy9.keep (hC6.block _ hy9.lt (fun hm => by have := hMg _ (.inl hm); omega))
        have hJ := hJ9.did1 hX6 hC6 hM6 hF6
        have hwg9 : w.heap.size ≤ g8 := hwg
        clear hJ9 hu9 ho9 hy9 hX6 hC6 hM6 hF6 HDo
        go_upto_region 14 with (fail)
        have hBd : Below w10.heap.size w10 w10.drew := (Below.refl _ _).drew
        obtain ⟨wd, hwd⟩ : ∃ x, x = w10.drew := ⟨_, rfl⟩
        rw [← hwd] at hBd
        replace hJ := hJ.below hBd
        replace hu := hu.below hBd
        replace ho := ho.below hBd
        replace hx8 := hx8.below hBd
        replace hx9 := hx9.below hBd
        clear hBd
        refine wp_region_noPanic ?_
        refine wp_region_any (by kernel_rfl) ?_
        change wpAny _ _ _ _ _ _ _ (World.drew _)
        rw [← hwd]
        clear hwd
        refine wpAny_take (i := 0) (oi := ⟨some 40, _, _, _, _, none⟩) (v := ?_) rfl (by kernel_rfl) (by kernel_rfl) (by kernel_rfl) (fun _ _ _ h => h) (Or.inl ⟨by rfl, ?_⟩) ?_
        rotate_left
        · intro w; go_simp; try with_reducible rfl
        try simp only [Act.put, List.setIfInBounds_toArray, List.set_cons_zero, List.set_cons_succ]
        refine wpAny_take (i := 1) (oi := ⟨some 41, _, _, _, _, none⟩) (v := ?_) rfl (by kernel_rfl) (by kernel_rfl) (by kernel_rfl) (fun _ _ _ h => h) (Or.inl ⟨by rfl, ?_⟩) ?_
        rotate_left
        · intro w; go_simp; try with_reducible rfl
        try simp only [Act.put, List.setIfInBounds_toArray, List.set_cons_zero, List.set_cons_succ]
        refine wpAny_ready (rs := [2]) (by kernel_rfl) (by simp) ?_
        refine AllReady.cons (o := ⟨some 42, .load 34 (.tmp 8), _, _, _, none⟩) rfl (fun K hK => ?_) AllReady.nil
        refine step_ld 34 (.tmp 8) (by rfl) (by rfl) (by rfl) hx8.whole Try.underlying34 rfl sizeAc ?_
        refine hK _ _ ?_
        clear hK K
        try simp only [Act.put, List.setIfInBounds_toArray, List.set_cons_zero, List.set_cons_succ]
        refine wpAny_ready (rs := [3]) (by kernel_rfl) (by simp) ?_
        refine AllReady.cons (o := ⟨some 43, _, _, _, _, none⟩) rfl (fun K hK => ?_) AllReady.nil
        go_simp
        refine (HDd.out M6 _ hJ.rx (fun b hb => hJ.ix.bd b (.inl hb)) (hJ.readable hu)).mono ?_
        rintro e' w11 ⟨r7, rfl, hX7, hC7, hr7⟩
        have hu := hu.keep (F' := fun b => b < w.heap.size) (fun b hb hF => ⟨hF, hC7.block b hb (fun h => h.elim (fun e => by have h' : b < w.heap.size := hF; have := hJ.pB; omega) (fun e => by have h' : b < w.heap.size := hF; have := hJ.rB b e; omega))⟩)
        have ho := ho.keep (F' := fun b => g8 ≤ b) (fun b hb hF => ⟨hF, hC7.block b hb (fun h => h.elim (fun e => by have h' : g8 ≤ b := hF; omega) (fun e => by have h' : g8 ≤ b := hF; have := hrg b e; omega))⟩)
        have hx8 := hx8.keep (hC7.block _ hx8.lt (fun h => h.elim (fun e => by omega) (fun e => by have := hrg _ e; omega)))
        have hx9 := hx9.keep (hC7.block _ hx9.lt (fun h => h.elim (fun e => by omega) (fun e => by have := hrg _ e; omega)))
        have hJ := hJ.doc hX7 hC7 hr7
        obtain ⟨vs, vp, xs, hbp, hvs, ho7, hxx, hrr, hrp⟩ := hX7
        obtain ⟨Ap, cp, rfl⟩ := own_shape8 ho7
        clear hC7 hr7 hvs ho7 hxx hrr hrp
        refine hK _ _ ?_
        clear hK K
        try simp only [Act.put, List.setIfInBounds_toArray, List.set_cons_zero, List.set_cons_succ]
        refine wpAny_take (i := 4) (oi := ⟨some 44, _, _, _, _, none⟩) (v := ?_) rfl (by kernel_rfl) (by kernel_rfl) (by kernel_rfl) (fun _ _ _ h => h) (Or.inl ⟨by rfl, ?_⟩) ?_
        rotate_left
        · intro w; go_simp; try with_reducible rfl
        try simp only [Act.put, List.setIfInBounds_toArray, List.set_cons_zero, List.set_cons_succ]
        refine wpAny_take (i := 5) (oi := ⟨some 45, _, _, _, _, none⟩) (v := ?_) rfl (by kernel_rfl) (by kernel_rfl) (by kernel_rfl) (fun _ _ _ h => h) (Or.inl ⟨by rfl, ?_⟩) ?_
        rotate_left
        · intro w; go_simp; try with_reducible rfl
        try simp only [Act.put, List.setIfInBounds_toArray, List.set_cons_zero, List.set_cons_succ]
        refine wpAny_take (i := 6) (oi := ⟨some 46, _, _, _, _, some (5, false)⟩) (v := ?_) rfl (by kernel_rfl) (by kernel_rfl) (by kernel_rfl) (fun _ _ _ h => h) (Or.inl ⟨by rfl, ?_⟩) ?_
        rotate_left
        · intro w; go_simp; try with_reducible rfl
        try simp only [Act.put, List.setIfInBounds_toArray, List.set_cons_zero, List.set_cons_succ]
        refine wpAny_take (i := 8) (oi := ⟨some 48, _, _, _, _, some (5, false)⟩) (v := ?_) rfl (by kernel_rfl) (by kernel_rfl) (by kernel_rfl) (fun _ _ _ h => h) (Or.inl ⟨by rfl, ?_⟩) ?_
        rotate_left
        · intro w; go_simp; try with_reducible rfl
        try simp only [Act.put, List.setIfInBounds_toArray, List.set_cons_zero, List.set_cons_succ]
        refine wpAny_take (i := 9) (oi := ⟨some 49, _, _, _, _, some (5, false)⟩) (v := ?_) rfl (by kernel_rfl) (by kernel_rfl) (by kernel_rfl) (fun _ _ _ h => h) (Or.inl ⟨by rfl, ?_⟩) ?_
        rotate_left
        · intro w; go_simp; try with_reducible rfl
        try simp only [Act.put, List.setIfInBounds_toArray, List.set_cons_zero, List.set_cons_succ]
        refine wpAny_take (i := 10) (oi := ⟨some 50, _, _, _, _, some (5, false)⟩) (v := ?_) rfl (by kernel_rfl) (by kernel_rfl) (by kernel_rfl) (fun _ _ _ h => h) (Or.inl ⟨by rfl, ?_⟩) ?_
        rotate_left
        · intro w; go_simp; try with_reducible rfl
        try simp only [Act.put, List.setIfInBounds_toArray, List.set_cons_zero, List.set_cons_succ]
        refine wpAny_ready (rs := [7, 11]) (by kernel_rfl) (by simp) ?_
        refine AllReady.cons (o := ⟨some 47, _, _, _, _, some (5, false)⟩) rfl (fun K hK => ?_) ?_
        · go_simp
          refine (down10_any _ M6 F6 _ _ hJ.ix).mono ?_
          rintro e' w12 ⟨rfl, hB12⟩
          replace hJ := hJ.below hB12
          replace hbp := hbp.below hB12
          replace hx8 := hx8.below hB12
          replace hx9 := hx9.below hB12
          replace hu := hu.below hB12
          replace ho := ho.below hB12
          refine hK _ _ ?_
          clear hK K
          try simp only [Act.put, List.setIfInBounds_toArray, List.set_cons_zero, List.set_cons_succ]
          refine wpAny_ready (rs := [11]) (by kernel_rfl) (by simp) ?_
          refine AllReady.cons (o := ⟨some 51, .load 4 (.tmp 50), _, _, _, some (5, false)⟩) rfl (fun K hK => ?_) AllReady.nil
          refine step_ld1g 4 (.tmp 50) (by rfl) (by rfl) (by rfl) (hbp.cellAt 4 _ rfl) Try.isAgg4 ?_
          refine hK _ _ ?_
          clear hK K
          try simp only [Act.put, List.setIfInBounds_toArray, List.set_cons_zero, List.set_cons_succ]
          refine wpAny_take (i := 12) (oi := ⟨some 52, _, _, _, _, some (5, false)⟩) (v := ?_) rfl (by kernel_rfl) (by kernel_rfl) (by kernel_rfl) (fun _ _ _ h => h) (Or.inl ⟨by rfl, ?_⟩) ?_
          rotate_left
          · intro w; go_simp; try with_reducible rfl
          try simp only [Act.put, List.setIfInBounds_toArray, List.set_cons_zero, List.set_cons_succ]
          refine wpAny_take (i := 13) (oi := ⟨some 53, _, _, _, _, none⟩) (v := ?_) rfl (by kernel_rfl) (by kernel_rfl) (by kernel_rfl) (fun _ _ _ h => h) (Or.inl ⟨by rfl, ?_⟩) ?_
          rotate_left
          · intro w; go_simp; try with_reducible rfl
          try simp only [Act.put, List.setIfInBounds_toArray, List.set_cons_zero, List.set_cons_succ]
          refine wpAny_take (i := 14) (oi := ⟨some 54, _, _, _, _, none⟩) (v := ?_) rfl (by kernel_rfl) (by kernel_rfl) (by kernel_rfl) (fun _ _ _ h => h) (Or.inl ⟨by rfl, ?_⟩) ?_
          rotate_left
          · intro w; go_simp; try with_reducible rfl
          try simp only [Act.put, List.setIfInBounds_toArray, List.set_cons_zero, List.set_cons_succ]
          refine wpAny_take (i := 15) (oi := ⟨some 55, _, _, _, _, some (14, false)⟩) (v := ?_) rfl (by kernel_rfl) (by kernel_rfl) (by kernel_rfl) (fun _ _ _ h => h) (Or.inl ⟨by rfl, ?_⟩) ?_
          rotate_left
          · intro w; go_simp; try with_reducible rfl
          try simp only [Act.put, List.setIfInBounds_toArray, List.set_cons_zero, List.set_cons_succ]
          refine wpAny_take (i := 16) (oi := ⟨some 56, _, _, _, _, some (14, false)⟩) (v := ?_) rfl (by kernel_rfl) (by kernel_rfl) (by kernel_rfl) (fun _ _ _ h => h) (Or.inl ⟨by rfl, ?_⟩) ?_
          rotate_left
          · intro w; go_simp; try with_reducible rfl
          try simp only [Act.put, List.setIfInBounds_toArray, List.set_cons_zero, List.set_cons_succ]
          refine wpAny_ready (rs := [17]) (by kernel_rfl) (by simp) ?_
          refine AllReady.cons (o := ⟨some 57, _, _, _, _, some (14, false)⟩) rfl (fun K hK => ?_) AllReady.nil
          go_simp
          refine (now_any p r7 M6 _ _ hJ.rx hsm (fun b hb => hJ.ix.bd b (.inl hb))).mono ?_
          rintro e' w13 ⟨v13, rfl, hl13, hB13⟩
          replace hJ := hJ.below hB13
          replace hbp := hbp.below hB13
          replace hx8 := hx8.below hB13
          replace hx9 := hx9.below hB13
          replace hu := hu.below hB13
          replace ho := ho.below hB13
          refine hK _ _ ?_
          clear hK K
          try simp only [Act.put, List.setIfInBounds_toArray, List.set_cons_zero, List.set_cons_succ]
          refine wpAny_ready (rs := [18]) (by kernel_rfl) (by simp) ?_
          refine AllReady.cons (o := ⟨some 58, _, _, _, _, some (14, false)⟩) rfl (fun K hK => ?_) AllReady.nil
          go_simp
          refine (same10_any _ v13 M6 F6 _ _ _ hJ.ix hsm huq hl13).mono ?_
          rintro e' w14 ⟨rfl, hB14⟩
          replace hJ := hJ.below hB14
          replace hbp := hbp.below hB14
          replace hx8 := hx8.below hB14
          replace hx9 := hx9.below hB14
          replace hu := hu.below hB14
          replace ho := ho.below hB14
          refine hK _ _ ?_
          clear hK K
          try simp only [Act.put, List.setIfInBounds_toArray, List.set_cons_zero, List.set_cons_succ]
          refine wpAny_take (i := 19) (oi := ⟨some 59, _, _, _, _, some (14, false)⟩) (v := ?_) rfl (by kernel_rfl) (by kernel_rfl) (by kernel_rfl) (fun _ _ _ h => h) (Or.inl ⟨by rfl, ?_⟩) ?_
          rotate_left
          · intro w; go_simp; try with_reducible rfl
          try simp only [Act.put, List.setIfInBounds_toArray, List.set_cons_zero, List.set_cons_succ]
          refine wpAny_take (i := 20) (oi := ⟨some 60, _, _, _, _, none⟩) (v := ?_) rfl (by kernel_rfl) (by kernel_rfl) (by kernel_rfl) (fun _ _ _ h => h) (Or.inl ⟨by rfl, ?_⟩) ?_
          rotate_left
          · intro w; go_simp; try with_reducible rfl
          try simp only [Act.put, List.setIfInBounds_toArray, List.set_cons_zero, List.set_cons_succ]
          refine wpAny_take (i := 21) (oi := ⟨some 61, _, _, _, _, none⟩) (v := ?_) rfl (by kernel_rfl) (by kernel_rfl) (by kernel_rfl) (fun _ _ _ h => h) (Or.inl ⟨by rfl, ?_⟩) ?_
          rotate_left
          · intro w; go_simp; try with_reducible rfl
          try simp only [Act.put, List.setIfInBounds_toArray, List.set_cons_zero, List.set_cons_succ]
          refine wpAny_take (i := 22) (oi := ⟨some 62, _, _, _, _, some (21, false)⟩) (v := ?_) rfl (by kernel_rfl) (by kernel_rfl) (by kernel_rfl) (fun _ _ _ h => h) (Or.inl ⟨by rfl, ?_⟩) ?_
          rotate_left
          · intro w; go_simp; try with_reducible rfl
          try simp only [Act.put, List.setIfInBounds_toArray, List.set_cons_zero, List.set_cons_succ]
          refine wpAny_take (i := 24) (oi := ⟨some 64, _, _, _, _, some (21, false)⟩) (v := ?_) rfl (by kernel_rfl) (by kernel_rfl) (by kernel_rfl) (fun _ _ _ h => h) (Or.inl ⟨by rfl, ?_⟩) ?_
          rotate_left
          · intro w; go_simp; try with_reducible rfl
          try simp only [Act.put, List.setIfInBounds_toArray, List.set_cons_zero, List.set_cons_succ]
          refine wpAny_take (i := 25) (oi := ⟨some 65, _, _, _, _, some (21, false)⟩) (v := ?_) rfl (by kernel_rfl) (by kernel_rfl) (by kernel_rfl) (fun _ _ _ h => h) (Or.inl ⟨by rfl, ?_⟩) ?_
          rotate_left
          · intro w; go_simp; try with_reducible rfl
          try simp only [Act.put, List.setIfInBounds_toArray, List.set_cons_zero, List.set_cons_succ]
          refine wpAny_take (i := 26) (oi := ⟨some 66, _, _, _, _, some (21, false)⟩) (v := ?_) rfl (by kernel_rfl) (by kernel_rfl) (by kernel_rfl) (fun _ _ _ h => h) (Or.inl ⟨by rfl, ?_⟩) ?_
          rotate_left
          · intro w; go_simp; try with_reducible rfl
          try simp only [Act.put, List.setIfInBounds_toArray, List.set_cons_zero, List.set_cons_succ]
          refine wpAny_ready (rs := [23, 27]) (by kernel_rfl) (by simp) ?_
          refine AllReady.cons (o := ⟨some 63, _, _, _, _, some (21, false)⟩) rfl (fun K hK => ?_) ?_
          · go_simp
            refine (pending10_any _ M6 F6 _ _ hJ.ix hsm).mono ?_
            rintro e' w15 ⟨rfl, hB15⟩
            replace hJ := hJ.below hB15
            replace hbp := hbp.below hB15
            replace hx8 := hx8.below hB15
            replace hx9 := hx9.below hB15
            replace hu := hu.below hB15
            replace ho := ho.below hB15
            refine hK _ _ ?_
            clear hK K
            try simp only [Act.put, List.setIfInBounds_toArray, List.set_cons_zero, List.set_cons_succ]
            refine wpAny_ready (rs := [27]) (by kernel_rfl) (by simp) ?_
            refine AllReady.cons (o := ⟨some 67, .load 22 (.tmp 66), _, _, _, some (21, false)⟩) rfl (fun K hK => ?_) AllReady.nil
            refine step_ld1g 22 (.tmp 66) (by rfl) (by rfl) (by rfl) (hbp.cellAt 2 _ rfl) Try.isAgg22 ?_
            refine hK _ _ ?_
            clear hK K
            try simp only [Act.put, List.setIfInBounds_toArray, List.set_cons_zero, List.set_cons_succ]
            refine wpAny_take (i := 28) (oi := ⟨some 68, _, _, _, _, some (21, false)⟩) (v := ?_) rfl (by kernel_rfl) (by kernel_rfl) (by kernel_rfl) (fun _ _ _ h => h) (Or.inl ⟨by rfl, ?_⟩) ?_
            rotate_left
            · intro w; go_simp; try with_reducible rfl
            try simp only [Act.put, List.setIfInBounds_toArray, List.set_cons_zero, List.set_cons_succ]
            refine wpAny_take (i := 29) (oi := ⟨some 69, _, _, _, _, some (21, false)⟩) (v := ?_) rfl (by kernel_rfl) (by kernel_rfl) (by kernel_rfl) (fun _ _ _ h => h) (Or.inl ⟨by rfl, ?_⟩) ?_
            rotate_left
            · intro w; go_simp; try with_reducible rfl
            try simp only [Act.put, List.setIfInBounds_toArray, List.set_cons_zero, List.set_cons_succ]
            refine wpAny_take (i := 30) (oi := ⟨some 70, _, _, _, _, none⟩) (v := ?_) rfl (by kernel_rfl) (by kernel_rfl) (by kernel_rfl) (fun _ _ _ h => h) (Or.inl ⟨by rfl, ?_⟩) ?_
            rotate_left
            · intro w; go_simp; try with_reducible rfl
            try simp only [Act.put, List.setIfInBounds_toArray, List.set_cons_zero, List.set_cons_succ]
            refine wpAny_take (i := 31) (oi := ⟨some 71, _, _, _, _, none⟩) (v := ?_) rfl (by kernel_rfl) (by kernel_rfl) (by kernel_rfl) (fun _ _ _ h => h) (Or.inl ⟨by rfl, ?_⟩) ?_
            rotate_left
            · intro w; go_simp; try with_reducible rfl
            try simp only [Act.put, List.setIfInBounds_toArray, List.set_cons_zero, List.set_cons_succ]
            refine wpAny_take (i := 32) (oi := ⟨some 72, _, _, _, _, some (31, false)⟩) (v := ?_) rfl (by kernel_rfl) (by kernel_rfl) (by kernel_rfl) (fun _ _ _ h => h) (Or.inl ⟨by rfl, ?_⟩) ?_
            rotate_left
            · intro w; go_simp; try with_reducible rfl
            try simp only [Act.put, List.setIfInBounds_toArray, List.set_cons_zero, List.set_cons_succ]
            refine wpAny_take (i := 34) (oi := ⟨some 74, _, _, _, _, some (31, false)⟩) (v := ?_) rfl (by kernel_rfl) (by kernel_rfl) (by kernel_rfl) (fun _ _ _ h => h) (Or.inl ⟨by rfl, ?_⟩) ?_
            rotate_left
            · intro w; go_simp; try with_reducible rfl
            try simp only [Act.put, List.setIfInBounds_toArray, List.set_cons_zero, List.set_cons_succ]
            refine wpAny_ready (rs := [33, 35]) (by kernel_rfl) (by simp) ?_
            refine AllReady.cons (o := ⟨some 73, .load 29 (.tmp 72), _, _, _, some (31, false)⟩) rfl (fun K hK => ?_) ?_
            · refine step_ld1g 29 (.tmp 72) (by rfl) (by rfl) (by rfl) (hx9.cellAt 3 _ rfl) Try.isAgg29 ?_
              refine hK _ _ ?_
              clear hK K
              try simp only [Act.put, List.setIfInBounds_toArray, List.set_cons_zero, List.set_cons_succ]
              refine wpAny_ready (rs := [35]) (by kernel_rfl) (by simp) ?_
              refine AllReady.cons (o := ⟨some 75, .load 29 (.tmp 74), _, _, _, some (31, false)⟩) rfl (fun K hK => ?_) AllReady.nil
              refine step_ld1g 29 (.tmp 74) (by rfl) (by rfl) (by rfl) (hx8.cellAt 3 _ rfl) Try.isAgg29 ?_
              refine hK _ _ ?_
              clear hK K
              try simp only [Act.put, List.setIfInBounds_toArray, List.set_cons_zero, List.set_cons_succ]
              refine wpAny_ready (rs := [36]) (by kernel_rfl) (by simp) ?_
              refine AllReady.cons (o := ⟨some 76, _, _, _, _, some (31, false)⟩) rfl (fun K hK => ?_) AllReady.nil
              go_simp
              refine (same_b _ _ a.b a.b _ _ _ ho hu).mono ?_
              rintro e' w16 ⟨rfl, hB16⟩
              rw [decide_eq_true rfl]
              replace hJ := hJ.below hB16
              refine hK _ _ ?_
              clear hK K
              try simp only [Act.put, List.setIfInBounds_toArray, List.set_cons_zero, List.set_cons_succ]
              refine wpAny_take (i := 37) (oi := ⟨some 77, _, _, _, _, some (31, false)⟩) (v := ?_) rfl (by kernel_rfl) (by kernel_rfl) (by kernel_rfl) (fun _ _ _ h => h) (Or.inl ⟨by rfl, ?_⟩) ?_
              rotate_left
              · intro w; go_simp; try with_reducible rfl
              try simp only [Act.put, List.setIfInBounds_toArray, List.set_cons_zero, List.set_cons_succ]
              refine wpAny_take (i := 38) (oi := ⟨some 78, _, _, _, _, none⟩) (v := ?_) rfl (by kernel_rfl) (by kernel_rfl) (by kernel_rfl) (fun _ _ _ h => h) (Or.inl ⟨by rfl, ?_⟩) ?_
              rotate_left
              · intro w; go_simp; try with_reducible rfl
              try simp only [Act.put, List.setIfInBounds_toArray, List.set_cons_zero, List.set_cons_succ]
              refine wpAny_done (by kernel_rfl) ?_ _
              refine NoPanic.normal ?_
              go_wp2
              go_roundw
              case rel => exact ⟨i + 1, r7, M6, F6, R.1, by omega, by go_num, hJ, hI'⟩
              case measure => simp [intOf]; omega
            refine AllReady.cons (o := ⟨some 75, .load 29 (.tmp 74), _, _, _, some (31, false)⟩) rfl (fun K hK => ?_) AllReady.nil
            refine step_ld1g 29 (.tmp 74) (by rfl) (by rfl) (by rfl) (hx8.cellAt 3 _ rfl) Try.isAgg29 ?_
            refine hK _ _ ?_
            clear hK K
            try simp only [Act.put, List.setIfInBounds_toArray, List.set_cons_zero, List.set_cons_succ]
            refine wpAny_ready (rs := [33]) (by kernel_rfl) (by simp) ?_
            refine AllReady.cons (o := ⟨some 73, .load 29 (.tmp 72), _, _, _, some (31, false)⟩) rfl (fun K hK => ?_) AllReady.nil
            refine step_ld1g 29 (.tmp 72) (by rfl) (by rfl) (by rfl) (hx9.cellAt 3 _ rfl) Try.isAgg29 ?_
            refine hK _ _ ?_
            clear hK K
            try simp only [Act.put, List.setIfInBounds_toArray, List.set_cons_zero, List.set_cons_succ]
            refine wpAny_ready (rs := [36]) (by kernel_rfl) (by simp) ?_
            refine AllReady.cons (o := ⟨some 76, _, _, _, _, some (31, false)⟩) rfl (fun K hK => ?_) AllReady.nil
            go_simp
            refine (same_b _ _ a.b a.b _ _ _ ho hu).mono ?_
            rintro e' w16 ⟨rfl, hB16⟩
            rw [decide_eq_true rfl]
            replace hJ := hJ.below hB16
            refine hK _ _ ?_
            clear hK K
            try simp only [Act.put, List.setIfInBounds_toArray, List.set_cons_zero, List.set_cons_succ]
            refine wpAny_take (i := 37) (oi := ⟨some 77, _, _, _, _, some (31, false)⟩) (v := ?_) rfl (by kernel_rfl) (by kernel_rfl) (by kernel_rfl) (fun _ _ _ h => h) (Or.inl ⟨by rfl, ?_⟩) ?_
            rotate_left
            · intro w; go_simp; try with_reducible rfl
            try simp only [Act.put, List.setIfInBounds_toArray, List.set_cons_zero, List.set_cons_succ]
            refine wpAny_take (i := 38) (oi := ⟨some 78, _, _, _, _, none⟩) (v := ?_) rfl (by kernel_rfl) (by kernel_rfl) (by kernel_rfl) (fun _ _ _ h => h) (Or.inl ⟨by rfl, ?_⟩) ?_
            rotate_left
            · intro w; go_simp; try with_reducible rfl
            try simp only [Act.put, List.setIfInBounds_toArray, List.set_cons_zero, List.set_cons_succ]
            refine wpAny_done (by kernel_rfl) ?_ _
            refine NoPanic.normal ?_
            go_wp2
            go_roundw
            case rel => exact ⟨i + 1, r7, M6, F6, R.1, by omega, by go_num, hJ, hI'⟩
            case measure => simp [intOf]; omega
          refine AllReady.cons (o := ⟨some 67, .load 22 (.tmp 66), _, _, _, some (21, false)⟩) rfl (fun K hK => ?_) AllReady.nil
          refine step_ld1g 22 (.tmp 66) (by rfl) (by rfl) (by rfl) (hbp.cellAt 2 _ rfl) Try.isAgg22 ?_
          refine hK _ _ ?_
          clear hK K
          try simp only [Act.put, List.setIfInBounds_toArray, List.set_cons_zero, List.set_cons_succ]
          refine wpAny_take (i := 28) (oi := ⟨some 68, _, _, _, _, some (21, false)⟩) (v := ?_) rfl (by kernel_rfl) (by kernel_rfl) (by kernel_rfl) (fun _ _ _ h => h) (Or.inl ⟨by rfl, ?_⟩) ?_
          rotate_left
          · intro w; go_simp; try with_reducible rfl
          try simp only [Act.put, List.setIfInBounds_toArray, List.set_cons_zero, List.set_cons_succ]
          refine wpAny_ready (rs := [23]) (by kernel_rfl) (by simp) ?_
          refine AllReady.cons (o := ⟨some 63, _, _, _, _, some (21, false)⟩) rfl (fun K hK => ?_) AllReady.nil
          go_simp
          refine (pending10_any _ M6 F6 _ _ hJ.ix hsm).mono ?_
          rintro e' w15 ⟨rfl, hB15⟩
          replace hJ := hJ.below hB15
          replace hbp := hbp.below hB15
          replace hx8 := hx8.below hB15
          replace hx9 := hx9.below hB15
          replace hu := hu.below hB15
          replace ho := ho.below hB15
          refine hK _ _ ?_
          clear hK K
          try simp only [Act.put, List.setIfInBounds_toArray, List.set_cons_zero, List.set_cons_succ]
          refine wpAny_take (i := 29) (oi := ⟨some 69, _, _, _, _, some (21, false)⟩) (v := ?_) rfl (by kernel_rfl) (by kernel_rfl) (by kernel_rfl) (fun _ _ _ h => h) (Or.inl ⟨by rfl, ?_⟩) ?_
          rotate_left
          · intro w; go_simp; try with_reducible rfl
          try simp only [Act.put, List.setIfInBounds_toArray, List.set_cons_zero, List.set_cons_succ]
          refine wpAny_take (i := 30) (oi := ⟨some 70, _, _, _, _, none⟩) (v := ?_) rfl (by kernel_rfl) (by kernel_rfl) (by kernel_rfl) (fun _ _ _ h => h) (Or.inl ⟨by rfl, ?_⟩) ?_
          rotate_left
          · intro w; go_simp; try with_reducible rfl
          try simp only [Act.put, List.setIfInBounds_toArray, List.set_cons_zero, List.set_cons_succ]
          refine wpAny_take (i := 31) (oi := ⟨some 71, _, _, _, _, none⟩) (v := ?_) rfl (by kernel_rfl) (by kernel_rfl) (by kernel_rfl) (fun _ _ _ h => h) (Or.inl ⟨by rfl, ?_⟩) ?_
          rotate_left
          · intro w; go_simp; try with_reducible rfl
          try simp only [Act.put, List.setIfInBounds_toArray, List.set_cons_zero, List.set_cons_succ]
          refine wpAny_take (i := 32) (oi := ⟨some 72, _, _, _, _, some (31, false)⟩) (v := ?_) rfl (by kernel_rfl) (by kernel_rfl) (by kernel_rfl) (fun _ _ _ h => h) (Or.inl ⟨by rfl, ?_⟩) ?_
          rotate_left
          · intro w; go_simp; try with_reducible rfl
          try simp only [Act.put, List.setIfInBounds_toArray, List.set_cons_zero, List.set_cons_succ]
          refine wpAny_take (i := 34) (oi := ⟨some 74, _, _, _, _, some (31, false)⟩) (v := ?_) rfl (by kernel_rfl) (by kernel_rfl) (by kernel_rfl) (fun _ _ _ h => h) (Or.inl ⟨by rfl, ?_⟩) ?_
          rotate_left
          · intro w; go_simp; try with_reducible rfl
          try simp only [Act.put, List.setIfInBounds_toArray, List.set_cons_zero, List.set_cons_succ]
          refine wpAny_ready (rs := [33, 35]) (by kernel_rfl) (by simp) ?_
          refine AllReady.cons (o := ⟨some 73, .load 29 (.tmp 72), _, _, _, some (31, false)⟩) rfl (fun K hK => ?_) ?_
          · refine step_ld1g 29 (.tmp 72) (by rfl) (by rfl) (by rfl) (hx9.cellAt 3 _ rfl) Try.isAgg29 ?_
            refine hK _ _ ?_
            clear hK K
            try simp only [Act.put, List.setIfInBounds_toArray, List.set_cons_zero, List.set_cons_succ]
            refine wpAny_ready (rs := [35]) (by kernel_rfl) (by simp) ?_
            refine AllReady.cons (o := ⟨some 75, .load 29 (.tmp 74), _, _, _, some (31, false)⟩) rfl (fun K hK => ?_) AllReady.nil
            refine step_ld1g 29 (.tmp 74) (by rfl) (by rfl) (by rfl) (hx8.cellAt 3 _ rfl) Try.isAgg29 ?_
            refine hK _ _ ?_
            clear hK K
            try simp only [Act.put, List.setIfInBounds_toArray, List.set_cons_zero, List.set_cons_succ]
            refine wpAny_ready (rs := [36]) (by kernel_rfl) (by simp) ?_
            refine AllReady.cons (o := ⟨some 76, _, _, _, _, some (31, false)⟩) rfl (fun K hK => ?_) AllReady.nil
            go_simp
            refine (same_b _ _ a.b a.b _ _ _ ho hu).mono ?_
            rintro e' w16 ⟨rfl, hB16⟩
            rw [decide_eq_true rfl]
            replace hJ := hJ.below hB16
            refine hK _ _ ?_
            clear hK K
            try simp only [Act.put, List.setIfInBounds_toArray, List.set_cons_zero, List.set_cons_succ]
            refine wpAny_take (i := 37) (oi := ⟨some 77, _, _, _, _, some (31, false)⟩) (v := ?_) rfl (by kernel_rfl) (by kernel_rfl) (by kernel_rfl) (fun _ _ _ h => h) (Or.inl ⟨by rfl, ?_⟩) ?_
            rotate_left
            · intro w; go_simp; try with_reducible rfl
            try simp only [Act.put, List.setIfInBounds_toArray, List.set_cons_zero, List.set_cons_succ]
            refine wpAny_take (i := 38) (oi := ⟨some 78, _, _, _, _, none⟩) (v := ?_) rfl (by kernel_rfl) (by kernel_rfl) (by kernel_rfl) (fun _ _ _ h => h) (Or.inl ⟨by rfl, ?_⟩) ?_
            rotate_left
            · intro w; go_simp; try with_reducible rfl
            try simp only [Act.put, List.setIfInBounds_toArray, List.set_cons_zero, List.set_cons_succ]
            refine wpAny_done (by kernel_rfl) ?_ _
            refine NoPanic.normal ?_
            go_wp2
            go_roundw
            case rel => exact ⟨i + 1, r7, M6, F6, R.1, by omega, by go_num, hJ, hI'⟩
            case measure => simp [intOf]; omega
          refine AllReady.cons (o := ⟨some 75, .load 29 (.tmp 74), _, _, _, some (31, false)⟩) rfl (fun K hK => ?_) AllReady.nil
          refine step_ld1g 29 (.tmp 74) (by rfl) (by rfl) (by rfl) (hx8.cellAt 3 _ rfl) Try.isAgg29 ?_
          refine hK _ _ ?_
          clear hK K
          try simp only [Act.put, List.setIfInBounds_toArray, List.set_cons_zero, List.set_cons_succ]
          refine wpAny_ready (rs := [33]) (by kernel_rfl) (by simp) ?_
          refine AllReady.cons (o := ⟨some 73, .load 29 (.tmp 72), _, _, _, some (31, false)⟩) rfl (fun K hK => ?_) AllReady.nil
          refine step_ld1g 29 (.tmp 72) (by rfl) (by rfl) (by rfl) (hx9.cellAt 3 _ rfl) Try.isAgg29 ?_
          refine hK _ _ ?_
          clear hK K
          try simp only [Act.put, List.setIfInBounds_toArray, List.set_cons_zero, List.set_cons_succ]
          refine wpAny_ready (rs := [36]) (by kernel_rfl) (by simp) ?_
          refine AllReady.cons (o := ⟨some 76, _, _, _, _, some (31, false)⟩) rfl (fun K hK => ?_) AllReady.nil
          go_simp
          refine (same_b _ _ a.b a.b _ _ _ ho hu).mono ?_
          rintro e' w16 ⟨rfl, hB16⟩
          rw [decide_eq_true rfl]
          replace hJ := hJ.below hB16
          refine hK _ _ ?_
          clear hK K
          try simp only [Act.put, List.setIfInBounds_toArray, List.set_cons_zero, List.set_cons_succ]
          refine wpAny_take (i := 37) (oi := ⟨some 77, _, _, _, _, some (31, false)⟩) (v := ?_) rfl (by kernel_rfl) (by kernel_rfl) (by kernel_rfl) (fun _ _ _ h => h) (Or.inl ⟨by rfl, ?_⟩) ?_
          rotate_left
          · intro w; go_simp; try with_reducible rfl
          try simp only [Act.put, List.setIfInBounds_toArray, List.set_cons_zero, List.set_cons_succ]
          refine wpAny_take (i := 38) (oi := ⟨some 78, _, _, _, _, none⟩) (v := ?_) rfl (by kernel_rfl) (by kernel_rfl) (by kernel_rfl) (fun _ _ _ h => h) (Or.inl ⟨by rfl, ?_⟩) ?_
          rotate_left
          · intro w; go_simp; try with_reducible rfl
          try simp only [Act.put, List.setIfInBounds_toArray, List.set_cons_zero, List.set_cons_succ]
          refine wpAny_done (by kernel_rfl) ?_ _
          refine NoPanic.normal ?_
          go_wp2
          go_roundw
          case rel => exact ⟨i + 1, r7, M6, F6, R.1, by omega, by go_num, hJ, hI'⟩
          case measure => simp [intOf]; omega
        refine AllReady.cons (o := ⟨some 51, .load 4 (.tmp 50), _, _, _, some (5, false)⟩) rfl (fun K hK => ?_) AllReady.nil
        refine step_ld1g 4 (.tmp 50) (by rfl) (by rfl) (by rfl) (hbp.cellAt 4 _ rfl) Try.isAgg4 ?_
        refine hK _ _ ?_
        clear hK K
        try simp only [Act.put, List.setIfInBounds_toArray, List.set_cons_zero, List.set_cons_succ]
        refine wpAny_ready (rs := [7]) (by kernel_rfl) (by simp) ?_
        refine AllReady.cons (o := ⟨some 47, _, _, _, _, some (5, false)⟩) rfl (fun K hK => ?_) AllReady.nil
        go_simp
        refine (down10_any _ M6 F6 _ _ hJ.ix).mono ?_
        rintro e' w12 ⟨rfl, hB12⟩
        replace hJ := hJ.below hB12
        replace hbp := hbp.below hB12
        replace hx8 := hx8.below hB12
        replace hx9 := hx9.below hB12
        replace hu := hu.below hB12
        replace ho := ho.below hB12
        refine hK _ _ ?_
        clear hK K
        try simp only [Act.put, List.setIfInBounds_toArray, List.set_cons_zero, List.set_cons_succ]
        refine wpAny_take (i := 12) (oi := ⟨some 52, _, _, _, _, some (5, false)⟩) (v := ?_) rfl (by kernel_rfl) (by kernel_rfl) (by kernel_rfl) (fun _ _ _ h => h) (Or.inl ⟨by rfl, ?_⟩) ?_
        rotate_left
        · intro w; go_simp; try with_reducible rfl
        try simp only [Act.put, List.setIfInBounds_toArray, List.set_cons_zero, List.set_cons_succ]
        refine wpAny_take (i := 13) (oi := ⟨some 53, _, _, _, _, none⟩) (v := ?_) rfl (by kernel_rfl) (by kernel_rfl) (by kernel_rfl) (fun _ _ _ h => h) (Or.inl ⟨by rfl, ?_⟩) ?_
        rotate_left
        · intro w; go_simp; try with_reducible rfl
        try simp only [Act.put, List.setIfInBounds_toArray, List.set_cons_zero, List.set_cons_succ]
        refine wpAny_take (i := 14) (oi := ⟨some 54, _, _, _, _, none⟩) (v := ?_) rfl (by kernel_rfl) (by kernel_rfl) (by kernel_rfl) (fun _ _ _ h => h) (Or.inl ⟨by rfl, ?_⟩) ?_
        rotate_left
        · intro w; go_simp; try with_reducible rfl
        try simp only [Act.put, List.setIfInBounds_toArray, List.set_cons_zero, List.set_cons_succ]
        refine wpAny_take (i := 15) (oi := ⟨some 55, _, _, _, _, some (14, false)⟩) (v := ?_) rfl (by kernel_rfl) (by kernel_rfl) (by kernel_rfl) (fun _ _ _ h => h) (Or.inl ⟨by rfl, ?_⟩) ?_
        rotate_left
        · intro w; go_simp; try with_reducible rfl
        try simp only [Act.put, List.setIfInBounds_toArray, List.set_cons_zero, List.set_cons_succ]
        refine wpAny_take (i := 16) (oi := ⟨some 56, _, _, _, _, some (14, false)⟩) (v := ?_) rfl (by kernel_rfl) (by kernel_rfl) (by kernel_rfl) (fun _ _ _ h => h) (Or.inl ⟨by rfl, ?_⟩) ?_
        rotate_left
        · intro w; go_simp; try with_reducible rfl
        try simp only [Act.put, List.setIfInBounds_toArray, List.set_cons_zero, List.set_cons_succ]
        refine wpAny_ready (rs := [17]) (by kernel_rfl) (by simp) ?_
        refine AllReady.cons (o := ⟨some 57, _, _, _, _, some (14, false)⟩) rfl (fun K hK => ?_) AllReady.nil
        go_simp
        refine (now_any p r7 M6 _ _ hJ.rx hsm (fun b hb => hJ.ix.bd b (.inl hb))).mono ?_
        rintro e' w13 ⟨v13, rfl, hl13, hB13⟩
        replace hJ := hJ.below hB13
        replace hbp := hbp.below hB13
        replace hx8 := hx8.below hB13
        replace hx9 := hx9.below hB13
        replace hu := hu.below hB13
        replace ho := ho.below hB13
        refine hK _ _ ?_
        clear hK K
        try simp only [Act.put, List.setIfInBounds_toArray, List.set_cons_zero, List.set_cons_succ]
        refine wpAny_ready (rs := [18]) (by kernel_rfl) (by simp) ?_
        refine AllReady.cons (o := ⟨some 58, _, _, _, _, some (14, false)⟩) rfl (fun K hK => ?_) AllReady.nil
        go_simp
        refine (same10_any _ v13 M6 F6 _ _ _ hJ.ix hsm huq hl13).mono ?_
        rintro e' w14 ⟨rfl, hB14⟩
        replace hJ := hJ.below hB14
        replace hbp := hbp.below hB14
        replace hx8 := hx8.below hB14
        replace hx9 := hx9.below hB14
        replace hu := hu.below hB14
        replace ho := ho.below hB14
        refine hK _ _ ?_
        clear hK K
        try simp only [Act.put, List.setIfInBounds_toArray, List.set_cons_zero, List.set_cons_succ]
        refine wpAny_take (i := 19) (oi := ⟨some 59, _, _, _, _, some (14, false)⟩) (v := ?_) rfl (by kernel_rfl) (by kernel_rfl) (by kernel_rfl) (fun _ _ _ h => h) (Or.inl ⟨by rfl, ?_⟩) ?_
        rotate_left
        · intro w; go_simp; try with_reducible rfl
        try simp only [Act.put, List.setIfInBounds_toArray, List.set_cons_zero, List.set_cons_succ]
        refine wpAny_take (i := 20) (oi := ⟨some 60, _, _, _, _, none⟩) (v := ?_) rfl (by kernel_rfl) (by kernel_rfl) (by kernel_rfl) (fun _ _ _ h => h) (Or.inl ⟨by rfl, ?_⟩) ?_
        rotate_left
        · intro w; go_simp; try with_reducible rfl
        try simp only [Act.put, List.setIfInBounds_toArray, List.set_cons_zero, List.set_cons_succ]
        refine wpAny_take (i := 21) (oi := ⟨some 61, _, _, _, _, none⟩) (v := ?_) rfl (by kernel_rfl) (by kernel_rfl) (by kernel_rfl) (fun _ _ _ h => h) (Or.inl ⟨by rfl, ?_⟩) ?_
        rotate_left
        · intro w; go_simp; try with_reducible rfl
        try simp only [Act.put, List.setIfInBounds_toArray, List.set_cons_zero, List.set_cons_succ]
        refine wpAny_take (i := 22) (oi := ⟨some 62, _, _, _, _, some (21, false)⟩) (v := ?_) rfl (by kernel_rfl) (by kernel_rfl) (by kernel_rfl) (fun _ _ _ h => h) (Or.inl ⟨by rfl, ?_⟩) ?_
        rotate_left
        · intro w; go_simp; try with_reducible rfl
        try simp only [Act.put, List.setIfInBounds_toArray, List.set_cons_zero, List.set_cons_succ]
        refine wpAny_take (i := 24) (oi := ⟨some 64, _, _, _, _, some (21, false)⟩) (v := ?_) rfl (by kernel_rfl) (by kernel_rfl) (by kernel_rfl) (fun _ _ _ h => h) (Or.inl ⟨by rfl, ?_⟩) ?_
        rotate_left
        · intro w; go_simp; try with_reducible rfl
        try simp only [Act.put, List.setIfInBounds_toArray, List.set_cons_zero, List.set_cons_succ]
        refine wpAny_take (i := 25) (oi := ⟨some 65, _, _, _, _, some (21, false)⟩) (v := ?_) rfl (by kernel_rfl) (by kernel_rfl) (by kernel_rfl) (fun _ _ _ h => h) (Or.inl ⟨by rfl, ?_⟩) ?_
        rotate_left
        · intro w; go_simp; try with_reducible rfl
        try simp only [Act.put, List.setIfInBounds_toArray, List.set_cons_zero, List.set_cons_succ]
        refine wpAny_take (i := 26) (oi := ⟨some 66, _, _, _, _, some (21, false)⟩) (v := ?_) rfl (by kernel_rfl) (by kernel_rfl) (by kernel_rfl) (fun _ _ _ h => h) (Or.inl ⟨by rfl, ?_⟩) ?_
        rotate_left
        · intro w; go_simp; try with_reducible rfl
        try simp only [Act.put, List.setIfInBounds_toArray, List.set_cons_zero, List.set_cons_succ]
        refine wpAny_ready (rs := [23, 27]) (by kernel_rfl) (by simp) ?_
        refine AllReady.cons (o := ⟨some 63, _, _, _, _, some (21, false)⟩) rfl (fun K hK => ?_) ?_
        · go_simp
          refine (pending10_any _ M6 F6 _ _ hJ.ix hsm).mono ?_
          rintro e' w15 ⟨rfl, hB15⟩
          replace hJ := hJ.below hB15
          replace hbp := hbp.below hB15
          replace hx8 := hx8.below hB15
          replace hx9 := hx9.below hB15
          replace hu := hu.below hB15
          replace ho := ho.below hB15
          refine hK _ _ ?_
          clear hK K
          try simp only [Act.put, List.setIfInBounds_toArray, List.set_cons_zero, List.set_cons_succ]
          refine wpAny_ready (rs := [27]) (by kernel_rfl) (by simp) ?_
          refine AllReady.cons (o := ⟨some 67, .load 22 (.tmp 66), _, _, _, some (21, false)⟩) rfl (fun K hK => ?_) AllReady.nil
          refine step_ld1g 22 (.tmp 66) (by rfl) (by rfl) (by rfl) (hbp.cellAt 2 _ rfl) Try.isAgg22 ?_
          refine hK _ _ ?_
          clear hK K
          try simp only [Act.put, List.setIfInBounds_toArray, List.set_cons_zero, List.set_cons_succ]
          refine wpAny_take (i := 28) (oi := ⟨some 68, _, _, _, _, some (21, false)⟩) (v := ?_) rfl (by kernel_rfl) (by kernel_rfl) (by kernel_rfl) (fun _ _ _ h => h) (Or.inl ⟨by rfl, ?_⟩) ?_
          rotate_left
          · intro w; go_simp; try with_reducible rfl
          try simp only [Act.put, List.setIfInBounds_toArray, List.set_cons_zero, List.set_cons_succ]
          refine wpAny_take (i := 29) (oi := ⟨some 69, _, _, _, _, some (21, false)⟩) (v := ?_) rfl (by kernel_rfl) (by kernel_rfl) (by kernel_rfl) (fun _ _ _ h => h) (Or.inl ⟨by rfl, ?_⟩) ?_
          rotate_left
          · intro w; go_simp; try with_reducible rfl
          try simp only [Act.put, List.setIfInBounds_toArray, List.set_cons_zero, List.set_cons_succ]
          refine wpAny_take (i := 30) (oi := ⟨some 70, _, _, _, _, none⟩) (v := ?_) rfl (by kernel_rfl) (by kernel_rfl) (by kernel_rfl) (fun _ _ _ h => h) (Or.inl ⟨by rfl, ?_⟩) ?_
          rotate_left
          · intro w; go_simp; try with_reducible rfl
          try simp only [Act.put, List.setIfInBounds_toArray, List.set_cons_zero, List.set_cons_succ]
          refine wpAny_take (i := 31) (oi := ⟨some 71, _, _, _, _, none⟩) (v := ?_) rfl (by kernel_rfl) (by kernel_rfl) (by kernel_rfl) (fun _ _ _ h => h) (Or.inl ⟨by rfl, ?_⟩) ?_
          rotate_left
          · intro w; go_simp; try with_reducible rfl
          try simp only [Act.put, List.setIfInBounds_toArray, List.set_cons_zero, List.set_cons_succ]
          refine wpAny_take (i := 32) (oi := ⟨some 72, _, _, _, _, some (31, false)⟩) (v := ?_) rfl (by kernel_rfl) (by kernel_rfl) (by kernel_rfl) (fun _ _ _ h => h) (Or.inl ⟨by rfl, ?_⟩) ?_
          rotate_left
          · intro w; go_simp; try with_reducible rfl
          try simp only [Act.put, List.setIfInBounds_toArray, List.set_cons_zero, List.set_cons_succ]
          refine wpAny_take (i := 34) (oi := ⟨some 74, _, _, _, _, some (31, false)⟩) (v := ?_) rfl (by kernel_rfl) (by kernel_rfl) (by kernel_rfl) (fun _ _ _ h => h) (Or.inl ⟨by rfl, ?_⟩) ?_
          rotate_left
          · intro w; go_simp; try with_reducible rfl
          try simp only [Act.put, List.setIfInBounds_toArray, List.set_cons_zero, List.set_cons_succ]
          refine wpAny_ready (rs := [33, 35]) (by kernel_rfl) (by simp) ?_
          refine AllReady.cons (o := ⟨some 73, .load 29 (.tmp 72), _, _, _, some (31, false)⟩) rfl (fun K hK => ?_) ?_
          · refine step_ld1g 29 (.tmp 72) (by rfl) (by rfl) (by rfl) (hx9.cellAt 3 _ rfl) Try.isAgg29 ?_
            refine hK _ _ ?_
            clear hK K
            try simp only [Act.put, List.setIfInBounds_toArray, List.set_cons_zero, List.set_cons_succ]
            refine wpAny_ready (rs := [35]) (by kernel_rfl) (by simp) ?_
            refine AllReady.cons (o := ⟨some 75, .load 29 (.tmp 74), _, _, _, some (31, false)⟩) rfl (fun K hK => ?_) AllReady.nil
            refine step_ld1g 29 (.tmp 74) (by rfl) (by rfl) (by rfl) (hx8.cellAt 3 _ rfl) Try.isAgg29 ?_
            refine hK _ _ ?_
            clear hK K
            try simp only [Act.put, List.setIfInBounds_toArray, List.set_cons_zero, List.set_cons_succ]
            refine wpAny_ready (rs := [36]) (by kernel_rfl) (by simp) ?_
            refine AllReady.cons (o := ⟨some 76, _, _, _, _, some (31, false)⟩) rfl (fun K hK => ?_) AllReady.nil
            go_simp
            refine (same_b _ _ a.b a.b _ _ _ ho hu).mono ?_
            rintro e' w16 ⟨rfl, hB16⟩
            rw [decide_eq_true rfl]
            replace hJ := hJ.below hB16
            refine hK _ _ ?_
            clear hK K
            try simp only [Act.put, List.setIfInBounds_toArray, List.set_cons_zero, List.set_cons_succ]
            refine wpAny_take (i := 37) (oi := ⟨some 77, _, _, _, _, some (31, false)⟩) (v := ?_) rfl (by kernel_rfl) (by kernel_rfl) (by kernel_rfl) (fun _ _ _ h => h) (Or.inl ⟨by rfl, ?_⟩) ?_
            rotate_left
            · intro w; go_simp; try with_reducible rfl
            try simp only [Act.put, List.setIfInBounds_toArray, List.set_cons_zero, List.set_cons_succ]
            refine wpAny_take (i := 38) (oi := ⟨some 78, _, _, _, _, none⟩) (v := ?_) rfl (by kernel_rfl) (by kernel_rfl) (by kernel_rfl) (fun _ _ _ h => h) (Or.inl ⟨by rfl, ?_⟩) ?_
            rotate_left
            · intro w; go_simp; try with_reducible rfl
            try simp only [Act.put, List.setIfInBounds_toArray, List.set_cons_zero, List.set_cons_succ]
            refine wpAny_done (by kernel_rfl) ?_ _
            refine NoPanic.normal ?_
            go_wp2
            go_roundw
            case rel => exact ⟨i + 1, r7, M6, F6, R.1, by omega, by go_num, hJ, hI'⟩
            case measure => simp [intOf]; omega
          refine AllReady.cons (o := ⟨some 75, .load 29 (.tmp 74), _, _, _, some (31, false)⟩) rfl (fun K hK => ?_) AllReady.nil
          refine step_ld1g 29 (.tmp 74) (by rfl) (by rfl) (by rfl) (hx8.cellAt 3 _ rfl) Try.isAgg29 ?_
          refine hK _ _ ?_
          clear hK K
          try simp only [Act.put, List.setIfInBounds_toArray, List.set_cons_zero, List.set_cons_succ]
          refine wpAny_ready (rs := [33]) (by kernel_rfl) (by simp) ?_
          refine AllReady.cons (o := ⟨some 73, .load 29 (.tmp 72), _, _, _, some (31, false)⟩) rfl (fun K hK => ?_) AllReady.nil
          refine step_ld1g 29 (.tmp 72) (by rfl) (by rfl) (by rfl) (hx9.cellAt 3 _ rfl) Try.isAgg29 ?_
          refine hK _ _ ?_
          clear hK K
          try simp only [Act.put, List.setIfInBounds_toArray, List.set_cons_zero, List.set_cons_succ]
          refine wpAny_ready (rs := [36]) (by kernel_rfl) (by simp) ?_
          refine AllReady.cons (o := ⟨some 76, _, _, _, _, some (31, false)⟩) rfl (fun K hK => ?_) AllReady.nil
          go_simp
          refine (same_b _ _ a.b a.b _ _ _ ho hu).mono ?_
          rintro e' w16 ⟨rfl, hB16⟩
          rw [decide_eq_true rfl]
          replace hJ := hJ.below hB16
          refine hK _ _ ?_
          clear hK K
          try simp only [Act.put, List.setIfInBounds_toArray, List.set_cons_zero, List.set_cons_succ]
          refine wpAny_take (i := 37) (oi := ⟨some 77, _, _, _, _, some (31, false)⟩) (v := ?_) rfl (by kernel_rfl) (by kernel_rfl) (by kernel_rfl) (fun _ _ _ h => h) (Or.inl ⟨by rfl, ?_⟩) ?_
          rotate_left
          · intro w; go_simp; try with_reducible rfl
          try simp only [Act.put, List.setIfInBounds_toArray, List.set_cons_zero, List.set_cons_succ]
          refine wpAny_take (i := 38) (oi := ⟨some 78, _, _, _, _, none⟩) (v := ?_) rfl (by kernel_rfl) (by kernel_rfl) (by kernel_rfl) (fun _ _ _ h => h) (Or.inl ⟨by rfl, ?_⟩) ?_
          rotate_left
          · intro w; go_simp; try with_reducible rfl
          try simp only [Act.put, List.setIfInBounds_toArray, List.set_cons_zero, List.set_cons_succ]
          refine wpAny_done (by kernel_rfl) ?_ _
          refine NoPanic.normal ?_
          go_wp2
          go_roundw
          case rel => exact ⟨i + 1, r7, M6, F6, R.1, by omega, by go_num, hJ, hI'⟩
          case measure => simp [intOf]; omega
        refine AllReady.cons (o := ⟨some 67, .load 22 (.tmp 66), _, _, _, some (21, false)⟩) rfl (fun K hK => ?_) AllReady.nil
        refine step_ld1g 22 (.tmp 66) (by rfl) (by rfl) (by rfl) (hbp.cellAt 2 _ rfl) Try.isAgg22 ?_
        refine hK _ _ ?_
        clear hK K
        try simp only [Act.put, List.setIfInBounds_toArray, List.set_cons_zero, List.set_cons_succ]
        refine wpAny_take (i := 28) (oi := ⟨some 68, _, _, _, _, some (21, false)⟩) (v := ?_) rfl (by kernel_rfl) (by kernel_rfl) (by kernel_rfl) (fun _ _ _ h => h) (Or.inl ⟨by rfl, ?_⟩) ?_
        rotate_left
        · intro w; go_simp; try with_reducible rfl
        try simp only [Act.put, List.setIfInBounds_toArray, List.set_cons_zero, List.set_cons_succ]
        refine wpAny_ready (rs := [23]) (by kernel_rfl) (by simp) ?_
        refine AllReady.cons (o := ⟨some 63, _, _, _, _, some (21, false)⟩) rfl (fun K hK => ?_) AllReady.nil
        go_simp
        refine (pending10_any _ M6 F6 _ _ hJ.ix hsm).mono ?_
        rintro e' w15 ⟨rfl, hB15⟩
        replace hJ := hJ.below hB15
        replace hbp := hbp.below hB15
        replace hx8 := hx8.below hB15
        replace hx9 := hx9.below hB15
        replace hu := hu.below hB15
        replace ho := ho.below hB15
        refine hK _ _ ?_
        clear hK K
        try simp only [Act.put, List.setIfInBounds_toArray, List.set_cons_zero, List.set_cons_succ]
        refine wpAny_take (i := 29) (oi := ⟨some 69, _, _, _, _, some (21, false)⟩) (v := ?_) rfl (by kernel_rfl) (by kernel_rfl) (by kernel_rfl) (fun _ _ _ h => h) (Or.inl ⟨by rfl, ?_⟩) ?_
        rotate_left
        · intro w; go_simp; try with_reducible rfl
        try simp only [Act.put, List.setIfInBounds_toArray, List.set_cons_zero, List.set_cons_succ]
        refine wpAny_take (i := 30) (oi := ⟨some 70, _, _, _, _, none⟩) (v := ?_) rfl (by kernel_rfl) (by kernel_rfl) (by kernel_rfl) (fun _ _ _ h => h) (Or.inl ⟨by rfl, ?_⟩) ?_
        rotate_left
        · intro w; go_simp; try with_reducible rfl
        try simp only [Act.put, List.setIfInBounds_toArray, List.set_cons_zero, List.set_cons_succ]
        refine wpAny_take (i := 31) (oi := ⟨some 71, _, _, _, _, none⟩) (v := ?_) rfl (by kernel_rfl) (by kernel_rfl) (by kernel_rfl) (fun _ _ _ h => h) (Or.inl ⟨by rfl, ?_⟩) ?_
        rotate_left
        · intro w; go_simp; try with_reducible rfl
        try simp only [Act.put, List.setIfInBounds_toArray, List.set_cons_zero, List.set_cons_succ]
        refine wpAny_take (i := 32) (oi := ⟨some 72, _, _, _, _, some (31, false)⟩) (v := ?_) rfl (by kernel_rfl) (by kernel_rfl) (by kernel_rfl) (fun _ _ _ h => h) (Or.inl ⟨by rfl, ?_⟩) ?_
        rotate_left
        · intro w; go_simp; try with_reducible rfl
        try simp only [Act.put, List.setIfInBounds_toArray, List.set_cons_zero, List.set_cons_succ]
        refine wpAny_take (i := 34) (oi := ⟨some 74, _, _, _, _, some (31, false)⟩) (v := ?_) rfl (by kernel_rfl) (by kernel_rfl) (by kernel_rfl) (fun _ _ _ h => h) (Or.inl ⟨by rfl, ?_⟩) ?_
        rotate_left
        · intro w; go_simp; try with_reducible rfl
        try simp only [Act.put, List.setIfInBounds_toArray, List.set_cons_zero, List.set_cons_succ]
        refine wpAny_ready (rs := [33, 35]) (by kernel_rfl) (by simp) ?_
        refine AllReady.cons (o := ⟨some 73, .load 29 (.tmp 72), _, _, _, some (31, false)⟩) rfl (fun K hK => ?_) ?_
        · refine step_ld1g 29 (.tmp 72) (by rfl) (by rfl) (by rfl) (hx9.cellAt 3 _ rfl) Try.isAgg29 ?_
          refine hK _ _ ?_
          clear hK K
          try simp only [Act.put, List.setIfInBounds_toArray, List.set_cons_zero, List.set_cons_succ]
          refine wpAny_ready (rs := [35]) (by kernel_rfl) (by simp) ?_
          refine AllReady.cons (o := ⟨some 75, .load 29 (.tmp 74), _, _, _, some (31, false)⟩) rfl (fun K hK => ?_) AllReady.nil
          refine step_ld1g 29 (.tmp 74) (by rfl) (by rfl) (by rfl) (hx8.cellAt 3 _ rfl) Try.isAgg29 ?_
          refine hK _ _ ?_
          clear hK K
          try simp only [Act.put, List.setIfInBounds_toArray, List.set_cons_zero, List.set_cons_succ]
          refine wpAny_ready (rs := [36]) (by kernel_rfl) (by simp) ?_
          refine AllReady.cons (o := ⟨some 76, _, _, _, _, some (31, false)⟩) rfl (fun K hK => ?_) AllReady.nil
          go_simp
          refine (same_b _ _ a.b a.b _ _ _ ho hu).mono ?_
          rintro e' w16 ⟨rfl, hB16⟩
          rw [decide_eq_true rfl]
          replace hJ := hJ.below hB16
          refine hK _ _ ?_
          clear hK K
          try simp only [Act.put, List.setIfInBounds_toArray, List.set_cons_zero, List.set_cons_succ]
          refine wpAny_take (i := 37) (oi := ⟨some 77, _, _, _, _, some (31, false)⟩) (v := ?_) rfl (by kernel_rfl) (by kernel_rfl) (by kernel_rfl) (fun _ _ _ h => h) (Or.inl ⟨by rfl, ?_⟩) ?_
          rotate_left
          · intro w; go_simp; try with_reducible rfl
          try simp only [Act.put, List.setIfInBounds_toArray, List.set_cons_zero, List.set_cons_succ]
          refine wpAny_take (i := 38) (oi := ⟨some 78, _, _, _, _, none⟩) (v := ?_) rfl (by kernel_rfl) (by kernel_rfl) (by kernel_rfl) (fun _ _ _ h => h) (Or.inl ⟨by rfl, ?_⟩) ?_
          rotate_left
          · intro w; go_simp; try with_reducible rfl
          try simp only [Act.put, List.setIfInBounds_toArray, List.set_cons_zero, List.set_cons_succ]
          refine wpAny_done (by kernel_rfl) ?_ _
          refine NoPanic.normal ?_
          go_wp2
          go_roundw
          case rel => exact ⟨i + 1, r7, M6, F6, R.1, by omega, by go_num, hJ, hI'⟩
          case measure => simp [intOf]; omega
        refine AllReady.cons (o := ⟨some 75, .load 29 (.tmp 74), _, _, _, some (31, false)⟩) rfl (fun K hK => ?_) AllReady.nil
        refine step_ld1g 29 (.tmp 74) (by rfl) (by rfl) (by rfl) (hx8.cellAt 3 _ rfl) Try.isAgg29 ?_
        refine hK _ _ ?_
        clear hK K
        try simp only [Act.put, List.setIfInBounds_toArray, List.set_cons_zero, List.set_cons_succ]
        refine wpAny_ready (rs := [33]) (by kernel_rfl) (by simp) ?_
        refine AllReady.cons (o := ⟨some 73, .load 29 (.tmp 72), _, _, _, some (31, false)⟩) rfl (fun K hK => ?_) AllReady.nil
        refine step_ld1g 29 (.tmp 72) (by rfl) (by rfl) (by rfl) (hx9.cellAt 3 _ rfl) Try.isAgg29 ?_
        refine hK _ _ ?_
        clear hK K
        try simp only [Act.put, List.setIfInBounds_toArray, List.set_cons_zero, List.set_cons_succ]
        refine wpAny_ready (rs := [36]) (by kernel_rfl) (by simp) ?_
        refine AllReady.cons (o := ⟨some 76, _, _, _, _, some (31, false)⟩) rfl (fun K hK => ?_) AllReady.nil
        go_simp
        refine (same_b _ _ a.b a.b _ _ _ ho hu).mono ?_
        rintro e' w16 ⟨rfl, hB16⟩
        rw [decide_eq_true rfl]
        replace hJ := hJ.below hB16
        refine hK _ _ ?_
        clear hK K
        try simp only [Act.put, List.setIfInBounds_toArray, List.set_cons_zero, List.set_cons_succ]
        refine wpAny_take (i := 37) (oi := ⟨some 77, _, _, _, _, some (31, false)⟩) (v := ?_) rfl (by kernel_rfl) (by kernel_rfl) (by kernel_rfl) (fun _ _ _ h => h) (Or.inl ⟨by rfl, ?_⟩) ?_
        rotate_left
        · intro w; go_simp; try with_reducible rfl
        try simp only [Act.put, List.setIfInBounds_toArray, List.set_cons_zero, List.set_cons_succ]
        refine wpAny_take (i := 38) (oi := ⟨some 78, _, _, _, _, none⟩) (v := ?_) rfl (by kernel_rfl) (by kernel_rfl) (by kernel_rfl) (fun _ _ _ h => h) (Or.inl ⟨by rfl, ?_⟩) ?_
        rotate_left
        · intro w; go_simp; try with_reducible rfl
        try simp only [Act.put, List.setIfInBounds_toArray, List.set_cons_zero, List.set_cons_succ]
        refine wpAny_done (by kernel_rfl) ?_ _
        refine NoPanic.normal ?_
        go_wp2
        go_roundw
        case rel => exact ⟨i + 1, r7, M6, F6, R.1, by omega, by go_num, hJ, hI'⟩
        case measure => simp [intOf]; omega
      · rw [decide_eq_false hk]
        go_wp2
        go_roundw
        case rel => exact ⟨i + 1, r, M, F', D, by omega, by go_num, hJ5, hI.mono (by omega)⟩
        case measure => simp [intOf]; omega
    · have hi' : i = l.length := by omega
      subst hi'
      have hI0 : ¬ (l.length : Int) < (l.length : Int) := by omega
      go_wp2
      go_ret
      exact ⟨rfl, hJ.bel⟩
end Go.Proofs.Ytjaiffefgjopmaa
