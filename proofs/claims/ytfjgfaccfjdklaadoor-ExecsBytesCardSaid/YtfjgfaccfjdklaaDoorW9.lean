/- W9: layer 6: contracts of Put, Get, by the program and by the document. -/
import Derived.Test.YtfjgfaccfjdklaaDoorW8
import Derived.Test.YtfjgfaccfjdklaaDoorN8
import Derived.Test.YtfjgfaccfjdklaaDoorR3
namespace Go.Proofs.YtfjgfaccfjdklaaDoor
open Go.RowKit Go.V
/-- a view's bytes -/
def putV (n : Int) (M : Nat) : List UInt8 := if rgt n M then fixR 2 n.toNat ++ fixR 2 M else []
theorem len_fix2 (x : Nat) : (fixR 2 x).length = 2 := by
  unfold fixR
  rw [if_pos (by unfold okN; omega)]
  simp [fixB]
set_option maxHeartbeats 400000 in
theorem put6_any (n : Int) (M : Nat) (w : World) (h : M < 65536) :
    Calls Tryd.prog 15 #[vw n M] w fun e w' => ∃ v', e = .returned v' ∧ NewB w w' v' (putV n M) := by
  have hrt := (right_any n M · h)
  have hz := rgt_sz (n := n) (M := M)
  have hp : putV n M = if rgt n M then fixR 2 n.toNat ++ fixR 2 M else [] := rfl
  obtain ⟨P, hP⟩ : ∃ P, P = putV n M := ⟨_, rfl⟩
  rw [← hP] at hp ⊢
  clear hP
  unfold vw at hrt ⊢
  have hvb := Blk.new' w 24 [.int .i64 n, .int .u16 (M : Int)]
  have hB : Below w.heap.size w (w.alloc (.cells #[.int .i64 n, .int .u16 (M : Int)] 24)) := (Below.refl _ _).alloc (Nat.le_refl _) _
  go_enter Tryd.func15, Tryd.ntmps15
  go_wp2_with (fail)
  refine (hrt _).mono ?_
  rintro e w1 ⟨rfl, hB1⟩
  have hv1 := hvb.below hB1
  have hB1' := hB.trans (hB1.mono hB.size)
  have c0 := hv1.cellAt 0 _ rfl
  cases hr : rgt n M with
  | false =>
    rw [hr] at hp
    have hp : P = [] := hp
    have Hp := hid hp
    clear hp hr hz
    go_wp2
    go_ret
    exact ⟨_, rfl, by rw [Hp.out]; exact ⟨World.ownsRow_nil _ _ _ _, hB1'⟩⟩
  | true =>
    rw [hr, if_pos rfl] at hp
    have hz1 := hz hr
    obtain ⟨q, rfl⟩ := Int.eq_ofNat_of_zero_le hz1.1
    rw [Int.toNat_natCast] at hp
    have hq : (q : Int) ≤ 60 := hz1.2.1
    have Hp := hid hp
    clear hp hz hz1 hr
    go_wp2_with (fail)
    refine (putx_any (.slice none 0 0) [] q 2 nob _ (Rd.nil _ _) (by omega) (by simp)).mono ?_
    rintro e w2 ⟨v2, rfl, ho2, hB2⟩
    have hB2' := hB1'.trans (hB2.mono hB1'.size)
    have hv2 := hv1.below hB2
    clear c0
    have c1 := hv2.cellAt 1 _ rfl
    rw [List.nil_append] at ho2
    go_wp2_with (fail)
    refine (putx_any v2 (fixR 2 q) M 2 _ _ (Rd.of_own ho2) (by omega) (by rw [len_fix2]; omega)).mono ?_
    rintro e w3 ⟨v3, rfl, ho3, hB3⟩
    go_wp2
    go_ret
    exact ⟨v3, rfl, by rw [Hp.out]; exact ⟨own_weak ho3 hB2'.size, hB2'.trans (hB3.mono hB2'.size)⟩⟩
set_option maxHeartbeats 1000000 in
theorem rput_any (n : Int) (M : Nat) (w : World) (h : M < 65536) :
    Calls Tryd.prog 22 #[vw n M] w fun e w' => ∃ v', e = .returned v' ∧ NewB w w' v' (putV n M) := by
  have hrt := (rright_any n M · h)
  have hz := rgt_sz (n := n) (M := M)
  have hp : putV n M = if rgt n M then fixR 2 n.toNat ++ fixR 2 M else [] := rfl
  obtain ⟨P, hP⟩ : ∃ P, P = putV n M := ⟨_, rfl⟩
  rw [← hP] at hp ⊢
  clear hP
  unfold vw at hrt ⊢
  have hvb := Blk.new' w 24 [.int .i64 n, .int .u16 (M : Int)]
  have hB : Below w.heap.size w (w.alloc (.cells #[.int .i64 n, .int .u16 (M : Int)] 24)) := (Below.refl _ _).alloc (Nat.le_refl _) _
  go_enter Tryd.func22, Tryd.ntmps22
  go_wp2_with (fail)
  obtain ⟨w0, hw0⟩ : ∃ w0, w0 = w.alloc (.cells #[.int .i64 n, .int .u16 (M : Int)] 24) := ⟨_, rfl⟩
  rw [← hw0] at hvb hB ⊢
  clear hw0
  obtain ⟨g, hg⟩ : ∃ g, g = w.heap.size := ⟨_, rfl⟩
  rw [← hg] at hvb ⊢
  clear hg
  refine (hrt _).mono ?_
  rintro e wq ⟨rfl, hB1⟩
  have hv1 := hvb.below hB1
  have hB1' := hB.trans (hB1.mono hB.size)
  cases hr : rgt n M with
  | false =>
    rw [hr] at hp
    have hp : P = [] := hp
    have Hp := hid hp
    clear hp hr hz
    go_wp2
    go_ret
    exact ⟨_, rfl, by rw [Hp.out]; exact ⟨World.ownsRow_nil _ _ _ _, hB1'⟩⟩
  | true =>
    rw [hr, if_pos rfl] at hp
    have hz1 := hz hr
    obtain ⟨q, rfl⟩ := Int.eq_ofNat_of_zero_le hz1.1
    rw [Int.toNat_natCast] at hp
    have hq : (q : Int) ≤ 60 := hz1.2.1
    have Hp := hid hp
    have HV0 : Hid (∀ W, Ch nob wq W → W.cell? ⟨g, 0, none⟩ = some (.int .i64 (q : Int))) := fun W h => (hv1.below h.below).cellAt 0 _ rfl
    have HV1 : Hid (∀ W, Ch nob wq W → W.cell? ⟨g, 1, none⟩ = some (.int .u16 (M : Int))) := fun W h => (hv1.below h.below).cellAt 1 _ rfl
    have Hla := hid (len_fix2 q)
    have Hlb := hid (len_fix2 M)
    have hwq : IntKind.u64.wrap (q : Int) = (q : Int) := by rw [IntKind.wrap_u64]; omega
    have hwM : IntKind.u64.wrap (M : Int) = (M : Int) := by rw [IntKind.wrap_u64]; omega
    clear hp hz hz1 hr
    go_upto_region 3 with (fail)
    refine wp_region_noPanic ?_
    refine wp_region_held_drew (S := Ch nob wq) (by kernel_rfl) ((Ch.refl _ _).drew) (fun hHeld => ?_)
    refine wpAnyH_take (i := 0) (oi := ⟨some 6, _, _, _, _, none⟩) (v := ?_) rfl (by kernel_rfl) (by kernel_rfl) (by kernel_rfl) (fun _ _ _ h => h) (Or.inl ⟨by rfl, ?_⟩) (by assumption) ?_
    rotate_left
    · intro w hSw; go_simp; try with_reducible rfl
    try simp only [Act.put, List.setIfInBounds_toArray, List.set_cons_zero, List.set_cons_succ]
    refine wpAnyH_take (i := 1) (oi := ⟨some 7, _, _, _, _, none⟩) (v := ?_) rfl (by kernel_rfl) (by kernel_rfl) (by kernel_rfl) (fun _ _ _ h => h) (Or.inl ⟨by rfl, ?_⟩) (by assumption) ?_
    rotate_left
    · intro w hSw; have hcw := HV0.out w hSw; go_simp; try with_reducible rfl
    try simp only [Act.put, List.setIfInBounds_toArray, List.set_cons_zero, List.set_cons_succ]
    refine wpAnyH_take (i := 2) (oi := ⟨some 8, _, _, _, _, none⟩) (v := ?_) rfl (by kernel_rfl) (by kernel_rfl) (by kernel_rfl) (fun _ _ _ h => h) (Or.inl ⟨by rfl, ?_⟩) (by assumption) ?_
    rotate_left
    · intro w hSw; go_simp; try with_reducible rfl
    try simp only [Act.put, List.setIfInBounds_toArray, List.set_cons_zero, List.set_cons_succ]
    refine wpAnyH_take (i := 4) (oi := ⟨some 10, _, _, _, _, none⟩) (v := ?_) rfl (by kernel_rfl) (by kernel_rfl) (by kernel_rfl) (fun _ _ _ h => h) (Or.inl ⟨by rfl, ?_⟩) (by assumption) ?_
    rotate_left
    · intro w hSw; go_simp; try with_reducible rfl
    try simp only [Act.put, List.setIfInBounds_toArray, List.set_cons_zero, List.set_cons_succ]
    refine wpAnyH_take (i := 5) (oi := ⟨some 11, _, _, _, _, none⟩) (v := ?_) rfl (by kernel_rfl) (by kernel_rfl) (by kernel_rfl) (fun _ _ _ h => h) (Or.inl ⟨by rfl, ?_⟩) (by assumption) ?_
    rotate_left
    · intro w hSw; have hcw := HV1.out w hSw; go_simp; try with_reducible rfl
    try simp only [Act.put, List.setIfInBounds_toArray, List.set_cons_zero, List.set_cons_succ]
    refine wpAnyH_take (i := 6) (oi := ⟨some 12, _, _, _, _, none⟩) (v := ?_) rfl (by kernel_rfl) (by kernel_rfl) (by kernel_rfl) (fun _ _ _ h => h) (Or.inl ⟨by rfl, ?_⟩) (by assumption) ?_
    rotate_left
    · intro w hSw; go_simp; try with_reducible rfl
    try simp only [Act.put, List.setIfInBounds_toArray, List.set_cons_zero, List.set_cons_succ]
    refine wpAnyH_ready (rs := [3]) (by kernel_rfl) (by simp) ?_
    refine AllReadyH.cons (o := ⟨some 9, _, _, _, _, none⟩) rfl (fun K hK => ?_) AllReadyH.nil
    go_simp
    refine (refx_any q 2 _ (by omega)).mono ?_
    rintro e' w11 ⟨va, rfl, hoa, hB11⟩
    have hC11 := hHeld.belowR hB11
    refine hK.out _ _ (hC11) (fun hHeld => ?_)
    clear hK K
    try simp only [Act.put, List.setIfInBounds_toArray, List.set_cons_zero, List.set_cons_succ]
    refine wpAnyH_ready (rs := [7]) (by kernel_rfl) (by simp) ?_
    refine AllReadyH.cons (o := ⟨some 13, _, _, _, _, none⟩) rfl (fun K hK => ?_) AllReadyH.nil
    go_simp
    refine (refx_any M 2 _ (by omega)).mono ?_
    rintro e' w12 ⟨vb, rfl, hob, hB12⟩
    have hoa := (Rd.of_own hoa).below hB12
    have hC12 := hC11.belowR hB12
    refine hK.out _ _ (hC12) (fun hHeld => ?_)
    clear hK K
    try simp only [Act.put, List.setIfInBounds_toArray, List.set_cons_zero, List.set_cons_succ]
    refine wpAnyH_ready (rs := [8]) (by kernel_rfl) (by simp) ?_
    refine AllReadyH.cons (o := ⟨some 14, _, _, _, _, none⟩) rfl (fun K hK => ?_) AllReadyH.nil
    go_simp
    refine (join_any _ _ _ _ _ _ _ hoa (Rd.of_own hob) (by rw [Hla.out]; omega) (by rw [Hlb.out]; omega)).mono ?_
    rintro e' w13 ⟨vc, rfl, hoc, hB13⟩
    have hC13 := hC12.belowR hB13
    refine hK.out _ _ (hC13) (fun hHeld => ?_)
    clear hK K
    try simp only [Act.put, List.setIfInBounds_toArray, List.set_cons_zero, List.set_cons_succ]
    refine wpAnyH_take (i := 9) (oi := ⟨some 2, _, _, _, _, none⟩) (v := ?_) rfl (by kernel_rfl) (by kernel_rfl) (by kernel_rfl) (fun _ _ _ h => h) (Or.inl ⟨by rfl, ?_⟩) (by assumption) ?_
    rotate_left
    · intro w hSw; go_simp; try with_reducible rfl
    try simp only [Act.put, List.setIfInBounds_toArray, List.set_cons_zero, List.set_cons_succ]
    refine wpAnyH_done (by kernel_rfl) ?_ _
    refine NoPanic.normal ?_
    go_wp2
    go_ret
    exact ⟨vc, rfl, by rw [Hp.out]; exact ⟨own_weak hoc (hB1'.trans (hC12.below.mono hB1'.size)).size, hB1'.trans (hC13.below.mono hB1'.size)⟩⟩
/-- what bytes tell -/
def gotV (b : List UInt8) : Value := if b.length = 4 ∧ rgt (nb b 0 2 : Nat) (nb b 2 2) then .tuple #[vw (nb b 0 2 : Nat) (nb b 2 2), .int .i64 0] else .tuple #[vw 0 0, .int .i64 (if b.length < 4 then 1 else 2)]
theorem fix2_nb (b : List UInt8) (k : Nat) (h : k + 2 ≤ b.length) : fixRd 2 (b.drop k) = .ok (nb b k 2) := by
  unfold fixRd
  rw [if_pos (by unfold okN; omega), if_neg (by rw [List.length_drop]; simp; omega)]
  congr 1
  have e : (b.drop k).take (2 : Int).toNat = [b[k]'(by omega), b[k + 1]'(by omega)] := by
    rw [List.drop_eq_getElem_cons (by omega), List.drop_eq_getElem_cons (by omega)]
    rfl
  rw [e]
  simp only [nb, fixN, List.foldl_cons, List.foldl_nil, Nat.add_zero, List.getD_eq_getElem?_getD]
  rw [List.getElem?_eq_getElem (by omega), List.getElem?_eq_getElem (by omega)]
  simp
  omega
theorem fix2_short (l : List UInt8) (h : l.length < 2) : fixRd 2 l = .error 1 := by
  unfold fixRd
  rw [if_pos (by unfold okN; omega), if_pos (by simpa using h)]
set_option maxRecDepth 100000 in
set_option maxHeartbeats 1000000 in
theorem get6_any (v : Value) (b : List UInt8) (F : Nat → Prop) (w : World) (hb : Rd w F v (bys b)) (hl : b.length ≤ 1000) :
    Calls Tryd.prog 48 #[v] w fun e w' => e = .returned (gotV b) ∧ Below w.heap.size w w' := by
  obtain ⟨A, c, rfl⟩ := hb.shape
  obtain ⟨u, hu⟩ : ∃ u, u = gotV b := ⟨_, rfl⟩
  rw [← hu]
  unfold gotV at hu
  have hz := Blk.new' w 24 [.int .i64 0, .int .u16 0]
  have hB : Below w.heap.size w (w.alloc (.cells #[.int .i64 0, .int .u16 0] 24)) := (Below.refl _ _).alloc (Nat.le_refl _) _
  have hbr := hb.below hB
  go_enter Tryd.func48, Tryd.ntmps48
  go_wp2_with (fail)
  obtain ⟨w0, hw0⟩ : ∃ w0, w0 = w.alloc (.cells #[.int .i64 0, .int .u16 0] 24) := ⟨_, rfl⟩
  rw [← hw0] at hz hB hbr ⊢
  clear hw0
  obtain ⟨g, hg⟩ : ∃ g, g = w.heap.size := ⟨_, rfl⟩
  rw [← hg] at hz ⊢
  have hgw : w.heap.size ≤ g := by omega
  clear hg
  refine (new_any _ b F _ hbr (by omega)).mono ?_
  rintro e w1 ⟨p, rfl, hp, hr1, hB1⟩
  have hB1' : Below w.heap.size w w1 := hB.trans (hB1.mono hB.size)
  have hz1 := hz.below hB1
  have hgl := hz.lt
  have hpw : w.heap.size ≤ p := by have := hB.size; omega
  have hgp : ¬ only p g := fun (h : g = p) => by omega
  have f1 := fixed_any p _ b 0 2 w1 hr1
  rw [List.drop_zero] at f1
  by_cases h2 : b.length < 2
  · have Hu : Hid (u = .tuple #[.agg #[.int .i64 0, .int .u16 0], .int .i64 1]) := by
      show _ = _; rw [hu, if_neg (by intro h; omega), if_pos (by omega)]; rfl
    rw [fix2_short b h2] at f1
    have Hf := hid f1
    clear f1 hu
    go_wp2_with (fail)
    refine Hf.out.mono ?_
    rintro e w2 ⟨rfl, hr2, hC2⟩
    have hz2 := hz1.ch hC2 hgp
    have hB2 : Below w.heap.size w w2 := Ch.below_of hB1' hC2 (fun k hk => by have : k = p := hk; omega) hB1'.size
    simp only [eF]
    go_wp2_with (refine wp_st 24 (.tmp 2) (.tmp 19) rfl rfl rfl (f := 0) rfl (l := [.int .i64 0, .int .u16 0]) rfl hz2 (by simp) sizeV (by intro v hv; simp at hv; rcases hv with rfl | rfl <;> rfl) ?_; intro w9 hd9 hG9; refine wp_stop ?_)
    refine wp_go ?_
    go_wp2
    refine ret_cell1 rfl rfl rfl hd9.whole Tryd.underlying24 rfl sizeV rfl ?_
    exact ⟨by rw [Hu.out]; rfl, hB2.grown hG9 hB2.size (by intro k hk; injection hk with hk; omega)⟩
  have e1 : fixRd 2 b = .ok (nb b 0 2) := by have := fix2_nb b 0 (by omega); rwa [List.drop_zero] at this
  rw [e1] at f1
  have hn1 := nb_lt b 0 2
  have hn2 := nb_lt b 2 2
  obtain ⟨x, hx⟩ : ∃ x, x = nb b 0 2 := ⟨_, rfl⟩
  obtain ⟨y, hy⟩ : ∃ y, y = nb b 2 2 := ⟨_, rfl⟩
  have hfy : 4 ≤ b.length → fixRd 2 (b.drop 2) = .ok y := fun h => by rw [hy]; exact fix2_nb b 2 (by omega)
  rw [← hx] at f1 hu hn1
  rw [← hy] at hu hn2
  clear hx hy e1
  have Hf := hid f1
  clear f1
  go_wp2_with (fail)
  refine Hf.out.mono ?_
  rintro e w2 ⟨rfl, hr2, hC2⟩
  have hz2 := hz1.ch hC2 hgp
  have hB2 : Below w.heap.size w w2 := Ch.below_of hB1' hC2 (fun k hk => by have : k = p := hk; omega) hB1'.size
  simp only [eF]
  have f2 := fixed_any p _ b 2 2 w2 (by simpa [lenF] using hr2)
  clear hr2 Hf hr1 hz1
  by_cases h4 : b.length < 4
  · have Hu : Hid (u = .tuple #[.agg #[.int .i64 0, .int .u16 0], .int .i64 1]) := by
      show _ = _; rw [hu, if_neg (by intro h; omega), if_pos (by omega)]; rfl
    rw [fix2_short (b.drop 2) (by rw [List.length_drop]; omega)] at f2
    have Hf := hid f2
    clear f2 hu
    go_wp2_with (fail)
    refine Hf.out.mono ?_
    rintro e w3 ⟨rfl, hr3, hC3⟩
    have hz3 := hz2.ch hC3 hgp
    have hB3 : Below w.heap.size w w3 := Ch.below_of hB2 hC3 (fun k hk => by have : k = p := hk; omega) hB2.size
    simp only [eF]
    go_wp2_with (refine wp_st 24 (.tmp 2) (.tmp 28) rfl rfl rfl (f := 0) rfl (l := [.int .i64 0, .int .u16 0]) rfl hz3 (by simp) sizeV (by intro v hv; simp at hv; rcases hv with rfl | rfl <;> rfl) ?_; intro w9 hd9 hG9; refine wp_stop ?_)
    refine wp_go ?_
    go_wp2
    refine ret_cell1 rfl rfl rfl hd9.whole Tryd.underlying24 rfl sizeV rfl ?_
    exact ⟨by rw [Hu.out]; rfl, hB3.grown hG9 hB3.size (by intro k hk; injection hk with hk; omega)⟩
  rw [hfy (by omega)] at f2
  have Hf := hid f2
  clear f2 hfy
  go_wp2_with (fail)
  refine Hf.out.mono ?_
  rintro e w3 ⟨rfl, hr3, hC3⟩
  have hz3 := hz2.ch hC3 hgp
  have hB3 : Below w.heap.size w w3 := Ch.below_of hB2 hC3 (fun k hk => by have : k = p := hk; omega) hB2.size
  simp only [eF]
  have f3 := done_any p _ b _ w3 hr3
  rw [show 2 + lenF 2 (.ok y) = 4 from rfl] at f3
  clear Hf hr3
  by_cases h5 : 4 < b.length
  · have Hu : Hid (u = .tuple #[.agg #[.int .i64 0, .int .u16 0], .int .i64 2]) := by
      show _ = _; rw [hu, if_neg (by intro h; omega), if_neg (by omega)]; rfl
    rw [if_pos h5] at f3
    have Hf := hid f3
    clear f3 hu
    go_wp2_with (fail)
    refine Hf.out.mono ?_
    rintro e w4 ⟨rfl, nn, rfl⟩
    have hz4 := hz3.drewN nn
    have hB4 := below_drewN hB3 nn
    go_wp2_with (refine wp_st 24 (.tmp 2) (.tmp 34) rfl rfl rfl (f := 0) rfl (l := [.int .i64 0, .int .u16 0]) rfl hz4 (by simp) sizeV (by intro v hv; simp at hv; rcases hv with rfl | rfl <;> rfl) ?_; intro w9 hd9 hG9; refine wp_stop ?_)
    refine wp_go ?_
    go_wp2
    refine ret_cell1 rfl rfl rfl hd9.whole Tryd.underlying24 rfl sizeV rfl ?_
    exact ⟨by rw [Hu.out]; rfl, hB4.grown hG9 hB4.size (by intro k hk; injection hk with hk; omega)⟩
  rw [if_neg h5] at f3
  have Hf := hid f3
  clear f3
  have hro := ronly_any (x : Int) y
  have hrn := rgt_ne (n := (x : Int)) (M := y)
  have h44 : b.length = 4 := by omega
  go_wp2_with (fail)
  refine Hf.out.mono ?_
  rintro e w4 ⟨rfl, nn, rfl⟩
  have hz4 := hz3.drewN nn
  have hB4 := below_drewN hB3 nn
  clear Hf
  cases hrt : rgt (x : Int) y with
  | true =>
    have hyn : ((y : Int) == 0) = false := by rw [beq_eq_false_iff_ne]; have := hrn hrt; omega
    rw [hrt, if_pos rfl] at hro
    have Hu : Hid (u = .tuple #[.agg #[.int .i64 (x : Int), .int .u16 (y : Int)], .int .i64 0]) := by
      show _ = _; rw [hu, if_pos ⟨h44, hrt⟩]; rfl
    clear hu hrn hrt h2 h4 h5
    unfold vw at hro
    go_wp2_with (fail)
    refine (hro _ (by omega)).mono ?_
    rintro e w5 ⟨rfl, hB5⟩
    have hz5 := (hz4.below hB5).alloc (.cells #[.int .i64 (x : Int), .int .u16 (y : Int)] 24)
    have hB5' := hB4.trans (hB5.mono hB4.size)
    have hB6 := hB5'.alloc hB5'.size (.cells #[.int .i64 (x : Int), .int .u16 (y : Int)] 24)
    go_wp2_with (refine wp_st 24 (.tmp 2) (.tmp 46) rfl rfl rfl (f := 0) rfl (l := [.int .i64 (x : Int), .int .u16 (y : Int)]) rfl hz5 (by simp) sizeV (by intro v hv; simp at hv; rcases hv with rfl | rfl <;> rfl) ?_; intro w9 hd9 hG9; refine wp_stop ?_)
    refine wp_go ?_
    go_wp2
    refine ret_cell1 rfl rfl rfl hd9.whole Tryd.underlying24 rfl sizeV rfl ?_
    exact ⟨by rw [Hu.out]; rfl, hB6.grown hG9 hB6.size (by intro k hk; injection hk with hk; omega)⟩
  | false =>
    rw [hrt, if_neg (by intro h; cases h)] at hro
    have Hu : Hid (u = .tuple #[.agg #[.int .i64 0, .int .u16 0], .int .i64 2]) := by
      show _ = _; rw [hu, if_neg (by rw [hrt]; intro h; cases h.2), if_neg (by omega)]; rfl
    clear hu hrn hrt h2 h4 h5
    unfold vw at hro
    go_wp2_with (fail)
    refine (hro _ (by omega)).mono ?_
    rintro e w5 ⟨rfl, hB5⟩
    have hz5 := (hz4.below hB5).alloc (.cells #[.int .i64 0, .int .u16 0] 24)
    have hB5' := hB4.trans (hB5.mono hB4.size)
    have hB6 := hB5'.alloc hB5'.size (.cells #[.int .i64 0, .int .u16 0] 24)
    go_wp2_with (refine wp_st 24 (.tmp 2) (.tmp 45) rfl rfl rfl (f := 0) rfl (l := [.int .i64 0, .int .u16 0]) rfl hz5 (by simp) sizeV (by intro v hv; simp at hv; rcases hv with rfl | rfl <;> rfl) ?_; intro w9 hd9 hG9; refine wp_stop ?_)
    refine wp_go ?_
    go_wp2
    refine ret_cell1 rfl rfl rfl hd9.whole Tryd.underlying24 rfl sizeV rfl ?_
    exact ⟨by rw [Hu.out]; rfl, hB6.grown hG9 hB6.size (by intro k hk; injection hk with hk; omega)⟩
end Go.Proofs.YtfjgfaccfjdklaaDoor
