/- Xr: layer 19: contracts of boundIn, follow$1, slices.MaxFunc at what is told. -/
import Derived.Test.YtnhhbbjkeekneaaGreatDoorM1
import Derived.Test.YtnhhbbjkeekneaaGreatDoorNC
import Derived.Deep.RegionHeld3
namespace Go.Proofs.YtnhhbbjkeekneaaGreatDoor
open Go.RowKit Go.V
theorem rng_keep19 {w w' : World} {g off : Nat} {l : List Value} (h : w.rangeAt g off l) (hk : w'.heap[g]? = w.heap[g]?) : w'.rangeAt g off l := fun j v hv => by
  have := h j v hv
  unfold World.cell? at this ⊢
  rw [hk]
  exact this
theorem rng_lt19 {w : World} {g off : Nat} {l : List Value} (h : w.rangeAt g off l) (hl : 0 < l.length) : g < w.heap.size := by
  have := h 0 _ (List.getElem?_eq_getElem hl)
  rcases Nat.lt_or_ge g w.heap.size with h | h
  · exact h
  · unfold World.cell? at this
    rw [show w.heap[g]? = none from Array.getElem?_eq_none h] at this
    simp at this
def cmB (x y : Bd) : Int := orZ (cmpZ x.l y.l) (cmpZ (bndI x) (bndI y))
theorem gt_cm (x y : Bd) : gtB x y = decide (cmB x y > 0) := by
  have key : (cmB x y > 0) ↔ (x.l > y.l ∨ (x.l = y.l ∧ bndI x > bndI y)) := by
    unfold cmB orZ cmpZ
    repeat split
    all_goals omega
  unfold gtB
  exact decide_eq_decide.2 key.symm
theorem bel_alloc19 {w w' : World} {o : Obj} (h : w' = w.alloc o) : Below w.heap.size w w' := by rw [h]; exact (Below.refl _ _).alloc (Nat.le_refl _) _
theorem bnd19_any (x : Bd) (A : Option Addr) (k c : Nat) (w : World) : Calls Tryz.prog 45 #[.agg (bdL x (.slice A k c)).toArray] w fun e w' => e = .returned (.int .i64 (bndI x)) ∧ Below w.heap.size w w' := by
  have b1 := Blk.new' w 51 (bdL x (.slice A k c))
  have c1 := b1.cellAt 1 _ (bd_h x _)
  have c2 := b1.cellAt 2 _ (bd_r x _)
  have hB : Below w.heap.size w (w.alloc (.cells (bdL x (.slice A k c)).toArray 51)) := (Below.refl _ _).alloc (Nat.le_refl _) _
  have HF : Hid (x.h = false → bndI x = -1) := hid (fun h => by unfold bndI; rw [h]; rfl)
  have HT : Hid (x.h = true → bndI x = x.r) := hid (fun h => if_pos h)
  obtain ⟨l, hl⟩ : ∃ l, l = bdL x (.slice A k c) := ⟨_, rfl⟩
  rw [← hl] at c1 c2 hB ⊢
  obtain ⟨b, hb⟩ : ∃ b, b = x.h := ⟨_, rfl⟩
  rw [← hb] at c1 HF HT
  obtain ⟨q, hq⟩ : ∃ q, q = bndI x := ⟨_, rfl⟩
  rw [← hq] at HF HT ⊢
  clear hl hb hq b1
  go_enter Tryz.func45, Tryz.ntmps45
  cases b with
  | false =>
    have h : q = -1 := HF.out rfl
    subst h
    clear HF HT
    go_wp2
    go_ret
    exact ⟨rfl, hB⟩
  | true =>
    have h : q = x.r := HT.out rfl
    clear HF HT
    have Hh := hid h
    clear h
    go_wp2
    go_ret
    exact ⟨by rw [Hh.out]; rfl, hB⟩
set_option maxRecDepth 100000 in
set_option maxHeartbeats 4000000 in
theorem fcl19_any (x y : Bd) (A B : Option Addr) (k c k' c' : Nat) (w : World) (hx : x.d.length = 32) (hy : y.d.length = 32) :
    Calls Tryz.prog 42 #[.agg (bdL x (.slice A k c)).toArray, .agg (bdL y (.slice B k' c')).toArray] w fun e w' => e = .returned (.int .i64 (cmB x y)) ∧ Below w.heap.size w w' := by
  obtain ⟨w3, hw3, b2, b3, hB⟩ := alloc2 w 51 51 (bdL x (.slice A k c)) (bdL y (.slice B k' c'))
  have Lx := hid (len_bd hx (.slice A k c))
  have Ly := hid (len_bd hy (.slice B k' c'))
  have Hbx := hid (fun Y => bnd19_any x A k c Y)
  have Hby := hid (fun Y => bnd19_any y B k' c' Y)
  have Bx := hid (bd_l x (.slice A k c))
  have By := hid (bd_l y (.slice B k' c'))
  obtain ⟨lx, hlx⟩ : ∃ l, l = bdL x (.slice A k c) := ⟨_, rfl⟩
  obtain ⟨ly, hly⟩ : ∃ l, l = bdL y (.slice B k' c') := ⟨_, rfl⟩
  rw [← hlx] at hw3 b2 Lx Hbx Bx ⊢
  rw [← hly] at hw3 b3 Ly Hby By ⊢
  obtain ⟨q, hq⟩ : ∃ q, q = cmB x y := ⟨_, rfl⟩
  have Hq := hid hq
  rw [← hq]
  clear hlx hly hq
  go_enter Tryz.func42, Tryz.ntmps42
  go_upto_region 1 with (fail)
  first | rw [← hw3] | (simp only [List.toArray] at hw3 ⊢; rw [← hw3])
  clear hw3
  obtain ⟨g3, hg3⟩ : ∃ g, g = w.heap.size + 1 := ⟨_, rfl⟩
  rw [← hg3] at b3 ⊢
  obtain ⟨g2, hg2⟩ : ∃ g, g = w.heap.size := ⟨_, rfl⟩
  rw [← hg2] at b2 ⊢
  clear hg2 hg3
  have H0 : Hid (∀ W, Ch nob w3 W → W.cell? ⟨g2, 0, none⟩ = some (.int .i64 x.l)) := fun W h => (b2.ch h (fun h => h)).cellAt 0 _ Bx.out
  have H1 : Hid (∀ W, Ch nob w3 W → W.cell? ⟨g3, 0, none⟩ = some (.int .i64 y.l)) := fun W h => (b3.ch h (fun h => h)).cellAt 0 _ By.out
  have HX : Hid (∀ W, Ch nob w3 W → W.rangeAt g2 0 lx) := fun W h => (b2.ch h (fun h => h)).whole
  have HY : Hid (∀ W, Ch nob w3 W → W.rangeAt g3 0 ly) := fun W h => (b3.ch h (fun h => h)).whole
  clear b2 b3
  refine wp_region_noPanic ?_
  refine wp_region_held_drew (S := Ch nob w3) (by kernel_rfl) ((Ch.refl _ _).drew) (fun hHeld => ?_)
  refine tkP 0 rfl ?_
  refine tkF 1 rfl H0.out ?_
  refine tkP 2 rfl ?_
  refine tkF 3 rfl H1.out ?_
  refine tkY 5 rfl (yieldsIf_load_mid (by rfl) 51 (.tmp 2) (by rfl) _ (0) (by rfl) _ _ (fun _ hs => HX.out _ hs) Tryz.underlying51 rfl (by rw [Lx.out]; exact sizeBd19)) ?_
  refine tkY 7 rfl (yieldsIf_load_mid (by rfl) 51 (.tmp 3) (by rfl) _ (0) (by rfl) _ _ (fun _ hs => HY.out _ hs) Tryz.underlying51 rfl (by rw [Ly.out]; exact sizeBd19)) ?_
  refine rdH 4 rfl (fun K hK => ?_)
  go_simp
  refine (cmpI13_any x.l y.l _).mono ?_
  rintro e' w14 ⟨rfl, hq14⟩
  subst hq14
  refine hK.out _ _ (hHeld) (fun hHeld => ?_)
  clear hK K
  try simp only [nP]
  refine rdH 6 rfl (fun K hK => ?_)
  go_simp
  refine (Hbx.out _).mono ?_
  rintro e' y1 ⟨rfl, hE1⟩
  refine hK.out _ _ (hHeld.belowR hE1) (fun hHeld => ?_)
  clear hK K
  try simp only [nP]
  refine rdH 8 rfl (fun K hK => ?_)
  go_simp
  refine (Hby.out _).mono ?_
  rintro e' y2 ⟨rfl, hE2⟩
  refine hK.out _ _ (hHeld.belowR hE2) (fun hHeld => ?_)
  clear hK K
  try simp only [nP]
  refine rdH 9 rfl (fun K hK => ?_)
  go_simp
  refine (cmpI13_any (bndI x) (bndI y) _).mono ?_
  rintro e' w14 ⟨rfl, hq14⟩
  subst hq14
  refine hK.out _ _ (hHeld) (fun hHeld => ?_)
  clear hK K
  try simp only [nP]
  refine rdH 10 rfl (fun K hK => ?_)
  refine step_bs2 66 3 (.tmp 9) (.tmp 14) (by rfl) (by rfl) (u := .int .i64 (cmpZ x.l y.l)) (v := .int .i64 (cmpZ (bndI x) (bndI y))) (by rfl) (by rfl) (fun W => by kernel_rfl) ?_
  intro g20 w20 hg20 hb20 hw20
  have hC20 := hHeld.belowR (bel_alloc19 hw20)
  clear hw20 hg20
  refine hK.out _ _ (hC20) (fun hHeld => ?_)
  clear hK K
  try simp only [nP]
  refine rdH 11 rfl (fun K hK => ?_)
  go_simp
  refine (or13_any (cmpZ x.l y.l) (cmpZ (bndI x) (bndI y)) g20 3 2 _ hb20).mono ?_
  rintro e' w21 ⟨rfl, hq21⟩
  subst hq21
  refine hK.out _ _ (hC20) (fun hHeld => ?_)
  clear hK K
  try simp only [nP]
  refine tkP 12 rfl ?_
  refine wpAnyH_done (by kernel_rfl) ?_ _
  refine NoPanic.normal ?_
  have hBe := hB.trans (hHeld.below.mono hB.size)
  clear hHeld
  go_wp2
  go_ret
  exact ⟨by rw [Hq.out]; rfl, hBe⟩
theorem mx_snoc (m : To) (l : List To) (x : To) : mxT m (l ++ [x]) = if gtB x.b (mxT m l).b = true then x else mxT m l := by
  unfold mxT
  rw [List.foldl_append]
  rfl
set_option maxRecDepth 100000 in
set_option maxHeartbeats 8000000 in
theorem maxf19_any (m0 : To) (l : List To) (v : Value) (F : Nat → Prop) (w : World) (hl : l.length ≤ 100) (hr : Rd w F v (wds toD (m0 :: l))) :
    Calls Tryz.prog 41 #[v, .func (.func 42) #[] #[]] w fun e w' => ∃ u, e = .returned (.agg (bdL (mxT m0 l).b u).toArray) ∧ Rd w' F u (bys (mxT m0 l).b.b) ∧ Below w.heap.size w w' := by
  obtain ⟨L, hL⟩ : ∃ L, L = m0 :: l := ⟨_, rfl⟩
  rw [← hL] at hr
  have hLn : L.length = l.length + 1 := by rw [hL]; rfl
  obtain ⟨A, c, rfl, _, _⟩ := wds_shape hr
  obtain ⟨T, hT⟩ : ∃ T : Nat → To, T = fun j => mxT m0 (l.take (j - 1)) := ⟨_, rfl⟩
  have HT0 : L[0]? = some (T 1) := by rw [hL, hT]; rfl
  have HTn : Hid (T L.length = mxT m0 l) := hid (by rw [hT]; show mxT m0 (l.take (L.length - 1)) = _; rw [hLn, Nat.add_sub_cancel, List.take_length])
  have HTs : Hid (∀ (i : Nat) (x : To), 1 ≤ i → L[i]? = some x → T (i + 1) = if gtB x.b (T i).b = true then x else T i) := hid (fun i x hi h => by
    obtain ⟨j, rfl⟩ : ∃ j, i = j + 1 := ⟨i - 1, by omega⟩
    rw [hL] at h
    have h : l[j]? = some x := h
    rw [hT]
    show mxT m0 (l.take (j + 1)) = _
    rw [List.take_add_one, h]
    exact mx_snoc m0 (l.take j) x)
  obtain ⟨R, hR⟩ : ∃ R, R = mxT m0 l := ⟨_, rfl⟩
  rw [← hR] at HTn ⊢
  have hr := hr.weak (F' := fun b => F b ∧ b < w.heap.size) (fun b hb hF => ⟨hF, hb⟩)
  obtain ⟨G, hG⟩ : ∃ G : Nat → Prop, G = fun b => F b ∧ b < w.heap.size := ⟨_, rfl⟩
  rw [← hG] at hr
  have hGF : ∀ b, G b → F b := fun b h => by rw [hG] at h; exact h.1
  have hGw : ∀ b, G b → b < w.heap.size := fun b h => by rw [hG] at h; exact h.2
  have hB1 : Below w.heap.size w (w.alloc (.cells (bdL zBd (.slice none 0 0)).toArray 51)) := (Below.refl _ _).alloc (Nat.le_refl _) _
  have b4 := Blk.new' w 51 (bdL zBd (.slice none 0 0))
  obtain ⟨g, off, cs0, hA, _, hc0, he0⟩ := wd_el hr HT0
  subst hA
  obtain ⟨u0, rfl, hv0⟩ := to_open he0
  obtain ⟨A0, c0, rfl⟩ := hv0.shape
  have hr := hr.below hB1
  have hv0 := hv0.below hB1
  obtain ⟨g', off', cs0', hA, _, hc0, he0'⟩ := wd_el hr HT0
  injection hA with hA
  injection hA with hA1 hA2
  subst hA1 hA2
  obtain ⟨u0', rfl, hv0⟩ := to_open he0'
  obtain ⟨A0, c0, rfl⟩ := hv0.shape
  clear he0 he0' 
  have hn1 : ¬ (L.length : Int) < 1 := by omega
  have hL1 : 0 < L.length := by omega
  have hL100 : L.length ≤ 101 := by omega
  have L0 := hid (len_bd (T 1).hh (.slice A0 (T 1).b.b.length c0))
  have O0 : Hid (∀ v ∈ bdL (T 1).b (.slice A0 (T 1).b.b.length c0), v.oneCell' = true) := hid one_bd
  obtain ⟨l0, hl0⟩ : ∃ x, x = bdL (T 1).b (.slice A0 (T 1).b.b.length c0) := ⟨_, rfl⟩
  rw [← hl0] at L0 O0 hc0
  have Hl0 := hid hl0
  obtain ⟨n, hn⟩ : ∃ n, n = L.length := ⟨_, rfl⟩
  rw [← hn] at hr hn1 hL1 hL100 HTn ⊢
  have HLn : Hid (n = L.length) := hid hn
  clear hR hT hL hLn hl hG HT0 hl0 hn
  go_enter Tryz.func41, Tryz.ntmps41
  go_wp2_with (first | (refine wp_new 51 rfl rfl zeroBd19 ?_; refine wp_stop ?_))
  obtain ⟨w1, hw1⟩ : ∃ x, x = w.alloc (.cells (bdL zBd (.slice none 0 0)).toArray 51) := ⟨_, rfl⟩
  rw [← hw1] at hB1 hr hc0 hv0 b4 ⊢
  obtain ⟨g4, hg4⟩ : ∃ x, x = w.heap.size := ⟨_, rfl⟩
  have hg4w : w.heap.size ≤ g4 := by omega
  rw [← hg4] at b4 ⊢
  have hg4l := b4.lt
  clear hw1 hg4
  refine wp_go ?_
  go_wp2_with (first | refine wp_ixa 67 (.tmp 11) (.const (.int .i64 0)) rfl rfl rfl (i := 0) rfl Tryz.underlying67 hL1 sizeBd19 ?_ | refine wp_ld 51 (.tmp 12) rfl rfl rfl hc0 Tryz.underlying51 rfl (by rw [L0.out]; exact sizeBd19) ?_ | (refine wp_newst 51 5 (.tmp 13) rfl rfl rfl rfl rfl rfl zeroBd19 (l := l0) rfl (by rw [L0.out]; rfl) (by rw [L0.out]; exact sizeBd19) O0.out (by simp [Act.put]) ?_; intro w2 b5 hB2 hs2; refine wp_stop ?_))
  have hr := hr.below hB2
  have hv0 := hv0.below hB2
  have b4 := b4.below hB2
  have hsz1 := hB1.size
  have hB := hB1.trans (hB2.mono hB1.size)
  obtain ⟨g5, hg5⟩ : ∃ x, x = w1.heap.size := ⟨_, rfl⟩
  rw [← hg5] at b5 ⊢
  have hw5 : w.heap.size ≤ g5 := by omega
  have hne : g4 ≠ g5 := by omega
  have hG5 : ∀ b, G b → b ≠ g5 := fun b h e => by have := hGw b h; omega
  clear hB1 hB2 hs2 hg5 hc0 hsz1 hg4l
  refine wp_go ?_
  go_wp2
  go_loopw [6] (fun iv wr => ∃ (i : Nat) (A' : Option Addr) (c' : Nat), 1 ≤ i ∧ i ≤ n ∧ iv = .int .i64 (i : Int) ∧ Hid (Blk wr g5 51 (bdL (T i).b (.slice A' (T i).b.b.length c')) ∧ Rd wr G (.slice A' (T i).b.b.length c') (bys (T i).b.b)) ∧ Ch (only g5) w2 wr) (fun iv _ => n - (intOf iv).toNat)
  case atStart => exact ⟨1, A0, c0, Nat.le_refl _, by omega, by rfl, hid ⟨by rw [← Hl0.out]; exact b5, hv0⟩, Ch.refl _ _⟩
  case round =>
    clear b5 hv0
    obtain ⟨i, A', c', hi1, hin, rfl, HM0, hCh⟩ := hrel
    obtain ⟨hb5, hv⟩ := HM0.out
    have hr := hr.ch hCh (fun b hb h => hG5 b hb h)
    have b4 := b4.ch hCh (fun h => hne h)
    by_cases hlt : i < n
    · have hI : (i : Int) < (n : Int) := by omega
      obtain ⟨x, hx⟩ : ∃ x, L[i]? = some x := ⟨_, List.getElem?_eq_getElem (by have := HLn.out; omega)⟩
      obtain ⟨gx, offx, cx, hA, _, hcx, hex⟩ := wd_el hr hx
      injection hA with hA
      injection hA with hA1 hA2
      subst hA1 hA2
      obtain ⟨ux, rfl, hvx⟩ := to_open hex
      obtain ⟨Ax, cx', rfl⟩ := hvx.shape
      have Hnx := hid (HTs.out i x hi1 hx)
      have Hcf := hid (fun Y => fcl19_any x.b (T i).b Ax A' x.b.b.length cx' (T i).b.b.length c' Y x.hh (T i).hh)
      have Hgt := hid (gt_cm x.b (T i).b)
      have Lx := hid (len_bd x.hh (.slice Ax x.b.b.length cx'))
      have Ox : Hid (∀ v ∈ bdL x.b (.slice Ax x.b.b.length cx'), v.oneCell' = true) := hid one_bd
      have Lm := hid (len_bd (T i).hh (.slice A' (T i).b.b.length c'))
      obtain ⟨lx, hlx⟩ : ∃ z, z = bdL x.b (.slice Ax x.b.b.length cx') := ⟨_, rfl⟩
      obtain ⟨lm, hlm⟩ : ∃ z, z = bdL (T i).b (.slice A' (T i).b.b.length c') := ⟨_, rfl⟩
      rw [← hlx] at Hcf Lx Ox hcx
      rw [← hlm] at Hcf Lm hb5
      have Hlx := hid hlx
      have Hlm := hid hlm
      obtain ⟨cm, hcm⟩ : ∃ z, z = cmB x.b (T i).b := ⟨_, rfl⟩
      rw [← hcm] at Hcf Hgt
      have hI64 : IntKind.i64.wrap ((i : Int) + 1) = (i : Int) + 1 := IntWalk.i64_in _ (by omega)
      have hgl := (rng_lt19 hcx (by rw [Lx.out]; omega))
      have HXi : Hid (∀ W, Ch nob wr W → W.rangeAt g (off + i * 36) lx) := hid (fun W h => rng_keep19 hcx (h.block g hgl (fun h => h)))
      have HM : Hid (∀ W, Ch nob wr W → W.rangeAt g5 0 lm) := fun W h => (hb5.ch h (fun h => h)).whole
      clear hx hlx hlm hcm hex
      go_upto_region 7 with (fail)
      refine wp_region_noPanic ?_
      refine wp_region_held_drew (S := Ch nob wr) (by kernel_rfl) ((Ch.refl _ _).drew) (fun hHeld => ?_)
      refine tkP 0 rfl ?_
      refine tkP 1 rfl ?_
      refine tkP 2 rfl ?_
      refine tkY 3 rfl (yi_ixa (by rfl) 67 (.tmp 21) (.tmp 22) (by rfl) (by rfl) (by rfl) Tryz.underlying67 hlt sizeBd19) ?_
      refine tkY 4 rfl (yieldsIf_load_mid (by rfl) 51 (.tmp 23) (by rfl) _ (off + i * 36) (by rfl) _ _ (fun _ hs => HXi.out _ hs) Tryz.underlying51 rfl (by rw [Lx.out]; exact sizeBd19)) ?_
      refine tkY 5 rfl (yieldsIf_load_mid (by rfl) 51 (.tmp 5) (by rfl) _ (0) (by rfl) _ _ (fun _ hs => HM.out _ hs) Tryz.underlying51 rfl (by rw [Lm.out]; exact sizeBd19)) ?_
      refine rdH 6 rfl (fun K hK => ?_)
      go_simp
      refine (Hcf.out _).mono ?_
      rintro e' y1 ⟨rfl, hE1⟩
      refine hK.out _ _ (hHeld.belowR hE1) (fun hHeld => ?_)
      clear hK K
      try simp only [nP]
      refine tkP 7 rfl ?_
      refine wpAnyH_done (by kernel_rfl) ?_ _
      refine NoPanic.normal ?_
      have hCy := hHeld
      have hb5 := hb5.ch hCy (fun h => h)
      have hvx := hvx.ch hCy (fun b _ h => h.elim)
      have hv := hv.ch hCy (fun b _ h => h.elim)
      have hcy := rng_keep19 hcx (hCy.block g hgl (fun h => h))
      have hCh := hCh.belowR hCy.below
      clear hHeld hCy hE1 hcx hr b4 HXi HM Hcf HM0
      by_cases hc : cm > 0
      · have HTi : Hid (T (i + 1) = x) := hid (Hnx.out.trans (if_pos (by rw [Hgt.out]; exact decide_eq_true hc)))
        clear Hnx Hgt
        go_wp2_with (first | refine wp_ixa 67 (.tmp 28) (.tmp 29) rfl rfl rfl rfl Tryz.underlying67 hlt sizeBd19 ?_ | refine wp_ld 51 (.tmp 30) rfl rfl rfl hcy Tryz.underlying51 rfl (by rw [Lx.out]; exact sizeBd19) ?_ | (refine wp_st 51 (.tmp 5) (.tmp 31) rfl rfl rfl (f := 0) rfl (l := lx) rfl hb5 (by rw [Lx.out, Lm.out]; exact Nat.le_refl _) (by rw [Lx.out]; exact sizeBd19) Ox.out ?_; intro w9 hd9 hG9; refine wp_stop ?_))
        rw [set_all _ lx (by rw [Lx.out, Lm.out])] at hd9
        have hvx := hvx.keep (F' := G) (fun b hb hF => ⟨hF, hG9.block b hb (fun e => by injection e with e; exact hG5 b hF e)⟩)
        have hCh := hCh.grow hG9 (fun k hk => by injection hk with hk; exact .inl hk.symm)
        clear hb5 hG9 hcy
        refine wp_go ?_
        go_wp2
        go_roundw
        case rel => exact ⟨i + 1, Ax, cx', by omega, by omega, by go_num, hid (by rw [HTi.out, ← Hlx.out]; exact ⟨hd9, hvx⟩), hCh⟩
        case measure => first | (simp [intOf]; done) | (simp [intOf]; omega)
      · have HTi : Hid (T (i + 1) = T i) := hid (Hnx.out.trans (if_neg (by rw [Hgt.out]; exact fun h => hc (of_decide_eq_true h))))
        clear Hnx Hgt hcy hvx
        go_wp2
        go_roundw
        case rel => exact ⟨i + 1, A', c', by omega, by omega, by go_num, hid (by rw [HTi.out, ← Hlm.out]; exact ⟨hb5, hv⟩), hCh⟩
        case measure => first | (simp [intOf]; done) | (simp [intOf]; omega)
    · have hI : ¬ (i : Int) < (n : Int) := by omega
      have hie : i = n := by omega
      have hTR : T i = R := by rw [hie]; exact HTn.out
      rw [hTR] at hb5 hv
      have Lm := hid (len_bd R.hh (.slice A' R.b.b.length c'))
      have Om : Hid (∀ v ∈ bdL R.b (.slice A' R.b.b.length c'), v.oneCell' = true) := hid one_bd
      have hB := Ch.below_of hB hCh (fun k (hk : k = g5) => by omega) hB.size
      obtain ⟨lm, hlm⟩ : ∃ z, z = bdL R.b (.slice A' R.b.b.length c') := ⟨_, rfl⟩
      rw [← hlm] at Lm Om hb5
      have Hlm := hid hlm
      clear hie hTR hlm HM0 hCh hr
      go_wp2_with (first | refine wp_ld 51 (.tmp 5) rfl rfl rfl hb5.whole Tryz.underlying51 rfl (by rw [Lm.out]; exact sizeBd19) ?_ | (refine wp_st 51 (.tmp 4) (.tmp 32) rfl rfl rfl (f := 0) rfl (l := lm) rfl b4 (by rw [Lm.out, len_bd (x := zBd) rfl]; exact Nat.le_refl _) (by rw [Lm.out]; exact sizeBd19) Om.out ?_; intro w9 hd9 hG9; refine wp_stop ?_))
      rw [set_all _ lm (by rw [Lm.out]; rfl)] at hd9
      have hv := hv.keep (F' := F) (fun b hb hF => ⟨hGF b hF, hG9.block b hb (fun e => by injection e with e; have := hGw b hF; omega)⟩)
      refine wp_go ?_
      go_wp2
      refine ret_cell rfl rfl hd9.whole Tryz.underlying51 rfl (by rw [Lm.out]; exact sizeBd19) rfl ?_
      rw [Hlm.out]
      exact ⟨_, rfl, hv, hB.grown hG9 hB.size (by intro k hk; injection hk with hk; omega)⟩
end Go.Proofs.YtnhhbbjkeekneaaGreatDoor
