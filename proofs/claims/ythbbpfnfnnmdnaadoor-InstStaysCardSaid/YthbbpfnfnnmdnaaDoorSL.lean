/- SL: several texts in one (Kg SB SL). -/
import Derived.Test.YthbbpfnfnnmdnaaDoorLW
import Derived.Test.YthbbpfnfnnmdnaaDoorKx
import Derived.Test.YthbbpfnfnnmdnaaDoorSA
import Derived.Stop.BytesEq
import Derived.Lib.SlBytesConst
/- Kg: layer 18: InstProves. -/
namespace Go.Proofs.YthbbpfnfnnmdnaaDoor
open Go.RowKit Go.V
set_option maxRecDepth 100000 in
set_option maxHeartbeats 16000000 in
theorem instProves_law (V : Vc) (slot : Int) (l : List At) (vl : Value) (F : Nat → Prop) (w : World) (hKS : KS w) (hV : in64w V.n ∧ V.m < 65536) (hs : in64w slot) (hl : Rd w F vl (wds atD l)) :
    Calls Tryd.prog 3 #[vw V.n V.m, .int .i64 slot, vl] w fun e w' => e = .returned (.bool true) ∧ Below w.heap.size w w' := by
  obtain ⟨A, c, rfl, _, _⟩ := wds_shape hl
  have b3 := Blk.new' w 24 [.int .i64 V.n, .int .u16 (V.m : Int)]
  have hB : Below w.heap.size w (w.alloc (.cells #[.int .i64 V.n, .int .u16 (V.m : Int)] 24)) := (Below.refl _ _).alloc (Nat.le_refl _) _
  have Hlo := hid (fun Y h => long18_any l (.slice A l.length c) F Y h)
  have Hnw := hid (fun (uk : Value) (Y : World) (h1 : KS Y) (h2 : Rd Y (fun b => w.heap.size ≤ b) uk (tx ks17)) => (show Calls Tryd.prog 9 #[.agg #[uk, .slice none 0 0], .agg #[.int .i64 V.n, .int .u16 (V.m : Int)], .int .i64 slot] Y (fun e w' => ∃ v M, e = .returned v ∧ NX w' v M (fun b => w.heap.size ≤ b ∧ b < Y.heap.size) ks17 V slot [] ∧ (∀ b, M b → Y.heap.size ≤ b) ∧ Below Y.heap.size Y w') from inew18_any ks17 V slot uk (.slice none 0 0) _ Y h1 ks17_sm h2 hV hs))
  unfold vw
  go_enter Tryd.func3, Tryd.ntmps3
  go_wp2_with (fail)
  obtain ⟨w0, hw0⟩ : ∃ x, x = w.alloc (.cells #[.int .i64 V.n, .int .u16 (V.m : Int)] 24) := ⟨_, rfl⟩
  rw [← hw0] at b3 hB ⊢
  obtain ⟨g3, hg3⟩ : ∃ g, g = w.heap.size := ⟨_, rfl⟩
  rw [← hg3] at b3 ⊢
  clear hw0 hg3
  refine (wakes18_any _ (hKS.below hB)).mono ?_
  rintro e w1 ⟨rfl, hB1⟩
  have b3 := b3.below hB1
  have hB := hB.trans (hB1.mono hB.size)
  clear hB1
  go_wp2_with (fail)
  refine (Hlo.out _ (hl.below hB)).mono ?_
  rintro e w2 ⟨rfl, hB2⟩
  have b3 := b3.below hB2
  have hB := hB.trans (hB2.mono hB.size)
  clear hB2 Hlo
  cases hL : longT l with
  | true =>
    clear hL
    go_wp2
    go_ret
    exact ⟨rfl, hB⟩
  | false =>
    obtain ⟨h60, h500⟩ := longT_bd hL
    have H500 := hid h500
    clear hL h500
    have hK2 := hKS.below hB
    have XV : Hid (∀ Z, Ch nob w2 Z → Z.rangeAt g3 0 [.int .i64 V.n, .int .u16 (V.m : Int)]) := fun Z h => (b3.below h.below).whole
    go_upto_region 5 with (fail)
    have hw2 := hB.size
    have Hnw : Hid (∀ (uk : Value) (Y : World), KS Y → Rd Y (fun b => w2.heap.size ≤ b) uk (tx ks17) → _) := hid (fun uk Y h1 h2 => Hnw.out uk Y h1 (h2.weak (fun b _ h => Nat.le_trans hw2 h)))
    refine wp_region_noPanic ?_
    refine wp_region_held_drew (S := Ch nob w2) (by kernel_rfl) ((Ch.refl _ _).drew) (fun hHeld => ?_)
    refine tkY 1 rfl (yieldsIf_load_mid (by rfl) 24 (.tmp 3) (by rfl) _ (0) (by rfl) _ _ (fun _ hs => XV.out _ hs) Tryd.underlying24 rfl (sizeVw18)) ?_
    refine tkP 2 rfl ?_
    refine rdH 0 rfl (fun K hK => ?_)
    go_simp
    refine (table18_any _).mono ?_
    rintro e' y1 ⟨uk, rfl, hk, hE1⟩
    have hk0 := hHeld.size
    refine hK.out _ _ (hHeld.belowR hE1) (fun hHeld => ?_)
    clear hK K
    try simp only [nP]
    refine rdH 3 rfl (fun K hK => ?_)
    go_simp
    refine (Hnw.out _ _ (hK2.below hHeld.below) hk).mono ?_
    rintro e' y2 ⟨xv, M0, rfl, hx, hM0, hE2⟩
    have hk1 := hHeld.size
    refine hK.out _ _ (hHeld.belowR hE2) (fun hHeld => ?_)
    clear hK K
    try simp only [nP]
    refine tkP 4 rfl ?_
    refine wpAnyH_done (by kernel_rfl) ?_ _
    refine NoPanic.normal ?_
    have hD : Below w2.heap.size w2 y2 := hHeld.below
    have hBx := hB.trans (hD.mono hB.size)
    have hM0 : ∀ b, M0 b → w2.heap.size ≤ b := fun b h => Nat.le_trans hk1 (hM0 b h)
    obtain ⟨N, hN⟩ : ∃ N : Nat → Prop, N = fun b => w.heap.size ≤ b ∧ b < y1.heap.size := ⟨_, rfl⟩
    rw [← hN] at hx
    clear hN hHeld hk hE1 hE2 hk0 hk1 Hnw
    go_wp2
    go_loopw [30] (fun iv wr => ∃ (i : Nat) (M : Nat → Prop), i ≤ l.length ∧ iv = .int .i64 i ∧ Hid (NX wr xv M N ks17 V slot (tksF V slot [] (l.take i)) ∧ ∀ b, M b → w2.heap.size ≤ b) ∧ Hid (Ch M0 y2 wr ∧ ∀ b, M b → M0 b ∨ y2.heap.size ≤ b) ∧ Below w2.heap.size w2 wr) (fun i _ => l.length - (intOf i).toNat)
    case atStart => exact ⟨0, M0, Nat.zero_le _, rfl, hid ⟨hx, hM0⟩, hid ⟨Ch.refl _ _, fun b h => .inl h⟩, hD⟩
    case round =>
      clear hx hM0 hBx hD
      obtain ⟨i, M, hi, rfl, Hx, Hz, hD⟩ := hrel
      have hBx := hB.trans (hD.mono hB.size)
      have hKr := hKS.below hBx
      by_cases hlt : i < l.length
      · have hI : (i : Int) < (l.length : Int) := by omega
        obtain ⟨a, ha⟩ : ∃ a, l[i]? = some a := ⟨_, List.getElem?_eq_getElem hlt⟩
        have hlr := hl.below hBx
        obtain ⟨g, off, cs, hAA, _, hrg, hel⟩ := wd_el hlr ha
        subst hAA
        obtain ⟨u, rfl, hu⟩ := at_open hel
        obtain ⟨Au, cu, rfl⟩ := Rd.shape hu
        have h5 := H500.out a (List.mem_of_getElem? ha)
        have Hnx := hid (tks_next (V := V) (slot := slot) (L := []) ha)
        have Htk := hid (fun (L : List Nv) Y h1 h2 h3 => itake18_any xv M N ks17 V slot L a.b (.slice Au a.b.length cu) F Y h1 ks17_sm h2 h3 (by omega))
        have hla : (a.l (.slice Au a.b.length cu)).length = 2 := rfl
        have hone : ∀ v ∈ a.l (.slice Au a.b.length cu), v.oneCell' = true := by
          intro v hv
          simp only [At.l, List.mem_cons, List.not_mem_nil, or_false] at hv
          rcases hv with rfl | rfl <;> rfl
        have ha1 : (a.l (.slice Au a.b.length cu))[1]? = some (.slice Au a.b.length cu) := rfl
        obtain ⟨la, hla'⟩ : ∃ x, x = a.l (.slice Au a.b.length cu) := ⟨_, rfl⟩
        rw [← hla'] at hrg hla hone ha1
        have hlt2 : i < l.length := hlt
        clear ha hel hla' hlr
        go_wp2_with (first | refine wp_ixa 25 (.tmp 28) (.tmp 30) rfl rfl rfl rfl Tryd.underlying25 hlt sizeAt18 ?_ | refine wp_ld 37 (.tmp 32) rfl rfl rfl hrg Tryd.underlying37 rfl (by rw [hla]; exact sizeAt18) ?_ | (refine wp_newst 37 9 (.tmp 33) rfl rfl rfl rfl rfl rfl zeroAt18 (l := la) rfl (by rw [hla]; rfl) (by rw [hla]; exact sizeAt18) hone (by simp [Act.put]) ?_; intro w4 b4 hB4 hs4; refine wp_stop ?_))
        have c4 := b4.cellAt 1 _ ha1
        have hu4 := hu.below hB4
        have hx4 := Hx.out.1.below hB4
        have hM4 := Hx.out.2
        have hK4 := hKr.below hB4
        have hD4 := hD.trans (hB4.mono hD.size)
        have Hz4 := hid (And.intro (Hz.out.1.belowR hB4) Hz.out.2)
        obtain ⟨g4, hg4⟩ : ∃ g, g = wr.heap.size := ⟨_, rfl⟩
        rw [← hg4] at c4 ⊢
        clear hg4 b4 hB4 hs4 hrg hu hD hBx hKr Hx Hz
        refine wp_go ?_
        go_wp2_with (fail)
        refine (Htk.out _ _ hK4 hx4 hu4).mono ?_
        rintro e w5 ⟨rfl, M5, hP⟩
        rw [← Hnx.out] at hP
        have hx5 := hP.x
        have hM5 : ∀ b, M5 b → w2.heap.size ≤ b := fun b h => by
          rcases hP.m b h with h | h
          · exact hM4 b h
          · exact Nat.le_trans hD4.size h
        have hD5 : Below w2.heap.size w2 w5 := Ch.below_of hD4 hP.c hM4 hD4.size
        have Hz5 : Hid (Ch M0 y2 w5 ∧ ∀ b, M5 b → M0 b ∨ y2.heap.size ≤ b) := hid (by
          obtain ⟨hz1, hz2⟩ := Hz4.out
          exact ⟨⟨hP.c.os.trans hz1.os, hP.c.tape.trans hz1.tape, hP.c.output.trans hz1.output, Nat.le_trans hz1.size hP.c.size, fun b hb hg => (hP.c.block b (Nat.lt_of_lt_of_le hb hz1.size) (fun hm => by rcases hz2 b hm with h | h; exact hg h; omega)).trans (hz1.block b hb hg)⟩, fun b h => by
            rcases hP.m b h with h | h
            · exact hz2 b h
            · exact .inr (Nat.le_trans hz1.size h)⟩)
        have Hx5 := hid (And.intro hx5 hM5)
        clear hP hx4 hM4 hu4 hx5 hM5 hD4 c4 hK4 Htk Hnx Hz4
        go_wp2
        go_roundw
        case rel => exact ⟨i + 1, M5, by omega, by go_num, Hx5, Hz5, hD5⟩
        case measure => simp [intOf]; omega
      · have hi' : i = l.length := by omega
        subst hi'
        have hI : ¬ (l.length : Int) < (l.length : Int) := by omega
        obtain ⟨hx, hM0⟩ := Hx.out
        rw [List.take_length] at hx
        clear Hx
        clear Hz
        have hin := tks_in (V := V) (slot := slot) l [] (NvIn.nil _ _ _)
        have hsm := tks_b (V := V) (slot := slot) l [] 500 (fun v h => by cases h) H500.out
        obtain ⟨L, hLL⟩ : ∃ L, L = tksF V slot [] l := ⟨_, rfl⟩
        rw [← hLL] at hx hin hsm
        have Hin := hid hin
        have Hsm := hid hsm
        clear hLL hin hsm H500
        go_wp2
        go_loopw [39] (fun iv wr => ∃ i : Nat, i ≤ 4 ∧ iv = .int .i64 i ∧ NX wr xv M N ks17 V slot L ∧ Below w2.heap.size w2 wr) (fun i _ => 4 - (intOf i).toNat)
        case atStart => exact ⟨0, by omega, rfl, hx, hD⟩
        case round =>
          clear hx hD hBx hKr
          obtain ⟨r, hr4, rfl, hx, hD⟩ := hrel
          have hBx := hB.trans (hD.mono hB.size)
          have hKr := hKS.below hBx
          by_cases hlt : r < 4
          · have hI : (r : Int) < 4 := by omega
            cases hm : mstC V L 2 (r : Int) with
            | none =>
              have Hwr := hid (wri18_none hm (by unfold in64w; omega) _ hKr hx)
              have Lh : Hid ((bvs zH).length = 32) := hid (by rw [len_bvs]; rfl)
              have Oh := hid (oneCell_bvs zH)
              obtain ⟨lh, hlh⟩ : ∃ l, l = bvs zH := ⟨_, rfl⟩
              rw [← hlh] at Hwr Lh Oh
              clear hlh hm
              go_wp2_with (fail)
              refine Hwr.out.mono ?_
              rintro e x3 ⟨A3, c3, rfl, hE⟩
              have hx3 := hx.below hE
              have hD3 := hD.trans (hE.mono hD.size)
              clear Hwr hE hx hD hBx hKr
              go_wp2_with (refine wp_newst 41 11 (.tmp 46) rfl rfl rfl rfl rfl rfl zero25 (l := lh) rfl (by rw [Lh.out]; rfl) (by rw [Lh.out]; exact size25) Oh.out (by simp [Act.put]) ?_; intro x4 b4 hE4 hs4; refine wp_stop ?_)
              have hx4 := hx3.below hE4
              have hD4 := hD3.trans (hE4.mono hD3.size)
              clear hx3 hD3 hE4 hs4 b4
              refine wp_go ?_
              go_upto_region 15 with (fail)
              obtain ⟨wq, hwq⟩ : ∃ x, x = x4 := ⟨_, rfl⟩
              rw [← hwq] at hx4 hD4 ⊢
              clear hwq
              refine wp_region_noPanic ?_
              refine wp_region_held_drew (S := Ch nob wq) (by kernel_rfl) ((Ch.refl _ _).drew) (fun hHeld => ?_)
              refine tkP 0 rfl ?_
              refine tkP 1 rfl ?_
              refine tkS 2 rfl ?_
              refine tkS 3 rfl ?_
              refine tkS 4 rfl ?_
              refine tkS 5 rfl ?_
              refine tkS 6 rfl ?_
              refine tkS 7 rfl ?_
              refine tkS 8 rfl ?_
              refine tkS 9 rfl ?_
              refine tkP 10 rfl ?_
              refine wpAnyH_done (by kernel_rfl) ?_ _
              refine NoPanic.normal ?_
              have hx5 := hx4.below hHeld.below
              have hD5 := hD4.trans (hHeld.below.mono hD4.size)
              clear hHeld hx4 hD4
              go_wp2
              go_roundw
              case rel => exact ⟨r + 1, by omega, by go_num, hx5, hD5⟩
              case measure => simp [intOf]; omega
            | some d =>
              have hdl := mst_len Hin.out hm
              have hwz := mst_wri Hin.out hm
              have hfl := for_le L 2 (r : Int) d
              have hfs := for_sm (k := 2) (r := (r : Int)) (d := d) Hsm.out
              have Hwr := hid (wri18_some hm (by unfold in64w; omega) _ hKr hx)
              have hrw := fun (Ar cr H uk3 F3 Y) h1 h2 => rwri17_any ks17 V (forC L 2 (r : Int) d) (r : Int) slot d uk3 (.slice none 0 0) (.slice Ar (forC L 2 (r : Int) d).length cr) F3 H Y ks17_sm h1 h2 (by omega) (fun X hX => by have := hfs X hX; omega) hV.2 hdl
              rw [hwz] at hrw
              unfold vw at hrw
              have Lh : Hid ((bvs d).length = 32) := hid (by rw [len_bvs]; exact hdl)
              have Oh := hid (oneCell_bvs d)
              obtain ⟨lh, hlh⟩ : ∃ l, l = bvs d := ⟨_, rfl⟩
              obtain ⟨P, hP⟩ : ∃ P, P = forC L 2 (r : Int) d := ⟨_, rfl⟩
              rw [← hlh] at Hwr Lh Oh hrw
              rw [← hP] at Hwr hrw
              clear hlh hm hP hdl hwz hfl hfs
              go_wp2_with (fail)
              refine Hwr.out.mono ?_
              rintro e x3 ⟨A3, c3, rfl, hp, hE⟩
              have hx3 := hx.below hE
              have hD3 := hD.trans (hE.mono hD.size)
              have Hrw := hid (fun uk3 F3 Y h1 h2 => hrw A3 c3 (fun b => M b ∨ wr.heap.size ≤ b) uk3 F3 Y h1 h2)
              clear Hwr hE hx hD hBx hKr hrw
              go_wp2_with (refine wp_newst 41 11 (.tmp 46) rfl rfl rfl rfl rfl rfl zero25 (l := lh) rfl (by rw [Lh.out]; rfl) (by rw [Lh.out]; exact size25) Oh.out (by simp [Act.put]) ?_; intro x4 b4 hE4 hs4; refine wp_stop ?_)
              have hx4 := hx3.below hE4
              have hp := hp.below hE4
              have hD4 := hD3.trans (hE4.mono hD3.size)
              obtain ⟨gh, hgh⟩ : ∃ g, g = x3.heap.size := ⟨_, rfl⟩
              rw [← hgh] at b4 ⊢
              clear hx3 hD3 hE4 hs4 hgh
              refine wp_go ?_
              go_upto_region 15 with (fail)
              obtain ⟨wq, hwq⟩ : ∃ x, x = x4 := ⟨_, rfl⟩
              rw [← hwq] at hx4 hD4 b4 hp ⊢
              clear hwq
              have XH : Hid (∀ Z, Ch nob wq Z → Z.rangeAt gh 0 lh) := fun Z h => (b4.below h.below).whole
              have Hwq : Hid (∀ Z, Ch nob wq Z → Ch nob w2 Z) := fun Z h => (Ch.of_below (hD4.trans (h.below.mono hD4.size)))
              refine wp_region_noPanic ?_
              refine wp_region_held_drew (S := Ch nob wq) (by kernel_rfl) ((Ch.refl _ _).drew) (fun hHeld => ?_)
              refine tkP 0 rfl ?_
              refine tkP 1 rfl ?_
              refine tkY 3 rfl (yieldsIf_load_mid (by rfl) 24 (.tmp 3) (by rfl) _ (0) (by rfl) _ _ (fun _ hs => XV.out _ (Hwq.out _ hs)) Tryd.underlying24 rfl (sizeVw18)) ?_
              refine tkP 4 rfl ?_
              refine tkP 5 rfl ?_
              refine tkY 6 rfl (yieldsIf_load_mid (by rfl) 41 (.tmp 11) (by rfl) _ (0) (by rfl) _ _ (fun _ hs => XH.out _ hs) Tryd.underlying41 rfl (by rw [Lh.out]; exact size25)) ?_
              refine tkP 7 rfl ?_
              refine rdH 2 rfl (fun K hK => ?_)
              go_simp
              refine (table18_any _).mono ?_
              rintro e' y3 ⟨uk3, rfl, hk3, hE3⟩
              have hk5 := hHeld.size
              refine hK.out _ _ (hHeld.belowR hE3) (fun hHeld => ?_)
              clear hK K
              try simp only [nP]
              refine rdH 8 rfl (fun K hK => ?_)
              go_simp
              refine (Hrw.out _ _ _ hk3 (hp.below hHeld.below)).mono ?_
              rintro e' y4 ⟨rfl, hE4⟩
              refine hK.out _ _ (hHeld.belowR hE4) (fun hHeld => ?_)
              clear hK K
              try simp only [nP]
              refine tkP 9 rfl ?_
              refine tkP 10 rfl ?_
              refine wpAnyH_done (by kernel_rfl) ?_ _
              refine NoPanic.normal ?_
              have hx5 := hx4.below hHeld.below
              have hD5 := hD4.trans (hHeld.below.mono hD4.size)
              clear hHeld hx4 hD4 hp b4 XH Hwq Hrw hk3 hE3 hE4 hk5
              go_wp2
              go_roundw
              case rel => exact ⟨r + 1, by omega, by go_num, hx5, hD5⟩
              case measure => simp [intOf]; omega
          · have hr' : r = 4 := by omega
            subst hr'
            have hI : ¬ (4 : Int) < 4 := by omega
            cases hm : accC V L with
            | none =>
              have Hac := hid (acc18_none hm _ hKr hx)
              have Lh : Hid ((bvs zH).length = 32) := hid (by rw [len_bvs]; rfl)
              have Oh := hid (oneCell_bvs zH)
              obtain ⟨lh, hlh⟩ : ∃ l, l = bvs zH := ⟨_, rfl⟩
              rw [← hlh] at Hac Lh Oh
              clear hlh hm
              go_wp2_with (fail)
              refine Hac.out.mono ?_
              rintro e x3 ⟨A3, c3, rfl, hE⟩
              have hB3 := hBx.trans (hE.mono hBx.size)
              clear Hac hE hx hD hBx hKr
              have b10 := Blk.new' x3 41 (zs8 32)
              have hBn : Below x3.heap.size x3 (x3.alloc (.cells (zs8 32).toArray 41)) := (Below.refl _ _).alloc (Nat.le_refl _) _
              obtain ⟨x4, hx4⟩ : ∃ x, x = x3.alloc (.cells (zs8 32).toArray 41) := ⟨_, rfl⟩
              go_wp2_with (first | (refine wp_new 41 rfl rfl zero25 ?_; refine wp_stop ?_))
              rw [← hx4] at b10 hBn ⊢
              have hB4 := hB3.trans (hBn.mono hB3.size)
              obtain ⟨g15, hg15⟩ : ∃ g, g = x3.heap.size := ⟨_, rfl⟩
              have hgw : w.heap.size ≤ g15 := by rw [hg15]; exact hB3.size
              have hgx : x3.heap.size ≤ g15 := by rw [hg15]; exact Nat.le_refl _
              rw [← hg15] at b10 ⊢
              clear hx4 hg15
              refine wp_go ?_
              go_wp2_with (first | (refine wp_st 41 (.tmp 15) (.tmp 65) rfl rfl rfl (f := 0) rfl (l := lh) rfl b10 (by rw [Lh.out]; simp [zs8]) (by rw [Lh.out]; exact size25) Oh.out ?_; intro x5 k10 G5; refine wp_stop ?_))
              have hB5 := hB4.grown G5 hB4.size (fun k hk => by injection hk with hk; omega)
              refine wp_go ?_
              go_wp2
              go_ret
              exact ⟨by first | rfl | simp, hB5⟩
            | some r =>
              obtain ⟨hr40, d, hmd⟩ := acc_some hm
              have hdl := mst_len Hin.out hmd
              have hdz := acc_dec Hin.out hr40 hmd
              have hfl := for_le L 3 (r : Int) d
              have hfs := for_sm (k := 3) (r := (r : Int)) (d := d) Hsm.out
              have Hac := hid (acc18_some hm hmd _ hKr hx)
              have hrd := fun (Ar cr H uk3 F3 Y) h1 h2 => rdec17_any ks17 V (forC L 3 (r : Int) d) slot d uk3 (.slice none 0 0) (.slice Ar (forC L 3 (r : Int) d).length cr) F3 H Y ks17_sm h1 h2 (by omega) (fun X hX => by have := hfs X hX; omega) hV.2 hdl
              rw [hdz] at hrd
              unfold vw at hrd
              have Lh : Hid ((bvs d).length = 32) := hid (by rw [len_bvs]; exact hdl)
              have Oh := hid (oneCell_bvs d)
              obtain ⟨lh, hlh⟩ : ∃ l, l = bvs d := ⟨_, rfl⟩
              obtain ⟨P, hP⟩ : ∃ P, P = forC L 3 (r : Int) d := ⟨_, rfl⟩
              rw [← hlh] at Hac Lh Oh hrd
              rw [← hP] at Hac hrd
              clear hlh hm hP hdl hdz hfl hfs hmd
              go_wp2_with (fail)
              refine Hac.out.mono ?_
              rintro e x3 ⟨A3, c3, rfl, hp, hE⟩
              have hB3 := hBx.trans (hE.mono hBx.size)
              have hD3 := hD.trans (hE.mono hD.size)
              have hgl : g3 < x3.heap.size := Nat.lt_of_lt_of_le b3.lt hD3.size
              have Hrd := hid (fun uk3 F3 Y h1 h2 => hrd A3 c3 (fun b => M b ∨ wr.heap.size ≤ b) uk3 F3 Y h1 h2)
              clear Hac hE hx hD hBx hKr hrd
              have b10 := Blk.new' x3 41 (zs8 32)
              have hBn : Below x3.heap.size x3 (x3.alloc (.cells (zs8 32).toArray 41)) := (Below.refl _ _).alloc (Nat.le_refl _) _
              obtain ⟨x4, hx4⟩ : ∃ x, x = x3.alloc (.cells (zs8 32).toArray 41) := ⟨_, rfl⟩
              go_wp2_with (first | (refine wp_new 41 rfl rfl zero25 ?_; refine wp_stop ?_))
              rw [← hx4] at b10 hBn ⊢
              have hB4 := hB3.trans (hBn.mono hB3.size)
              obtain ⟨g15, hg15⟩ : ∃ g, g = x3.heap.size := ⟨_, rfl⟩
              have hgw : w.heap.size ≤ g15 := by rw [hg15]; exact hB3.size
              have hgx : x3.heap.size ≤ g15 := by rw [hg15]; exact Nat.le_refl _
              rw [← hg15] at b10 ⊢
              clear hx4 hg15
              refine wp_go ?_
              go_wp2_with (first | (refine wp_st 41 (.tmp 15) (.tmp 65) rfl rfl rfl (f := 0) rfl (l := lh) rfl b10 (by rw [Lh.out]; simp [zs8]) (by rw [Lh.out]; exact size25) Oh.out ?_; intro x5 k10 G5; refine wp_stop ?_))
              have hB5 := hB4.grown G5 hB4.size (fun k hk => by injection hk with hk; omega)
              refine wp_go ?_
              have hC5 : Ch nob x3 x5 := ((Ch.refl _ _).belowR hBn).grow G5 (fun k hk => .inr (by injection hk with hk; omega))
              have hp := hp.ch hC5 (fun _ _ h => h)
              have XV5 : Hid (∀ Z, Ch nob x5 Z → Z.rangeAt g3 0 [.int .i64 V.n, .int .u16 (V.m : Int)]) := fun Z h => (b3.below (hD3.trans ((hC5.trans h).below.mono hD3.size))).whole
              clear hBn G5 hC5 b10 hB4 hD3
              have k10 : Blk x5 g15 41 lh := by rw [show (zs8 32).take 0 ++ lh ++ (zs8 32).drop (0 + lh.length) = lh from by rw [Lh.out]; simp [zs8]] at k10; exact k10
              go_wp2
              go_upto_region 21 with (fail)
              obtain ⟨wq, hwq⟩ : ∃ x, x = x5 := ⟨_, rfl⟩
              rw [← hwq] at k10 hp XV5 hB5 ⊢
              clear hwq
              have XH : Hid (∀ Z, Ch nob wq Z → Z.rangeAt g15 0 lh) := fun Z h => (k10.below h.below).whole
              refine wp_region_noPanic ?_
              refine wp_region_held_drew (S := Ch nob wq) (by kernel_rfl) ((Ch.refl _ _).drew) (fun hHeld => ?_)
              refine tkY 1 rfl (yieldsIf_load_mid (by rfl) 24 (.tmp 3) (by rfl) _ (0) (by rfl) _ _ (fun _ hs => XV5.out _ hs) Tryd.underlying24 rfl (sizeVw18)) ?_
              refine tkP 2 rfl ?_
              refine tkY 3 rfl (yieldsIf_load_mid (by rfl) 41 (.tmp 15) (by rfl) _ (0) (by rfl) _ _ (fun _ hs => XH.out _ hs) Tryd.underlying41 rfl (by rw [Lh.out]; exact size25)) ?_
              refine tkP 4 rfl ?_
              refine rdH 0 rfl (fun K hK => ?_)
              go_simp
              refine (table18_any _).mono ?_
              rintro e' y3 ⟨uk3, rfl, hk3, hE3⟩
              have hk5 := hHeld.size
              refine hK.out _ _ (hHeld.belowR hE3) (fun hHeld => ?_)
              clear hK K
              try simp only [nP]
              refine rdH 5 rfl (fun K hK => ?_)
              go_simp
              refine (Hrd.out _ _ _ hk3 (hp.below hHeld.below)).mono ?_
              rintro e' y4 ⟨rfl, hE4⟩
              refine hK.out _ _ (hHeld.belowR hE4) (fun hHeld => ?_)
              clear hK K
              try simp only [nP]
              refine tkP 6 rfl ?_
              refine tkP 7 rfl ?_
              refine tkP 8 rfl ?_
              refine tkP 9 rfl ?_
              refine tkP 10 rfl ?_
              refine wpAnyH_done (by kernel_rfl) ?_ _
              refine NoPanic.normal ?_
              have hB6 := hB5.trans (hHeld.below.mono hB5.size)
              clear hHeld hp k10 XH XV5 Hrd hk3 hE3 hE4 hk5
              go_wp2
              go_ret
              exact ⟨by first | rfl | simp, hB6⟩
end Go.Proofs.YthbbpfnfnnmdnaaDoor
/- SB: contracts of the document's All and Chain. -/
namespace Go.Proofs.YthbbpfnfnnmdnaaDoor
open Go.RowKit Go.V

end Go.Proofs.YthbbpfnfnnmdnaaDoor
/- SL: the laws of layer 2: what each law's Go function comes to. -/
namespace Go.Proofs.YthbbpfnfnnmdnaaDoor
open Go.RowKit Go.V

end Go.Proofs.YthbbpfnfnnmdnaaDoor
