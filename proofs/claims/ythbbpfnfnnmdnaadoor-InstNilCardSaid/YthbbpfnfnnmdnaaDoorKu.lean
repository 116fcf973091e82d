/- Ku: several texts in one (Kj Ku). -/
import Derived.Test.YthbbpfnfnnmdnaaDoorLW
import Derived.Test.YthbbpfnfnnmdnaaDoorKx
/- Kj: layer 18: InstStays. -/
namespace Go.Proofs.YthbbpfnfnnmdnaaDoor
open Go.RowKit Go.V
set_option maxRecDepth 100000 in
set_option maxHeartbeats 16000000 in
theorem instStays_law (V : Vc) (slot : Int) (l m : List At) (vl vm : Value) (F G : Nat → Prop) (w : World) (hKS : KS w) (hV : in64w V.n ∧ V.m < 65536) (hs : in64w slot) (hl : Rd w F vl (wds atD l)) (hm : Rd w G vm (wds atD m)) :
    Calls Tryd.prog 5 #[vw V.n V.m, .int .i64 slot, .agg #[vl, vm]] w fun e w' => e = .returned (.bool true) ∧ Below w.heap.size w w' := by
  obtain ⟨A, c, rfl, _, _⟩ := wds_shape hl
  obtain ⟨B, d0, rfl, _, _⟩ := wds_shape hm
  have b3 := (Blk.new' w 24 [.int .i64 V.n, .int .u16 (V.m : Int)]).alloc (.cells #[.slice A l.length c, .slice B m.length d0] 51)
  have b5 := Blk.new' (w.alloc (.cells #[.int .i64 V.n, .int .u16 (V.m : Int)] 24)) 51 [.slice A l.length c, .slice B m.length d0]
  have hB : Below w.heap.size w ((w.alloc (.cells #[.int .i64 V.n, .int .u16 (V.m : Int)] 24)).alloc (.cells #[.slice A l.length c, .slice B m.length d0] 51)) := ((Below.refl _ _).alloc (Nat.le_refl _) _).alloc (by simp) _
  have hz0 : (w.alloc (.cells #[.int .i64 V.n, .int .u16 (V.m : Int)] 24)).heap.size = w.heap.size + 1 := by simp
  rw [hz0] at b5
  have c50 := b5.cellAt 0 _ rfl
  have c51 := b5.cellAt 1 _ rfl
  have Hlo := hid (fun Y h => long18_any l (.slice A l.length c) F Y h)
  have Hlm := hid (fun Y h => long18_any m (.slice B m.length d0) G Y h)
  have Hnw := hid (fun (uk : Value) (G : Nat → Prop) (Y : World) (h1 : KS Y) (h2 : Rd Y G uk (tx ks17)) => (show Calls Tryd.prog 9 #[.agg #[uk, .slice none 0 0], .agg #[.int .i64 V.n, .int .u16 (V.m : Int)], .int .i64 slot] Y (fun e w' => ∃ v M, e = .returned v ∧ NX w' v M (fun b => G b ∧ b < Y.heap.size) ks17 V slot [] ∧ (∀ b, M b → Y.heap.size ≤ b) ∧ Below Y.heap.size Y w') from inew18_any ks17 V slot uk (.slice none 0 0) _ Y h1 ks17_sm h2 hV hs))
  unfold vw
  go_enter Tryd.func5, Tryd.ntmps5
  go_wp2_with (fail)
  obtain ⟨w0, hw0⟩ : ∃ x, x = (w.alloc (.cells #[.int .i64 V.n, .int .u16 (V.m : Int)] 24)).alloc (.cells #[.slice A l.length c, .slice B m.length d0] 51) := ⟨_, rfl⟩
  rw [← hw0] at b3 b5 hB c50 c51 ⊢
  obtain ⟨g5, hg5⟩ : ∃ g, g = w.heap.size + 1 := ⟨_, rfl⟩
  rw [← hg5] at b5 c50 c51 ⊢
  obtain ⟨g3, hg3⟩ : ∃ g, g = w.heap.size := ⟨_, rfl⟩
  rw [← hg3] at b3 ⊢
  clear hw0 hg3 hg5 hz0 c50 c51
  refine (wakes18_any _ (hKS.below hB)).mono ?_
  rintro e w1 ⟨rfl, hB1⟩
  have b3 := b3.below hB1
  have b5 := b5.below hB1
  have hB := hB.trans (hB1.mono hB.size)
  have c50 := b5.cellAt 0 _ rfl
  have c51 := b5.cellAt 1 _ rfl
  clear hB1
  go_wp2_with (fail)
  refine (Hlo.out _ (hl.below hB)).mono ?_
  rintro e w2 ⟨rfl, hB2⟩
  have b3 := b3.below hB2
  have b5 := b5.below hB2
  have hB := hB.trans (hB2.mono hB.size)
  have c50 := b5.cellAt 0 _ rfl
  have c51 := b5.cellAt 1 _ rfl
  clear hB2 Hlo
  cases hL : longT l with
  | true =>
    clear hL
    go_wp2
    go_ret
    exact ⟨rfl, hB⟩
  | false =>
  obtain ⟨h60, h500⟩ := longT_bd hL
  have H500 := hid h500
  clear hL h500
  go_wp2_with (fail)
  refine (Hlm.out _ (hm.below hB)).mono ?_
  rintro e w2 ⟨rfl, hB2⟩
  have b3 := b3.below hB2
  have b5 := b5.below hB2
  have hB := hB.trans (hB2.mono hB.size)
  have c50 := b5.cellAt 0 _ rfl
  have c51 := b5.cellAt 1 _ rfl
  clear hB2 Hlm
  cases hL : longT m with
  | true =>
    clear hL
    go_wp2
    go_ret
    exact ⟨rfl, hB⟩
  | false =>
    obtain ⟨h60m, h500⟩ := longT_bd hL
    have H500m := hid h500
    clear hL h500
    have hK2 := hKS.below hB
    have XV : Hid (∀ Z, Ch nob w2 Z → Z.rangeAt g3 0 [.int .i64 V.n, .int .u16 (V.m : Int)]) := fun Z h => (b3.below h.below).whole
    go_upto_region 5 with (fail)
    have hw2 := hB.size
    refine wp_region_noPanic ?_
    refine wp_region_held_drew (S := Ch nob w2) (by kernel_rfl) ((Ch.refl _ _).drew) (fun hHeld => ?_)
    refine tkY 1 rfl (yieldsIf_load_mid (by rfl) 24 (.tmp 3) (by rfl) _ (0) (by rfl) _ _ (fun _ hs => XV.out _ hs) Tryd.underlying24 rfl (sizeVw18)) ?_
    refine tkP 2 rfl ?_
    refine rdH 0 rfl (fun K hK => ?_)
    go_simp
    refine (table18_any _).mono ?_
    rintro e' y1 ⟨uk, rfl, hk, hE1⟩
    have hk0 := hHeld.size
    refine hK.out _ _ (hHeld.belowR hE1) (fun hHeld => ?_)
    clear hK K
    try simp only [nP]
    refine rdH 3 rfl (fun K hK => ?_)
    go_simp
    refine (Hnw.out _ _ _ (hK2.below hHeld.below) hk).mono ?_
    rintro e' y2 ⟨xv, M0, rfl, hx, hM0, hE2⟩
    have hk1 := hHeld.size
    refine hK.out _ _ (hHeld.belowR hE2) (fun hHeld => ?_)
    clear hK K
    try simp only [nP]
    refine tkP 4 rfl ?_
    refine wpAnyH_done (by kernel_rfl) ?_ _
    refine NoPanic.normal ?_
    have hD : Below w2.heap.size w2 y2 := hHeld.below
    have hBx := hB.trans (hD.mono hB.size)
    have hM0 : ∀ b, M0 b → w2.heap.size ≤ b := fun b h => Nat.le_trans hk1 (hM0 b h)
    obtain ⟨N, hN⟩ : ∃ N : Nat → Prop, N = fun b => w2.drew.heap.size ≤ b ∧ b < y1.heap.size := ⟨_, rfl⟩
    rw [← hN] at hx
    have B5 : Hid (∀ Z, Below w2.heap.size w2 Z → Blk Z g5 51 [.slice A l.length c, .slice B m.length d0]) := hid (fun Z h => b5.below h)
    clear hN hHeld hk hE1 hE2 hk0 hk1 Hnw c50 c51 b5 b3 XV
    have c50 := (B5.out _ hD).cellAt 0 _ rfl
    go_wp2
    clear c50
    go_loopw [35] (fun iv wr => ∃ (i : Nat) (M : Nat → Prop), i ≤ l.length ∧ iv = .int .i64 i ∧ Hid (NX wr xv M N ks17 V slot (tksF V slot [] (l.take i)) ∧ ∀ b, M b → w2.heap.size ≤ b) ∧ Hid (Ch M0 y2 wr ∧ ∀ b, M b → M0 b ∨ y2.heap.size ≤ b) ∧ Below w2.heap.size w2 wr) (fun i _ => l.length - (intOf i).toNat)
    case atStart => exact ⟨0, M0, Nat.zero_le _, rfl, hid ⟨hx, hM0⟩, hid ⟨Ch.refl _ _, fun b h => .inl h⟩, hD⟩
    case round =>
      clear hx hM0 hBx hD
      obtain ⟨i, M, hi, rfl, Hx, Hz, hD⟩ := hrel
      have hBx := hB.trans (hD.mono hB.size)
      have hKr := hKS.below hBx
      by_cases hlt : i < l.length
      · have hI : (i : Int) < (l.length : Int) := by omega
        obtain ⟨a, ha⟩ : ∃ a, l[i]? = some a := ⟨_, List.getElem?_eq_getElem hlt⟩
        have hlr := hl.below hBx
        obtain ⟨g, off, cs, hAA, _, hrg, hel⟩ := wd_el hlr ha
        subst hAA
        obtain ⟨u, rfl, hu⟩ := at_open hel
        obtain ⟨Au, cu, rfl⟩ := Rd.shape hu
        have h5 := H500.out a (List.mem_of_getElem? ha)
        have Hnx := hid (tks_next (V := V) (slot := slot) (L := []) ha)
        have Htk := hid (fun (L : List Nv) Y h1 h2 h3 => itake18_any xv M N ks17 V slot L a.b (.slice Au a.b.length cu) F Y h1 ks17_sm h2 h3 (by omega))
        have hla : (a.l (.slice Au a.b.length cu)).length = 2 := rfl
        have hone : ∀ v ∈ a.l (.slice Au a.b.length cu), v.oneCell' = true := by
          intro v hv
          simp only [At.l, List.mem_cons, List.not_mem_nil, or_false] at hv
          rcases hv with rfl | rfl <;> rfl
        have ha1 : (a.l (.slice Au a.b.length cu))[1]? = some (.slice Au a.b.length cu) := rfl
        obtain ⟨la, hla'⟩ : ∃ x, x = a.l (.slice Au a.b.length cu) := ⟨_, rfl⟩
        rw [← hla'] at hrg hla hone ha1
        have hlt2 : i < l.length := hlt
        clear ha hel hla' hlr
        go_wp2_with (first | refine wp_ixa 25 (.tmp 33) (.tmp 35) rfl rfl rfl rfl Tryd.underlying25 hlt sizeAt18 ?_ | refine wp_ld 37 (.tmp 37) rfl rfl rfl hrg Tryd.underlying37 rfl (by rw [hla]; exact sizeAt18) ?_ | (refine wp_newst 37 9 (.tmp 38) rfl rfl rfl rfl rfl rfl zeroAt18 (l := la) rfl (by rw [hla]; rfl) (by rw [hla]; exact sizeAt18) hone (by simp [Act.put]) ?_; intro w4 b4 hB4 hs4; refine wp_stop ?_))
        have c4 := b4.cellAt 1 _ ha1
        have hu4 := hu.below hB4
        have hx4 := Hx.out.1.below hB4
        have hM4 := Hx.out.2
        have hK4 := hKr.below hB4
        have hD4 := hD.trans (hB4.mono hD.size)
        have Hz4 := hid (And.intro (Hz.out.1.belowR hB4) Hz.out.2)
        obtain ⟨g4, hg4⟩ : ∃ g, g = wr.heap.size := ⟨_, rfl⟩
        rw [← hg4] at c4 ⊢
        clear hg4 b4 hB4 hs4 hrg hu hD hBx hKr Hx Hz
        refine wp_go ?_
        go_wp2_with (fail)
        refine (Htk.out _ _ hK4 hx4 hu4).mono ?_
        rintro e w5 ⟨rfl, M5, hP⟩
        rw [← Hnx.out] at hP
        have hx5 := hP.x
        have hM5 : ∀ b, M5 b → w2.heap.size ≤ b := fun b h => by
          rcases hP.m b h with h | h
          · exact hM4 b h
          · exact Nat.le_trans hD4.size h
        have hD5 : Below w2.heap.size w2 w5 := Ch.below_of hD4 hP.c hM4 hD4.size
        have Hz5 : Hid (Ch M0 y2 w5 ∧ ∀ b, M5 b → M0 b ∨ y2.heap.size ≤ b) := hid (by
          obtain ⟨hz1, hz2⟩ := Hz4.out
          exact ⟨⟨hP.c.os.trans hz1.os, hP.c.tape.trans hz1.tape, hP.c.output.trans hz1.output, Nat.le_trans hz1.size hP.c.size, fun b hb hg => (hP.c.block b (Nat.lt_of_lt_of_le hb hz1.size) (fun hm => by rcases hz2 b hm with h | h; exact hg h; omega)).trans (hz1.block b hb hg)⟩, fun b h => by
            rcases hP.m b h with h | h
            · exact hz2 b h
            · exact .inr (Nat.le_trans hz1.size h)⟩)
        have Hx5 := hid (And.intro hx5 hM5)
        clear hP hx4 hM4 hu4 hx5 hM5 hD4 c4 hK4 Htk Hnx Hz4
        go_wp2
        go_roundw
        case rel => exact ⟨i + 1, M5, by omega, by go_num, Hx5, Hz5, hD5⟩
        case measure => simp [intOf]; omega
      · have hi' : i = l.length := by omega
        subst hi'
        have hI : ¬ (l.length : Int) < (l.length : Int) := by omega
        obtain ⟨hx, hM0⟩ := Hx.out
        rw [List.take_length] at hx
        clear Hx
        have hin := tks_in (V := V) (slot := slot) l [] (NvIn.nil _ _ _)
        obtain ⟨L, hLL⟩ : ∃ L, L = tksF V slot [] l := ⟨_, rfl⟩
        rw [← hLL] at hx hin
        have Hin := hid hin
        clear hLL hin H500
        have hHl := tolH_len Hin.out 2 0
        have hmono := fun d (h : mstC V L 2 0 = some d) => mst_mono (L' := tksF V slot L m) Hin.out (tks_in m L Hin.out) (tks_sub m L) h
        have hfmono := fun d => for_mono (L := L) (L' := tksF V slot L m) (tks_sub m L) 2 0 d
        obtain ⟨H, hH⟩ : ∃ H, H = tolH (mstC V L 2 0) := ⟨_, rfl⟩
        obtain ⟨P, hP⟩ : ∃ P, P = tolP (mstC V L 2 0) (forC L 2 0) := ⟨_, rfl⟩
        obtain ⟨q, hq⟩ : ∃ q, q = (mstC V L 2 0).isSome := ⟨_, rfl⟩
        have Hwx := hid (fun Y => wri18_uni (v := xv) (M := M) (N := N) (V := V) (slot := slot) (L := L) (r := 0) (H := H) (P := P) (q := q) hH.symm hP.symm hq.symm (by unfold in64w; omega) Y)
        rw [← hH] at hHl
        have Hst : Hid (q = true → (tolH (mstC V (tksF V slot L m) 2 0) = H ∧ (mstC V (tksF V slot L m) 2 0).isSome = true ∧ P.length ≤ (tolP (mstC V (tksF V slot L m) 2 0) (forC (tksF V slot L m) 2 0)).length)) := hid (by
          intro hqt
          rw [hq] at hqt
          obtain ⟨d, hd⟩ := Option.isSome_iff_exists.1 hqt
          rw [hmono d hd, hH, hP, hd]
          exact ⟨rfl, rfl, hfmono d⟩)
        have Lh : Hid ((bvs H).length = 32) := hid (by rw [len_bvs]; exact hHl)
        have Oh := hid (oneCell_bvs H)
        have HHl := hid hHl
        obtain ⟨lh, hlh⟩ : ∃ l, l = bvs H := ⟨_, rfl⟩
        rw [← hlh] at Hwx Lh Oh
        have Hlh := hid hlh
        clear hlh hH hP hq hHl hmono hfmono
        go_wp2_with (fail)
        refine (Hwx.out _ hKr hx).mono ?_
        rintro e z1 ⟨A1, k1, rfl, hp1, hE1⟩
        have hx := hx.below hE1
        have hxl := hx.lt
        have hD := hD.trans (hE1.mono hD.size)
        clear hE1 hp1 Hwx hBx hKr Hz
        go_wp2_with (refine wp_newst 41 10 (.tmp 47) rfl rfl rfl rfl rfl rfl zero25 (l := lh) rfl (by rw [Lh.out]; rfl) (by rw [Lh.out]; exact size25) Oh.out (by simp [Act.put]) ?_; intro z2 b10 hE2 hs2; refine wp_stop ?_)
        have hx := hx.below hE2
        have hD := hD.trans (hE2.mono hD.size)
        obtain ⟨g10, hg10⟩ : ∃ g, g = z1.heap.size := ⟨_, rfl⟩
        have hg10M : ¬ M g10 := fun h => by have := hxl g10 (.inl h); omega
        rw [← hg10] at b10 ⊢
        clear hE2 hs2 hg10
        have c51 := (B5.out _ hD).cellAt 1 _ rfl
        have hBx := hB.trans (hD.mono hB.size)
        obtain ⟨M0, hMM⟩ : ∃ X : Nat → Prop, X = M := ⟨_, rfl⟩
        rw [← hMM] at hx hM0 hg10M
        clear hMM hxl
        refine wp_go ?_
        go_wp2
        clear c51
        go_loopw [53] (fun iv wr => ∃ (i : Nat) (M : Nat → Prop), i ≤ m.length ∧ iv = .int .i64 i ∧ Hid (NX wr xv M N ks17 V slot (tksF V slot L (m.take i)) ∧ ∀ b, M b → w2.heap.size ≤ b) ∧ Hid (Ch M0 z2 wr ∧ ∀ b, M b → M0 b ∨ z2.heap.size ≤ b) ∧ Below w2.heap.size w2 wr) (fun i _ => m.length - (intOf i).toNat)
        case atStart => exact ⟨0, M0, Nat.zero_le _, rfl, hid ⟨hx, hM0⟩, hid ⟨Ch.refl _ _, fun b h => .inl h⟩, hD⟩
        case round =>
          clear hx hM0 hBx hD
          obtain ⟨i, M, hi, rfl, Hx, Hz, hD⟩ := hrel
          have hBx := hB.trans (hD.mono hB.size)
          have hKr := hKS.below hBx
          by_cases hlt : i < m.length
          · have hI : (i : Int) < (m.length : Int) := by omega
            obtain ⟨a, ha⟩ : ∃ a, m[i]? = some a := ⟨_, List.getElem?_eq_getElem hlt⟩
            have hlr := hm.below hBx
            obtain ⟨g, off, cs, hAA, _, hrg, hel⟩ := wd_el hlr ha
            subst hAA
            obtain ⟨u, rfl, hu⟩ := at_open hel
            obtain ⟨Au, cu, rfl⟩ := Rd.shape hu
            have h5 := H500m.out a (List.mem_of_getElem? ha)
            have Hnx := hid (tks_next (V := V) (slot := slot) (L := L) ha)
            have Htk := hid (fun (L : List Nv) Y h1 h2 h3 => itake18_any xv M N ks17 V slot L a.b (.slice Au a.b.length cu) G Y h1 ks17_sm h2 h3 (by omega))
            have hla : (a.l (.slice Au a.b.length cu)).length = 2 := rfl
            have hone : ∀ v ∈ a.l (.slice Au a.b.length cu), v.oneCell' = true := by
              intro v hv
              simp only [At.l, List.mem_cons, List.not_mem_nil, or_false] at hv
              rcases hv with rfl | rfl <;> rfl
            have ha1 : (a.l (.slice Au a.b.length cu))[1]? = some (.slice Au a.b.length cu) := rfl
            obtain ⟨la, hla'⟩ : ∃ x, x = a.l (.slice Au a.b.length cu) := ⟨_, rfl⟩
            rw [← hla'] at hrg hla hone ha1
            have hlt2 : i < m.length := hlt
            clear ha hel hla' hlr
            go_wp2_with (first | refine wp_ixa 25 (.tmp 51) (.tmp 53) rfl rfl rfl rfl Tryd.underlying25 hlt sizeAt18 ?_ | refine wp_ld 37 (.tmp 55) rfl rfl rfl hrg Tryd.underlying37 rfl (by rw [hla]; exact sizeAt18) ?_ | (refine wp_newst 37 14 (.tmp 56) rfl rfl rfl rfl rfl rfl zeroAt18 (l := la) rfl (by rw [hla]; rfl) (by rw [hla]; exact sizeAt18) hone (by simp [Act.put]) ?_; intro w4 b4 hB4 hs4; refine wp_stop ?_))
            have c4 := b4.cellAt 1 _ ha1
            have hu4 := hu.below hB4
            have hx4 := Hx.out.1.below hB4
            have hM4 := Hx.out.2
            have hK4 := hKr.below hB4
            have hD4 := hD.trans (hB4.mono hD.size)
            have Hz4 := hid (And.intro (Hz.out.1.belowR hB4) Hz.out.2)
            obtain ⟨g4, hg4⟩ : ∃ g, g = wr.heap.size := ⟨_, rfl⟩
            rw [← hg4] at c4 ⊢
            clear hg4 b4 hB4 hs4 hrg hu hD hBx hKr Hx Hz
            refine wp_go ?_
            go_wp2_with (fail)
            refine (Htk.out _ _ hK4 hx4 hu4).mono ?_
            rintro e w5 ⟨rfl, M5, hP⟩
            rw [← Hnx.out] at hP
            have hx5 := hP.x
            have hM5 : ∀ b, M5 b → w2.heap.size ≤ b := fun b h => by
              rcases hP.m b h with h | h
              · exact hM4 b h
              · exact Nat.le_trans hD4.size h
            have hD5 : Below w2.heap.size w2 w5 := Ch.below_of hD4 hP.c hM4 hD4.size
            have Hz5 : Hid (Ch M0 z2 w5 ∧ ∀ b, M5 b → M0 b ∨ z2.heap.size ≤ b) := hid (by
              obtain ⟨hz1, hz2⟩ := Hz4.out
              exact ⟨⟨hP.c.os.trans hz1.os, hP.c.tape.trans hz1.tape, hP.c.output.trans hz1.output, Nat.le_trans hz1.size hP.c.size, fun b hb hg => (hP.c.block b (Nat.lt_of_lt_of_le hb hz1.size) (fun hm => by rcases hz2 b hm with h | h; exact hg h; omega)).trans (hz1.block b hb hg)⟩, fun b h => by
                rcases hP.m b h with h | h
                · exact hz2 b h
                · exact .inr (Nat.le_trans hz1.size h)⟩)
            have Hx5 := hid (And.intro hx5 hM5)
            clear hP hx4 hM4 hu4 hx5 hM5 hD4 c4 hK4 Htk Hnx Hz4
            go_wp2
            go_roundw
            case rel => exact ⟨i + 1, M5, by omega, by go_num, Hx5, Hz5, hD5⟩
            case measure => simp [intOf]; omega
          · have hi' : i = m.length := by omega
            subst hi'
            have hI : ¬ (m.length : Int) < (m.length : Int) := by omega
            obtain ⟨hx, hM0⟩ := Hx.out
            rw [List.take_length] at hx
            clear Hx
            have b10 := b10.ch Hz.out.1 hg10M
            obtain ⟨L2, hL2⟩ : ∃ L2, L2 = tksF V slot L m := ⟨_, rfl⟩
            rw [← hL2] at hx Hst
            have hin2 : NvIn ks17 V slot L2 := hx.vin
            have hHl2 := tolH_len hin2 2 0
            obtain ⟨H2, hH2⟩ : ∃ H, H = tolH (mstC V L2 2 0) := ⟨_, rfl⟩
            obtain ⟨P2, hP2⟩ : ∃ P, P = tolP (mstC V L2 2 0) (forC L2 2 0) := ⟨_, rfl⟩
            obtain ⟨q2, hq2⟩ : ∃ q, q = (mstC V L2 2 0).isSome := ⟨_, rfl⟩
            have Hwy := hid (fun Y => wri18_uni (v := xv) (M := M) (N := N) (V := V) (slot := slot) (L := L2) (r := 0) (H := H2) (P := P2) (q := q2) hH2.symm hP2.symm hq2.symm (by unfold in64w; omega) Y)
            rw [← hH2] at hHl2 Hst
            rw [← hP2, ← hq2] at Hst
            clear hL2 hin2 hH2 hP2 hq2 H500m Hz
            have L2h : Hid ((bvs H2).length = 32) := hid (by rw [len_bvs]; exact hHl2)
            have O2h := hid (oneCell_bvs H2)
            have Heq2 := hid (eqH17 H2 H hHl2 HHl.out)
            obtain ⟨l2, hl2⟩ : ∃ l, l = bvs H2 := ⟨_, rfl⟩
            rw [← hl2, ← Hlh.out] at Heq2
            rw [← hl2] at Hwy L2h O2h
            clear hl2 hHl2
            go_wp2_with (fail)
            refine (Hwy.out _ hKr hx).mono ?_
            rintro e z3 ⟨A3, k3, rfl, hp3, hE3⟩
            have b10 := b10.below hE3
            have hBx := hBx.trans (hE3.mono hBx.size)
            clear hE3 hp3 Hwy hD hKr hx
            go_wp2_with (refine wp_newst 41 15 (.tmp 65) rfl rfl rfl rfl rfl rfl zero25 (l := l2) rfl (by rw [L2h.out]; rfl) (by rw [L2h.out]; exact size25) O2h.out (by simp [Act.put]) ?_; intro z4 b15 hE4 hs4; refine wp_stop ?_)
            have b10 := b10.below hE4
            have hBx := hBx.trans (hE4.mono hBx.size)
            obtain ⟨g15, hg15⟩ : ∃ g, g = z3.heap.size := ⟨_, rfl⟩
            rw [← hg15] at b15 ⊢
            clear hE4 hs4 hg15
            refine wp_go ?_
            cases q with
            | false =>
              clear Hst Heq2
              go_wp2
              go_ret
              exact ⟨by first | rfl | simp, hBx⟩
            | true =>
              obtain ⟨h1, h2, h3⟩ := Hst.out rfl
              have heq := Heq2.out
              rw [h1, show decide (H = H) = true from decide_eq_true rfl] at heq
              have hle : (P2.length : Int) ≥ (P.length : Int) := by omega
              subst h2
              clear Hst Heq2 h1 h3
              go_wp2_with (first | refine wp_ldg 41 (.tmp 15) (by rfl) rfl rfl b15.whole Tryd.underlying41 rfl (by rw [L2h.out]; exact size25) ?_ | refine wp_ldg 41 (.tmp 10) (by rfl) rfl rfl b10.whole Tryd.underlying41 rfl (by rw [Lh.out]; exact size25) ?_)
              go_ret
              exact ⟨by first | rfl | simp | (simp; omega), hBx⟩
end Go.Proofs.YthbbpfnfnnmdnaaDoor
/- Ku: layer 18: InstNil. -/
namespace Go.Proofs.YthbbpfnfnnmdnaaDoor
open Go.RowKit Go.V
theorem bldZ18 : ∀ W : World, (Instr.build 41 #[]).run Tryd.prog W = .ok (.agg (bvs (List.replicate 32 0)).toArray) W := fun _ => by kernel_rfl
set_option maxRecDepth 100000 in
set_option maxHeartbeats 8000000 in
theorem instNil_law (X : List UInt8) (v : Value) (F : Nat → Prop) (w : World) (hKS : KS w) (hv : Rd w F v (bys X)) :
    Calls Tryd.prog 6 #[v] w fun e w' => e = .returned (.bool true) ∧ Below w.heap.size w w' := by
  obtain ⟨Av, cv, rfl⟩ := hv.shape
  have hbz := bldZ18
  have Hba := hid (fun Y => ibatch18_nil (List.replicate 32 0) Y rfl)
  have Hbc := hid (fun Y h => itake18_nil X (.slice Av X.length cv) F Y h)
  obtain ⟨lz, hlz⟩ : ∃ l, l = bvs (List.replicate 32 0) := ⟨_, rfl⟩
  rw [← hlz] at hbz Hba
  clear hlz
  go_enter Tryd.func6, Tryd.ntmps6
  go_wp2_with (fail)
  refine (wakes18_any _ hKS).mono ?_
  rintro e w1 ⟨rfl, hB⟩
  go_wp2_with (refine wp_bld 41 [] rfl rfl [] rfl hbz ?_)
  refine (Hba.out _).mono ?_
  rintro e w2 ⟨u2, rfl, hu2, hB2⟩
  obtain ⟨A2, c2, rfl⟩ := hu2.shape
  have hB := hB.trans (hB2.mono hB.size)
  clear hB2 hu2
  go_wp2_with (fail)
  refine (iwritten18_nil 0 _).mono ?_
  rintro e w3 ⟨H3, u3, rfl, hH3, hu3, hB3⟩
  obtain ⟨A3, c3, rfl, _, _⟩ := hu3.slShape
  have hB := hB.trans (hB3.mono hB.size)
  have L3 : Hid ((bvs H3).length = 32) := hid (by rw [len_bvs]; exact hH3)
  have O3 := hid (oneCell_bvs H3)
  obtain ⟨l3, hl3⟩ : ∃ l, l = bvs H3 := ⟨_, rfl⟩
  rw [← hl3] at L3 O3 ⊢
  clear hl3 hH3 hu3 hB3
  go_wp2_with (refine wp_newst 41 6 (.tmp 24) rfl rfl rfl rfl rfl rfl zero25 (l := l3) rfl (by rw [L3.out]; rfl) (by rw [L3.out]; exact size25) O3.out (by simp [Act.put]) ?_; intro w4 b4 hB4 hs4; refine wp_stop ?_)
  have hB := hB.trans (hB4.mono hB.size)
  clear hB4 hs4 b4
  refine wp_go ?_
  go_wp2_with (fail)
  refine (iaccepted18_nil _).mono ?_
  rintro e w5 ⟨n5, H5, u5, rfl, hH5, hu5, hB5⟩
  obtain ⟨A5, c5, rfl, _, _⟩ := hu5.slShape
  have hB := hB.trans (hB5.mono hB.size)
  have L5 : Hid ((bvs H5).length = 32) := hid (by rw [len_bvs]; exact hH5)
  have O5 := hid (oneCell_bvs H5)
  obtain ⟨l5, hl5⟩ : ∃ l, l = bvs H5 := ⟨_, rfl⟩
  rw [← hl5] at L5 O5 ⊢
  clear hl5 hH5 hu5 hB5
  have hs5 := hB.size
  have b10 := Blk.new' w5 41 (zs8 32)
  have hBn : Below w5.heap.size w5 (w5.alloc (.cells (zs8 32).toArray 41)) := (Below.refl _ _).alloc (Nat.le_refl _) _
  obtain ⟨w6, hw6⟩ : ∃ x, x = w5.alloc (.cells (zs8 32).toArray 41) := ⟨_, rfl⟩
  go_wp2_with (first | (refine wp_new 41 rfl rfl zero25 ?_; refine wp_stop ?_))
  rw [← hw6] at b10 hBn ⊢
  have hB := hB.trans (hBn.mono hB.size)
  obtain ⟨g10, hg10⟩ : ∃ g, g = w5.heap.size := ⟨_, rfl⟩
  have hg : w.heap.size ≤ g10 := by
    rw [hg10]
    exact hs5
  rw [← hg10] at b10 ⊢
  clear hw6 hBn hg10
  refine wp_go ?_
  go_wp2_with (first | (refine wp_st 41 (.tmp 10) (.tmp 31) rfl rfl rfl (f := 0) rfl (l := l5) rfl b10 (by rw [L5.out]; simp [zs8]) (by rw [L5.out]; exact size25) O5.out ?_; intro w7 k10 G7; refine wp_stop ?_))
  have hB := hB.grown G7 hB.size (fun k hk => by injection hk with hk; omega)
  refine wp_go ?_
  go_wp2_with (fail)
  refine (Hbc.out _ (hv.below hB)).mono ?_
  rintro e w8 ⟨rfl, hB8⟩
  have hB := hB.trans (hB8.mono hB.size)
  go_wp2
  go_ret
  exact ⟨by simp, hB⟩
end Go.Proofs.YthbbpfnfnnmdnaaDoor
