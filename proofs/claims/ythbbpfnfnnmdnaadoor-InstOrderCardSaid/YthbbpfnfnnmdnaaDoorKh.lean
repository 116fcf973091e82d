/- Kh: layer 18: InstOrder. -/
import Derived.Test.YthbbpfnfnnmdnaaDoorLW
import Derived.Test.YthbbpfnfnnmdnaaDoorKx
import Derived.Test.YthbbpfnfnnmdnaaDoorCx
namespace Go.Proofs.YthbbpfnfnnmdnaaDoor
open Go.RowKit Go.V
theorem tk_two {V : Vc} {slot : Int} {L : List Nv} {X : List UInt8} : (tkE ks17 V slot L X = 0 ∧ ∃ m, tkL ks17 V slot L X = L ++ [⟨m, X⟩]) ∨ (tkE ks17 V slot L X ≠ 0 ∧ tkL ks17 V slot L X = L) := by
  unfold tkE tkL
  cases ht : tlC ks17 V slot X with
  | error e =>
    refine .inr ⟨?_, rfl⟩
    show e ≠ 0
    unfold tlC at ht
    split at ht
    · rename_i e' ho
      injection ht with ht
      subst ht
      exact opof_pos ho
    · split at ht
      · injection ht with ht; omega
      · split at ht
        · injection ht with ht; omega
        · split at ht
          · injection ht with ht; omega
          · cases ht
  | ok m =>
    show ((if L.any (sameV m) = true then 7 else 0) = 0 ∧ ∃ m', (if L.any (sameV m) = true then L else L ++ [⟨m, X⟩]) = L ++ [⟨m', X⟩]) ∨ ((if L.any (sameV m) = true then 7 else 0) ≠ 0 ∧ (if L.any (sameV m) = true then L else L ++ [⟨m, X⟩]) = L)
    cases L.any (sameV m) with
    | true => exact .inr ⟨by simp, rfl⟩
    | false => exact .inl ⟨rfl, m, rfl⟩
theorem map_snoc18 (L : List Nv) (m : Mg) (X : List UInt8) : (L ++ [(⟨m, X⟩ : Nv)]).map Nv.b = L.map Nv.b ++ [X] := by rw [List.map_append]; rfl
set_option maxRecDepth 100000 in
set_option maxHeartbeats 32000000 in
theorem instOrder_law (V : Vc) (slot : Int) (l : List At) (vl : Value) (F : Nat → Prop) (w : World) (hKS : KS w) (hV : in64w V.n ∧ V.m < 65536) (hs : in64w slot) (hl : Rd w F vl (wds atD l)) :
    Calls Tryd.prog 4 #[vw V.n V.m, .int .i64 slot, vl] w fun e w' => e = .returned (.bool true) ∧ Below w.heap.size w w' := by
  have hl := hl.weak (F' := fun b => F b ∧ b < w.heap.size) (fun b hb h => ⟨h, hb⟩)
  obtain ⟨A, c, rfl, _, _⟩ := wds_shape hl
  have b3 := Blk.new' w 24 [.int .i64 V.n, .int .u16 (V.m : Int)]
  have hB : Below w.heap.size w (w.alloc (.cells #[.int .i64 V.n, .int .u16 (V.m : Int)] 24)) := (Below.refl _ _).alloc (Nat.le_refl _) _
  have Hlo := hid (fun Y h => long18_any l (.slice A l.length c) (fun b => F b ∧ b < w.heap.size) Y h)
  have Hnw := hid (fun (uk : Value) (G : Nat → Prop) (Y : World) (h1 : KS Y) (h2 : Rd Y G uk (tx ks17)) => (show Calls Tryd.prog 9 #[.agg #[uk, .slice none 0 0], .agg #[.int .i64 V.n, .int .u16 (V.m : Int)], .int .i64 slot] Y (fun e w' => ∃ v M, e = .returned v ∧ NX w' v M (fun b => G b ∧ b < Y.heap.size) ks17 V slot [] ∧ (∀ b, M b → Y.heap.size ≤ b) ∧ Below Y.heap.size Y w') from inew18_any ks17 V slot uk (.slice none 0 0) _ Y h1 ks17_sm h2 hV hs))
  unfold vw
  go_enter Tryd.func4, Tryd.ntmps4
  go_wp2_with (fail)
  obtain ⟨w0, hw0⟩ : ∃ x, x = w.alloc (.cells #[.int .i64 V.n, .int .u16 (V.m : Int)] 24) := ⟨_, rfl⟩
  rw [← hw0] at b3 hB ⊢
  obtain ⟨g3, hg3⟩ : ∃ g, g = w.heap.size := ⟨_, rfl⟩
  rw [← hg3] at b3 ⊢
  clear hw0 hg3
  refine (wakes18_any _ (hKS.below hB)).mono ?_
  rintro e w1 ⟨rfl, hB1⟩
  have b3 := b3.below hB1
  have hB := hB.trans (hB1.mono hB.size)
  clear hB1
  go_wp2_with (fail)
  refine (Hlo.out _ (hl.below hB)).mono ?_
  rintro e w2 ⟨rfl, hB2⟩
  have b3 := b3.below hB2
  have hB := hB.trans (hB2.mono hB.size)
  clear hB2 Hlo
  cases hL : longT l with
  | true =>
    clear hL
    go_wp2
    go_ret
    exact ⟨rfl, hB⟩
  | false =>
    obtain ⟨h60, h500⟩ := longT_bd hL
    have H500 := hid h500
    clear hL h500
    have hK2 := hKS.below hB
    have XV : Hid (∀ Z, Ch nob w2 Z → Z.rangeAt g3 0 [.int .i64 V.n, .int .u16 (V.m : Int)]) := fun Z h => (b3.below h.below).whole
    go_upto_region 5 with (fail)
    refine wp_region_noPanic ?_
    refine wp_region_held_drew (S := Ch nob w2) (by kernel_rfl) ((Ch.refl _ _).drew) (fun hHeld => ?_)
    refine tkY 1 rfl (yieldsIf_load_mid (by rfl) 24 (.tmp 3) (by rfl) _ (0) (by rfl) _ _ (fun _ hs => XV.out _ hs) Tryd.underlying24 rfl (sizeVw18)) ?_
    refine tkP 2 rfl ?_
    refine tkY 5 rfl (yieldsIf_load_mid (by rfl) 24 (.tmp 3) (by rfl) _ (0) (by rfl) _ _ (fun _ hs => XV.out _ hs) Tryd.underlying24 rfl (sizeVw18)) ?_
    refine tkP 6 rfl ?_
    refine rdH 0 rfl (fun K hK => ?_)
    go_simp
    refine (table18_any _).mono ?_
    rintro e' y1 ⟨uk, rfl, hk, hE1⟩
    have hk0 := hHeld.size
    refine hK.out _ _ (hHeld.belowR hE1) (fun hHeld => ?_)
    clear hK K
    try simp only [nP]
    refine rdH 3 rfl (fun K hK => ?_)
    go_simp
    refine (Hnw.out _ _ _ (hK2.below hHeld.below) hk).mono ?_
    rintro e' y2 ⟨xv, M1, rfl, hx, hM1, hE2⟩
    have hk1 := hHeld.size
    refine hK.out _ _ (hHeld.belowR hE2) (fun hHeld => ?_)
    clear hK K
    try simp only [nP]
    refine rdH 4 rfl (fun K hK => ?_)
    go_simp
    refine (table18_any _).mono ?_
    rintro e' y3 ⟨uk3, rfl, hk3, hE3⟩
    have hk2 := hHeld.size
    have hxl := hx.lt
    have hx := hx.below hE3
    refine hK.out _ _ (hHeld.belowR hE3) (fun hHeld => ?_)
    clear hK K
    try simp only [nP]
    refine rdH 7 rfl (fun K hK => ?_)
    go_simp
    refine (Hnw.out _ _ _ (hK2.below hHeld.below) hk3).mono ?_
    rintro e' y4 ⟨yv, M2, rfl, hy, hM2, hE4⟩
    have hk4 := hHeld.size
    have hx := hx.below hE4
    refine hK.out _ _ (hHeld.belowR hE4) (fun hHeld => ?_)
    clear hK K
    try simp only [nP]
    refine tkP 8 rfl ?_
    refine tkP 9 rfl ?_
    refine wpAnyH_done (by kernel_rfl) ?_ _
    refine NoPanic.normal ?_
    have hD : Below w2.heap.size w2 y4 := hHeld.below
    have h2d : w2.heap.size ≤ w2.drew.heap.size := Nat.le_refl _
    have s12 := hE2.size
    have s23 := hE3.size
    have s34 := hE4.size
    have hN1 : Hid (∀ b, (w2.drew.heap.size ≤ b ∧ b < y1.heap.size) → b < y1.heap.size) := hid (fun b h => h.2)
    have hc1 : ∀ b, M1 b → y1.heap.size ≤ b ∧ b < y2.heap.size := fun b h => ⟨hM1 b h, hxl b (.inl h)⟩
    have hc2 : ∀ b, M2 b → y3.heap.size ≤ b ∧ b < y4.heap.size := fun b h => ⟨hM2 b h, hy.lt b (.inl h)⟩
    obtain ⟨N1, hN1e⟩ : ∃ N : Nat → Prop, N = fun b => w2.drew.heap.size ≤ b ∧ b < y1.heap.size := ⟨_, rfl⟩
    obtain ⟨N2, hN2e⟩ : ∃ N : Nat → Prop, N = fun b => y2.heap.size ≤ b ∧ b < y3.heap.size := ⟨_, rfl⟩
    rw [← hN1e] at hx
    rw [← hN2e] at hy
    have hn1 : ∀ b, N1 b → b < y1.heap.size := fun b h => by rw [hN1e] at h; exact h.2
    have hn2 : ∀ b, N2 b → y2.heap.size ≤ b ∧ b < y3.heap.size := fun b h => by rw [hN2e] at h; exact h
    obtain ⟨s1, hs1⟩ : ∃ s, s = y1.heap.size := ⟨_, rfl⟩
    obtain ⟨s2, hs2⟩ : ∃ s, s = y2.heap.size := ⟨_, rfl⟩
    obtain ⟨s3, hs3⟩ : ∃ s, s = y3.heap.size := ⟨_, rfl⟩
    rw [← hs1] at hc1 hn1 s12 hk1
    rw [← hs2] at hc1 hn2 s12 s23 hk2
    rw [← hs3] at hc2 hn2 s23 s34 hk4
    obtain ⟨wb, hwb⟩ : ∃ x, x = y4 := ⟨_, rfl⟩
    rw [← hwb] at hc2 s34 hx hy hD ⊢
    have hws : w.heap.size ≤ w2.heap.size := hB.size
    have hw21 : w2.heap.size ≤ s1 := hk1
    clear hN1 hN1e hN2e hs1 hs2 hs3 hwb hHeld hk hk3 hE1 hE2 hE3 hE4 hk0 hk1 hk2 hk4 Hnw hxl hM1 hM2 h2d
    go_wp2
    go_loopw [9, 42] (fun ov iv wr => ∃ (i : Nat) (M : Nat → Prop) (us : List Value), i ≤ l.length ∧ iv = .int .i64 i ∧ Hid (NX wr xv M N1 ks17 V slot (tksF V slot [] (l.take i)) ∧ NX wr yv M2 N2 ks17 V slot [] ∧ ∀ b, M b → ((s1 ≤ b ∧ b < s2) ∨ wb.heap.size ≤ b) ∧ ov.ownBlock ≠ some b) ∧ wr.ownsRow wb.heap.size 35 1 ov (tksF V slot [] (l.take i)).length us ∧ TxX wr (fun b => F b ∧ b < w.heap.size) ((tksF V slot [] (l.take i)).map Nv.b) us ∧ wb.heap.size ≤ wr.heap.size ∧ Below w2.heap.size w2 wr) (fun _ i _ => l.length - (intOf i).toNat)
    case atStart => exact ⟨0, M1, [], Nat.zero_le _, rfl, hid ⟨hx, hy, fun b h => ⟨.inl (hc1 b h), by simp [Value.ownBlock]⟩⟩, World.ownsRow_nil _ _ _ _, TxX.nil _ _, Nat.le_refl _, hD⟩
    case round =>
      clear hx hy hD
      obtain ⟨i, M, us, hi, rfl, Hx, hown, hX, hbr, hD⟩ := hrel
      have hBx := hB.trans (hD.mono hB.size)
      have hKr := hKS.below hBx
      have hLl : (tksF V slot [] (l.take i)).length ≤ i := tks_len _ _ _
      have hnx := fun (a : At) (ha : l[i]? = some a) => tks_next (V := V) (slot := slot) (L := []) ha
      obtain ⟨L, hLL⟩ : ∃ L, L = tksF V slot [] (l.take i) := ⟨_, rfl⟩
      rw [← hLL] at Hx hown hX hnx hLl
      have HLL := hid hLL
      clear hLL
      obtain ⟨Ao, co, rfl⟩ := own_shape hown
      by_cases hlt : i < l.length
      · have hI : (i : Int) < (l.length : Int) := by omega
        obtain ⟨a, ha⟩ : ∃ a, l[i]? = some a := ⟨_, List.getElem?_eq_getElem hlt⟩
        have hlr := hl.below hBx
        obtain ⟨g, off, cs, hAA, _, hrg, hel⟩ := wd_el hlr ha
        subst hAA
        obtain ⟨u, rfl, hu⟩ := at_open hel
        obtain ⟨Au, cu, rfl⟩ := Rd.shape hu
        have h5 := H500.out a (List.mem_of_getElem? ha)
        have hnx := hnx a ha
        have h2 := tk_two (V := V) (slot := slot) (L := L) (X := a.b)
        have htk := (fun Y h1 h2 h3 => itake18_any xv M N1 ks17 V slot L a.b (.slice Au a.b.length cu) (fun b => F b ∧ b < w.heap.size) Y h1 ks17_sm h2 h3 (by omega))
        rw [← hnx] at htk h2
        obtain ⟨er, her⟩ : ∃ er, er = tkE ks17 V slot L a.b := ⟨_, rfl⟩
        obtain ⟨L2, hL2⟩ : ∃ L2, L2 = tksF V slot [] (l.take (i + 1)) := ⟨_, rfl⟩
        rw [← her, ← hL2] at htk h2
        have Htk := hid htk
        have HL2 := hid hL2
        have hla : (a.l (.slice Au a.b.length cu)).length = 2 := rfl
        have hone : ∀ v ∈ a.l (.slice Au a.b.length cu), v.oneCell' = true := by
          intro v hv
          simp only [At.l, List.mem_cons, List.not_mem_nil, or_false] at hv
          rcases hv with rfl | rfl <;> rfl
        have ha1 : (a.l (.slice Au a.b.length cu))[1]? = some (.slice Au a.b.length cu) := rfl
        obtain ⟨la, hla'⟩ : ∃ x, x = a.l (.slice Au a.b.length cu) := ⟨_, rfl⟩
        rw [← hla'] at hrg hla hone ha1
        have H2 := hid h2
        clear ha hel hla' hlr hnx her hL2 htk h2 HLL
        go_wp2_with (first | refine wp_ixa 25 (.tmp 40) (.tmp 42) rfl rfl rfl rfl Tryd.underlying25 hlt sizeAt18 ?_ | refine wp_ld 37 (.tmp 44) rfl rfl rfl hrg Tryd.underlying37 rfl (by rw [hla]; exact sizeAt18) ?_ | (refine wp_newst 37 11 (.tmp 45) rfl rfl rfl rfl rfl rfl zeroAt18 (l := la) rfl (by rw [hla]; rfl) (by rw [hla]; exact sizeAt18) hone (by simp [Act.put]) ?_; intro w4 b4 hB4 hs4; refine wp_stop ?_))
        have c4 := b4.cellAt 1 _ ha1
        have hu4 := hu.below hB4
        obtain ⟨hx, hy, hMc⟩ := Hx.out
        have hx4 := hx.below hB4
        have hy4 := hy.below hB4
        have hown4 := own_bel hown hB4
        have hX4 := TxX.keep (F' := fun b => F b ∧ b < w.heap.size) (fun b hb hF => ⟨hF, hB4.block b hb⟩) hX
        have hK4 := hKr.below hB4
        have hD4 := hD.trans (hB4.mono hD.size)
        have hb4 := Nat.le_trans hbr hB4.size
        have HMc := hid hMc
        have b4w := b4
        obtain ⟨g4, hg4⟩ : ∃ g, g = wr.heap.size := ⟨_, rfl⟩
        have hg4M : ¬ M g4 := fun h => by have := hx.lt g4 (.inl h); omega
        rw [← hg4] at c4 b4w ⊢
        clear hg4 b4 hB4 hs4 hrg hu hD hBx hKr Hx hx hy hMc hown hX hbr
        refine wp_go ?_
        go_wp2_with (fail)
        refine (Htk.out _ hK4 hx4 hu4).mono ?_
        rintro e w5 ⟨rfl, M5, hP⟩
        have hx5 := hP.x
        have hC := hP.c
        have hMl := hx4.lt
        have hy5 : NX w5 yv M2 N2 ks17 V slot [] := hy4.keep hC.size (fun b hb => hC.block b (hy4.lt b hb) (fun hm => by
          have := (HMc.out b hm).1
          rcases hb with h | h
          · have := hc2 b h; omega
          · have := hn2 b h; omega))
        have hown5 := own_keepO hown4 (w' := w5) (fun k hk e => hC.block k hk (fun hm => (HMc.out k hm).2 e))
        have hX5 := TxX.keep (w' := w5) (F' := fun b => F b ∧ b < w.heap.size) (fun b hb hF => ⟨hF, hC.block b hb (fun hm => by have := (HMc.out b hm).1; omega)⟩) hX4
        have hD5 : Below w2.heap.size w2 w5 := Ch.below_of hD4 hP.c (fun b hb => by have := (HMc.out b hb).1; omega) hD4.size
        have hb5 := Nat.le_trans hb4 hC.size
        have hMc5 : ∀ b, M5 b → ((s1 ≤ b ∧ b < s2) ∨ wb.heap.size ≤ b) ∧ (Value.slice Ao L.length co).ownBlock ≠ some b := fun b h => by
          rcases hP.m b h with h | h
          · exact HMc.out b h
          · exact ⟨.inr (Nat.le_trans hb4 h), fun e => by have := (hown4.lt b e).2; have h' : w4.heap.size ≤ b := h; omega⟩
        have c5 : w5.cell? ⟨g4, 1, none⟩ = some (.slice Au a.b.length cu) := (b4w.ch hC hg4M).cellAt 1 _ ha1
        have HMc5 := hid hMc5
        have hu5 := hu4.ch hC (fun b hF hm => by have := (HMc.out b hm).1; have := hF.2; omega)
        clear hP hx4 hy4 hown4 hX4 hu4 c4 hK4 Htk HMc hD4 hC hb4 b4w hg4M hMl hMc5
        rcases H2.out with ⟨h0, m, hm⟩ | ⟨h0, hm⟩
        · have e0 : (((er : Nat) : Int) == 0) = true := by rw [h0]; rfl
          have Hm := hid hm
          clear H2 hm h0
          go_wp2_with (refine wp_push (.tmp 51) (.tmp 53) 54 slBB8 rfl rfl rfl rfl rfl (u := .slice Au a.b.length cu) rfl rfl rfl (by simp) rfl hown5 (by simp only [maxLen]; omega) (by omega) hb5 ?_; intro v6 w6 ho6 hG6 hat6; refine wp_stop ?_)
          have hrow := fun k h => hown5.lt k h
          have hlt6 := hx5.lt
          have hlty := hy5.lt
          have hX6 : TxX w6 (fun b => F b ∧ b < w.heap.size) (L.map Nv.b ++ [a.b]) (us ++ [.slice Au a.b.length cu]) := by
            refine TxX.snoc ?_ (hu5.keep ?_)
            · exact TxX.keep (fun b hb hF => ⟨hF, hG6.block b hb (fun e => by have := (hrow b e.symm).1; have := hF.2; omega)⟩) hX5
            · exact fun b hb hF => ⟨hF, hG6.block b hb (fun e => by have := (hrow b e.symm).1; have := hF.2; omega)⟩
          have hx6 : NX w6 xv M5 N1 ks17 V slot L2 := hx5.keep hG6.size (fun b hb => hG6.block b (hlt6 b hb) (fun e => by
            rcases hb with h | h
            · exact (HMc5.out b h).2 e.symm
            · have := (hrow b e.symm).1; have := hn1 b h; omega))
          have hy6 : NX w6 yv M2 N2 ks17 V slot [] := hy5.keep hG6.size (fun b hb => hG6.block b (hlty b hb) (fun e => by
            have := (hrow b e.symm).1
            rcases hb with h | h
            · have := hc2 b h; omega
            · have := hn2 b h; omega))
          have hMc6 : ∀ b, M5 b → ((s1 ≤ b ∧ b < s2) ∨ wb.heap.size ≤ b) ∧ v6.ownBlock ≠ some b := fun b h => ⟨(HMc5.out b h).1, fun e => by
            rcases hat6 with h' | ⟨k, h', hk⟩
            · rw [h'] at e; exact (HMc5.out b h).2 e
            · rw [h'] at e; injection e with e; have := hlt6 b (.inl h); have hk : w5.heap.size ≤ k := hk; omega⟩
          have hD6 := hD5.grown hG6 hD5.size (fun k hk => by have := (hrow k hk).1; omega)
          have hb6 := Nat.le_trans hb5 hG6.size
          have Hx6 := hid (And.intro hx6 (And.intro hy6 hMc6))
          rw [← map_snoc18 L m a.b, ← Hm.out] at hX6
          have ho6 : w6.ownsRow wb.heap.size 35 1 v6 L2.length (us ++ [.slice Au a.b.length cu]) := by rw [Hm.out, List.length_append]; exact ho6
          rw [HL2.out] at Hx6 hX6 ho6
          have HX6 := hid hX6
          have Ho6 := hid ho6
          clear hx5 hy5 HMc5 hown5 hX5 hG6 hat6 hD5 c5 hu5 hx6 hy6 hMc6 hX6 ho6 hlt6 hlty hrow Hm HL2 hb5
          refine wp_go ?_
          go_wp2
          go_roundw
          case rel => exact ⟨i + 1, M5, _, by omega, by go_num, Hx6, Ho6.out, HX6.out, hb6, hD6⟩
          case measure => simp [intOf]; omega
        · have e0 : (((er : Nat) : Int) == 0) = false := beq_eq_false_iff_ne.2 (by omega)
          have hm' : L2 = L := hm
          have hX6 : TxX w5 (fun b => F b ∧ b < w.heap.size) (L2.map Nv.b) us := by rw [hm']; exact hX5
          have ho6 : w5.ownsRow wb.heap.size 35 1 (.slice Ao L.length co) L2.length us := by rw [hm']; exact hown5
          have Hx6 := hid (And.intro hx5 (And.intro hy5 HMc5.out))
          rw [HL2.out] at Hx6 hX6 ho6
          have HX6 := hid hX6
          have Ho6 := hid ho6
          clear H2 hm hm' h0 hx5 hy5 HMc5 hown5 hX5 c5 hu5 hX6 ho6 HL2
          go_wp2
          go_roundw
          case rel => exact ⟨i + 1, M5, _, by omega, by go_num, Hx6, Ho6.out, HX6.out, hb5, hD5⟩
          case measure => simp [intOf]; omega
      · have hi' : i = l.length := by omega
        subst hi'
        have hI : ¬ (l.length : Int) < (l.length : Int) := by omega
        have hin : NvIn ks17 V slot L := by rw [HLL.out]; exact tks_in _ _ (NvIn.nil _ _ _)
        have hsm : ∀ v ∈ L, v.b.length ≤ 500 := by rw [HLL.out]; exact tks_b _ [] 500 (fun v h => by cases h) (fun a ha => H500.out a (List.mem_of_mem_take ha))
        have Hin := hid hin
        have Hsm := hid hsm
        have hKd : Rd wr (fun b => (F b ∧ b < w.heap.size) ∨ wb.heap.size ≤ b) (.slice Ao L.length co) (tx (L.map Nv.b)) := by
          have hown' : wr.ownsRow wb.heap.size 35 1 (.slice Ao L.length co) (L.map Nv.b).length us := by rw [List.length_map]; exact hown
          exact tx_own17 hown' hX (fun b h => .inl h) (fun b h => .inr (hown.lt b h).1)
        obtain ⟨hx, hy, hMc⟩ := Hx.out
        have hwL : IntKind.i64.wrap ((L.length : Int) - 1) = (L.length : Int) - 1 := IntWalk.i64_in _ ⟨by omega, by omega⟩
        have hMx : Hid (∀ b, M b → (s1 ≤ b ∧ b < s2) ∨ wb.heap.size ≤ b) := hid (fun b h => (hMc b h).1)
        obtain ⟨wx, hwx⟩ : ∃ x, x = wr := ⟨_, rfl⟩
        rw [← hwx] at hx hy hKd hbr hD hBx ⊢
        have h2b : w2.heap.size ≤ wb.heap.size := by omega
        clear hwx Hx hMc hown hX hnx HLL hin hsm hKr
        go_wp2
        go_loopw [12] (fun iv wr => ∃ (j : Nat) (My : Nat → Prop), j ≤ L.length ∧ iv = .int .i64 ((j : Int) - 1) ∧ Hid (NX wr yv My N2 ks17 V slot (L.drop j).reverse ∧ ∀ b, My b → ((s3 ≤ b ∧ b < wb.heap.size) ∨ wx.heap.size ≤ b)) ∧ Ch (fun b => s3 ≤ b ∧ b < wb.heap.size) wx wr) (fun i _ => (intOf i + 1).toNat)
        case atStart => exact ⟨L.length, M2, Nat.le_refl _, rfl, hid ⟨by rw [List.drop_length]; exact hy, fun b h => .inl (hc2 b h)⟩, Ch.refl _ _⟩
        case round =>
          clear hy hwL
          obtain ⟨j, My, hj, rfl, Hy, hC⟩ := hrel
          have hDr : Below w2.heap.size w2 wr := Ch.below_of hD hC (fun b hb => by omega) hD.size
          have hBr := hB.trans (hDr.mono hB.size)
          have hKr := hKS.below hBr
          have hxr : NX wr xv M N1 ks17 V slot L := hx.keep hC.size (fun b hb => hC.block b (hx.lt b hb) (fun hg => by
            rcases hb with h | h
            · have := hMx.out b h; omega
            · have := hn1 b h; omega))
          have hKdr := hKd.ch hC (fun b hb hg => by rcases hb with h | h; have := h.2; omega; omega)
          rcases Nat.eq_zero_or_pos j with h0 | hpos
          · subst h0
            have hge : ¬ ((((0 : Nat) : Int) - 1) ≥ 0) := by omega
            obtain ⟨hy, hMy⟩ := Hy.out
            rw [List.drop_zero] at hy
            have he : ∀ v, v ∈ L ↔ v ∈ L.reverse := fun v => List.mem_reverse.symm
            have hin := Hin.out
            have hin2 := hy.vin
            have Hex := hid (fun (r : Int) => (And.intro (mst_ext hin hin2 he 2 r).symm (fun d => (for_ext hin hin2 he 2 r d).symm) : mstC V L.reverse 2 r = mstC V L 2 r ∧ ∀ d, forC L.reverse 2 r d = forC L 2 r d))
            have Hea := hid (acc_ext hin hin2 he)
            have Hem := hid (fun (r : Int) => (mst_ext hin hin2 he 3 r))
            have Hef := hid (fun (r : Int) => (funext (fun d => for_ext hin hin2 he 3 r d) : forC L 3 r = forC L.reverse 3 r))
            have Hef2 := hid (fun (r : Int) => (funext (fun d => for_ext hin hin2 he 2 r d) : forC L 2 r = forC L.reverse 2 r))
            obtain ⟨L2, hL2⟩ : ∃ L2, L2 = L.reverse := ⟨_, rfl⟩
            rw [← hL2] at hy Hex Hea Hem Hef Hef2
            clear hL2 hMy Hy he hin hin2 hKd hKdr hx
            obtain ⟨wy, hwy⟩ : ∃ x, x = wr := ⟨_, rfl⟩
            rw [← hwy] at hxr hy hDr hBr hKr ⊢
            clear hwy hC
            go_wp2
            go_loopw [71] (fun iv wr => ∃ r : Nat, r ≤ 4 ∧ iv = .int .i64 r ∧ Below wy.heap.size wy wr) (fun i _ => 4 - (intOf i).toNat)
            case atStart => exact ⟨0, by omega, rfl, Below.refl _ _⟩
            case round =>
              obtain ⟨r, hr4, rfl, hE⟩ := hrel
              have hBz := hBr.trans (hE.mono hBr.size)
              have hKz := hKr.below hE
              have hxz := hxr.below hE
              have hyz := hy.below hE
              by_cases hlt : r < 4
              · have hI : (r : Int) < 4 := by omega
                have hHl := tolH_len Hin.out 2 (r : Int)
                have hPl := tolP_len (mstC V L 2 (r : Int)) L 2 (r : Int)
                have hex := Hex.out (r : Int)
                obtain ⟨H, hH⟩ : ∃ H, H = tolH (mstC V L 2 (r : Int)) := ⟨_, rfl⟩
                obtain ⟨P, hP⟩ : ∃ P, P = tolP (mstC V L 2 (r : Int)) (forC L 2 (r : Int)) := ⟨_, rfl⟩
                obtain ⟨q, hq⟩ : ∃ q, q = (mstC V L 2 (r : Int)).isSome := ⟨_, rfl⟩
                have Hwx := hid (fun Y => wri18_uni (v := xv) (M := M) (N := N1) (V := V) (slot := slot) (L := L) (r := (r : Int)) (H := H) (P := P) (q := q) hH.symm hP.symm hq.symm (by unfold in64w; omega) Y)
                have Hwy := hid (fun Y => wri18_uni (v := yv) (M := My) (N := N2) (V := V) (slot := slot) (L := L2) (r := (r : Int)) (H := H) (P := P) (q := q) (by rw [hex.1, hH]) (by rw [hex.1, hP, Hef2.out]) (by rw [hex.1, hq]) (by unfold in64w; omega) Y)
                rw [← hH] at hHl
                rw [← hP] at hPl
                have heq := eqH17 H H hHl hHl
                rw [show decide (H = H) = true from decide_eq_true rfl] at heq
                have Lh : Hid ((bvs H).length = 32) := hid (by rw [len_bvs]; exact hHl)
                have Oh := hid (oneCell_bvs H)
                obtain ⟨lh, hlh⟩ : ∃ l, l = bvs H := ⟨_, rfl⟩
                rw [← hlh] at Hwx Hwy Lh Oh heq
                clear hlh hH hP hq hHl hex
                have hqq : (q != q) = false := by simp
                go_wp2_with (fail)
                refine (Hwx.out _ hKz hxz).mono ?_
                rintro e z1 ⟨A1, k1, rfl, hp1, hE1⟩
                have hEE := hE.trans (hE1.mono hE.size)
                clear hE1
                go_wp2_with (refine wp_newst 41 14 (.tmp 78) rfl rfl rfl rfl rfl rfl zero25 (l := lh) rfl (by rw [Lh.out]; rfl) (by rw [Lh.out]; exact size25) Oh.out (by simp [Act.put]) ?_; intro z2 b14 hE2 hs2; refine wp_stop ?_)
                have hp1 := hp1.below hE2
                have hEE := hEE.trans (hE2.mono hEE.size)
                obtain ⟨g14, hg14⟩ : ∃ g, g = z1.heap.size := ⟨_, rfl⟩
                rw [← hg14] at b14 ⊢
                clear hE2 hs2 hg14
                refine wp_go ?_
                go_wp2_with (fail)
                refine (Hwy.out _ (hKr.below hEE) (hy.below hEE)).mono ?_
                rintro e z3 ⟨A2, k2, rfl, hp2, hE3⟩
                have hp1 := hp1.below hE3
                have b14 := b14.below hE3
                have hEE := hEE.trans (hE3.mono hEE.size)
                clear hE3
                go_wp2_with (refine wp_newst 41 17 (.tmp 85) rfl rfl rfl rfl rfl rfl zero25 (l := lh) rfl (by rw [Lh.out]; rfl) (by rw [Lh.out]; exact size25) Oh.out (by simp [Act.put]) ?_; intro z4 b17 hE4 hs4; refine wp_stop ?_)
                have hp1 := hp1.below hE4
                have hp2 := hp2.below hE4
                have b14 := b14.below hE4
                have hEE := hEE.trans (hE4.mono hEE.size)
                obtain ⟨g17, hg17⟩ : ∃ g, g = z3.heap.size := ⟨_, rfl⟩
                rw [← hg17] at b17 ⊢
                clear hE4 hs4 hg17 hxz hyz hE hBz hKz Hwx Hwy
                refine wp_go ?_
                go_wp2_with (first | refine wp_ld 41 (.tmp 14) rfl rfl rfl b14.whole Tryd.underlying41 rfl (by rw [Lh.out]; exact size25) ?_ | refine wp_ld 41 (.tmp 17) rfl rfl rfl b17.whole Tryd.underlying41 rfl (by rw [Lh.out]; exact size25) ?_)
                refine (sameParts_any _ _ P _ _ _ hp1 hp2 (by omega)).mono ?_
                rintro e z5 ⟨rfl, hE5⟩
                have hEE := hEE.trans (hE5.mono hEE.size)
                clear hp1 hp2 b14 b17 hE5
                go_wp2
                go_roundw
                case rel => exact ⟨r + 1, by omega, by go_num, hEE⟩
                case measure => simp [intOf]; omega
              · have hr' : r = 4 := by omega
                subst hr'
                have hI : ¬ (4 : Int) < 4 := by omega
                have hHl := accH_len Hin.out
                have hPl := tolP_len ((accC V L).bind fun r => mstC V L 3 (r : Int)) L 3 (((accC V L).getD 0 : Nat) : Int)
                have hbi : ((accC V L).bind fun r => mstC V L2 3 (r : Int)) = ((accC V L).bind fun r => mstC V L 3 (r : Int)) := by congr 1; funext r; exact (Hem.out _).symm
                have hea := Hea.out.symm
                have hef := (Hef.out (((accC V L).getD 0 : Nat) : Int)).symm
                obtain ⟨H, hH⟩ : ∃ H, H = tolH ((accC V L).bind fun r => mstC V L 3 (r : Int)) := ⟨_, rfl⟩
                obtain ⟨P, hP⟩ : ∃ P, P = tolP ((accC V L).bind fun r => mstC V L 3 (r : Int)) (forC L 3 (((accC V L).getD 0 : Nat) : Int)) := ⟨_, rfl⟩
                obtain ⟨q, hq⟩ : ∃ q, q = (accC V L).isSome := ⟨_, rfl⟩
                obtain ⟨r0, hr0⟩ : ∃ r : Int, r = (((accC V L).getD 0 : Nat) : Int) := ⟨_, rfl⟩
                have Hwx := hid (fun Y => acc18_uni (v := xv) (M := M) (N := N1) (V := V) (slot := slot) (L := L) (r := r0) (H := H) (P := P) (q := q) hr0.symm hH.symm hP.symm hq.symm Y)
                have Hwy := hid (fun Y => acc18_uni (v := yv) (M := My) (N := N2) (V := V) (slot := slot) (L := L2) (r := r0) (H := H) (P := P) (q := q) (by rw [hea, hr0]) (by rw [hea, hbi, hH]) (by rw [hea, hbi, hef, hP]) (by rw [hea, hq]) Y)
                rw [← hH] at hHl
                rw [← hP] at hPl
                have heq := eqH17 H H hHl hHl
                rw [show decide (H = H) = true from decide_eq_true rfl] at heq
                have Lh : Hid ((bvs H).length = 32) := hid (by rw [len_bvs]; exact hHl)
                have Oh := hid (oneCell_bvs H)
                obtain ⟨lh, hlh⟩ : ∃ l, l = bvs H := ⟨_, rfl⟩
                rw [← hlh] at Hwx Hwy Lh Oh heq
                clear hlh hH hP hq hHl hea hbi hef hr0 Hex Hea Hem Hef Hef2
                have hqq : (q == q) = true := by simp
                have hrr : (r0 == r0) = true := by simp
                go_wp2_with (fail)
                refine (Hwx.out _ hKz hxz).mono ?_
                rintro e z1 ⟨A1, k1, rfl, hp1, hE1⟩
                have hEE := hE.trans (hE1.mono hE.size)
                clear hE1
                have b21 := Blk.new' z1 41 (zs8 32)
                have hBn : Below z1.heap.size z1 (z1.alloc (.cells (zs8 32).toArray 41)) := (Below.refl _ _).alloc (Nat.le_refl _) _
                obtain ⟨z2, hy0⟩ : ∃ y, y = z1.alloc (.cells (zs8 32).toArray 41) := ⟨_, rfl⟩
                go_wp2_with (first | (refine wp_new 41 rfl rfl zero25 ?_; refine wp_stop ?_))
                rw [← hy0] at b21 hBn ⊢
                obtain ⟨g21, hg0⟩ : ∃ g, g = z1.heap.size := ⟨_, rfl⟩
                have hgx21 : z1.heap.size ≤ g21 := by rw [hg0]; exact Nat.le_refl _
                rw [← hg0] at b21 ⊢
                clear hy0 hg0
                refine wp_go ?_
                go_wp2_with (first | (refine wp_st 41 (.tmp 21) (.tmp 107) rfl rfl rfl (f := 0) rfl (l := lh) rfl b21 (by rw [Lh.out]; simp [zs8]) (by rw [Lh.out]; exact size25) Oh.out ?_; intro z2' k21 G21; refine wp_stop ?_))
                have k21 : Blk z2' g21 41 lh := by rw [show (zs8 32).take 0 ++ lh ++ (zs8 32).drop (0 + lh.length) = lh from by rw [Lh.out]; simp [zs8]] at k21; exact k21
                have hE21 : Below z1.heap.size z1 z2' := hBn.grown G21 hBn.size (fun k hk => by injection hk with hk; omega)
                clear hBn G21 b21 hgx21
                refine wp_go ?_
                have hp1 := hp1.below hE21
                have hEE := hEE.trans (hE21.mono hEE.size)
                clear hE21
                go_wp2_with (fail)
                refine (Hwy.out _ (hKr.below hEE) (hy.below hEE)).mono ?_
                rintro e z3 ⟨A2, k2, rfl, hp2, hE3⟩
                have hp1 := hp1.below hE3
                have k21 := k21.below hE3
                have hEE := hEE.trans (hE3.mono hEE.size)
                clear hE3
                have b25 := Blk.new' z3 41 (zs8 32)
                have hBn : Below z3.heap.size z3 (z3.alloc (.cells (zs8 32).toArray 41)) := (Below.refl _ _).alloc (Nat.le_refl _) _
                obtain ⟨z4, hy0⟩ : ∃ y, y = z3.alloc (.cells (zs8 32).toArray 41) := ⟨_, rfl⟩
                go_wp2_with (first | (refine wp_new 41 rfl rfl zero25 ?_; refine wp_stop ?_))
                rw [← hy0] at b25 hBn ⊢
                obtain ⟨g25, hg0⟩ : ∃ g, g = z3.heap.size := ⟨_, rfl⟩
                have hgx25 : z3.heap.size ≤ g25 := by rw [hg0]; exact Nat.le_refl _
                rw [← hg0] at b25 ⊢
                clear hy0 hg0
                refine wp_go ?_
                go_wp2_with (first | (refine wp_st 41 (.tmp 25) (.tmp 114) rfl rfl rfl (f := 0) rfl (l := lh) rfl b25 (by rw [Lh.out]; simp [zs8]) (by rw [Lh.out]; exact size25) Oh.out ?_; intro z4' k25 G25; refine wp_stop ?_))
                have k25 : Blk z4' g25 41 lh := by rw [show (zs8 32).take 0 ++ lh ++ (zs8 32).drop (0 + lh.length) = lh from by rw [Lh.out]; simp [zs8]] at k25; exact k25
                have hE25 : Below z3.heap.size z3 z4' := hBn.grown G25 hBn.size (fun k hk => by injection hk with hk; omega)
                clear hBn G25 b25 hgx25
                refine wp_go ?_
                have hp1 := hp1.below hE25
                have hp2 := hp2.below hE25
                have k21 := k21.below hE25
                have hEE := hEE.trans (hE25.mono hEE.size)
                clear hE25 hxz hyz hE hBz hKz Hwx Hwy
                go_wp2_with (first | refine wp_ldg 41 (.tmp 21) (by rfl) rfl rfl k21.whole Tryd.underlying41 rfl (by rw [Lh.out]; exact size25) ?_ | refine wp_ldg 41 (.tmp 25) (by rfl) rfl rfl k25.whole Tryd.underlying41 rfl (by rw [Lh.out]; exact size25) ?_)
                refine (sameParts_any _ _ P _ _ _ hp1 hp2 (by omega)).mono ?_
                rintro e z5 ⟨rfl, hE5⟩
                have hEE := hEE.trans (hE5.mono hEE.size)
                have hBf := hBr.trans (hEE.mono hBr.size)
                clear hp1 hp2 k21 k25 hE5
                go_wp2
                go_ret
                exact ⟨by first | rfl | simp, hBf⟩
          · obtain ⟨i, rfl⟩ : ∃ i, j = i + 1 := ⟨j - 1, by omega⟩
            have hsub : (((i + 1 : Nat) : Int) - 1) = (i : Int) := by omega
            rw [hsub]
            have hge : (i : Int) ≥ 0 := by omega
            have hIL : (i : Int) < (L.length : Int) := by omega
            have hiw : IntKind.i64.wrap ((i : Int) - 1) = (i : Int) - 1 := IntWalk.i64_in _ ⟨by omega, by omega⟩
            obtain ⟨v, hv⟩ : ∃ v, L[i]? = some v := ⟨_, List.getElem?_eq_getElem (by omega)⟩
            have hvb := Hsm.out v (List.mem_of_getElem? hv)
            obtain ⟨hk1, hk2⟩ := tk_back Hin.out hv
            have hKde : Rd wr (fun b => (F b ∧ b < w.heap.size) ∨ wb.heap.size ≤ b) (.slice Ao (L.map Nv.b).length co) (tx (L.map Nv.b)) := by rw [List.length_map]; exact hKdr
            obtain ⟨G, off, u, hAA, hG, hcu, hu⟩ := Rd.elem hKde i (bys v.b) (by rw [List.getElem?_map, List.getElem?_map, hv]; rfl)
            obtain ⟨Au, cu, rfl⟩ := hu.shape
            have htk := fun Y h1 h2 h3 => itake18_any yv My N2 ks17 V slot (L.drop (i + 1)).reverse v.b (.slice Au v.b.length cu) (fun b => (F b ∧ b < w.heap.size) ∨ wb.heap.size ≤ b) Y h1 ks17_sm h2 h3 (by omega)
            rw [hk1, hk2] at htk
            have Htk := hid htk
            subst hAA
            have hy := Hy.out.1
            have hMy := Hy.out.2
            clear htk hk1 hk2 hv Hy hpos hsub
            go_wp2_with (fail)
            refine (Htk.out _ hKr hy hu).mono ?_
            rintro e w5 ⟨rfl, M5, hP⟩
            have hM5 : ∀ b, M5 b → ((s3 ≤ b ∧ b < wb.heap.size) ∨ wx.heap.size ≤ b) := fun b h => by
              rcases hP.m b h with h | h
              · exact hMy b h
              · exact .inr (Nat.le_trans hC.size h)
            have hC5 : Ch (fun b => s3 ≤ b ∧ b < wb.heap.size) wx w5 := ⟨hP.c.os.trans hC.os, hP.c.tape.trans hC.tape, hP.c.output.trans hC.output, Nat.le_trans hC.size hP.c.size, fun b hb hg => (hP.c.block b (Nat.lt_of_lt_of_le hb hC.size) (fun hm => by rcases hMy b hm with h | h; exact hg h; omega)).trans (hC.block b hb hg)⟩
            have Hy5 := hid (And.intro hP.x hM5)
            clear hP hy hMy hu hcu hxr hKdr hKde hC hDr hBr hKr hM5 Htk
            go_wp2
            go_roundw
            case rel => exact ⟨i, M5, by omega, by go_num, Hy5, hC5⟩
            case measure => simp [intOf]
end Go.Proofs.YthbbpfnfnnmdnaaDoor
