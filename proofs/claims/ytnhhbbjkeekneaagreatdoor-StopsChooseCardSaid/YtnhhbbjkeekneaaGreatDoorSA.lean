/- SA: contracts of the document's Sum, Bytes, Pair, All, Chain. -/
import Derived.Test.YtnhhbbjkeekneaaGreatDoorS9
import Derived.Test.YtnhhbbjkeekneaaGreatDoorVA
import Derived.Test.YtnhhbbjkeekneaaGreatDoorRB
set_option maxRecDepth 100000
set_option maxHeartbeats 16000000
namespace Go.Proofs.YtnhhbbjkeekneaaGreatDoor
open Go.RowKit Go.V
theorem own_keepB {w w' : World} {base : Nat} {e : TypeId} {sz : Nat} {v : Value} {n : Nat} {xs : List Value} (h : w.ownsRow base e sz v n xs) (hB : Below w.heap.size w w') : w'.ownsRow base e sz v n xs := by
 have hg : w.grownBy w' none := ⟨hB.os, hB.tape, hB.output, hB.size, fun k hk _ => hB.block k hk⟩
 refine h.kept hg ?_; cases hv : v.ownBlock with
 | none => exact .inl rfl
 | some k => exact .inr (by simp)
theorem own_base {w : World} {base b2 : Nat} {e : TypeId} {sz : Nat} {v : Value} {n : Nat} {xs : List Value} (h : w.ownsRow base e sz v n xs) (hb : b2 <= base) : w.ownsRow b2 e sz v n xs := by
 refine ⟨h.1, ?_⟩; rcases h.2 with hn | ⟨g, cap, cur, hv, hbb, rest⟩
 . exact .inl hn
 . exact .inr ⟨g, cap, cur, hv, Nat.le_trans hb hbb, rest⟩
theorem fixR8 (x : Nat) : fixR 8 x = fx 8 x := by unfold fixR; rw [if_pos (by unfold okN; omega)]; rfl
theorem fixR4 (x : Nat) : fixR 4 x = fx 4 x := by unfold fixR; rw [if_pos (by unfold okN; omega)]; rfl
theorem pad_len (p : List UInt8) : (pad p).length = p.length + 1 + padN p.length + 8 := by simp [pad, len_fx]; omega
theorem pad_mod (p : List UInt8) : (pad p).length % 64 = 0 := by rw [pad_len]; unfold padN; omega
theorem padN_at (n k : Nat) (hk : k <= padN n) : (n + 1 + k) % 64 = 56 ↔ k = padN n := by unfold padN at *; omega
theorem app_zeros (p : List UInt8) (k : Nat) : bvs (p ++ (128 :: List.replicate k 0)) ++ [.int .u8 0] = bvs (p ++ (128 :: List.replicate (k + 1) 0)) := by
 simp [bvs, List.replicate_succ', byteV]
theorem refx8 (l : Nat) (w : World) (h : l <= 17592186044416) :
 Calls Tryz.prog 79 #[.int .u64 (8 * (l : Int)), .int .i64 8] w fun e w' => ∃ v', e = .returned v' /\ w'.ownsRow w.heap.size 5 1 v' 8 (bvs (fx 8 (8 * l))) /\ Below w.heap.size w w' := by
 have := refx_any (8 * l) 8 w (by omega); rw [fixR8, show ((8 * l : Nat) : Int) = 8 * (l : Int) from by omega] at this; refine this.mono ?_; rintro e w' ⟨v', rfl, h1, h2⟩; rw [len_fx] at h1; exact ⟨v', rfl, h1, h2⟩
theorem refx4 (x : UInt32) (w : World) :
 Calls Tryz.prog 79 #[.int .u64 (x.toNat : Int), .int .i64 4] w fun e w' => ∃ v', e = .returned v' /\ w'.ownsRow w.heap.size 5 1 v' 4 (bvs (fx 4 x.toNat)) /\ Below w.heap.size w w' := by
 have hx := u32lt x; have := refx_any x.toNat 4 w (by omega); rw [fixR4] at this; refine this.mono ?_; rintro e w' ⟨v', rfl, h1, h2⟩; rw [len_fx] at h1; exact ⟨v', rfl, h1, h2⟩
theorem one_zs8 : ∀ v ∈ zs8 32, v.oneCell' = true := by
 intro v hv; have := List.eq_of_mem_replicate hv; rw [this]; rfl
theorem bld25 : ∀ W : World, (Instr.build 32 ([] : List (Nat × Value)).toArray).run Tryz.prog W = .ok (.agg (zs8 32).toArray) W := fun _ => by kernel_rfl
theorem rsum_any (v : Value) (p : List UInt8) (F : Nat -> Prop) (w : World) (ht : Rd w F v (bys p)) (hn : p.length <= 17592186044416) :
 Calls Tryz.prog 52 #[v] w fun e w' => e = .returned (.agg (bvs (shaF p)).toArray) /\ Below w.heap.size w w' := by
 obtain ⟨A, c, rfl⟩ := ht.shape; go_enter Tryz.func52, Tryz.ntmps52; have hz := Blk.new' w 32 (zs8 32); have hB0 : Below w.heap.size w (w.alloc (.cells (zs8 32).toArray 32)) := (Below.refl _ _).alloc (Nat.le_refl _) _; have h0 : (w.alloc (.cells (zs8 32).toArray 32)).ownsRow (w.heap.size + 1) 5 1 (.slice none 0 0) 0 [] := World.ownsRow_nil _ _ _ _; go_wp2_with (first | (refine wp_new 32 rfl rfl zero25 ?_) | (refine wp_app (.tmp 8) (.tmp 9) slB rfl rfl rfl h0 rfl (ht.below hB0).src (oneCell_bvs p) (by simp only [maxLen]; omega) (by omega) (by simp) ?_; intro v1 w1 ho1 hG1 _; refine wp_stop ?_)); have hB1 := hB0.grown hG1 (by simp) (by intro k hk; cases hk); have hz1 := hz.keep (hG1.block _ (by simp) (by intro e; cases e)); rw [List.nil_append, Nat.zero_add] at ho1; have hs1 : w.heap.size + 1 <= w1.heap.size := by have := hG1.size; simpa using this
 refine wp_go ?_; go_wp2_with (refine wp_push (.tmp 11) (.const (.int .u8 128)) 12 slB rfl rfl rfl rfl rfl (u := .int .u8 128) rfl rfl rfl (by simp) rfl ho1 (by simp only [maxLen]; omega) (by omega) hs1 ?_; intro v2 w2 ho2 hG2 _; refine wp_stop ?_); have hB2 := hB1.grown hG2 hB1.size (fun k hk => by have := (ho1.lt k hk).1; omega); have hz2 := hz1.keep (hG2.block _ hz1.lt (fun e => by have := (ho1.lt _ e.symm).1; omega))
 have ho2' : w2.ownsRow (w.heap.size + 1) 5 1 v2 (p.length + 1 + 0) (bvs (p ++ (128 :: List.replicate 0 0))) := by
  have : bvs p ++ [.int .u8 128] = bvs (p ++ (128 :: List.replicate 0 0)) := by simp [bvs, byteV]
  rw [<- this]; exact ho2
 clear ho2 hB1 hz1 ho1 hG1 hG2 hs1 h0; refine wp_go ?_; go_wp2
 go_loopw [3] (fun tv wr => ∃ k : Nat, k <= padN p.length /\ wr.ownsRow (w.heap.size + 1) 5 1 tv (p.length + 1 + k) (bvs (p ++ (128 :: List.replicate k 0))) /\ Blk wr w.heap.size 32 (zs8 32) /\ Below w.heap.size w wr) (fun tv _ => p.length + 65 - lenV tv)
 case atStart => exact ⟨0, by omega, ho2', hz2, hB2⟩
 case round =>
  obtain ⟨k, hk, ho, hz, hB⟩ := hrel; have hpn : padN p.length < 64 := by unfold padN; omega
  have hsz := hz.lt; obtain ⟨L, hL⟩ := nm (p.length + 1 + k); rw [<- hL] at ho; have hLm := padN_at p.length k hk; rw [<- hL] at hLm; obtain ⟨At, ct, rfl⟩ := own_shape ho; have hLb : L <= 17592186044500 := by omega
  have HL := hid hL; clear hL; by_cases hkk : k = padN p.length
  . have ht1 : (((L : Int) % 64) != 56) = false := by rw [bne_eq_false_iff_eq]; have := hLm.2 hkk; omega
    have HK := hid hkk; clear hkk hLm; go_wp2_with (fail); refine (refx8 p.length wr hn).mono ?_; rintro e w3 ⟨v3, rfl, ho3, hB3⟩; have hB3' := hB.trans (hB3.mono hB.size); have hz3 := hz.below hB3; have ho' : w3.ownsRow (w.heap.size + 1) 5 1 (.slice At L ct) L (bvs (p ++ (128 :: List.replicate k 0))) := own_keepB ho hB3; obtain ⟨A3, c3, rfl⟩ := own_shape ho3
    have hs3 : Src w3 A3 8 (bvs (fx 8 (8 * p.length))) := by
     have := (Rd.of_own ho3).src; rw [len_fx] at this; exact this
    go_wp2_with (refine wp_app (.tmp 21) (.tmp 26) slB rfl rfl rfl ho' rfl hs3 (oneCell_bvs _) (by simp only [maxLen]; omega) (by omega) (by have := hB3'.size; have := hz3.lt; omega) ?_; intro v4 w4 ho4 hG4 _; refine wp_stop ?_); have hB4 := hB3'.grown hG4 hB3'.size (fun k hk => by have := (ho'.lt k hk).1; omega); have hz4 := hz3.keep (hG4.block _ hz3.lt (fun e => by have := (ho'.lt _ e.symm).1; omega)); have hpd : bvs (p ++ (128 :: List.replicate k 0)) ++ bvs (fx 8 (8 * p.length)) = bvs (pad p) := by rw [HK.out]; simp [pad, bvs]
    rw [hpd] at ho4; have hpl : Hid (L + 8 = (pad p).length) := by show _ = _; rw [pad_len, HL.out, HK.out]
    have hr4 := Rd.of_own ho4; obtain ⟨A4, c4, rfl⟩ := own_shape ho4; obtain ⟨PL, hPL⟩ : ∃ PL, L + 8 = PL := ⟨_, rfl⟩
    rw [hPL] at ho4 hr4 hpl |-; have hPLb : PL <= 17592186044600 := by omega
    clear hPL hpd; refine wp_go ?_; have hbw := bsW 1779033703 3144134277 1013904242 2773480762 1359893119 2600822924 528734635 1541459225; have h5 : (w4.alloc (.cells (wvs (s8l iv)).toArray 130)).ownsRow (w.heap.size + 1) 130 1 (.slice none 0 0) 0 [] := World.ownsRow_nil _ _ _ _; have hs5 := srcW w4 130 (wvs (s8l iv)); go_wp2_with (refine wp_app (.tmp 28) (.tmp 29) slW rfl rfl rfl h5 rfl hs5 (oneCell_wvs _) (by simp [maxLen]) (by simp) (by have := hB4.size; have := hz4.lt; simp; omega) ?_; intro v6 w6 ho6 hG6 _; refine wp_stop ?_); have hB5 : Below w.heap.size w (w4.alloc (.cells (wvs (s8l iv)).toArray 130)) := hB4.alloc hB4.size _; have hB6 := hB5.grown hG6 hB5.size (by intro k hk; cases hk); have hz6 := (hz4.alloc (.cells (wvs (s8l iv)).toArray 130)).keep (hG6.block _ (by have := hz4.lt; simp; omega) (by intro e; cases e)); have hr6 : Rd w6 (fun b => w.heap.size + 1 <= b) (.slice A4 PL c4) (bys (pad p)) := (hr4.below ((Below.refl _ _).alloc (Nat.le_refl _) (.cells (wvs (s8l iv)).toArray 130))).keep (fun b hb hf => ⟨hf, hG6.block b hb (by intro e; cases e)⟩); have hw6 : RdW w6 (fun b => w.heap.size + 1 <= b) v6 (s8l iv) := RdW.of_own ho6; clear hB5 hG6 ho6 hs5 h5 hbw hB4 hz4 hr4 ho4 hG4 hB3' hz3 ho' hs3 ho3 hB3 hz hB ho; refine wp_go ?_; go_wp2
    go_loopw [4, 5] (fun sv av wr => ∃ k : Nat, 64 * k <= PL /\ av = .int .i64 (64 * (k : Int)) /\ RdW wr (fun b => w.heap.size + 1 <= b) sv (s8l (fbk (pad p) k)) /\ Rd wr (fun b => w.heap.size + 1 <= b) (.slice A4 PL c4) (bys (pad p)) /\ Blk wr w.heap.size 32 (zs8 32) /\ Below w.heap.size w wr) (fun _ av _ => PL - (intOf av).toNat)
    case atStart => exact ⟨0, by omega, rfl, hw6, hr6, hz6, hB6⟩
    case round =>
     clear hB6 hz6 hr6 hw6; obtain ⟨k, hk, rfl, hw, hr, hz, hB⟩ := hrel; have hmod : PL % 64 = 0 := by rw [hpl.out]; exact pad_mod p
     by_cases hlt : 64 * k < PL
     . obtain ⟨A', m', c', hsl, hcut⟩ := hr.cut slB (64 * (k : Int)) (64 * (k : Int) + 64) (by omega) (by omega) (by rw [<- hpl.out]; omega); rw [show (64 * (k : Int)).toNat = 64 * k from by omega, show (64 * (k : Int) + 64).toNat - 64 * k = 64 from by omega] at hcut; have hcl : (((pad p).drop (64 * k)).take 64).length = 64 := by rw [List.length_take, List.length_drop, <- hpl.out]; omega
       have Hcl := hid hcl; have hk1 : 64 * (k + 1) <= PL := by omega
       clear hcl hmod; go_wp2_with (fail); refine (block_any (fbk (pad p) k) _ _ _ _ _ _ hw hcut Hcl.out).mono ?_; rintro e w3 ⟨v3, rfl, ho3, hB3⟩
       have hw3 : RdW w3 (fun b => w.heap.size + 1 <= b) v3 (s8l (fbk (pad p) (k + 1))) := by
        obtain ⟨A9, c9, hv9, h1, h2, h3⟩ := RdW.of_own ho3; refine ⟨A9, c9, hv9, h1, h2, fun j u hu => ?_⟩; obtain ⟨g, off, hA, hg, hc⟩ := h3 j u hu; exact ⟨g, off, hA, by have h4 : wr.heap.size <= g := hg; have := hz.lt; show w.heap.size + 1 <= g; omega, hc⟩
       have hB3' := hB.trans (hB3.mono hB.size); go_wp2
       go_roundw
       case rel => exact ⟨k + 1, by omega, by go_num, hw3, hr.below hB3, hz.below hB3, hB3'⟩
       case measure => simp [intOf]; omega
     . have hkk : Hid (s8b (fbk (pad p) k) = shaF p) := by
        show _ = _; unfold shaF; rw [show (pad p).length / 64 = k from by rw [<- hpl.out]; omega]
       clear hmod; obtain ⟨As, cs, rfl, _, _, hsc⟩ := hw; obtain ⟨gs, os, rfl, hgs, hsc0⟩ := hsc 0 _ rfl
       have hcell : ∀ j (u : Value), (wvs (s8l (fbk (pad p) k)))[j]? = some u -> wr.cell? ⟨gs, os + j, none⟩ = some u := by
        intro j u hu; obtain ⟨g', off', h', _, hc'⟩ := hsc j u hu; injection h' with h'
        injection h' with h1 h2
        subst h1 h2; exact hc'
       have hgsl := lt_of_cell hsc0; have Hcell := hid hcell; obtain ⟨st, hst⟩ := nm (fbk (pad p) k); rw [<- hst] at Hcell hkk |-; clear hcell hsc hsc0 hst; rw [show (s8l st).length = 8 from rfl]; have hal : Below w.heap.size w (wr.alloc (.cells (zs8 32).toArray 32)) := hB.alloc hB.size _; have hzn := Blk.new' wr 32 (zs8 32); go_wp2_with (refine wp_bld (o := ⟨some 44, .build 32 _, _, _, _, none⟩) 32 [] rfl rfl [] rfl bld25 ?_; refine wp_stop ?_); refine wp_new 32 rfl rfl zero25 ?_; refine wp_st 32 (.tmp 6) (.tmp 44) (by rfl) (by rfl) (by rfl) (f := 0) (by rfl) (l := zs8 32) (by rfl) hzn (by simp [zs8]) size25 one_zs8 ?_; intro w8 hb8 hG8; have hB8 := hal.grown hG8 (by simp; have := hB.size; omega) (by intro k hk; injection hk with hk; have := hB.size; omega); have hz8 := (hz.alloc (.cells (zs8 32).toArray 32)).keep (hG8.block _ (by have := hz.lt; simp; omega) (by intro e; injection e with e; have := hz.lt; omega))
       have hb8' : Blk w8 wr.heap.size 32 (part32 (s8b st) 0) := by
        rw [part32_0]; have e9 : (zs8 32).take 0 ++ zs8 32 ++ (zs8 32).drop (0 + (zs8 32).length) = zs8 32 := by simp [zs8]
        rw [e9] at hb8; exact hb8
       have Hc8 : Hid (∀ j (u : Value), (wvs (s8l st))[j]? = some u -> w8.cell? ⟨gs, os + j, none⟩ = some u) := fun j u hu => (World.cell?_of_block ((hG8.block gs (by simp; omega) (by intro e; injection e with e; omega)).trans (Below.heap_alloc _ _ _ hgsl))).trans (Hcell.out j u hu); have hwz := hB.size; have hne8 := hz.lt; obtain ⟨bg, hbg⟩ := nm (wr.heap.size); rw [<- hbg] at hb8' |-; have hgb : gs < bg := by omega
       have hwb : w.heap.size < bg := by omega
       have hb8l := hb8'.lt; clear hbg hG8 hzn hal hb8 hz hr hB Hcell hgsl; go_wp2
       go_loopw [7] (fun iv wq => ∃ i : Nat, i <= 32 /\ iv = .int .i64 i /\ Blk wq bg 32 (part32 (s8b st) i) /\ Blk wq w.heap.size 32 (zs8 32) /\ Below w.heap.size w wq /\ Hid (∀ j (u : Value), (wvs (s8l st))[j]? = some u -> wq.cell? ⟨gs, os + j, none⟩ = some u)) (fun iv _ => 32 - (intOf iv).toNat)
       case atStart => exact ⟨0, by omega, rfl, hb8', hz8, hB8, Hc8⟩
       case round =>
        clear Hc8 hB8 hz8 hb8'; obtain ⟨i, hi, rfl, hb, hz, hB, Hc⟩ := hrel; by_cases hil : i < 32
        . obtain ⟨x, hx⟩ : ∃ x, (s8l st)[i / 4]? = some x := ⟨_, List.getElem?_eq_getElem (by simp [s8l]; omega)⟩
          have hcx := Hc.out (i / 4) _ (wvs_at _ _ _ hx); unfold u32V at hcx; have hby := hid (s8b_at st (i / 4) (i % 4) (by omega) (by omega) x hx); have hxl := u32lt x; clear hx; have e1 : ((i : Int) / 4).toNat = i / 4 := by omega
          have e2 : ((i : Int) % 4).toNat = i % 4 := by omega
          go_wp2_with (fail); refine (refx4 x _).mono ?_; rintro e w3 ⟨v3, rfl, ho3, hB3⟩; have k0 := hb.below hB3; have kz := hz.below hB3; have kB := hB.trans (hB3.mono hB.size); have kc : Hid (∀ j (u : Value), (wvs (s8l st))[j]? = some u -> w3.cell? ⟨gs, os + j, none⟩ = some u) := fun j u hu => (World.cell?_of_block (hB3.block gs (by have := hb.lt; omega))).trans (Hc.out j u hu); have hr3 := Rd.of_own ho3; obtain ⟨A9, c9, rfl⟩ := own_shape ho3; obtain ⟨g9, off9, rfl, _, hc9⟩ := hr3.byteAt (i % 4) (by rw [len_fx]; omega); have hbv : (fx 4 x.toNat)[i % 4]'(by rw [len_fx]; omega) = UInt8.ofNat (x.toNat / 256 ^ (3 - i % 4) % 256) := by simp [fx]
          rw [hbv] at hc9; obtain ⟨y, hy⟩ := nm (UInt8.ofNat (x.toNat / 256 ^ (3 - i % 4) % 256)); rw [<- hy] at hc9; have hset := hid (part32_set (s8b st) i (len_s8b st) hil y (by rw [hy, <- hby.out]; congr 1; omega)); clear hy hbv hcx; go_wp2_with (refine wp_st1 5 (.tmp 61) (.tmp 60) rfl rfl rfl (f := i) rfl (v := byteV y) rfl k0 (by rw [part32_len _ _ (len_s8b st) (by omega)]; omega) size8 rfl rfl ?_; intro w7 hb7 hG7; refine wp_stop ?_); rw [hset.out] at hb7; have kz7 := kz.keep (hG7.block _ kz.lt (by intro e; injection e with e; omega)); have kB7 := kB.grown hG7 kB.size (sk (by omega)); have kc7 : Hid (∀ j (u : Value), (wvs (s8l st))[j]? = some u -> w7.cell? ⟨gs, os + j, none⟩ = some u) := fun j u hu => (World.cell?_of_block (hG7.block gs (by have := k0.lt; omega) (by intro e; injection e with e; omega))).trans (kc.out j u hu); refine wp_go ?_; go_wp2
          go_roundw
          case rel => exact ⟨i + 1, by omega, by go_num, hb7, kz7, kB7, kc7⟩
          case measure => simp [intOf]; omega
        . have h32 : i = 32 := by omega
          subst h32; rw [part32_end _ (len_s8b st)] at hb; go_wp2_with (first | (refine wp_ld 32 (.tmp 6) rfl rfl rfl hb.whole und25 rfl (by rw [len_bvs, len_s8b]; exact size25) ?_) | (refine wp_st 32 (.tmp 2) (.tmp 62) rfl rfl rfl (f := 0) rfl (l := bvs (s8b st)) rfl hz (by simp [zs8, len_bvs, len_s8b]) (by rw [len_bvs, len_s8b]; exact size25) (oneCell_bvs _) ?_; intro w7 hb7 hG7)); rw [set25 _ (len_s8b _)] at hb7; refine ret_cell rfl rfl hb7.whole und25 rfl (by rw [len_bvs, len_s8b]; exact size25) rfl ?_; exact ⟨by rw [<- hkk.out], hB.grown hG7 hB.size (sk (by omega))⟩
  . have ht1 : (((L : Int) % 64) != 56) = true := by rw [bne_iff_ne]; intro e; exact hkk (hLm.1 (by omega))
    have hk' : k + 1 <= padN p.length := by omega
    clear hkk hLm; go_wp2_with (refine wp_push (.tmp 18) (.const (.int .u8 0)) 19 slB rfl rfl rfl rfl rfl (u := .int .u8 0) rfl rfl rfl (by simp) rfl ho (by simp only [maxLen]; omega) (by omega) (by omega) ?_; intro v3 w3 ho3 hG3 _; refine wp_stop ?_); have hB3 := hB.grown hG3 hB.size (fun k hk => by have := (ho.lt k hk).1; omega); have hz3 := hz.keep (hG3.block _ hz.lt (fun e => by have := (ho.lt _ e.symm).1; omega)); rw [app_zeros, show L + 1 = p.length + 1 + (k + 1) from by have := HL.out; omega] at ho3; obtain ⟨A3, c3, rfl⟩ := own_shape ho3; refine wp_go ?_; go_wp2
    go_roundw
    case rel => exact ⟨k + 1, hk', ho3, hz3, hB3⟩
    case measure => show p.length + 65 - (p.length + 1 + (k + 1)) < p.length + 65 - L; have := HL.out; omega
def P3 (x y : List UInt8) (w w' : World) : Prop := Blk w' w.heap.size 32 (bvs x) /\ Blk w' (w.heap.size + 1) 32 (bvs y) /\ Blk w' (w.heap.size + 1 + 1) 32 (zs8 32) /\ Below w.heap.size w w'
theorem P3.below {x y : List UInt8} {w w' w'' : World} (h : P3 x y w w') (hB : Below w'.heap.size w' w'') : P3 x y w w'' := ⟨h.1.below hB, h.2.1.below hB, h.2.2.1.below hB, h.2.2.2.trans (hB.mono h.2.2.2.size)⟩
theorem P3.new (x y : List UInt8) (w : World) : P3 x y w (((w.alloc (.cells (bvs x).toArray 32)).alloc (.cells (bvs y).toArray 32)).alloc (.cells (zs8 32).toArray 32)) := by
 refine ⟨((Blk.new' w 32 _).alloc _).alloc _, ?_, ?_, (((Below.refl _ _).alloc (Nat.le_refl _) _).alloc (by simp) _).alloc (by simp; omega) _⟩
 . have := (Blk.new' (w.alloc (.cells (bvs x).toArray 32)) 32 (bvs y)).alloc (.cells (zs8 32).toArray 32); simpa using this
 . have := Blk.new' ((w.alloc (.cells (bvs x).toArray 32)).alloc (.cells (bvs y).toArray 32)) 32 (zs8 32); simpa using this
theorem ref_pair_any (x y : List UInt8) (w : World) (hx : x.length = 32) (hy : y.length = 32) :
 Calls Tryz.prog 134 #[.agg (bvs x).toArray, .agg (bvs y).toArray] w fun e w' => e = .returned (.agg (bvs (shaF (x ++ y))).toArray) /\ Below w.heap.size w w' := by
 have Hx := hid hx; have Hy := hid hy; clear hx hy; have hP0 := P3.new x y w; go_enter Tryz.func134, Tryz.ntmps134; go_wp2_with (refine wp_new 32 rfl rfl zero25 ?_); obtain ⟨w0, hw0⟩ := nm ((((w.alloc (.cells (bvs x).toArray 32)).alloc (.cells (bvs y).toArray 32)).alloc (.cells (zs8 32).toArray 32))); rw [<- hw0] at hP0 |-; clear hw0
 try simp only [Act.put, List.setIfInBounds_toArray, List.set_cons_zero, List.set_cons_succ]
 refine wp_region_noPanic ?_; refine wp_region_any (by kernel_rfl) ?_; change wpAny _ _ _ _ _ _ _ (World.drew _); have hP : P3 x y w w0.drew := ⟨hP0.1.drew, hP0.2.1.drew, hP0.2.2.1.drew, hP0.2.2.2.drew⟩
 obtain ⟨w1, hw1⟩ := nm (w0.drew); rw [<- hw1] at hP |-; clear hw1 hP0; refine wpAny_ready (rs := [0, 2]) (by kernel_rfl) (by simp) ?_; refine AllReady.cons (o := ⟨some 5, .load 32 (.tmp 2), _, _, _, none⟩) rfl (fun K hK => ?_) ?_
 . refine step_ld 32 (.tmp 2) (by rfl) (by rfl) (f := 0) (by rfl) hP.1.whole und25 rfl (by rw [len_bvs, Hx.out]; exact size25) ?_; refine hK _ _ ?_; clear hK K
   try simp only [Act.put, List.setIfInBounds_toArray, List.set_cons_zero, List.set_cons_succ]
   refine wpAny_ready (rs := [1, 2]) (by kernel_rfl) (by simp) ?_; refine AllReady.cons (o := ⟨some 6, _, _, _, _, none⟩) rfl (fun K hK => ?_) ?_
   . go_simp; refine (rbytes_any x _ Hx.out).mono ?_; rintro e' w5 ⟨v5, rfl, hn5⟩; have hP5 := hP.below hn5.2; refine hK _ _ ?_; clear hK K
     try simp only [Act.put, List.setIfInBounds_toArray, List.set_cons_zero, List.set_cons_succ]
     refine wpAny_ready (rs := [2]) (by kernel_rfl) (by simp) ?_; refine AllReady.cons (o := ⟨some 7, .load 32 (.tmp 3), _, _, _, none⟩) rfl (fun K hK => ?_) ?_
     . refine step_ld 32 (.tmp 3) (by rfl) (by rfl) (f := 0) (by rfl) hP5.2.1.whole und25 rfl (by rw [len_bvs, Hy.out]; exact size25) ?_; refine hK _ _ ?_; clear hK K
       try simp only [Act.put, List.setIfInBounds_toArray, List.set_cons_zero, List.set_cons_succ]
       refine wpAny_ready (rs := [3]) (by kernel_rfl) (by simp) ?_; refine AllReady.cons (o := ⟨some 8, _, _, _, _, none⟩) rfl (fun K hK => ?_) ?_
       . go_simp; refine (rbytes_any y _ Hy.out).mono ?_; rintro e' w6 ⟨v6, rfl, hn6⟩; have hP6 := hP5.below hn6.2; have hr5 := hn5.rd.below hn6.2; refine hK _ _ ?_; clear hK K
         try simp only [Act.put, List.setIfInBounds_toArray, List.set_cons_zero, List.set_cons_succ]
         refine wpAny_ready (rs := [4]) (by kernel_rfl) (by simp) ?_; refine AllReady.cons (o := ⟨some 9, _, _, _, _, none⟩) rfl (fun K hK => ?_) ?_
         . go_simp; refine (join_any _ _ x y _ _ _ hr5 hn6.rd (by rw [Hx.out]; omega) (by rw [Hy.out]; omega)).mono ?_; rintro e' w7 ⟨v7, rfl, hn7⟩; have hP7 := hP6.below hn7.2; refine hK _ _ ?_; clear hK K
           try simp only [Act.put, List.setIfInBounds_toArray, List.set_cons_zero, List.set_cons_succ]
           refine wpAny_ready (rs := [5]) (by kernel_rfl) (by simp) ?_; refine AllReady.cons (o := ⟨some 10, _, _, _, _, none⟩) rfl (fun K hK => ?_) ?_
           . go_simp; refine (rsum_any _ (x ++ y) _ _ hn7.rd (by rw [List.length_append, Hx.out, Hy.out]; omega)).mono ?_; rintro e' w8 ⟨rfl, hB8⟩; have hP8 := hP7.below hB8; refine hK _ _ ?_; clear hK K
             try simp only [Act.put, List.setIfInBounds_toArray, List.set_cons_zero, List.set_cons_succ]
             refine wpAny_ready (rs := [6]) (by kernel_rfl) (by simp) ?_; refine AllReady.cons (o := ⟨none, .store 32 (.tmp 4) (.tmp 10), _, _, _, none⟩) rfl (fun K hK => ?_) ?_
             . refine step_st 32 (.tmp 4) (.tmp 10) (by rfl) (by rfl) (by rfl) (f := 0) (by rfl) (l := bvs (shaF (x ++ y))) (by rfl) hP8.2.2.1 (by simp [zs8, len_bvs, len_sha]) (by rw [len_bvs, len_sha]; exact size25) (oneCell_bvs _) ?_; intro w9 hb9 hG9; have hP9 := hP8; refine hK _ _ ?_; clear hK K; refine wpAny_done (by kernel_rfl) ?_ _; refine NoPanic.normal ?_; rw [set25 _ (len_sha _)] at hb9; clear hr5 hn6 hn5 hn7 hB8; go_wp2; refine ret_cell rfl rfl hb9.whole und25 rfl (by rw [len_bvs, len_sha]; exact size25) rfl ?_; exact ⟨rfl, hP9.2.2.2.grown hG9 hP9.2.2.2.size (sk (by omega))⟩
             exact AllReady.nil
           exact AllReady.nil
         exact AllReady.nil
       exact AllReady.nil
     exact AllReady.nil
   refine AllReady.cons (o := ⟨some 7, .load 32 (.tmp 3), _, _, _, none⟩) rfl (fun K hK => ?_) ?_
   . refine step_ld 32 (.tmp 3) (by rfl) (by rfl) (f := 0) (by rfl) hP.2.1.whole und25 rfl (by rw [len_bvs, Hy.out]; exact size25) ?_; refine hK _ _ ?_; clear hK K
     try simp only [Act.put, List.setIfInBounds_toArray, List.set_cons_zero, List.set_cons_succ]
     refine wpAny_ready (rs := [1]) (by kernel_rfl) (by simp) ?_; refine AllReady.cons (o := ⟨some 6, _, _, _, _, none⟩) rfl (fun K hK => ?_) ?_
     . go_simp; refine (rbytes_any x _ Hx.out).mono ?_; rintro e' w5 ⟨v5, rfl, hn5⟩; have hP5 := hP.below hn5.2; refine hK _ _ ?_; clear hK K
       try simp only [Act.put, List.setIfInBounds_toArray, List.set_cons_zero, List.set_cons_succ]
       refine wpAny_ready (rs := [3]) (by kernel_rfl) (by simp) ?_; refine AllReady.cons (o := ⟨some 8, _, _, _, _, none⟩) rfl (fun K hK => ?_) ?_
       . go_simp; refine (rbytes_any y _ Hy.out).mono ?_; rintro e' w6 ⟨v6, rfl, hn6⟩; have hP6 := hP5.below hn6.2; have hr5 := hn5.rd.below hn6.2; refine hK _ _ ?_; clear hK K
         try simp only [Act.put, List.setIfInBounds_toArray, List.set_cons_zero, List.set_cons_succ]
         refine wpAny_ready (rs := [4]) (by kernel_rfl) (by simp) ?_; refine AllReady.cons (o := ⟨some 9, _, _, _, _, none⟩) rfl (fun K hK => ?_) ?_
         . go_simp; refine (join_any _ _ x y _ _ _ hr5 hn6.rd (by rw [Hx.out]; omega) (by rw [Hy.out]; omega)).mono ?_; rintro e' w7 ⟨v7, rfl, hn7⟩; have hP7 := hP6.below hn7.2; refine hK _ _ ?_; clear hK K
           try simp only [Act.put, List.setIfInBounds_toArray, List.set_cons_zero, List.set_cons_succ]
           refine wpAny_ready (rs := [5]) (by kernel_rfl) (by simp) ?_; refine AllReady.cons (o := ⟨some 10, _, _, _, _, none⟩) rfl (fun K hK => ?_) ?_
           . go_simp; refine (rsum_any _ (x ++ y) _ _ hn7.rd (by rw [List.length_append, Hx.out, Hy.out]; omega)).mono ?_; rintro e' w8 ⟨rfl, hB8⟩; have hP8 := hP7.below hB8; refine hK _ _ ?_; clear hK K
             try simp only [Act.put, List.setIfInBounds_toArray, List.set_cons_zero, List.set_cons_succ]
             refine wpAny_ready (rs := [6]) (by kernel_rfl) (by simp) ?_; refine AllReady.cons (o := ⟨none, .store 32 (.tmp 4) (.tmp 10), _, _, _, none⟩) rfl (fun K hK => ?_) ?_
             . refine step_st 32 (.tmp 4) (.tmp 10) (by rfl) (by rfl) (by rfl) (f := 0) (by rfl) (l := bvs (shaF (x ++ y))) (by rfl) hP8.2.2.1 (by simp [zs8, len_bvs, len_sha]) (by rw [len_bvs, len_sha]; exact size25) (oneCell_bvs _) ?_; intro w9 hb9 hG9; have hP9 := hP8; refine hK _ _ ?_; clear hK K; refine wpAny_done (by kernel_rfl) ?_ _; refine NoPanic.normal ?_; rw [set25 _ (len_sha _)] at hb9; clear hr5 hn6 hn5 hn7 hB8; go_wp2; refine ret_cell rfl rfl hb9.whole und25 rfl (by rw [len_bvs, len_sha]; exact size25) rfl ?_; exact ⟨rfl, hP9.2.2.2.grown hG9 hP9.2.2.2.size (sk (by omega))⟩
             exact AllReady.nil
           exact AllReady.nil
         exact AllReady.nil
       exact AllReady.nil
     exact AllReady.nil
   exact AllReady.nil
 refine AllReady.cons (o := ⟨some 7, .load 32 (.tmp 3), _, _, _, none⟩) rfl (fun K hK => ?_) ?_
 . refine step_ld 32 (.tmp 3) (by rfl) (by rfl) (f := 0) (by rfl) hP.2.1.whole und25 rfl (by rw [len_bvs, Hy.out]; exact size25) ?_; refine hK _ _ ?_; clear hK K
   try simp only [Act.put, List.setIfInBounds_toArray, List.set_cons_zero, List.set_cons_succ]
   refine wpAny_ready (rs := [0]) (by kernel_rfl) (by simp) ?_; refine AllReady.cons (o := ⟨some 5, .load 32 (.tmp 2), _, _, _, none⟩) rfl (fun K hK => ?_) ?_
   . refine step_ld 32 (.tmp 2) (by rfl) (by rfl) (f := 0) (by rfl) hP.1.whole und25 rfl (by rw [len_bvs, Hx.out]; exact size25) ?_; refine hK _ _ ?_; clear hK K
     try simp only [Act.put, List.setIfInBounds_toArray, List.set_cons_zero, List.set_cons_succ]
     refine wpAny_ready (rs := [1]) (by kernel_rfl) (by simp) ?_; refine AllReady.cons (o := ⟨some 6, _, _, _, _, none⟩) rfl (fun K hK => ?_) ?_
     . go_simp; refine (rbytes_any x _ Hx.out).mono ?_; rintro e' w5 ⟨v5, rfl, hn5⟩; have hP5 := hP.below hn5.2; refine hK _ _ ?_; clear hK K
       try simp only [Act.put, List.setIfInBounds_toArray, List.set_cons_zero, List.set_cons_succ]
       refine wpAny_ready (rs := [3]) (by kernel_rfl) (by simp) ?_; refine AllReady.cons (o := ⟨some 8, _, _, _, _, none⟩) rfl (fun K hK => ?_) ?_
       . go_simp; refine (rbytes_any y _ Hy.out).mono ?_; rintro e' w6 ⟨v6, rfl, hn6⟩; have hP6 := hP5.below hn6.2; have hr5 := hn5.rd.below hn6.2; refine hK _ _ ?_; clear hK K
         try simp only [Act.put, List.setIfInBounds_toArray, List.set_cons_zero, List.set_cons_succ]
         refine wpAny_ready (rs := [4]) (by kernel_rfl) (by simp) ?_; refine AllReady.cons (o := ⟨some 9, _, _, _, _, none⟩) rfl (fun K hK => ?_) ?_
         . go_simp; refine (join_any _ _ x y _ _ _ hr5 hn6.rd (by rw [Hx.out]; omega) (by rw [Hy.out]; omega)).mono ?_; rintro e' w7 ⟨v7, rfl, hn7⟩; have hP7 := hP6.below hn7.2; refine hK _ _ ?_; clear hK K
           try simp only [Act.put, List.setIfInBounds_toArray, List.set_cons_zero, List.set_cons_succ]
           refine wpAny_ready (rs := [5]) (by kernel_rfl) (by simp) ?_; refine AllReady.cons (o := ⟨some 10, _, _, _, _, none⟩) rfl (fun K hK => ?_) ?_
           . go_simp; refine (rsum_any _ (x ++ y) _ _ hn7.rd (by rw [List.length_append, Hx.out, Hy.out]; omega)).mono ?_; rintro e' w8 ⟨rfl, hB8⟩; have hP8 := hP7.below hB8; refine hK _ _ ?_; clear hK K
             try simp only [Act.put, List.setIfInBounds_toArray, List.set_cons_zero, List.set_cons_succ]
             refine wpAny_ready (rs := [6]) (by kernel_rfl) (by simp) ?_; refine AllReady.cons (o := ⟨none, .store 32 (.tmp 4) (.tmp 10), _, _, _, none⟩) rfl (fun K hK => ?_) ?_
             . refine step_st 32 (.tmp 4) (.tmp 10) (by rfl) (by rfl) (by rfl) (f := 0) (by rfl) (l := bvs (shaF (x ++ y))) (by rfl) hP8.2.2.1 (by simp [zs8, len_bvs, len_sha]) (by rw [len_bvs, len_sha]; exact size25) (oneCell_bvs _) ?_; intro w9 hb9 hG9; have hP9 := hP8; refine hK _ _ ?_; clear hK K; refine wpAny_done (by kernel_rfl) ?_ _; refine NoPanic.normal ?_; rw [set25 _ (len_sha _)] at hb9; clear hr5 hn6 hn5 hn7 hB8; go_wp2; refine ret_cell rfl rfl hb9.whole und25 rfl (by rw [len_bvs, len_sha]; exact size25) rfl ?_; exact ⟨rfl, hP9.2.2.2.grown hG9 hP9.2.2.2.size (sk (by omega))⟩
             exact AllReady.nil
           exact AllReady.nil
         exact AllReady.nil
       exact AllReady.nil
     exact AllReady.nil
   exact AllReady.nil
 exact AllReady.nil
end Go.Proofs.YtnhhbbjkeekneaaGreatDoor
