/- W4: several texts in one (Cs W4). -/
import Derived.Test.YtnhhbbjkeekneaaGreatDoorM1
import Derived.Test.YtnhhbbjkeekneaaGreatDoorCg
import Derived.Test.YtnhhbbjkeekneaaGreatDoorT5
import Derived.Test.YtnhhbbjkeekneaaGreatDoorRB
import Derived.Deep.DeepCutAuto
import Derived.Test.YtnhhbbjkeekneaaGreatDoorCq
set_option maxRecDepth 100000
set_option maxHeartbeats 16000000
namespace Go.Proofs.YtnhhbbjkeekneaaGreatDoor
open Go.RowKit Go.V
theorem ropen9_any (ks : List (List UInt8)) (X : List UInt8) (uk ur v : Value) (F G : Nat -> Prop) (w : World) (hks : KsSm ks) (hk : Rd w F uk (tx ks)) (hv : Rd w G v (bys X)) (hX : X.length <= 1000000) :
 Calls Tryz.prog 48 #[.agg #[uk, ur], v] w (RdP w (opR ks X)) := by
 have hbl := bldG8; obtain ⟨AK, ck, rfl, hck, hckm⟩ := hk.slShape; obtain ⟨A, c, rfl⟩ := hv.shape; have hkb := Blk.new' w 40 [.slice AK ks.length ck, ur]; have hBk : Below w.heap.size w (w.alloc (.cells #[.slice AK ks.length ck, ur] 40)) := (Below.refl _ _).alloc (Nat.le_refl _) _; have hz := Blk.new' (w.alloc (.cells #[.slice AK ks.length ck, ur] 40)) 69 (gM zM 0); have hBz : Below (w.alloc (.cells #[.slice AK ks.length ck, ur] 40)).heap.size (w.alloc (.cells #[.slice AK ks.length ck, ur] 40)) ((w.alloc (.cells #[.slice AK ks.length ck, ur] 40)).alloc (.cells (gM zM 0).toArray 69)) := (Below.refl _ _).alloc (Nat.le_refl _) _; have hkb := hkb.below hBz; have hB := hBk.trans (hBz.mono hBk.size); have hgs : (w.alloc (.cells #[.slice AK ks.length ck, ur] 40)).heap.size = w.heap.size + 1 := by simp
 rw [hgs] at hz; have hk := hk.below hB; have hv := hv.below hB; clear hBk hBz hgs; obtain ⟨r, hr⟩ := nm (opR ks X); rw [<- hr]
 have hOP : 32 <= X.length -> r = match getR (X.take (X.length - 32)) with
  | .error e => .error e
  | .ok m => if (ks.length : Int) <= m.f then .error 6 else if tagF (keyOf ks m) (X.take (X.length - 32)) = X.drop (X.length - 32) then .ok m else .error 5 := fun h => by rw [hr, opR_getR h]; cases getR (X.take (X.length - 32)) <;> rfl
 have hOS : X.length < 32 -> r = .error 1 := fun h => by rw [hr]; unfold opR; rw [if_pos h]
 have HOP := hid hOP; have HOS := hid hOS; have hlz := hid (len_gM len_zM 0); have hlz1 := hid (len_gM len_zM); have hoz := hid (one_gM one_zM8); clear hr hOP hOS; go_enter Tryz.func48, Tryz.ntmps48; go_wp2_with (refine wp_new 69 rfl rfl zeroG8 ?_; refine wp_stop ?_); obtain ⟨w0, hw0⟩ := nm ((w.alloc (.cells #[.slice AK ks.length ck, ur] 40)).alloc (.cells (gM zM 0).toArray 69)); rw [<- hw0] at hz hkb hB hk hv |-; clear hw0; obtain ⟨gk, hgk⟩ := nm (w.heap.size); rw [<- hgk] at hkb hz |-; obtain ⟨g4, hg4⟩ := nm (gk + 1); rw [<- hg4] at hz |-; have hgw : w.heap.size <= g4 := by omega
 clear hgk hg4; have hzl := hz.lt; have HERR : Hid (∀ (k : Nat) (W : World), r = .error k -> Below w.heap.size w W -> RdP w r (.returned (.agg (gM zM k).toArray)) W) := hid (fun k W h hb => by rw [h]; exact ⟨rfl, hb⟩); refine wp_go ?_; by_cases h32 : X.length < 32
 . have hI : ((X.length : Int)) < 32 := by omega
   have HO := hid (HOS.out h32); have hb1 := hbl 1; have ho1 := hid (hoz.out 1); have hl1 := hid (hlz1.out 1); have HE := hid (HERR.out 1 · HO.out); obtain ⟨l1, hle⟩ := nm (gM zM 1); rw [<- hle] at hb1 ho1 hl1 HE; clear h32 hle hbl hoz hlz1 HERR HO; go_wp2_with (first | refine wp_bld 69 [(1, .const (.int .i64 1))] rfl rfl [(1, .int .i64 1)] rfl hb1 ?_ | refine wp_st 69 (.tmp 4) (.tmp 11) rfl rfl rfl (f := 0) rfl (l := l1) rfl hz (by rw [hlz.out, hl1.out]; omega) (by rw [hl1.out]; exact sizeG8) ho1.out ?_; intro w3 hz3 hG3; refine wp_stop ?_); rw [set_all _ _ (by rw [hlz.out, hl1.out])] at hz3; refine wp_go ?_; go_wp2; refine ret_cell rfl rfl hz3.whole Tryz.underlying69 rfl (by rw [hl1.out]; exact sizeG8) rfl ?_; exact HE.out _ (hB.grown hG3 hB.size (fun k hk => by injection hk with hk; omega))
 obtain ⟨n, hn⟩ : ∃ n, X.length = n + 32 := ⟨X.length - 32, by omega⟩
 have hI : ¬ (((n + 32 : Nat) : Int) < 32) := by omega
 have hI2 : ¬ ((n : Int) < 0) := by omega
 have hI3 : ¬ ((n : Int) + 32 < 32) := by omega
 have hwr : IntKind.i64.wrap (n : Int) = (n : Int) := IntWalk.i64_in _ (by omega); have hO := HOP.out (by omega); rw [show X.length - 32 = n from by omega] at hO; obtain ⟨A1, m1, c1, hc1, hY⟩ := Rd.cut_h slB hv (n : Int) (by omega) (by omega); obtain ⟨A2, m2, c2, hc2, hD⟩ := Rd.cut_l slB hv (n : Int) (by omega) (by omega); rw [Int.toNat_natCast] at hY hD; have hYl : (X.take n).length = n := by rw [List.length_take]; omega
 have hDl : (X.drop n).length = 32 := by rw [List.length_drop]; omega
 obtain ⟨Y, hYe⟩ := nm (X.take n); obtain ⟨D, hDe⟩ := nm (X.drop n); rw [<- hYe] at hO hY hYl; rw [<- hDe] at hO hD hDl; rw [hn] at hc1 hc2 |-; have HO := hid hO; have hYn : Y.length <= 1000000 := by omega
 have Hget := hid (rget8_any _ Y _ w0 hY hYn); clear h32 hO hYe hDe HOP HOS hDl hYl hn hX; cases hrm : getR Y with
 | error k =>
  have HW : Hid (∀ e w', RdP w0 (getR Y) e w' -> e = .returned (.agg (gM zM k).toArray) /\ Below w0.heap.size w0 w') := fun e w' h => by
   rw [hrm] at h; exact h
  have hk0 : k ≠ 0 := by
   intro h0; subst h0; exact getR_nz hrm rfl
  have hne : ((k : Int) != 0) = true := by rw [bne_iff_ne]; omega
  have HR : r = .error k := by rw [HO.out, hrm]
  have ho1 := hid (hoz.out k); have hl1 := hid (hlz1.out k); have Hf := hid (gM_err len_zM k); have HE := hid (HERR.out k · HR); obtain ⟨l1, hle⟩ := nm (gM zM k); rw [<- hle] at ho1 hl1 HE HW Hf; clear hrm HO hle hbl hoz hlz1 HERR HR; go_wp2_with (fail); refine Hget.out.mono ?_; rintro e w2 h2; obtain ⟨rfl, hB2⟩ := HW.out _ _ h2; have hz := hz.below hB2; have hB := hB.trans (hB2.mono hB.size); clear h2 HW Hget hB2; go_wp2_with (refine wp_newst 69 6 (.tmp 18) rfl rfl rfl rfl rfl rfl zeroG8 (l := l1) rfl (by rw [hl1.out]; exact hlz.out) (by rw [hl1.out]; exact sizeG8) ho1.out (by simp) ?_; intro w3 hx3 hB3 hs3; refine wp_stop ?_); have hz := hz.below hB3; have hB := hB.trans (hB3.mono hB.size); obtain ⟨g6, hg6⟩ := nm (w2.heap.size); rw [<- hg6] at hx3 |-; clear hB3 hs3 hg6; have c39 := hx3.cellAt 39 _ Hf.out; refine wp_go ?_; go_wp2_with (first | refine wp_ld 69 (.tmp 6) rfl rfl rfl hx3.whole Tryz.underlying69 rfl (by rw [hl1.out]; exact sizeG8) ?_ | refine wp_st 69 (.tmp 4) (.tmp 22) rfl rfl rfl (f := 0) rfl (l := l1) rfl hz (by rw [hlz.out, hl1.out]; omega) (by rw [hl1.out]; exact sizeG8) ho1.out ?_; intro w4 hz4 hG4; refine wp_stop ?_); rw [set_all _ _ (by rw [hlz.out, hl1.out])] at hz4; refine wp_go ?_; go_wp2; refine ret_cell rfl rfl hz4.whole Tryz.underlying69 rfl (by rw [hl1.out]; exact sizeG8) rfl ?_; exact HE.out _ (hB.grown hG4 hB.size (fun k hk => by injection hk with hk; omega))
 | ok m =>
  obtain ⟨hmh, hnu⟩ := getR_ok hrm; obtain ⟨hf0, hf15⟩ := errS_num hnu; obtain ⟨q, hq⟩ : ∃ q : Nat, m.f = (q : Int) := ⟨m.f.toNat, by omega⟩
  have hq15 : q <= 15 := by omega
  have HW : Hid (∀ e w', RdP w0 (getR Y) e w' -> (∃ ub up, e = .returned (.agg (gM (m.l ub up) 0).toArray) /\ Rd w' (fun b => w0.heap.size <= b) ub (bys m.b) /\ Rd w' (fun b => w0.heap.size <= b) up (tx m.ps)) /\ Below w0.heap.size w0 w') := fun e w' h => by
   rw [hrm] at h; exact h
  have hR : r = if (ks.length : Int) <= m.f then .error 6 else if tagF (keyOf ks m) Y = D then .ok m else .error 5 := by rw [HO.out, hrm]
  rw [hq] at hR; have hky := hid (fun h => key_at (ks := ks) hq h); have hkl := hid (hks.key m); have HR0 := hid hR; clear hR hrm HO hnu hf0 hf15; go_wp2_with (fail); refine Hget.out.mono ?_; rintro e w2 h2; obtain ⟨⟨ub, up, rfl, hub, hup⟩, hB2⟩ := HW.out _ _ h2; obtain ⟨AB, cb, rfl⟩ := hub.shape; obtain ⟨AP, cpp, rfl, _, _⟩ := hup.slShape; have hl39 := len_mg hmh (.slice AB m.b.length cb) (.slice AP m.ps.length cpp); have hll := hid (len_gM hl39 0); have hl1 := hid (one_gM (mg_one m AB AP m.b.length cb m.ps.length cpp) 0); have h1c : Hid ((gM (m.l (.slice AB m.b.length cb) (.slice AP m.ps.length cpp)) 0)[1]? = some (.int .i64 (q : Int))) := hid (by rw [gM_get hl39 0 1 (by omega), <- hq]; rfl); have h39 := hid (gM_err hl39 0); have hfin := hid (fun W (hr : r = .ok m) (h1 : Rd W (fun b => w.heap.size <= b) (.slice AB m.b.length cb) (bys m.b)) (h2 : Rd W (fun b => w.heap.size <= b) (.slice AP m.ps.length cpp) (tx m.ps)) (h3 : Below w.heap.size w W) => (show RdP w r (.returned (.agg (gM (m.l (.slice AB m.b.length cb) (.slice AP m.ps.length cpp)) 0).toArray)) W by rw [hr]; exact ⟨⟨_, _, rfl, h1, h2⟩, h3⟩)); obtain ⟨l, hl⟩ := nm (gM (m.l (.slice AB m.b.length cb) (.slice AP m.ps.length cpp)) 0); rw [<- hl] at hll hl1 h1c h39 hfin |-; have hs0 := hB.size; have hz := hz.below hB2; have hkb := hkb.below hB2; have hk := hk.below hB2; have hY := hY.below hB2; have hD := hD.below hB2; have hB := hB.trans (hB2.mono hB.size); have hub := hub.weak (F' := fun b => w.heap.size <= b /\ b ≠ g4) (fun b _ h => by have h' : w0.heap.size <= b := h; exact ⟨by omega, by omega⟩); have hup := hup.weak (F' := fun b => w.heap.size <= b /\ b ≠ g4) (fun b _ h => by have h' : w0.heap.size <= b := h; exact ⟨by omega, by omega⟩); clear h2 HW Hget hl hl39 hB2 hmh; have hg7 := hz.lt; go_wp2_with (refine wp_newst 69 6 (.tmp 18) rfl rfl rfl rfl rfl rfl zeroG8 (l := l) rfl (by rw [hll.out]; exact hlz.out) (by rw [hll.out]; exact sizeG8) hl1.out (by simp) ?_; intro wq hx hB3 hs3; refine wp_stop ?_); have hz := hz.below hB3; have hkb := hkb.below hB3; have hk := hk.below hB3; have hY := hY.below hB3; have hD := hD.below hB3; have hub := hub.below hB3; have hup := hup.below hB3; have hB := hB.trans (hB3.mono hB.size); obtain ⟨g6, hg6⟩ := nm (w2.heap.size); rw [<- hg6] at hx hg7 |-; clear hB3 hs3 hg6; have c1x := hx.cellAt 1 _ h1c.out; have c39 := hx.cellAt 39 _ h39.out; have ck0 := hkb.cellAt 0 _ rfl; clear hq; refine wp_go ?_; have hR := HR0.out; clear HR0; by_cases hf : q < ks.length
  . have hkl := hkl.out; have hfI : ¬ (ks.length : Int) <= (q : Int) := by omega
    have hfI2 : (q : Int) < (ks.length : Int) := by omega
    have hfN : ¬ ks.length <= q := by omega
    rw [if_neg hfI] at hR; have hkat := hky.out hf; obtain ⟨G', off, u, rfl, hG, hcu, hu⟩ := Rd.elem hk q (bys (keyOf ks m)) (by rw [List.getElem?_map, hkat]; rfl); obtain ⟨key, hkey⟩ := nm (keyOf ks m); rw [<- hkey] at hu hkl hR; obtain ⟨A2', c2', rfl⟩ := hu.shape; have htl := len_tag key Y; obtain ⟨T, hT⟩ := nm (tagF key Y); have HT := hid hT; rw [<- hT] at htl hR; have Htl := hid htl; obtain ⟨bt, hbt⟩ := nm (decide (T = D)); have HBT := hid hbt; have HR : Hid (r = if bt = true then .ok m else .error 5) := hid (by rw [hR, hbt]; simp only [decide_eq_true_eq]); have HC0 : Hid (∀ W, Ch nob wq W -> W.cell? ⟨gk, 0, none⟩ = some (.slice (some ⟨G', off, none⟩) ks.length ck)) := fun W h => (hkb.ch h (fun h => h)).cellAt 0 _ rfl; have HF : Hid (∀ W, Ch nob wq W -> W.cell? ⟨g6, 1, none⟩ = some (.int .i64 (q : Int))) := fun W h => (hx.ch h (fun h => h)).cellAt 1 _ h1c.out; have HCU := hid (fun W (h : Ch nob wq W) => (h.below.cell (lt_of_cell hcu)).trans hcu); have HY : Hid (∀ W, Ch nob wq W -> Rd W G (.slice A1 m1 c1) (bys Y)) := fun W h => hY.ext h; have HU := hid (fun W (h : Ch nob wq W) => hu.ext h); clear hkat hkey hky hT htl hbt hR; go_wp2_with (with_reducible refine wp_at 28 rfl ?_); refine wp_on ?_; go_upto_region 9 with (fail)
    go_cut [7] (fun s7 wx => ∃ g, s7 = .pointer (some ⟨g, 0, none⟩) /\ Blk wx g 32 (bvs T) /\ wq.heap.size <= g /\ Below wq.heap.size wq wx)
    case first =>
     refine wp_region_noPanic ?_; refine wp_region_held_drew (S := Ch nob wq) (by kernel_rfl) ((Ch.refl _ _).drew) (fun hHeld => ?_); refine tkP 0 rfl ?_; refine tkF 1 rfl HC0.out ?_; refine tkP 2 rfl ?_; refine tkP 3 rfl ?_; refine tkF 4 rfl HF.out ?_; refine tkP 5 rfl ?_; refine tkF 6 rfl HCU.out ?_; refine tkP 7 rfl ?_; refine tkP 8 rfl ?_; refine tkP 9 rfl ?_; refine wpAnyH_ready (rs := [10, 11]) (by kernel_rfl) (by simp) ?_; refine AllReadyH.cons (o := ⟨some 41, _, _, _, _, none⟩) rfl (fun K hK => ?_) ?_
     . go_simp; refine (rtag_any _ _ key Y _ _ _ (HU.out _ hHeld) (HY.out _ hHeld) (by omega) (by omega)).mono ?_; rintro e' w6 ⟨rfl, hB6⟩; rw [<- HT.out]; refine hK.out _ _ (hHeld.belowG hB6) (fun hHeld => ?_); clear hK K
       try simp only [nP]
       refine rdH 11 rfl (fun K hK => ?_); refine step_new 32 (by rfl) (by rfl) zero25 ?_; intro g9 w9 hg9 hgl9 hz9 hB9; have hg9 : wq.heap.size <= g9 := Nat.le_trans hHeld.size hg9; refine hK.out _ _ (hHeld.belowG hB9) (fun hHeld => ?_); clear hK K
       try simp only [nP]
       refine rdH 12 rfl (fun K hK => ?_); refine step_st 32 (.tmp 7) (.tmp 41) (by rfl) (by rfl) (by rfl) (f := 0) (by rfl) (l := bvs T) (by rfl) hz9 (by simp [zs8, len_bvs, Htl.out]) (by rw [len_bvs, Htl.out]; exact size25) (oneCell_bvs _) ?_; intro w11 hz11 hG11; rw [set25 _ Htl.out] at hz11; refine hK.out _ _ (hHeld.grow hG11 (fun k hk => .inr (by injection hk with hk; omega))) (fun hHeld => ?_); clear hK K
       try simp only [nP]
       refine wpAnyH_done (by kernel_rfl) ?_ _; refine NoPanic.normal ?_; go_wp2; go_meet; exact ⟨g9, rfl, hz11, hg9, hHeld.below⟩
     refine AllReadyH.cons (o := ⟨some 7, .alloc _, _, _, _, none⟩) rfl (fun K hK => ?_) AllReadyH.nil; refine step_new 32 (by rfl) (by rfl) zero25 ?_; intro g9 w9 hg9 hgl9 hz9 hB9; have hg9 : wq.heap.size <= g9 := Nat.le_trans hHeld.size hg9; refine hK.out _ _ (hHeld.belowG hB9) (fun hHeld => ?_); clear hK K
     try simp only [nP]
     refine rdH 10 rfl (fun K hK => ?_); go_simp; refine (rtag_any _ _ key Y _ _ _ (HU.out _ hHeld) (HY.out _ hHeld) (by omega) (by omega)).mono ?_; rintro e' w6 ⟨rfl, hB6⟩; rw [<- HT.out]; have hz9 := hz9.below hB6; refine hK.out _ _ (hHeld.belowG hB6) (fun hHeld => ?_); clear hK K
     try simp only [nP]
     refine rdH 12 rfl (fun K hK => ?_); refine step_st 32 (.tmp 7) (.tmp 41) (by rfl) (by rfl) (by rfl) (f := 0) (by rfl) (l := bvs T) (by rfl) hz9 (by simp [zs8, len_bvs, Htl.out]) (by rw [len_bvs, Htl.out]; exact size25) (oneCell_bvs _) ?_; intro w11 hz11 hG11; rw [set25 _ Htl.out] at hz11; refine hK.out _ _ (hHeld.grow hG11 (fun k hk => .inr (by injection hk with hk; omega))) (fun hHeld => ?_); clear hK K
     try simp only [nP]
     refine wpAnyH_done (by kernel_rfl) ?_ _; refine NoPanic.normal ?_; go_wp2; go_meet; exact ⟨g9, rfl, hz11, hg9, hHeld.below⟩
    case rest =>
     obtain ⟨g9, rfl, hz9, hg9, hB2⟩ := hcut; have hz := hz.below hB2; have hx := hx.below hB2; have hD := hD.below hB2; have hub := hub.below hB2; have hup := hup.below hB2; have hB := hB.trans (hB2.mono hB.size); clear HC0 HF HCU HY HU HT hB2 hk hY c1x c39 ck0 hcu hu hkb; have HZ : Hid (∀ W, Ch nob wc W -> W.rangeAt g9 0 (bvs T)) := fun W h => (hz9.ch h (fun h => h)).whole; have HD := hid (fun W (h : Ch nob wc W) => hD.ext h); go_upto_region 10 with (fail)
     refine wp_region_noPanic ?_; refine wp_region_held_drew (S := Ch nob wc) (by kernel_rfl) ((Ch.refl _ _).drew) (fun hHeld => ?_); refine tkY 0 rfl (yieldsIf_load_mid (by rfl) 32 (.tmp 7) (by rfl) _ (0) (by rfl) _ _ (fun _ hs => HZ.out _ hs) und25 rfl ((by rw [len_bvs, Htl.out]; exact size25))) ?_; refine tkP 2 rfl ?_; refine tkP 3 rfl ?_; refine tkP 4 rfl ?_; refine rdH 1 rfl (fun K hK => ?_); go_simp; refine (rbytes_any T _ Htl.out).mono ?_; rintro e' w12 ⟨v4, rfl, ho4, hB12⟩; have hr4 := Rd.of_own ho4; obtain ⟨A4, c4, rfl⟩ := hr4.shape; refine hK.out _ _ (hHeld.belowG hB12) (fun hHeld => ?_); clear hK K
     try simp only [nP]
     refine rdH 5 rfl (fun K hK => ?_); go_simp; refine (same_b _ _ T D _ _ _ hr4 (HD.out _ hHeld)).mono ?_; rintro e' w13 ⟨rfl, hB13⟩; rw [<- HBT.out]; refine hK.out _ _ (hHeld.belowG hB13) (fun hHeld => ?_); clear hK K
     try simp only [nP]
     refine tkP 6 rfl ?_; refine wpAnyH_done (by kernel_rfl) ?_ _; refine NoPanic.normal ?_; have hz := hz.ch hHeld (fun e => e); have hx := hx.ch hHeld (fun e => e); have hub := hub.ext hHeld; have hup := hup.ext hHeld; have hB := hB.trans (hHeld.below.mono hB.size); clear HZ HD hHeld hr4 ho4 hB12 hB13 hz9 hD HBT; cases bt with
     | true =>
      have HR2 : r = .ok m := by rw [HR.out]; rfl
      have hfin := hid (fun W => hfin.out W HR2); clear HR HERR HR2; go_wp2_with (first | refine wp_ld 69 (.tmp 6) rfl rfl rfl hx.whole Tryz.underlying69 rfl (by rw [hll.out]; exact sizeG8) ?_ | refine wp_st 69 (.tmp 4) (.tmp 50) rfl rfl rfl (f := 0) rfl (l := l) rfl hz (by rw [hlz.out, hll.out]; omega) (by rw [hll.out]; exact sizeG8) hl1.out ?_; intro w7 hz7 hG7; refine wp_stop ?_); rw [set_all _ _ (by rw [hlz.out, hll.out])] at hz7; have hub := hub.keep (F' := fun b => w.heap.size <= b) (fun b hb hF => ⟨hF.1, hG7.block b hb (by intro h; injection h with h; exact hF.2 h)⟩); have hup := hup.keep (F' := fun b => w.heap.size <= b) (fun b hb hF => ⟨hF.1, hG7.block b hb (by intro h; injection h with h; exact hF.2 h)⟩); have hB := hB.grown hG7 hB.size (fun k hk => by injection hk with hk; omega); refine wp_go ?_; go_wp2; refine ret_cell rfl rfl hz7.whole Tryz.underlying69 rfl (by rw [hll.out]; exact sizeG8) rfl ?_; exact hfin.out _ hub hup hB
     | false =>
      have HR2 : r = .error 5 := by rw [HR.out]; rfl
      have hb1 := hbl 5; have ho1 := hid (hoz.out 5); have hq1 := hid (hlz1.out 5); have HE := hid (HERR.out 5 · HR2); obtain ⟨l1, hle⟩ := nm (gM zM 5); rw [<- hle] at hb1 ho1 hq1 HE; clear hle hbl hoz hlz1 HERR HR HR2 hfin hub hup; go_wp2_with (first | refine wp_bld 69 [(1, .const (.int .i64 5))] rfl rfl [(1, .int .i64 5)] rfl hb1 ?_ | refine wp_st 69 (.tmp 4) (.tmp 49) rfl rfl rfl (f := 0) rfl (l := l1) rfl hz (by rw [hlz.out, hq1.out]; omega) (by rw [hq1.out]; exact sizeG8) ho1.out ?_; intro w4 hz4 hG4; refine wp_stop ?_); rw [set_all _ _ (by rw [hlz.out, hq1.out])] at hz4; refine wp_go ?_; go_wp2; refine ret_cell rfl rfl hz4.whole Tryz.underlying69 rfl (by rw [hq1.out]; exact sizeG8) rfl ?_; exact HE.out _ (hB.grown hG4 hB.size (fun k hk => by injection hk with hk; omega))
  . have hfI : (ks.length : Int) <= (q : Int) := by omega
    rw [if_pos hfI] at hR; have hb1 := hbl 6; have ho1 := hid (hoz.out 6); have hq1 := hid (hlz1.out 6); have HE := hid (HERR.out 6 · hR); obtain ⟨l1, hle⟩ := nm (gM zM 6); rw [<- hle] at hb1 ho1 hq1 HE; clear hle hbl hoz hlz1 HERR hR hky hkl hub hup hY hD hk hfin; go_wp2_with (first | refine wp_bld 69 [(1, .const (.int .i64 6))] rfl rfl [(1, .int .i64 6)] rfl hb1 ?_ | refine wp_st 69 (.tmp 4) (.tmp 30) rfl rfl rfl (f := 0) rfl (l := l1) rfl hz (by rw [hlz.out, hq1.out]; omega) (by rw [hq1.out]; exact sizeG8) ho1.out ?_; intro w4 hz4 hG4; refine wp_stop ?_); rw [set_all _ _ (by rw [hlz.out, hq1.out])] at hz4; refine wp_go ?_; go_wp2; refine ret_cell rfl rfl hz4.whole Tryz.underlying69 rfl (by rw [hq1.out]; exact sizeG8) rfl ?_; exact HE.out _ (hB.grown hG4 hB.size (fun k hk => by injection hk with hk; omega))
theorem rmembers_any (n : Int) (M : Nat) (w : World) (h : M < 65536) :
 Calls Tryz.prog 71 #[vw n M] w fun e w' => ∃ v', e = .returned v' /\ NewI w w' v' (memL M 16) := by
 unfold vw; have hb := Blk.new' w 24 [.int .i64 n, .int .u16 (M : Int)]; have hB : Below w.heap.size w (w.alloc (.cells #[.int .i64 n, .int .u16 (M : Int)] 24)) := (Below.refl _ _).alloc (Nat.le_refl _) _; have c1 := hb.cellAt 1 _ rfl; go_enter Tryz.func71, Tryz.ntmps71; go_wp2; obtain ⟨w0, hw0⟩ := nm (w.alloc (.cells #[.int .i64 n, .int .u16 (M : Int)] 24)); rw [<- hw0] at hb hB c1 |-; clear hw0 c1; have hs0 := hB.size; obtain ⟨g, hg⟩ := nm (w.heap.size); rw [<- hg] at hb |-; clear hg hb
 go_loopw [3, 4, 5] (fun v' mv iv wr => ∃ k : Nat, k <= 16 /\ iv = .int .i64 (k : Int) /\ mv = .int .i64 ((M / 2 ^ k : Nat) : Int) /\ wr.ownsRow w0.heap.size 3 1 v' (memL M k).length (ivs (memL M k)) /\ Below w0.heap.size w0 wr) (fun _ _ iv _ => 16 - (intOf iv).toNat)
 case atStart => exact ⟨0, by omega, rfl, by simp, World.ownsRow_nil _ _ _ _, Below.refl _ _⟩
 case round =>
  obtain ⟨k, hk, rfl, rfl, ho, hBw⟩ := hrel; have hy : M / 2 ^ k < 65536 := Nat.lt_of_le_of_lt (Nat.div_le_self _ _) h; have hml := mem_len_le M k; have hms := mem_succ M k; have hbit : mbit M k = decide (M / 2 ^ k % 2 = 1) := rfl; have hnx : Hid (M / 2 ^ k / 2 = M / 2 ^ (k + 1)) := by show _ = _; rw [Nat.div_div_eq_div_mul, Nat.pow_succ]
  obtain ⟨y, hye⟩ := nm (M / 2 ^ k); rw [<- hye] at hy hbit hnx |-; clear hye; by_cases h16 : k < 16
  . have hki : (k : Int) < 16 := by omega
    by_cases hm : mbit M k = true
    . rw [if_pos hm] at hms; have Hms := hid hms; rw [hm] at hbit; have hy1 : y % 2 = 1 := of_decide_eq_true hbit.symm; clear hms hbit hm; have ht : ((y : Int) % 2 == 1) = true := beq_iff_eq.2 (by omega); go_wp2_with (refine wp_push (.tmp 16) (.tmp 17) 18 slI rfl rfl rfl rfl rfl rfl rfl rfl (by simp) rfl ho (by simp only [maxLen]; omega) (by omega) hBw.size ?_); intro v4 w4 ho4 hG4 _; rw [<- ivs_snoc] at ho4; have hB4 := hBw.grown hG4 hBw.size (fun k hk => (ho.lt k hk).1); go_wp2
      go_roundw
      case rel =>
       refine ⟨k + 1, by omega, by go_num, by rw [<- hnx.out]; go_num, ?_, hB4⟩; rw [Hms.out, List.length_append]; exact ho4
      case measure => simp [intOf]; omega
    . rw [if_neg hm, List.append_nil] at hms; have Hms := hid hms; have hm : mbit M k = false := by simpa using hm
      rw [hm] at hbit; have hy1 : ¬ y % 2 = 1 := of_decide_eq_false hbit.symm; clear hms hbit hm; have ht : ((y : Int) % 2 == 1) = false := beq_eq_false_iff_ne.2 (by omega); go_wp2
      go_roundw
      case rel => exact ⟨k + 1, by omega, by go_num, by rw [<- hnx.out]; go_num, by rw [Hms.out]; exact ho, hBw⟩
      case measure => simp [intOf]; omega
  . have hk16 : k = 16 := by omega
    subst hk16; go_wp2; go_ret; exact ⟨_, rfl, own_weak ho hs0, hB.trans (hBw.mono hs0)⟩
theorem rright_any (n : Int) (M : Nat) (w : World) (h : M < 65536) :
 Calls Tryz.prog 70 #[vw n M] w fun e w' => e = .returned (.bool (rgt n M)) /\ Below w.heap.size w w' := by
 have hl := sz_le M; have hmem := (rmembers_any n M · h)
 unfold vw at hmem |-; have hb0 := Blk.new' w 24 [.int .i64 n, .int .u16 (M : Int)]; have hB0 : Below w.heap.size w (w.alloc (.cells #[.int .i64 n, .int .u16 (M : Int)] 24)) := (Below.refl _ _).alloc (Nat.le_refl _) _; go_enter Tryz.func70, Tryz.ntmps70; go_wp2_with (fail); refine (hmem _).mono ?_; rintro e w1 ⟨v1, rfl, ho1, hB1⟩; rw [mem_16] at ho1; obtain ⟨A1, k1, rfl⟩ := own_shape ho1; have hb := hb0.below hB1; have hB := hB0.trans (hB1.mono hB0.size); have c0 := hb.cellAt 0 _ rfl; obtain ⟨s, hs⟩ := nm (szM M); have hr : rgt n M = decide (0 <= n /\ n <= 60 /\ 4 <= s /\ s <= 7) := by rw [hs]; rfl
 rw [<- hs] at hl |-; have Hr := hid hr; clear hr hs ho1 hB0 hb0; go_wp2
 all_goals (go_ret; exact ⟨by rw [Hr.out]; exact ret_b (by rw [Bool.eq_iff_iff]; simp; try omega), hB⟩)
def szR (n : Int) (M : Nat) : Nat := if rgt n M then szM M else 0
theorem rsize_any (n : Int) (M : Nat) (w : World) (h : M < 65536) :
 Calls Tryz.prog 46 #[vw n M] w fun e w' => e = .returned (.int .i64 (szR n M : Int)) /\ Below w.heap.size w w' := by
 have hmem := (rmembers_any n M · h)
 have hrt := (rright_any n M · h)
 unfold vw at hmem hrt |-; have hb0 := Blk.new' w 24 [.int .i64 n, .int .u16 (M : Int)]; have hB0 : Below w.heap.size w (w.alloc (.cells #[.int .i64 n, .int .u16 (M : Int)] 24)) := (Below.refl _ _).alloc (Nat.le_refl _) _; have hf : szR n M = if rgt n M then szM M else 0 := rfl
 obtain ⟨q, hqe⟩ := nm (szR n M); rw [<- hqe] at hf |-; clear hqe; go_enter Tryz.func46, Tryz.ntmps46; go_wp2_with (fail); refine (hrt _).mono ?_; rintro e w1 ⟨rfl, hB1⟩; have hb1 := hb0.below hB1; have hB1' := hB0.trans (hB1.mono hB0.size); have c0 := hb1.cellAt 0 _ rfl; have c1 := hb1.cellAt 1 _ rfl; cases hr : rgt n M with
 | true =>
  rw [hr, if_pos rfl] at hf; have Hf := hid hf; clear hf hr; go_wp2_with (fail); refine (hmem _).mono ?_; rintro e w2 ⟨v2, rfl, ho2, hB2⟩; rw [mem_16] at ho2; obtain ⟨A2, k2, rfl⟩ := own_shape ho2; go_wp2; go_ret; exact ⟨ret_i (by rw [Hf.out]), hB1'.trans (hB2.mono hB1'.size)⟩
 | false =>
  rw [hr] at hf; have hf : q = 0 := hf; have Hf := hid hf; clear hf hr; go_wp2; go_ret; exact ⟨ret_i (by rw [Hf.out]; rfl), hB1'⟩
theorem szR_bd (n : Int) (M : Nat) : szR n M = 0 \/ (rgt n M = true /\ szR n M = szM M /\ 4 <= szR n M /\ szR n M <= 7) := by
 unfold szR; cases h : rgt n M with
 | true => have := rgt_sz h; exact .inr ⟨rfl, rfl, this.2.2.1, this.2.2.2⟩
 | false => exact .inl rfl
theorem szR_0 {n : Int} {M : Nat} (h : szR n M = 0) : rgt n M = false := by
 rcases hr : rgt n M with _ | _
 . rfl
 . unfold szR at h; rw [hr] at h; have := rgt_sz hr; simp at h; omega
theorem flt_R (n : Int) (M : Nat) : fltN n M = if szR n M = 7 then 2 else if 4 <= szR n M then 1 else 0 := by
 rcases szR_bd n M with h | ⟨h, h1, h2, h3⟩
 . unfold fltN; rw [szR_0 h, h]; rfl
 . unfold fltN; rw [if_pos h, <- h1]; split <;> (try rw [if_pos h2]) <;> omega
theorem rflt_any (n : Int) (M : Nat) (w : World) (h : M < 65536) :
 Calls Tryz.prog 47 #[vw n M] w fun e w' => e = .returned (.int .i64 (fltN n M : Int)) /\ Below w.heap.size w w' := by
 have hsz := (rsize_any n M · h)
 unfold vw at hsz |-; have hB0 : Below w.heap.size w (w.alloc (.cells #[.int .i64 n, .int .u16 (M : Int)] 24)) := (Below.refl _ _).alloc (Nat.le_refl _) _; have hf := flt_R n M; have hbd := szR_bd n M; obtain ⟨q, hqe⟩ := nm (fltN n M); obtain ⟨s, hs⟩ := nm (szR n M); rw [<- hqe, <- hs] at hf; rw [<- hqe]; rw [<- hs] at hbd hsz; have hs7 : s <= 7 := by omega
 have Hf := hid hf; clear hqe hs hf hbd; go_enter Tryz.func47, Tryz.ntmps47; go_wp2_with (fail); refine (hsz _).mono ?_; rintro e w1 ⟨rfl, hB1⟩; have hB1' := hB0.trans (hB1.mono hB0.size); go_wp2
 all_goals
  go_ret; refine ⟨ret_i ?_, hB1'⟩; have := Hf.out; simp only [beq_iff_eq, beq_eq_false_iff_ne, ne_eq] at *
  split at this <;> (try split at this) <;> omega
theorem quo_R (n : Int) (M : Nat) : quoN n M = if szR n M = 0 then 0 else (szR n M + fltN n M) / 2 + 1 := by
 rcases szR_bd n M with h | ⟨h, h1, h2, h3⟩
 . unfold quoN; rw [szR_0 h, if_pos h]; rfl
 . unfold quoN; rw [if_pos h, if_neg (by omega), h1]
theorem eno_R (n : Int) (M : Nat) : enoN n M = szR n M - fltN n M := by
 rcases szR_bd n M with h | ⟨h, h1, h2, h3⟩
 . unfold enoN; rw [szR_0 h, h]; simp
 . unfold enoN; rw [if_pos h, h1]
theorem rquo_any (n : Int) (M : Nat) (w : World) (h : M < 65536) :
 Calls Tryz.prog 76 #[vw n M] w fun e w' => e = .returned (.int .i64 (quoN n M : Int)) /\ Below w.heap.size w w' := by
 have hsz := (rsize_any n M · h)
 have hflt := (rflt_any n M · h)
 unfold vw at hsz hflt |-; have hb := Blk.new' w 24 [.int .i64 n, .int .u16 (M : Int)]; have hB : Below w.heap.size w (w.alloc (.cells #[.int .i64 n, .int .u16 (M : Int)] 24)) := (Below.refl _ _).alloc (Nat.le_refl _) _; have hf := quo_R n M; have hbd := szR_bd n M; have hfb := flt_R n M; obtain ⟨q, hqe⟩ := nm (quoN n M); rw [<- hqe] at hf |-; obtain ⟨f, hfe⟩ := nm (fltN n M); rw [<- hfe] at hf hfb hflt; obtain ⟨s, hs⟩ := nm (szR n M); rw [<- hs] at hf hbd hsz hfb; have hs7 : s = 0 \/ 4 <= s /\ s <= 7 := by omega
 have hf2 : f <= 2 := by split at hfb <;> (try split at hfb) <;> omega
 have hfs : f <= s := by split at hfb <;> (try split at hfb) <;> omega
 have Hf := hid hf; clear hqe hfe hs hf hbd hfb; go_enter Tryz.func76, Tryz.ntmps76; go_wp2_with (fail); obtain ⟨w0, hw0⟩ := nm (w.alloc (.cells #[.int .i64 n, .int .u16 (M : Int)] 24)); rw [<- hw0] at hb hB |-; clear hw0; obtain ⟨g, hg⟩ := nm (w.heap.size); rw [<- hg] at hb |-; clear hg; refine (hsz _).mono ?_; rintro e wq ⟨rfl, hB1⟩; have hb1 := hb.below hB1; have hB1' := hB.trans (hB1.mono hB.size); have c0 := hb1.cellAt 0 _ rfl; have c1 := hb1.cellAt 1 _ rfl; have HV : Hid (∀ W, Ch nob wq W -> W.rangeAt g 0 [.int .i64 n, .int .u16 (M : Int)]) := fun W h => hb1.chAt (fun h => h) h; by_cases h0 : s = 0
 . subst h0; go_wp2; go_ret; exact ⟨ret_i (by have := Hf.out; simp at this; rw [this]; rfl), hB1'⟩
 . have ht : ((s : Int) == 0) = false := by rw [beq_eq_false_iff_ne]; omega
   clear c0 c1 hb1; go_wp2_with (fail); refine wp_region_noPanic ?_; refine wp_region_held_drew (S := Ch nob wq) (by kernel_rfl) ((Ch.refl _ _).drew) (fun hHeld => ?_); refine tkY 0 rfl (yieldsIf_load_mid (by rfl) 24 (.tmp 1) (by rfl) _ (0) (by rfl) _ _ (fun _ hs => HV.out _ hs) Tryz.underlying24 rfl (sizeV)) ?_; refine tkY 2 rfl (yieldsIf_load_mid (by rfl) 24 (.tmp 1) (by rfl) _ (0) (by rfl) _ _ (fun _ hs => HV.out _ hs) Tryz.underlying24 rfl (sizeV)) ?_; refine rdH 1 rfl (fun K hK => ?_); go_simp; refine (hsz _).mono ?_; rintro e' w5 ⟨rfl, hB5⟩; have hC5 := hHeld.belowG hB5; refine hK.out _ _ (hC5) (fun hHeld => ?_); clear hK K
   try simp only [nP]
   refine rdH 3 rfl (fun K hK => ?_); go_simp; refine (hflt _).mono ?_; rintro e' w6 ⟨rfl, hB6⟩; have hC6 := hHeld.belowG hB6; refine hK.out _ _ (hC6) (fun hHeld => ?_); clear hK K
   try simp only [nP]
   refine tkP 4 rfl ?_; refine tkP 5 rfl ?_; refine tkP 6 rfl ?_; refine tkP 7 rfl ?_; refine wpAnyH_done (by kernel_rfl) ?_ _; refine NoPanic.normal ?_; go_wp2; go_ret; exact ⟨ret_i (by have := Hf.out; rw [if_neg h0] at this; rw [this, IntWalk.i64_in ((s : Int) + f) (by omega), Int.tdiv_eq_ediv_of_nonneg (by omega), IntWalk.i64_in (((s : Int) + f) / 2) (by omega), IntWalk.i64_in (((s : Int) + f) / 2 + 1) (by omega)]; omega), hB1'.trans (hHeld.below.mono hB1'.size)⟩
theorem reno_any (n : Int) (M : Nat) (w : World) (h : M < 65536) :
 Calls Tryz.prog 24 #[vw n M] w fun e w' => e = .returned (.int .i64 (enoN n M : Int)) /\ Below w.heap.size w w' := by
 have hsz := (rsize_any n M · h)
 have hflt := (rflt_any n M · h)
 unfold vw at hsz hflt |-; have hb := Blk.new' w 24 [.int .i64 n, .int .u16 (M : Int)]; have hB : Below w.heap.size w (w.alloc (.cells #[.int .i64 n, .int .u16 (M : Int)] 24)) := (Below.refl _ _).alloc (Nat.le_refl _) _; have hf := eno_R n M; have hbd := szR_bd n M; have hfb := flt_R n M; obtain ⟨q, hqe⟩ := nm (enoN n M); rw [<- hqe] at hf |-; obtain ⟨f, hfe⟩ := nm (fltN n M); rw [<- hfe] at hf hfb hflt; obtain ⟨s, hs⟩ := nm (szR n M); rw [<- hs] at hf hbd hsz hfb; have hs7 : s = 0 \/ 4 <= s /\ s <= 7 := by omega
 have hf2 : f <= 2 := by split at hfb <;> (try split at hfb) <;> omega
 have hfs : f <= s := by split at hfb <;> (try split at hfb) <;> omega
 have Hf := hid hf; clear hqe hfe hs hf hbd hfb; go_enter Tryz.func24, Tryz.ntmps24; go_upto_region 1 with (fail)
 obtain ⟨wq, hw0⟩ := nm (w.alloc (.cells #[.int .i64 n, .int .u16 (M : Int)] 24)); rw [<- hw0] at hb hB |-; clear hw0; obtain ⟨g, hg⟩ := nm (w.heap.size); rw [<- hg] at hb |-; clear hg; have HV : Hid (∀ W, Ch nob wq W -> W.rangeAt g 0 [.int .i64 n, .int .u16 (M : Int)]) := fun W h => hb.chAt (fun h => h) h; refine wp_region_noPanic ?_; refine wp_region_held_drew (S := Ch nob wq) (by kernel_rfl) ((Ch.refl _ _).drew) (fun hHeld => ?_); refine tkY 0 rfl (yieldsIf_load_mid (by rfl) 24 (.tmp 1) (by rfl) _ (0) (by rfl) _ _ (fun _ hs => HV.out _ hs) Tryz.underlying24 rfl (sizeV)) ?_; refine tkY 2 rfl (yieldsIf_load_mid (by rfl) 24 (.tmp 1) (by rfl) _ (0) (by rfl) _ _ (fun _ hs => HV.out _ hs) Tryz.underlying24 rfl (sizeV)) ?_; refine rdH 1 rfl (fun K hK => ?_); go_simp; refine (hsz _).mono ?_; rintro e' w5 ⟨rfl, hB5⟩; have hC5 := hHeld.belowG hB5; refine hK.out _ _ (hC5) (fun hHeld => ?_); clear hK K
 try simp only [nP]
 refine rdH 3 rfl (fun K hK => ?_); go_simp; refine (hflt _).mono ?_; rintro e' w6 ⟨rfl, hB6⟩; have hC6 := hHeld.belowG hB6; refine hK.out _ _ (hC6) (fun hHeld => ?_); clear hK K
 try simp only [nP]
 refine tkP 4 rfl ?_; refine tkP 5 rfl ?_; refine wpAnyH_done (by kernel_rfl) ?_ _; refine NoPanic.normal ?_; go_wp2; go_ret; exact ⟨ret_i (by rw [Hf.out, IntWalk.i64_in _ (by omega)]; omega), hB.trans (hHeld.below.mono hB.size)⟩
theorem has_mem (M : Nat) (i : Int) : hasB M i = true ↔ ∃ x ∈ memL M 16, (x : Int) = i := by
 unfold hasB; rw [Bool.and_eq_true, decide_eq_true_iff]; constructor
 . rintro ⟨h1, h2⟩; exact ⟨i.toNat, (mem_iff M 16 _).2 ⟨by omega, h2⟩, by omega⟩
 . rintro ⟨x, hx, rfl⟩; have := (mem_iff M 16 x).1 hx; exact ⟨by omega, by rw [Int.toNat_natCast]; exact this.2⟩
theorem rhas_any (n : Int) (M : Nat) (i : Int) (w : World) (h : M < 65536) :
 Calls Tryz.prog 49 #[vw n M, .int .i64 i] w fun e w' => e = .returned (.bool (hasB M i)) /\ Below w.heap.size w w' := by
 have hmem := (rmembers_any n M · h)
 have hl16 := sz_le M; have hbt := has_mem M i; unfold vw at hmem |-; have hB : Below w.heap.size w (w.alloc (.cells #[.int .i64 n, .int .u16 (M : Int)] 24)) := (Below.refl _ _).alloc (Nat.le_refl _) _; obtain ⟨bt, hbe⟩ := nm (hasB M i); rw [<- hbe] at hbt |-; obtain ⟨l, hle⟩ := nm (memL M 16); have hl : l.length <= 16 := by rw [hle]; exact hl16
 rw [<- hle] at hbt hmem; have Hbt := hid hbt; clear hbe hle hbt hl16; go_enter Tryz.func49, Tryz.ntmps49; go_wp2_with (fail); refine (hmem _).mono ?_; rintro e w1 ⟨v1, rfl, ho1, hB1⟩; have hB1' := hB.trans (hB1.mono hB.size); obtain ⟨A1, k1, rfl⟩ := own_shape ho1; go_wp2
 go_loop [6] (fun iv => ∃ k : Nat, k <= l.length /\ iv = .int .i64 (k : Int) /\ ∀ (j x : Nat), j < k -> l[j]? = some x -> (x : Int) ≠ i) (fun iv => l.length - (intOf iv).toNat)
 case atStart => exact ⟨0, by omega, rfl, fun j x hj => by omega⟩
 case round =>
  obtain ⟨k, hk, rfl, hno⟩ := hrel; have Hno := hid hno; clear hno; by_cases hlt : k < l.length
  . obtain ⟨g1, c1, hsh, hg1, hl1, hcell⟩ := own_ivs ho1 (by omega); injection hsh with hA hn' hc'
    subst hA; obtain ⟨x, hx⟩ : ∃ x, l[k]? = some x := ⟨_, List.getElem?_eq_getElem hlt⟩
    have hc := hcell k x hx; have hkI : (k : Int) < (l.length : Int) := by omega
    have Hx := hid hx; clear hx hcell ho1; by_cases hxi : (x : Int) = i
    . have ht : ((x : Int) == i) = true := beq_iff_eq.2 hxi; have Ht := hid hxi; clear hxi; go_wp2; go_ret; exact ⟨ret_b (Hbt.out.2 ⟨x, List.mem_of_getElem? Hx.out, Ht.out⟩).symm, hB1'⟩
    . have ht : ((x : Int) == i) = false := beq_eq_false_iff_ne.2 hxi; have Ht := hid hxi; clear hxi; go_wp2
      go_round
      case rel =>
       refine ⟨k + 1, by omega, by go_num, fun j y hj hy => ?_⟩; rcases Nat.lt_or_ge j k with h1 | h1
       . exact Hno.out j y h1 hy
       . have : j = k := by omega
         subst this; have := Hx.out; rw [hy] at this; injection this with this
         rw [this]; exact Ht.out
      case measure => simp [intOf]; omega
  . have hb : bt = false := by
     cases hbt : bt with
     | false => rfl
     | true =>
      obtain ⟨x, hx, hxi⟩ := Hbt.out.1 hbt; obtain ⟨j, hj⟩ := List.mem_iff_getElem?.1 hx; exact absurd hxi (Hno.out j x (by have := (List.getElem?_eq_some_iff.1 hj).1; omega) hj)
    have Hb := hid hb; clear hb; go_wp2; go_ret; exact ⟨ret_b Hb.out.symm, hB1'⟩
end Go.Proofs.YtnhhbbjkeekneaaGreatDoor
