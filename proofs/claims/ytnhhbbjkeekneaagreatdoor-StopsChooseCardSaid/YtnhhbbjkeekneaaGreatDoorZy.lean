/- Zy: layer 19, the document's side: contract of Choose. -/
import Derived.Test.YtnhhbbjkeekneaaGreatDoorM1
import Derived.Test.YtnhhbbjkeekneaaGreatDoorCD
import Derived.Test.YtnhhbbjkeekneaaGreatDoorZx
import Derived.Test.YtnhhbbjkeekneaaGreatDoorF
import Derived.Deep.DeepCutAuto
import Derived.Deep.RegionHeld3
set_option maxRecDepth 100000
set_option maxHeartbeats 16000000
namespace Go.Proofs.YtnhhbbjkeekneaaGreatDoor
open Go.RowKit Go.V
def OpF (F : Nat -> Prop) (w : World) (r : Except Nat Mg) (l : List Value) : Prop := match r with
 | .ok m => ∃ ub up, l = gM (m.l ub up) 0 /\ Rd w F ub (bys m.b) /\ Rd w F up (tx m.ps)
 | .error k => l = gM zM k
theorem OpF.keep {F F' : Nat -> Prop} {w w' : World} {r : Except Nat Mg} {l : List Value} (h : OpF F w r l) (hF : ∀ b, b < w.heap.size -> F b -> F' b /\ w'.heap[b]? = w.heap[b]?) : OpF F' w' r l := by
 cases r with
 | error k => exact h
 | ok m =>
  obtain ⟨ub, up, h1, h2, h3⟩ := h; exact ⟨ub, up, h1, h2.keep hF, h3.keep hF⟩
theorem RdP.uni {w w' : World} {r : Except Nat Mg} {e : Ending} (h : RdP w r e w') (hh : ∀ m, r = .ok m -> m.h.length = 32) : ∃ lg, e = .returned (.agg lg.toArray) /\ lg.length = 40 /\ (∀ v ∈ lg, v.oneCell' = true) /\ OpF (fun b => w.heap.size <= b) w' r lg /\ Below w.heap.size w w' := by
 cases r with
 | error k =>
  obtain ⟨rfl, hB⟩ := h; exact ⟨_, rfl, len_gM len_zM k, one_gM one_zM8 k, rfl, hB⟩
 | ok m =>
  obtain ⟨⟨ub, up, rfl, h1, h2⟩, hB⟩ := h; obtain ⟨A, c, rfl⟩ := h1.shape; obtain ⟨B, d, rfl, _, _⟩ := h2.slShape; exact ⟨_, rfl, len_gM (len_mg (hh m rfl) _ _) 0, one_gM one_mg 0, ⟨_, _, rfl, h1, h2⟩, hB⟩
theorem own_shapeZ {w : World} {base : Nat} {e : TypeId} {s : Nat} {v : Value} {n : Nat} {xs : List Value} (h : w.ownsRow base e s v n xs) : ∃ A c, v = .slice A n c := by
 rcases h.2 with ⟨h, h0⟩ | ⟨g, cap, cur, h, _⟩
 . exact ⟨none, 0, by rw [h, h0]⟩
 . exact ⟨some ⟨g, 0, none⟩, cap, h⟩
def bsI : Option Nat -> Int
 | none => -1
 | some k => (k : Int)
def fsT (a : List To) : List Value := a.map (fun t => .int .i64 t.f)
theorem rchoose19_any (ks : List (List UInt8)) (R : List Hx) (V : Vc) (first reg : Int) (P : List (List UInt8)) (uk ur pv : Value) (F FR H : Nat -> Prop) (w : World) (hks : KsSm ks) (hk : Rd w F uk (tx ks)) (hR : Rd w FR ur (wds hxD R)) (hV : V.m < 65536)
 (hp : Rd w H pv (tx P)) (hP : P.length <= 1000) (hPl : ∀ X ∈ P, X.length <= 1000000) (hfi : -1000000000000 <= first /\ first <= 1000000000000) :
 Calls Tryz.prog 9 #[.agg #[uk, ur], vw V.n V.m, .int .i64 first, .int .i64 reg, pv] w (ChQ w (choC ks R V first reg P)) := by
 have hT : choC ks R V first reg P = if enoN V.n V.m = 0 \/ P.length < enoN V.n V.m \/ 16 < P.length then (zCi, 12)
  else match tkC ks R V first reg [] P with
   | .error e => (zCi, e)
   | .ok l => (folC l, 0) := rfl
 obtain ⟨T, hTT⟩ := nm (choC ks R V first reg P); rw [<- hTT] at hT |-; clear hTT; obtain ⟨n, M⟩ := V; dsimp only at hT hV |-; obtain ⟨A, c, rfl, hcA, hcm⟩ := hp.slShape; have hp := hp.weak (F' := fun b => H b /\ b < w.heap.size) (fun b hb hF => ⟨hF, hb⟩); have hk := hk.weak (F' := fun b => b < w.heap.size) (fun b hb _ => hb); have hR := hR.weak (F' := fun b => b < w.heap.size) (fun b hb _ => hb); obtain ⟨W1, hW1, b5, b6, hB⟩ := alloc2 w 40 24 [uk, ur] [.int .i64 n, .int .u16 (M : Int)]; have b10 := Blk.new' W1 35 (ciL zCi (.slice none 0 0)); have hB6 : Below W1.heap.size W1 (W1.alloc (.cells (ciL zCi (.slice none 0 0)).toArray 35)) := (Below.refl _ _).alloc (Nat.le_refl _) _; have hs1 : W1.heap.size = w.heap.size + 1 + 1 := by rw [hW1]; simp
 have b5 := b5.below hB6; have b6 := b6.below hB6; have hB := hB.trans (hB6.mono hB.size); have hk := hk.below hB; have hR := hR.below hB; have hp := hp.below hB; have heno := reno_any n M; have Hop0 := hid (fun X u (G : Nat -> Prop) Y h1 h2 h3 => ropenof9_any ks ⟨n, M⟩ X uk ur u (fun b => b < w.heap.size) G Y hks h1 h2 h3 hV); unfold vw at heno Hop0 |-; have Htt := hid hT; have HPl := hid hPl; clear hT hB6 hPl; go_enter Tryz.func9, Tryz.ntmps9; go_wp2_with (first | (refine wp_new 35 rfl rfl zeroCi ?_; refine wp_stop ?_)); rw [hs1] at b10; obtain ⟨w0, hw0⟩ := nm (W1.alloc (.cells (ciL zCi (.slice none 0 0)).toArray 35)); rw [<- hw0] at b5 b6 b10 hB hk hR hp; rw [hW1] at hw0
 first | rw [<- hw0] | (simp only [List.toArray] at hw0 |-; rw [<- hw0])
 obtain ⟨g10, hg10⟩ := nm (w.heap.size + 1 + 1); rw [<- hg10] at b10 |-; obtain ⟨g6, hg6⟩ := nm (w.heap.size + 1); rw [<- hg6] at b6 |-; obtain ⟨g5, hg5⟩ := nm (w.heap.size); rw [<- hg5] at b5 |-; have hw10 : w.heap.size <= g10 := by omega
 clear hg5 hg6 hg10 hw0 hW1 hs1; have K5 : Hid (∀ Z, Below w0.heap.size w0 Z -> Blk Z g5 40 [uk, ur]) := hid (fun Z h => b5.below h); have K6 : Hid (∀ Z, Below w0.heap.size w0 Z -> Blk Z g6 24 [.int .i64 n, .int .u16 (M : Int)]) := hid (fun Z h => b6.below h); have K10 : Hid (∀ Z, Below w0.heap.size w0 Z -> Blk Z g10 35 (ciL zCi (.slice none 0 0))) := hid (fun Z h => b10.below h); have Hk := hid (fun Z (h : Below w0.heap.size w0 Z) => hk.below h); have HR := hid (fun Z (h : Below w0.heap.size w0 Z) => hR.below h); clear hk hR b5 b10; obtain ⟨N, hN⟩ := nm (enoN n M); rw [<- hN] at heno; have htt := Htt.out; rw [<- hN] at htt; have Htt := hid htt; clear hN htt; refine wp_go ?_; go_wp2_with (refine wp_ld 24 (.tmp 6) rfl rfl rfl b6.whole Tryz.underlying24 rfl sizeVw17 ?_); refine (heno _ hV).mono ?_; rintro e wa ⟨rfl, hD⟩; clear heno b6; by_cases c1 : N = 0 \/ P.length < N \/ 16 < P.length
 . have Ht : Hid (T = (zCi, 12)) := hid (Htt.out.trans (if_pos c1)); clear Htt; by_cases d1 : N = 0
   . have e1 : ((N : Int) == 0) = true := by rw [d1]; rfl
     clear c1; have b10 := K10.out _ hD; have hBz := hB.trans (hD.mono hB.size); go_wp2_with (first | refine wp_bld 35 [] rfl rfl [] rfl bldC0 ?_ | (refine wp_st 35 (.tmp 10) (.tmp 38) rfl rfl rfl (f := 0) rfl (l := ciL zCi (.slice none 0 0)) rfl b10 (by exact Nat.le_refl _) sizeCi one_ci ?_; intro w9 hd9 hG9; refine wp_stop ?_)); rw [set_all (ciL zCi (.slice none 0 0)) (ciL zCi (.slice none 0 0)) rfl] at hd9; refine wp_go ?_; go_wp2; refine ret_cell1 rfl rfl rfl hd9.whole Tryz.underlying35 rfl sizeCi rfl ?_; exact ChQ.err Ht.out (hBz.grown hG9 hBz.size (sk (by omega)))
   . have e1 : ((N : Int) == 0) = false := beq_eq_false_iff_ne.2 (by omega); by_cases d2 : P.length < N
     . have e2 : (P.length : Int) < (N : Int) := by omega
       clear c1; have b10 := K10.out _ hD; have hBz := hB.trans (hD.mono hB.size); go_wp2_with (first | refine wp_bld 35 [] rfl rfl [] rfl bldC0 ?_ | (refine wp_st 35 (.tmp 10) (.tmp 38) rfl rfl rfl (f := 0) rfl (l := ciL zCi (.slice none 0 0)) rfl b10 (by exact Nat.le_refl _) sizeCi one_ci ?_; intro w9 hd9 hG9; refine wp_stop ?_)); rw [set_all (ciL zCi (.slice none 0 0)) (ciL zCi (.slice none 0 0)) rfl] at hd9; refine wp_go ?_; go_wp2; refine ret_cell1 rfl rfl rfl hd9.whole Tryz.underlying35 rfl sizeCi rfl ?_; exact ChQ.err Ht.out (hBz.grown hG9 hBz.size (sk (by omega)))
     . have e2 : ¬ (P.length : Int) < (N : Int) := by omega
       have e3 : (P.length : Int) > 16 := by omega
       clear c1; have b10 := K10.out _ hD; have hBz := hB.trans (hD.mono hB.size); go_wp2_with (first | refine wp_bld 35 [] rfl rfl [] rfl bldC0 ?_ | (refine wp_st 35 (.tmp 10) (.tmp 38) rfl rfl rfl (f := 0) rfl (l := ciL zCi (.slice none 0 0)) rfl b10 (by exact Nat.le_refl _) sizeCi one_ci ?_; intro w9 hd9 hG9; refine wp_stop ?_)); rw [set_all (ciL zCi (.slice none 0 0)) (ciL zCi (.slice none 0 0)) rfl] at hd9; refine wp_go ?_; go_wp2; refine ret_cell1 rfl rfl rfl hd9.whole Tryz.underlying35 rfl sizeCi rfl ?_; exact ChQ.err Ht.out (hBz.grown hG9 hBz.size (sk (by omega)))
 have Htt := hid (Htt.out.trans (if_neg c1)); have e1 : ((N : Int) == 0) = false := beq_eq_false_iff_ne.2 (by omega); have e2 : ¬ (P.length : Int) < (N : Int) := by omega
 have e3 : ¬ (P.length : Int) > 16 := by omega
 have d2 : decide (P.length < N) = false := decide_eq_false (by omega); have d2i : decide ((P.length : Int) < (N : Int)) = false := decide_eq_false (by omega); have d3 : decide ((16 : Int) < (P.length : Int)) = false := decide_eq_false (by omega); have d3g : decide ((P.length : Int) > (16 : Int)) = false := decide_eq_false (by omega); have hP16 : P.length <= 16 := by omega
 have hN1 : 1 <= P.length := by omega
 obtain ⟨TK, hTK⟩ := nm (tkC ks R ⟨n, M⟩ first reg); have htt := Htt.out; rw [<- hTK] at htt; have Htt := hid htt; have HTK := hid hTK; clear c1 htt hTK; have hn1 := World.ownsRow_nil w0 w0.heap.size 3 1; have hn2 := World.ownsRow_nil w0 w0.heap.size 51 36; have hDa := hD.size; go_wp2
 go_loopw [13, 14, 15] (fun v13 v14 iv wr => ∃ (i : Nat) (a : List To) (us : List Value), i <= P.length /\ a.length = i /\ iv = .int .i64 i /\ Hid (TK [] P = TK a (P.drop i)) /\ wr.ownsRow w0.heap.size 3 1 v13 a.length (fsT a) /\ wr.ownsRow w0.heap.size 51 36 v14 a.length us /\ WdX wr (fun b => w0.heap.size <= b /\ v13.ownBlock ≠ some b /\ v14.ownBlock ≠ some b) toD a us /\ Hid (∀ k, v13.ownBlock = some k -> v14.ownBlock ≠ some k) /\ Below w0.heap.size w0 wr) (fun _ _ i _ => P.length - (intOf i).toNat)
 case atStart => exact ⟨0, [], [], Nat.zero_le _, rfl, rfl, hid rfl, own_keepZ hn1 (fun k _ h => by cases h), own_keepZ hn2 (fun k _ h => by cases h), rfl, hid (fun k h => by cases h), hD⟩
 case round =>
  clear hn1 hn2 hD hDa; obtain ⟨i, a, us, hi, hai, rfl, Htk, ho13, ho14, hwx, Hne, hD⟩ := hrel; have hal : a.length <= 16 := by omega
  have Hai := hid hai; clear hai; by_cases hlt : i < P.length
  . have hI : (i : Int) < (P.length : Int) := by omega
    obtain ⟨X, hX⟩ : ∃ X, P[i]? = some X := ⟨_, List.getElem?_eq_getElem hlt⟩
    have hdrop : P.drop i = X :: P.drop (i + 1) := by
     rw [List.drop_eq_getElem_cons hlt]
     congr 1
     rw [List.getElem?_eq_getElem hlt] at hX; exact Option.some.inj hX
    have hXm := HPl.out X (List.mem_of_getElem? hX); have htk := Htk.out; rw [hdrop] at htk; have Htk := hid htk; obtain ⟨gp, offp, u, hAp, _, hcu, hu⟩ := Rd.elem (hp.below hD) i (bys X) (by rw [List.getElem?_map, hX]; rfl); subst hAp; obtain ⟨Au, cu, rfl⟩ := hu.shape; have hBw := hB.trans (hD.mono hB.size); obtain ⟨r, hr⟩ := nm (opOf ks ⟨n, M⟩ X); have hop := fun Y (h : Below wr.heap.size wr Y) => Hop0.out X (.slice Au X.length cu) _ Y (Hk.out Y (hD.trans (h.mono hD.size))) (hu.below h) hXm; rw [<- hr] at hop; have Hop := hid hop; have Hrh : Hid (∀ m, r = .ok m -> m.h.length = 32) := hid (fun m h => (opof_ok (hr.symm.trans h)).1); have Hr := hid hr; have L13 : Hid (∀ k, u13.ownBlock = some k -> k < wr.heap.size) := hid (fun k e => (ho13.lt k e).2); have L14 : Hid (∀ k, u14.ownBlock = some k -> k < wr.heap.size) := hid (fun k e => (ho14.lt k e).2); have C0 : Hid (∀ Z, Ch nob wr Z -> Z.cell? ⟨gp, offp + i, none⟩ = some (.slice Au X.length cu)) := hid (fun Z h => (h.below.cell (lt_of_cell hcu)).trans hcu); have Hk5 : Hid (∀ Z, Ch nob wr Z -> Z.rangeAt g5 0 [uk, ur]) := hid (fun Z h => (K5.out Z (hD.trans (h.below.mono hD.size))).whole); have Hv6 : Hid (∀ Z, Ch nob wr Z -> Z.rangeAt g6 0 [.int .i64 n, .int .u16 (M : Int)]) := hid (fun Z h => (K6.out Z (hD.trans (h.below.mono hD.size))).whole); clear htk hop hr hcu hu hX hdrop; go_upto_region 9 with (fail)
    go_cut [16] (fun s16 wx => ∃ g lg, s16 = .pointer (some ⟨g, 0, none⟩) /\ Blk wx g 69 lg /\ wr.heap.size <= g /\ lg.length = 40 /\ OpF (fun b => wr.heap.size <= b /\ b ≠ g) wx r lg /\ Below wr.heap.size wr wx)
    case first =>
     refine wp_region_noPanic ?_; refine wp_region_held_drew (S := Ch nob wr) (by kernel_rfl) ((Ch.refl _ _).drew) (fun hHeld => ?_); refine tkY 0 rfl (yieldsIf_load_mid (by rfl) 40 (.tmp 5) (by rfl) _ (0) (by rfl) _ _ (fun _ hs => Hk5.out _ hs) Tryz.underlying40 rfl (sizeKs17)) ?_; refine tkY 1 rfl (yieldsIf_load_mid (by rfl) 24 (.tmp 6) (by rfl) _ (0) (by rfl) _ _ (fun _ hs => Hv6.out _ hs) Tryz.underlying24 rfl (sizeVw17)) ?_; refine tkP 2 rfl ?_; refine tkP 3 rfl ?_; refine tkP 4 rfl ?_; refine tkF 5 rfl C0.out ?_; refine wpAnyH_ready (rs := [6, 7]) (by kernel_rfl) (by simp) ?_; refine AllReadyH.cons (o := ⟨some 51, _, _, _, _, none⟩) rfl (fun K hK => ?_) ?_
     . go_simp; refine (Hop.out _ hHeld.below).mono ?_; rintro e' w6 hP; obtain ⟨lg, rfl, hlgl, hlg1, hlgF, hB6⟩ := hP.uni Hrh.out; have hsz6 := hHeld.size; refine hK.out _ _ (hHeld.belowR hB6) (fun hHeld => ?_); clear hK K
       try simp only [nP]
       refine rdH 7 rfl (fun K hK => ?_); refine step_new 69 (by rfl) (by rfl) zeroG8 ?_; intro g16 w7 hg16' hgl7 hz7 hB7; have hg16 : wr.heap.size <= g16 := Nat.le_trans hHeld.size hg16'; have hlgF := hlgF.keep (F' := fun b => wr.heap.size <= b /\ b ≠ g16) (w' := w7) (fun b hb hF => ⟨⟨Nat.le_trans hsz6 hF, fun e => by omega⟩, hB7.block b hb⟩); refine hK.out _ _ (hHeld.belowG hB7) (fun hHeld => ?_); clear hK K
       try simp only [nP]
       refine rdH 8 rfl (fun K hK => ?_); refine step_st 69 (.tmp 16) (.tmp 51) (by rfl) (by rfl) (by rfl) (f := 0) (by rfl) (l := lg) (by rfl) hz7 (by rw [hlgl, len_gM len_zM]; omega) (by rw [hlgl]; exact sizeG8) hlg1 ?_; intro w8 b16 hG8; rw [set_all _ _ (by rw [hlgl, len_gM len_zM])] at b16; have hlgF := hlgF.keep (F' := fun b => wr.heap.size <= b /\ b ≠ g16) (w' := w8) (fun b hb hF => ⟨hF, hG8.block b hb (fun h => hF.2 (Option.some.inj h))⟩); refine hK.out _ _ (hHeld.grow hG8 (fun k hk => .inr (by injection hk with hk; omega))) (fun hHeld => ?_); clear hK K
       try simp only [nP]
       refine wpAnyH_done (by kernel_rfl) ?_ _; refine NoPanic.normal ?_; go_wp2; go_meet; exact ⟨g16, lg, rfl, b16, hg16, hlgl, hlgF, hHeld.below⟩
     refine AllReadyH.cons (o := ⟨some 16, .alloc _, _, _, _, none⟩) rfl (fun K hK => ?_) AllReadyH.nil; refine step_new 69 (by rfl) (by rfl) zeroG8 ?_; intro g16 w7 hg16' hgl7 hz7 hB7; have hg16 : wr.heap.size <= g16 := Nat.le_trans hHeld.size hg16'; refine hK.out _ _ (hHeld.belowG hB7) (fun hHeld => ?_); clear hK K
     try simp only [nP]
     refine rdH 6 rfl (fun K hK => ?_); go_simp; refine (Hop.out _ hHeld.below).mono ?_; rintro e' w6 hP; obtain ⟨lg, rfl, hlgl, hlg1, hlgF, hB6⟩ := hP.uni Hrh.out; have hsz6 := hHeld.size; have hz7 := hz7.below hB6; have hlgF := hlgF.keep (F' := fun b => wr.heap.size <= b /\ b ≠ g16) (w' := w6) (fun b hb hF => ⟨⟨Nat.le_trans hsz6 hF, fun e => by omega⟩, rfl⟩); refine hK.out _ _ (hHeld.belowR hB6) (fun hHeld => ?_); clear hK K
     try simp only [nP]
     refine rdH 8 rfl (fun K hK => ?_); refine step_st 69 (.tmp 16) (.tmp 51) (by rfl) (by rfl) (by rfl) (f := 0) (by rfl) (l := lg) (by rfl) hz7 (by rw [hlgl, len_gM len_zM]; omega) (by rw [hlgl]; exact sizeG8) hlg1 ?_; intro w8 b16 hG8; rw [set_all _ _ (by rw [hlgl, len_gM len_zM])] at b16; have hlgF := hlgF.keep (F' := fun b => wr.heap.size <= b /\ b ≠ g16) (w' := w8) (fun b hb hF => ⟨hF, hG8.block b hb (fun h => hF.2 (Option.some.inj h))⟩); refine hK.out _ _ (hHeld.grow hG8 (fun k hk => .inr (by injection hk with hk; omega))) (fun hHeld => ?_); clear hK K
     try simp only [nP]
     refine wpAnyH_done (by kernel_rfl) ?_ _; refine NoPanic.normal ?_; go_wp2; go_meet; exact ⟨g16, lg, rfl, b16, hg16, hlgl, hlgF, hHeld.below⟩
    case rest =>
     obtain ⟨g16, lg, rfl, b16, hg16, hlgl, hlgF, hB9⟩ := hcut; obtain ⟨wx, hwx⟩ := nm (wc); subst hwx; have hszr := hD.size; have ho13 := own_bel ho13 hB9; have ho14 := own_bel ho14 hB9; have hwx := hwx.keep (F' := fun b => w0.heap.size <= b /\ u13.ownBlock ≠ some b /\ u14.ownBlock ≠ some b) (fun b hb hF => ⟨hF, hB9.block b hb⟩); have hD := hD.trans (hB9.mono hszr); have hg16w : w0.heap.size <= g16 := Nat.le_trans hszr hg16; have h1316 : u13.ownBlock ≠ some g16 := fun e => by have := L13.out g16 e; omega
     have h1416 : u14.ownBlock ≠ some g16 := fun e => by have := L14.out g16 e; omega
     have hrr := Hr.out; clear C0 Hk5 Hv6 Hop Hr hB9 L13 L14; cases hc : r with
     | error k =>
      rw [hc] at hlgF hrr; have hk0 := opof_pos hrr.symm; have ne : ((k : Int) != 0) = true := bneN (by omega); have hTk : TK a (X :: P.drop (i + 1)) = .error (k : Int) := by rw [HTK.out]; exact tk_err hrr.symm
      have Ht : Hid (T = (zCi, (k : Int))) := hid (by rw [Htt.out, Htk.out, hTk]); have c39 := b16.cellAt 39 _ (by rw [hlgF]; exact gM_err len_zM k); have b10 := K10.out _ hD; have hBz := hB.trans (hD.mono hB.size); have hne16 : g16 ≠ g10 := by have := b10.lt; have := hszr; have := K10.out w0 (Below.refl _ _); have := this.lt; omega
      have C39 : Hid (∀ Z, Ch (only g10) wx Z -> Z.cell? ⟨g16, 39, none⟩ = some (.int .i64 (k : Int))) := hid (fun Z h => (b16.keep (h.block g16 b16.lt hne16)).cellAt 39 _ (by rw [hlgF]; exact gM_err len_zM k)); clear hTk Htt Htk hrr hlgF ho13 ho14 hwx Hne; go_upto_region 11 with (fail)
      refine wp_region_noPanic ?_; refine wp_region_held_drew (S := Ch (only g10) wx) (by kernel_rfl) ((Ch.refl _ _).drew) (fun hHeld => ?_); refine tkY 0 rfl (yi_bld (by rfl) 35 [] (by rfl) [] (by rfl) bldC0) ?_; refine tkP 1 rfl ?_; refine tkF 2 rfl C39.out ?_; refine rdH 3 rfl (fun K hK => ?_); refine step_st 35 (.tmp 10) (.tmp 55) (by rfl) (by rfl) (by rfl) (f := 0) (by rfl) (l := ciL zCi (.slice none 0 0)) (by rfl) (b10.keep rfl) (by exact Nat.le_refl _) sizeCi one_ci ?_; intro w9 hd9 hG9; rw [set_all (ciL zCi (.slice none 0 0)) (ciL zCi (.slice none 0 0)) rfl] at hd9; refine hK.out _ _ (hHeld.grow hG9 (fun k hk => .inl (by injection hk with hk; exact hk.symm))) (fun hHeld => ?_); clear hK K
      try simp only [nP]
      refine tkP 4 rfl ?_; refine wpAnyH_done (by kernel_rfl) ?_ _; refine NoPanic.normal ?_; go_wp2; refine ret_cell1 rfl rfl rfl hd9.whole Tryz.underlying35 rfl sizeCi rfl ?_; exact ChQ.err Ht.out (Ch.below_of hBz hHeld (fun k hk => by have hk : k = g10 := hk; omega) hBz.size)
     | ok m =>
      rw [hc] at hlgF hrr; have hro := hrr.symm; obtain ⟨ub, up, hlge, hub, hup⟩ := hlgF; obtain ⟨Ab, cb, rfl⟩ := hub.shape; obtain ⟨Ap, cp, rfl, _, _⟩ := hup.slShape; obtain ⟨A13, c13, rfl⟩ := own_shape ho13; obtain ⟨A14, c14, rfl⟩ := own_shapeZ ho14; obtain ⟨hmi, hf0, hf15, hr0, hr40, hs0, hs60⟩ := op_in (opof_op hro); obtain ⟨hbl, hpn, hpl⟩ := op_bd (opof_op hro); have hl39 := len_mg hmi.h (.slice Ab m.b.length cb) (.slice Ap m.ps.length cp); have c39 : wx.cell? ⟨g16, 39, none⟩ = some (.int .i64 0) := b16.cellAt 39 _ (by rw [hlge]; exact gM_err hl39 0); have c0 : wx.cell? ⟨g16, 0, none⟩ = some (.int .i64 m.k) := b16.cellAt 0 _ (by rw [hlge, gM_get hl39 0 0 (by omega)]; rfl); have c1 : wx.cell? ⟨g16, 1, none⟩ = some (.int .i64 m.f) := b16.cellAt 1 _ (by rw [hlge, gM_get hl39 0 1 (by omega)]; rfl); have c3 : wx.cell? ⟨g16, 3, none⟩ = some (.int .i64 m.r) := b16.cellAt 3 _ (by rw [hlge, gM_get hl39 0 3 (by omega)]; rfl); have hzf : ∀ (j : Nat) (y : Value), (m.l (.slice Ab m.b.length cb) (.slice Ap m.ps.length cp))[j]? = some y -> lg[0 + j]? = some y := fun j y hy => by rw [Nat.zero_add, hlge, gM_get hl39 0 j (by have := (List.getElem?_eq_some_iff.1 hy).1; rwa [hl39] at this)]; exact hy
      have hzr := fun Z (h : Below wx.heap.size wx Z) => (b16.below h).range 0 _ hzf; have hval := fun Y (h : Below wx.heap.size wx Y) => rvalid19_any ks R ⟨n, M⟩ first m uk ur _ _ _ _ _ _ Y hks (Hk.out Y (hD.trans (h.mono hD.size))) (HR.out Y (hD.trans (h.mono hD.size))) hV hmi (hub.below h) (hup.below h) (by omega) (fun X h => by have := hpl X h; omega) (by omega) ⟨by omega, by omega⟩ hfi
      unfold vw at hval; have hTe : ∀ e, TK a (X :: P.drop (i + 1)) = .error e -> T = (zCi, e) := fun e h => by rw [Htt.out, Htk.out, h]
      have h10 : m.k ≠ 5 \/ m.r ≠ reg -> T = (zCi, 10) := fun h => hTe _ (by rw [HTK.out]; exact tk_reg hro h); have h7 : ¬ (m.k ≠ 5 \/ m.r ≠ reg) -> a.any (fun t => decide (t.f = m.f)) = true -> T = (zCi, 7) := fun h h2 => hTe _ (by rw [HTK.out]; exact tk_old hro h h2); have hv0 : ¬ (m.k ≠ 5 \/ m.r ≠ reg) -> ¬ a.any (fun t => decide (t.f = m.f)) = true -> (valC ks R ⟨n, M⟩ first m).1 ≠ 0 -> T = (zCi, (valC ks R ⟨n, M⟩ first m).1) := fun h h2 h3 => hTe _ (by rw [HTK.out]; exact tk_val hro h h2 h3); have hgo : ¬ (m.k ≠ 5 \/ m.r ≠ reg) -> ¬ a.any (fun t => decide (t.f = m.f)) = true -> (valC ks R ⟨n, M⟩ first m).1 = 0 -> ∃ t : To, t.f = m.f /\ t.b = (valC ks R ⟨n, M⟩ first m).2 /\ TK [] P = TK (a ++ [t]) (P.drop (i + 1)) := fun h h2 h3 => ⟨⟨m.f, _, val_len ks R ⟨n, M⟩ first m⟩, rfl, rfl, by rw [Htk.out, HTK.out]; exact tk_go hro h h2 h3⟩
      have hd32 := val_len ks R ⟨n, M⟩ first m
      obtain ⟨VT, hVT⟩ := nm (valC ks R ⟨n, M⟩ first m); rw [<- hVT] at hval hv0 hgo hd32; obtain ⟨E, B⟩ := VT; dsimp only at hv0 hgo hd32; obtain ⟨lm, hlm⟩ := nm (m.l (.slice Ab m.b.length cb) (.slice Ap m.ps.length cp)); rw [<- hlm] at hl39 hzr hval; have H10 := hid h10; have H7 := hid h7; have Hv0 := hid hv0; have Hgo := hid hgo; have Hval := hid hval; have L39 := hid hl39; have HZ := hid hzr; have HC1 := hid (fun Z (h : Below wx.heap.size wx Z) => (h.cell (lt_of_cell c1)).trans c1); have D32 := hid hd32; clear h10 h7 hv0 hgo hval hzr hzf hl39 hd32 hTe hVT hlm hlge hrr hro Htt Htk hpl hpn hbl hub hup hmi hr0 hr40 hs0 hs60; have hBz := hB.trans (hD.mono hB.size); by_cases hk5 : m.k ≠ 5
      . have e5 : (m.k != 5) = true := bne_iff_ne.2 hk5; have Ht := hid (H10.out (.inl hk5)); clear hk5 H10 H7 Hv0 Hgo; have b10 := K10.out _ hD; have hBz := hB.trans (hD.mono hB.size); go_wp2_with (first | refine wp_bld 35 [] rfl rfl [] rfl bldC0 ?_ | (refine wp_st 35 (.tmp 10) (.tmp 69) rfl rfl rfl (f := 0) rfl (l := ciL zCi (.slice none 0 0)) rfl b10 (by exact Nat.le_refl _) sizeCi one_ci ?_; intro w9 hd9 hG9; refine wp_stop ?_)); rw [set_all (ciL zCi (.slice none 0 0)) (ciL zCi (.slice none 0 0)) rfl] at hd9; refine wp_go ?_; go_wp2; refine ret_cell1 rfl rfl rfl hd9.whole Tryz.underlying35 rfl sizeCi rfl ?_; exact ChQ.err Ht.out (hBz.grown hG9 hBz.size (sk (by omega)))
      have e5 : (m.k != 5) = false := by simpa using hk5
      by_cases hrg : m.r ≠ reg
      . have e6 : (m.r != reg) = true := bne_iff_ne.2 hrg; have Ht := hid (H10.out (.inr hrg)); clear hrg H10 H7 Hv0 Hgo; have b10 := K10.out _ hD; have hBz := hB.trans (hD.mono hB.size); go_wp2_with (first | refine wp_bld 35 [] rfl rfl [] rfl bldC0 ?_ | (refine wp_st 35 (.tmp 10) (.tmp 69) rfl rfl rfl (f := 0) rfl (l := ciL zCi (.slice none 0 0)) rfl b10 (by exact Nat.le_refl _) sizeCi one_ci ?_; intro w9 hd9 hG9; refine wp_stop ?_)); rw [set_all (ciL zCi (.slice none 0 0)) (ciL zCi (.slice none 0 0)) rfl] at hd9; refine wp_go ?_; go_wp2; refine ret_cell1 rfl rfl rfl hd9.whole Tryz.underlying35 rfl sizeCi rfl ?_; exact ChQ.err Ht.out (hBz.grown hG9 hBz.size (sk (by omega)))
      have e6 : (m.r != reg) = false := by simpa using hrg
      have hkr : ¬ (m.k ≠ 5 \/ m.r ≠ reg) := fun h => h.elim hk5 hrg; have H7 := hid (H7.out hkr); have Hv0 := hid (Hv0.out hkr); have Hgo := hid (Hgo.out hkr); clear H10 hk5 hrg hkr hBz; have hszx := hD.size; go_wp2
      go_loopw [17] (fun jv wj => ∃ j : Nat, j <= a.length /\ jv = .int .i64 j /\ Hid (∀ t ∈ a.take j, t.f ≠ m.f) /\ Below wx.heap.size wx wj) (fun j _ => a.length - (intOf j).toNat)
      case atStart => exact ⟨0, Nat.zero_le _, rfl, hid (fun t h => by simp at h), Below.refl _ _⟩
      case round =>
       obtain ⟨j, hj, rfl, Hno, hBj⟩ := hrel; obtain ⟨wj, hwj⟩ := nm (wr); subst hwj; have hDj := hD.trans (hBj.mono hszx); have hc1 : wj.cell? ⟨g16, 1, none⟩ = some (.int .i64 m.f) := (hBj.cell (lt_of_cell c1)).trans c1; by_cases hjl : j < a.length
       . have hJ : (j : Int) < (a.length : Int) := by omega
         obtain ⟨t, ht⟩ : ∃ t, a[j]? = some t := ⟨_, List.getElem?_eq_getElem hjl⟩
         obtain ⟨gw, cw', hsl, _, _, hcw'⟩ := own_cellAt (own_bel ho13 hBj) j (.int .i64 t.f) (by unfold fsT; rw [List.getElem?_map, ht]; rfl); injection hsl with hsl _ hsl2
         subst hsl hsl2; have CW : Hid (∀ Z, Ch nob wj Z -> Z.cell? ⟨gw, j, none⟩ = some (.int .i64 t.f)) := hid (fun Z h => (h.below.cell (lt_of_cell hcw')).trans hcw'); have C1 : Hid (∀ Z, Ch nob wj Z -> Z.cell? ⟨g16, 1, none⟩ = some (.int .i64 m.f)) := hid (fun Z h => (h.below.cell (lt_of_cell hc1)).trans hc1); go_upto_region 17 with (fail)
         by_cases hf : t.f = m.f
         . have ef : (t.f == m.f) = true := by rw [hf]; exact beq_self_eq_true _
           have Ht := hid (H7.out (List.any_eq_true.2 ⟨t, List.mem_of_getElem? ht, decide_eq_true hf⟩)); clear hf H7 Hv0 Hgo ht hcw'; refine wp_region_noPanic ?_; refine wp_region_held_drew (S := Ch nob wj) (by kernel_rfl) ((Ch.refl _ _).drew) (fun hHeld => ?_); refine tkP 0 rfl ?_; refine tkP 1 rfl ?_; refine tkP 2 rfl ?_; refine tkF 3 rfl CW.out ?_; refine tkP 4 rfl ?_; refine tkP 5 rfl ?_; refine tkF 6 rfl C1.out ?_; refine tkP 7 rfl ?_; refine wpAnyH_done (by kernel_rfl) ?_ _; refine NoPanic.normal ?_; have hD := hDj.trans (hHeld.below.mono hDj.size); have b10 := K10.out _ hD; have hBz := hB.trans (hD.mono hB.size); go_wp2_with (first | refine wp_bld 35 [] rfl rfl [] rfl bldC0 ?_ | (refine wp_st 35 (.tmp 10) (.tmp 84) rfl rfl rfl (f := 0) rfl (l := ciL zCi (.slice none 0 0)) rfl b10 (by exact Nat.le_refl _) sizeCi one_ci ?_; intro w9 hd9 hG9; refine wp_stop ?_)); rw [set_all (ciL zCi (.slice none 0 0)) (ciL zCi (.slice none 0 0)) rfl] at hd9; refine wp_go ?_; go_wp2; refine ret_cell1 rfl rfl rfl hd9.whole Tryz.underlying35 rfl sizeCi rfl ?_; exact ChQ.err Ht.out (hBz.grown hG9 hBz.size (sk (by omega)))
         . have ef : (t.f == m.f) = false := beq_eq_false_iff_ne.2 hf
           have Hno2 : Hid (∀ s ∈ a.take (j + 1), s.f ≠ m.f) := hid (fun s hs => by
            rw [List.take_add_one, ht] at hs; rcases List.mem_append.1 hs with hs | hs
            . exact Hno.out s hs
            . simp at hs; rw [hs]; exact hf)
           clear hf ht hcw' Hno; refine wp_region_noPanic ?_; refine wp_region_held_drew (S := Ch nob wj) (by kernel_rfl) ((Ch.refl _ _).drew) (fun hHeld => ?_); refine tkP 0 rfl ?_; refine tkP 1 rfl ?_; refine tkP 2 rfl ?_; refine tkF 3 rfl CW.out ?_; refine tkP 4 rfl ?_; refine tkP 5 rfl ?_; refine tkF 6 rfl C1.out ?_; refine tkP 7 rfl ?_; refine wpAnyH_done (by kernel_rfl) ?_ _; refine NoPanic.normal ?_; go_wp2
           go_roundw
           case rel => exact ⟨j + 1, by omega, by go_num, Hno2, hBj.trans (hHeld.below.mono hBj.size)⟩
           case measure => simp [intOf]; omega
       . have hJ : ¬ (j : Int) < (a.length : Int) := by omega
         have hjn : j = a.length := by omega
         have hany : ¬ a.any (fun t => decide (t.f = m.f)) = true := by
          rw [List.any_eq_true]; rintro ⟨t, ht, h⟩; exact Hno.out t (by rw [hjn, List.take_length]; exact ht) (of_decide_eq_true h)
         have Hv1 := hid (Hv0.out hany); have Hgo1 := hid (Hgo.out hany); have b5 := K5.out _ hDj; have b6 := K6.out _ hDj; have hz := HZ.out _ hBj; have hszj := hBj.size; clear H7 Hv0 Hgo hany Hno hc1; go_wp2_with (first | refine wp_ld 40 (.tmp 5) rfl rfl rfl b5.whole Tryz.underlying40 rfl sizeKs17 ?_ | refine wp_ld 24 (.tmp 6) rfl rfl rfl b6.whole Tryz.underlying24 rfl sizeVw17 ?_ | refine wp_ld 47 (.tmp 88) rfl rfl rfl hz Tryz.underlying47 rfl (by rw [L39.out]; exact sizeM) ?_); refine (Hval.out _ hBj).mono ?_; rintro e w5 ⟨uT, rfl, huT, hB5⟩; dsimp only at huT |-; obtain ⟨AT, cT, rfl⟩ := huT.shape; have LTz := hid (len_td D32.out (.slice AT B.b.length cT) E); clear b5 b6 hz; go_wp2_with (refine wp_newst 72 18 (.tmp 90) rfl rfl rfl rfl rfl rfl zeroTd (l := tdL B (.slice AT B.b.length cT) E) rfl (by rw [LTz.out]; rfl) (by rw [LTz.out]; exact sizeTd) one_td (by simp) ?_; intro w6 b18 hB6 hs6; refine wp_stop ?_); have hs5 := hB5.size; have hB56 := hB5.trans (hB6.mono hs5); have hBx6 := hBj.trans (hB56.mono hszj); have hD6 := hD.trans (hBx6.mono hszx); obtain ⟨g18, hg18⟩ := nm (w5.heap.size); rw [<- hg18] at b18 hs6 |-; have hg18a : w5.heap.size <= g18 := by omega
         clear hg18; have c36 := b18.cellAt 36 _ (td_e D32.out _ _); refine wp_go ?_; have HB6 := hid hB6; clear hB6 hB5; by_cases hE : E ≠ 0
         . have eE : (E != 0) = true := bne_iff_ne.2 hE; have Ht := hid (Hv1.out hE); have b10 := K10.out _ hD6; have hBz := hB.trans (hD6.mono hB.size); have hne18 : g18 ≠ g10 := by have := (K10.out w0 (Below.refl _ _)).lt; omega
           have C36 : Hid (∀ Z, Ch (only g10) w6 Z -> Z.cell? ⟨g18, 36, none⟩ = some (.int .i64 E)) := hid (fun Z h => (b18.keep (h.block g18 b18.lt hne18)).cellAt 36 _ (td_e D32.out _ _)); clear hE Hv1 Hgo1; go_upto_region 21 with (fail)
           refine wp_region_noPanic ?_; refine wp_region_held_drew (S := Ch (only g10) w6) (by kernel_rfl) ((Ch.refl _ _).drew) (fun hHeld => ?_); refine tkY 0 rfl (yi_bld (by rfl) 35 [] (by rfl) [] (by rfl) bldC0) ?_; refine tkP 1 rfl ?_; refine tkF 2 rfl C36.out ?_; refine rdH 3 rfl (fun K hK => ?_); refine step_st 35 (.tmp 10) (.tmp 94) (by rfl) (by rfl) (by rfl) (f := 0) (by rfl) (l := ciL zCi (.slice none 0 0)) (by rfl) (b10.keep rfl) (by exact Nat.le_refl _) sizeCi one_ci ?_; intro w9 hd9 hG9; rw [set_all (ciL zCi (.slice none 0 0)) (ciL zCi (.slice none 0 0)) rfl] at hd9; refine hK.out _ _ (hHeld.grow hG9 (fun k hk => .inl (by injection hk with hk; exact hk.symm))) (fun hHeld => ?_); clear hK K
           try simp only [nP]
           refine tkP 4 rfl ?_; refine wpAnyH_done (by kernel_rfl) ?_ _; refine NoPanic.normal ?_; go_wp2; refine ret_cell1 rfl rfl rfl hd9.whole Tryz.underlying35 rfl sizeCi rfl ?_; exact ChQ.err Ht.out (Ch.below_of hBz hHeld (fun k hk => by have hk : k = g10 := hk; omega) hBz.size)
         have eE : (E != 0) = false := by simpa using hE
         obtain ⟨t, htf, htb, htk⟩ := Hgo1.out (Decidable.not_not.1 hE); have Htk2 := hid htk; have Htb := hid htb; have c1' := HC1.out _ hBx6; have hzb := b18.range 0 (bdL B (.slice AT B.b.length cT)) (td_bd B _ _); have ho13' := own_bel ho13 hBx6; have ho14' := own_bel ho14 hBx6; have Htf := hid htf; clear hE Hv1 Hgo1 htk htb htf; go_wp2_with (refine wp_push (.tmp 97) (.tmp 100) 101 slI rfl rfl rfl rfl rfl (u := .int .i64 m.f) rfl rfl rfl (by simp [Act.put]) rfl ho13' (by simp only [maxLen]; omega) (by omega) hD6.size ?_; intro v7 w7 ho7 hG7 hv7; refine wp_stop ?_); have L13 : ∀ k, (Value.slice A13 a.length c13).ownBlock = some k -> w0.heap.size <= k /\ k < wx.heap.size := fun k e => ho13.lt k e; have L14 : ∀ k, (Value.slice A14 a.length c14).ownBlock = some k -> w0.heap.size <= k /\ k < wx.heap.size := fun k e => ho14.lt k e; have hsx6 := hBx6.size; have hs7 := hG7.size; have ho14' := own_keepZ ho14' (w' := w7) (fun k hk e => hG7.block k hk (fun h => Hne.out k h.symm e)); have b18 := b18.keep (hG7.block g18 hs6 (fun h => by have := (L13 g18 h.symm).2; omega)); have hzb := b18.range 0 (bdL B (.slice AT B.b.length cT)) (td_bd B _ _); have hD7 := hD6.grown hG7 hD6.size (fun k e => (L13 k e).1); have hL36 := hid (len_bd D32.out (.slice AT B.b.length cT)); have HL13 := hid L13; have HL14 := hid L14; have Hv7 := hid hv7; clear L13 L14 hv7 c1' ho13'; refine wp_go ?_; go_wp2_with (first | refine wp_ld 51 (.tmp 104) rfl rfl rfl hzb Tryz.underlying51 rfl (by rw [hL36.out]; exact sizeBd19) ?_ | (refine wp_pushW (.tmp 103) (.tmp 105) 106 slBd19 rfl rfl rfl rfl rfl (us := bdL B (.slice AT B.b.length cT)) rfl hL36.out one_bd (by simp [Act.put]) rfl ho14' (by simp only [maxLen]; omega) (by omega) hD7.size ?_; intro v8 w8 ho8 hG8 hv8; refine wp_stop ?_)); have hv7 := Hv7.out; have hs56 := HB6.out.size
         have hne8 : ∀ k, v7.ownBlock = some k -> (Value.slice A14 a.length c14).ownBlock ≠ some k := by
          intro k hk h; rcases hv7 with e | ⟨g, e, hg⟩
          . rw [e] at hk; exact Hne.out k hk h
          . rw [e] at hk; injection hk with hk
            have := (HL14.out k h).2; omega
         have hne9 : ∀ k, v7.ownBlock = some k -> v8.ownBlock ≠ some k := by
          intro k hk h; rcases hv8 with e | ⟨g, e, hg⟩
          . rw [e] at h; exact hne8 k hk h
          . rw [e] at h; injection h with h
            have := (ho7.lt k hk).2; omega
         have hwx8 : WdX w8 (fun b => w0.heap.size <= b /\ v7.ownBlock ≠ some b /\ v8.ownBlock ≠ some b) toD (a ++ [t]) (us ++ bdL B (.slice AT B.b.length cT)) := by
          refine WdX.snoc ?_ (hwx.keep (fun b hb hF => ?_))
          . rw [<- Htb.out] at huT |-; refine to_mk (huT.keep (fun b hb hF => ?_)); have h13 : (Value.slice A13 a.length c13).ownBlock ≠ some b := fun e => by have := (HL13.out b e).2; omega
            have h14 : (Value.slice A14 a.length c14).ownBlock ≠ some b := fun e => by have := (HL14.out b e).2; omega
            refine ⟨⟨by omega, ?_, ?_⟩, (hG8.block b (by omega) (fun h => h14 h.symm)).trans ((hG7.block b (by omega) (fun h => h13 h.symm)).trans (HB6.out.block b hb))⟩
            . rcases hv7 with e | ⟨g, e, hg⟩
              . rw [e]; exact h13
              . intro h; rw [e] at h; injection h with h; omega
            . rcases hv8 with e | ⟨g, e, hg⟩
              . rw [e]; exact h14
              . intro h; rw [e] at h; injection h with h; omega
          . obtain ⟨h1, h2, h3⟩ := hF; refine ⟨⟨h1, ?_, ?_⟩, (hG8.block b (by omega) (fun h => h3 h.symm)).trans ((hG7.block b (by omega) (fun h => h2 h.symm)).trans (hBx6.block b hb))⟩
            . rcases hv7 with e | ⟨g, e, hg⟩
              . rw [e]; exact h2
              . intro h; rw [e] at h; injection h with h; omega
            . rcases hv8 with e | ⟨g, e, hg⟩
              . rw [e]; exact h3
              . intro h; rw [e] at h; injection h with h; omega
         have ho7' := own_keepZ ho7 (w' := w8) (fun k hk e => hG8.block k hk (fun h => hne8 k e h.symm)); have hD8 := hD7.grown hG8 hD7.size (fun k e => (HL14.out k e).1); have hfs : fsT (a ++ [t]) = fsT a ++ [.int .i64 m.f] := by unfold fsT; rw [List.map_append, <- Htf.out]; rfl
         have Hfs := hid hfs; have Hn9 := hid hne9; clear hfs hne9 hne8 hv7 hv8 hG7 hG8 ho7 ho14' b18 hzb huT hwx; refine wp_go ?_; go_wp2
         go_roundw
         case rel => exact ⟨i + 1, a ++ [t], us ++ bdL B (.slice AT B.b.length cT), by omega, by rw [List.length_append, Hai.out]; rfl, by go_num, Htk2, by rw [List.length_append, Hfs.out]; exact ho7', by rw [List.length_append]; exact ho8, hwx8, Hn9, hD8⟩
         case measure => simp [intOf]; omega
  . have hno : ¬ (i : Int) < (P.length : Int) := by omega
    have htk : TK [] P = .ok a := by rw [Htk.out, List.drop_of_length_le (by omega), HTK.out]; rfl
    have Ht : Hid (T = (folC a, 0)) := hid (by rw [Htt.out, htk]); have ha0 : 0 < a.length := by have := Hai.out; omega
    obtain ⟨gl, cl, hsl, hgl, hgls, hrow⟩ := row_to ho14 hwx ha0; subst hsl; obtain ⟨t0, ht0⟩ : ∃ t, a[0]? = some t := ⟨_, List.getElem?_eq_getElem ha0⟩
    have k0 : wr.cell? ⟨gl, 0, none⟩ = some (.int .i64 t0.b.l) := by
     obtain ⟨ub, h1, _⟩ := hrow 0 t0 ht0; have := h1 0 _ (bd_l t0.b ub); simpa using this
    have Hrow := hid hrow; have hszr := hD.size; obtain ⟨gw, cw', hsw, _, hgwl, _⟩ := own_cellAt ho13 0 (.int .i64 t0.f) (by unfold fsT; rw [List.getElem?_map, ht0]; rfl); subst hsw; have ha0I : (0 : Int) < (a.length : Int) := by omega
    obtain ⟨L0, hL0⟩ := nm (t0.b.l); rw [<- hL0] at k0; have HL0 := hid hL0; have HT0 := hid ht0; clear Htt Htk htk hrow hL0 ht0 hgls; have hbc := bldC1 L0; go_wp2_with (first | refine wp_bld 35 [(0, .tmp 111)] rfl rfl [(0, .int .i64 L0)] rfl hbc ?_ | (refine wp_newst 35 19 (.tmp 112) rfl rfl rfl rfl rfl rfl zeroCi (l := ciL ⟨L0, false, z32, []⟩ (.slice none 0 0)) rfl rfl sizeCi one_ci (by simp [Act.put]) ?_; intro w2 b19 hB2 hs2; refine wp_stop ?_)); have hBr2 := hB2; have hD2 := hD.trans (hB2.mono hszr); obtain ⟨g19, hg19⟩ := nm (wr.heap.size); rw [<- hg19] at b19 hs2 |-; have hg19a : w0.heap.size <= g19 := by omega
    have hgl19 : gl ≠ g19 := by have := lt_of_cell k0; omega
    have hg19b : wr.heap.size <= g19 := by omega
    have hszw2 := hB2.size; clear hg19
    have HK : Hid (∀ Z, Ch (only g19) w2 Z -> ∀ (j : Nat) (t : To), a[j]? = some t -> ∃ ub, Z.rangeAt gl (j * 36) (bdL t.b ub) /\ Rd Z (fun b => w0.heap.size <= b /\ b < wr.heap.size) ub (bys t.b.b)) := hid (fun Z h => by
     have e : ∀ b, b < wr.heap.size -> Z.heap[b]? = wr.heap[b]? := fun b hb => (h.block b (by omega) (fun e => by have e : b = g19 := e; omega)).trans (hB2.block b hb); obtain ⟨g, c, h1, _, _, h4⟩ := row_to (own_keepZ ho14 (w' := Z) (fun k hk _ => e k hk)) (hwx.keep (F' := fun b => w0.heap.size <= b /\ b < wr.heap.size) (fun b hb hF => ⟨⟨hF.1, hb⟩, e b hb⟩)) ha0; injection h1 with h1
     injection h1 with h1
     injection h1 with h1
     subst h1; exact h4)
    have HW : Hid (∀ Z, Ch (only g19) w2 Z -> Z.ownsRow w0.heap.size 3 1 (.slice (some ⟨gw, 0, none⟩) a.length cw') a.length (fsT a)) := hid (fun Z h => own_keepZ ho13 (w' := Z) (fun k hk _ => (h.block k (by omega) (fun e => by have e : k = g19 := e; omega)).trans (hB2.block k hk))); have hsw2 : wr.heap.size < w2.heap.size := by omega
    clear Hrow ho13 ho14 hwx hB2 hBr2 hbc k0; refine wp_go ?_; go_wp2
    go_loopw [20] (fun jv wj => ∃ j : Nat, j <= a.length /\ jv = .int .i64 j /\ Blk wj g19 35 (ciL ⟨lasC L0 (a.take j), false, z32, []⟩ (.slice none 0 0)) /\ Ch (only g19) w2 wj) (fun j _ => a.length - (intOf j).toNat)
    case atStart => exact ⟨0, Nat.zero_le _, rfl, b19, Ch.refl _ _⟩
    case round =>
     clear b19; obtain ⟨j, hj, rfl, b19, hC⟩ := hrel; obtain ⟨wj, hwj⟩ := nm (wr); by_cases hjl : j < a.length
     . have hJ : (j : Int) < (a.length : Int) := by omega
       obtain ⟨t, ht⟩ : ∃ t, a[j]? = some t := ⟨_, List.getElem?_eq_getElem hjl⟩
       subst hwj
       have CL : Hid (∀ Z, Ch nob wj Z -> Z.cell? ⟨gl, j * 36, none⟩ = some (.int .i64 t.b.l)) := hid (fun Z h => by
        obtain ⟨ub, h1, _⟩ := HK.out Z (hC.belowR h.below) j t ht; have := h1 0 _ (bd_l t.b ub)
        rwa [Nat.add_zero] at this)
       have C19 : Hid (∀ Z, Ch nob wj Z -> Z.cell? ⟨g19, 0, none⟩ = some (.int .i64 (lasC L0 (a.take j)))) := hid (fun Z h => (b19.below h.below).cellAt 0 _ rfl); have HN := hid (las_next (c := L0) ht); obtain ⟨L1, hL1⟩ := nm (lasC L0 (a.take j)); rw [<- hL1] at b19 C19 HN; have kl := CL.out wj (Ch.refl _ _); clear hL1 ht; go_upto_region 28 with (fail)
       by_cases hgt : t.b.l > L1
       . have Hn2 := hid (HN.out.trans (if_pos hgt)); refine wp_region_noPanic ?_; refine wp_region_held_drew (S := Ch nob wj) (by kernel_rfl) ((Ch.refl _ _).drew) (fun hHeld => ?_); refine tkP 0 rfl ?_; refine tkP 1 rfl ?_; refine tkP 2 rfl ?_; refine tkP 3 rfl ?_; refine tkF 4 rfl CL.out ?_; refine tkP 5 rfl ?_; refine tkF 6 rfl C19.out ?_; refine tkP 7 rfl ?_; refine wpAnyH_done (by kernel_rfl) ?_ _; refine NoPanic.normal ?_; have b19 := b19.below hHeld.below; have kl := CL.out _ hHeld; have hC2 := hC.belowR hHeld.below; go_wp2_with (refine wp_st1 3 (.tmp 132) (.tmp 131) rfl rfl rfl (f := 0) rfl (v := .int .i64 t.b.l) rfl b19 (by show 0 < 35; omega) sizeI7 rfl rfl ?_; intro w8 b19' hG8; refine wp_stop ?_); rw [ci_set0] at b19'; have hC3 := hC2.grow hG8 (fun k hk => .inl (by injection hk with hk; exact hk.symm)); refine wp_go ?_; go_wp2
         go_roundw
         case rel => exact ⟨j + 1, by omega, by go_num, by rw [Hn2.out]; exact b19', hC3⟩
         case measure => simp [intOf]; omega
       . have Hn2 := hid (HN.out.trans (if_neg hgt)); refine wp_region_noPanic ?_; refine wp_region_held_drew (S := Ch nob wj) (by kernel_rfl) ((Ch.refl _ _).drew) (fun hHeld => ?_); refine tkP 0 rfl ?_; refine tkP 1 rfl ?_; refine tkP 2 rfl ?_; refine tkP 3 rfl ?_; refine tkF 4 rfl CL.out ?_; refine tkP 5 rfl ?_; refine tkF 6 rfl C19.out ?_; refine tkP 7 rfl ?_; refine wpAnyH_done (by kernel_rfl) ?_ _; refine NoPanic.normal ?_; have b19 := b19.below hHeld.below; go_wp2
         go_roundw
         case rel => exact ⟨j + 1, by omega, by go_num, by rw [Hn2.out]; exact b19, hC.belowR hHeld.below⟩
         case measure => simp [intOf]; omega
     . have hJ : ¬ (j : Int) < (a.length : Int) := by omega
       have hja : j = a.length := by omega
       have htake : a.take j = a := by rw [hja, List.take_length]
       rw [htake] at b19; obtain ⟨LC, hLC⟩ := nm (lasC L0 a); rw [<- hLC] at b19; have HLC := hid hLC; subst hwj; have HK2 := HK; have HK := hid (fun Z (h : Ch nob wj Z) => HK.out Z (hC.belowR h.below)); have HW := hid (fun Z (h : Ch nob wj Z) => HW.out Z (hC.belowR h.below)); have hD3 := Ch.below_of hD2 hC (fun k hk => by have hk : k = g19 := hk; omega) hD2.size; have B19 := hid (fun Z (h : Ch nob wj Z) => b19.below h.below); clear hLC htake hja; go_wp2
       go_loopw [21, 22] (fun bv jv wk => ∃ (j : Nat) (b : Int), j <= a.length /\ jv = .int .i64 j /\ bv = .int .i64 b /\ Hid (b = bsI (besC a LC j)) /\ Ch nob wj wk) (fun _ j _ => a.length - (intOf j).toNat)
       case atStart => exact ⟨0, -1, Nat.zero_le _, rfl, rfl, hid rfl, Ch.refl _ _⟩
       case round =>
        clear b19; obtain ⟨j, b, hj, rfl, rfl, Hb0, hCk⟩ := hrel; obtain ⟨wk, hwk⟩ := nm (wr); subst hwk; by_cases hjl : j < a.length
        . have hJ : (j : Int) < (a.length : Int) := by omega
          obtain ⟨t, ht⟩ : ∃ t, a[j]? = some t := ⟨_, List.getElem?_eq_getElem hjl⟩
          have CL : Hid (∀ Z, Ch nob wk Z -> Z.cell? ⟨gl, j * 36, none⟩ = some (.int .i64 t.b.l)) := hid (fun Z h => by
           obtain ⟨ub, h1, _⟩ := HK.out Z (hCk.belowR h.below) j t ht; have := h1 0 _ (bd_l t.b ub)
           rwa [Nat.add_zero] at this)
          have CH : Hid (∀ Z, Ch nob wk Z -> Z.cell? ⟨gl, j * 36 + 1, none⟩ = some (.bool t.b.h)) := hid (fun Z h => by
           obtain ⟨ub, h1, _⟩ := HK.out Z (hCk.belowR h.below) j t ht; exact h1 1 _ (bd_h t.b ub))
          have C19 : Hid (∀ Z, Ch nob wk Z -> Z.cell? ⟨g19, 0, none⟩ = some (.int .i64 LC)) := hid (fun Z h => (B19.out Z (hCk.belowR h.below)).cellAt 0 _ rfl); have Hbn := hid (bes_next (c := LC) ht); have Hat := hid ht; clear ht; go_upto_region 34 with (fail)
          by_cases hl : t.b.l = LC
          . have el : (t.b.l != LC) = false := by rw [hl]; exact bneI rfl
            cases hh : t.b.h with
            | false =>
             have Hn : Hid (besC a LC (j + 1) = besC a LC j) := hid (Hbn.out.trans (if_neg (by unfold wanC; rw [hh]; simp))); have CH : Hid (∀ Z, Ch nob wk Z -> Z.cell? ⟨gl, j * 36 + 1, none⟩ = some (.bool false)) := hid (fun Z h => by rw [<- hh]; exact CH.out Z h); have Hz : Hid (Ch nob wk wk) := hid (Ch.refl _ _); clear hh; refine wp_region_noPanic ?_; refine wp_region_held_drew (S := Ch nob wk) (by kernel_rfl) ((Ch.refl _ _).drew) (fun hHeld => ?_); refine tkP 0 rfl ?_; refine tkP 1 rfl ?_; refine tkP 2 rfl ?_; refine tkP 3 rfl ?_; refine tkF 4 rfl CL.out ?_; refine tkP 5 rfl ?_; refine tkF 6 rfl C19.out ?_; refine tkP 7 rfl ?_; refine tkP 8 rfl ?_; refine tkP 9 rfl ?_; refine tkP 10 rfl ?_; refine tkP 11 rfl ?_; refine tkP 12 rfl ?_; refine tkF 13 rfl CH.out ?_; refine tkP 14 rfl ?_; refine tkP 15 rfl ?_; refine wpAnyH_done (by kernel_rfl) ?_ _; refine NoPanic.normal ?_; go_wp2
             go_roundw
             case rel => exact ⟨j + 1, b, by omega, by go_num, by go_num, hid (by rw [Hn.out]; exact Hb0.out), (hCk.belowR Hz.out.below).belowR hHeld.below⟩
             case measure => simp [intOf]; omega
            | true =>
             have hw : wanC LC t = true := by unfold wanC; rw [hh, decide_eq_true hl]; rfl
             have Hw := hid hw; have CH : Hid (∀ Z, Ch nob wk Z -> Z.cell? ⟨gl, j * 36 + 1, none⟩ = some (.bool true)) := hid (fun Z h => by rw [<- hh]; exact CH.out Z h); clear hh hw; refine wp_region_noPanic ?_; refine wp_region_held_drew (S := Ch nob wk) (by kernel_rfl) ((Ch.refl _ _).drew) (fun hHeld => ?_); refine tkP 0 rfl ?_; refine tkP 1 rfl ?_; refine tkP 2 rfl ?_; refine tkP 3 rfl ?_; refine tkF 4 rfl CL.out ?_; refine tkP 5 rfl ?_; refine tkF 6 rfl C19.out ?_; refine tkP 7 rfl ?_; refine tkP 8 rfl ?_; refine tkP 9 rfl ?_; refine tkP 10 rfl ?_; refine tkP 11 rfl ?_; refine tkP 12 rfl ?_; refine tkF 13 rfl CH.out ?_; refine tkP 14 rfl ?_; refine tkP 15 rfl ?_; refine wpAnyH_done (by kernel_rfl) ?_ _; refine NoPanic.normal ?_; obtain ⟨wz, hwz, hz⟩ : ∃ z, z = _ /\ Ch nob wk z := ⟨_, rfl, hHeld⟩
             rw [<- hwz]; have Hz := hid hz; clear hwz hHeld hz; have HKz := hid (fun Z (h : Ch nob wz Z) => HK.out Z ((hCk.belowR Hz.out.below).belowR h.below)); have HWz := hid (fun Z (h : Ch nob wz Z) => HW.out Z ((hCk.belowR Hz.out.below).belowR h.below))
             have CR : Hid (∀ Z, Ch nob wz Z -> Z.cell? ⟨gl, j * 36 + 2, none⟩ = some (.int .i64 t.b.r)) := hid (fun Z h => by
              obtain ⟨ub, h1, _⟩ := HKz.out Z h j t Hat.out; exact h1 2 _ (bd_r t.b ub))
             have CF : Hid (∀ Z, Ch nob wz Z -> Z.cell? ⟨gw, j, none⟩ = some (.int .i64 t.f)) := hid (fun Z h => by
              obtain ⟨g, c, h1, _, _, h2⟩ := own_cellAt (HWz.out Z h) j (.int .i64 t.f) (by unfold fsT; rw [List.getElem?_map, Hat.out]; rfl); injection h1 with h1
              injection h1 with h1
              injection h1 with h1
              subst h1; exact h2)
             obtain ⟨bs, hbs⟩ := nm (besC a LC j); have hb0 := Hb0.out; have hbn := Hbn.out; rw [<- hbs] at hb0 hbn; have Hbn := hid hbn; have Hbs := hid hbs; clear hbn hbs; cases bs with
             | none =>
              have hb1 : b = -1 := hb0; clear hb0; subst hb1; have Hn : Hid (besC a LC (j + 1) = some j) := hid (Hbn.out.trans (if_pos (by rw [Hw.out]; rfl))); go_upto_region 35 with (fail)
              refine wp_region_noPanic ?_; refine wp_region_held_drew (S := Ch nob wz) (by kernel_rfl) ((Ch.refl _ _).drew) (fun hHeld => ?_); refine tkP 0 rfl ?_; refine tkP 1 rfl ?_; refine tkP 2 rfl ?_; refine tkS 3 rfl ?_; refine tkS 4 rfl ?_; refine tkS 5 rfl ?_; refine tkS 6 rfl ?_; refine tkS 7 rfl ?_; refine tkS 8 rfl ?_; refine tkS 9 rfl ?_; refine tkS 10 rfl ?_; refine tkS 11 rfl ?_; refine tkS 12 rfl ?_; refine tkS 13 rfl ?_; refine tkP 14 rfl ?_; refine tkP 15 rfl ?_; refine tkS 16 rfl ?_; refine tkS 17 rfl ?_; refine tkS 18 rfl ?_; refine tkS 19 rfl ?_; refine tkS 20 rfl ?_; refine tkS 21 rfl ?_; refine tkS 22 rfl ?_; refine tkS 23 rfl ?_; refine tkS 24 rfl ?_; refine tkS 25 rfl ?_; refine tkS 26 rfl ?_; refine tkS 27 rfl ?_; refine tkS 28 rfl ?_; refine tkS 29 rfl ?_; refine tkS 30 rfl ?_; refine tkS 31 rfl ?_; refine tkS 32 rfl ?_; refine tkS 33 rfl ?_; refine tkS 34 rfl ?_; refine tkS 35 rfl ?_; refine tkS 36 rfl ?_; refine tkS 37 rfl ?_; refine tkP 38 rfl ?_; refine wpAnyH_done (by kernel_rfl) ?_ _; refine NoPanic.normal ?_; go_wp2
              go_roundw
              case rel => exact ⟨j + 1, (j : Int), by omega, by go_num, by go_num, hid (by rw [Hn.out]; rfl), (hCk.belowR Hz.out.below).belowR hHeld.below⟩
              case measure => simp [intOf]; omega
             | some q =>
              have hb1 : b = (q : Int) := hb0; clear hb0; subst hb1; obtain ⟨hqj, s, hs, _⟩ := bes_lt Hbs.out.symm; have hqa : q < a.length := by omega
              have hqI : (q : Int) < (a.length : Int) := by omega
              have hq0 : ¬ (q : Int) < 0 := by omega
              have CQ : Hid (∀ Z, Ch nob wz Z -> Z.cell? ⟨gl, q * 36 + 2, none⟩ = some (.int .i64 s.b.r)) := hid (fun Z h => by
               obtain ⟨ub, h1, _⟩ := HKz.out Z h q s hs; exact h1 2 _ (bd_r s.b ub))
              have CG : Hid (∀ Z, Ch nob wz Z -> Z.cell? ⟨gw, q, none⟩ = some (.int .i64 s.f)) := hid (fun Z h => by
               obtain ⟨g, c, h1, _, _, h2⟩ := own_cellAt (HWz.out Z h) q (.int .i64 s.f) (by unfold fsT; rw [List.getElem?_map, hs]; rfl); injection h1 with h1
               injection h1 with h1
               injection h1 with h1
               subst h1; exact h2)
              have hbt : betC a t (some q) = (decide (t.b.r > s.b.r) || (decide (t.b.r = s.b.r) && decide (t.f < s.f))) := by unfold betC; dsimp only; rw [hs]
              have Hbt := hid hbt; clear hs hbt; go_upto_region 35 with (fail)
              by_cases hr : t.b.r > s.b.r
              . have Hn : Hid (besC a LC (j + 1) = some j) := hid (Hbn.out.trans (if_pos (by rw [Hw.out, Hbt.out, decide_eq_true hr]; rfl))); refine wp_region_noPanic ?_; refine wp_region_held_drew (S := Ch nob wz) (by kernel_rfl) ((Ch.refl _ _).drew) (fun hHeld => ?_); refine tkP 0 rfl ?_; refine tkP 1 rfl ?_; refine tkP 2 rfl ?_; refine tkP 3 rfl ?_; refine tkP 4 rfl ?_; refine tkP 5 rfl ?_; refine tkP 6 rfl ?_; refine tkF 7 rfl CR.out ?_; refine tkP 8 rfl ?_; refine tkP 9 rfl ?_; refine tkP 10 rfl ?_; refine tkP 11 rfl ?_; refine tkF 12 rfl CQ.out ?_; refine tkP 13 rfl ?_; refine tkP 14 rfl ?_; refine tkP 15 rfl ?_; refine tkS 16 rfl ?_; refine tkS 17 rfl ?_; refine tkS 18 rfl ?_; refine tkS 19 rfl ?_; refine tkS 20 rfl ?_; refine tkS 21 rfl ?_; refine tkS 22 rfl ?_; refine tkS 23 rfl ?_; refine tkS 24 rfl ?_; refine tkS 25 rfl ?_; refine tkS 26 rfl ?_; refine tkS 27 rfl ?_; refine tkS 28 rfl ?_; refine tkS 29 rfl ?_; refine tkS 30 rfl ?_; refine tkS 31 rfl ?_; refine tkS 32 rfl ?_; refine tkS 33 rfl ?_; refine tkS 34 rfl ?_; refine tkS 35 rfl ?_; refine tkS 36 rfl ?_; refine tkS 37 rfl ?_; refine tkP 38 rfl ?_; refine wpAnyH_done (by kernel_rfl) ?_ _; refine NoPanic.normal ?_; go_wp2
                go_roundw
                case rel => exact ⟨j + 1, (j : Int), by omega, by go_num, by go_num, hid (by rw [Hn.out]; rfl), (hCk.belowR Hz.out.below).belowR hHeld.below⟩
                case measure => simp [intOf]; omega
              . by_cases he : t.b.r = s.b.r
                . have ee : (t.b.r == s.b.r) = true := by rw [he]; exact beq_self_eq_true _
                  by_cases hf : t.f < s.f
                  . have Hn : Hid (besC a LC (j + 1) = some j) := hid (Hbn.out.trans (if_pos (by rw [Hw.out, Hbt.out, decide_eq_true he, decide_eq_true hf]; simp))); clear he; refine wp_region_noPanic ?_; refine wp_region_held_drew (S := Ch nob wz) (by kernel_rfl) ((Ch.refl _ _).drew) (fun hHeld => ?_); refine tkP 0 rfl ?_; refine tkP 1 rfl ?_; refine tkP 2 rfl ?_; refine tkP 3 rfl ?_; refine tkP 4 rfl ?_; refine tkP 5 rfl ?_; refine tkP 6 rfl ?_; refine tkF 7 rfl CR.out ?_; refine tkP 8 rfl ?_; refine tkP 9 rfl ?_; refine tkP 10 rfl ?_; refine tkP 11 rfl ?_; refine tkF 12 rfl CQ.out ?_; refine tkP 13 rfl ?_; refine tkP 14 rfl ?_; refine tkP 15 rfl ?_; refine tkP 16 rfl ?_; refine tkP 17 rfl ?_; refine tkP 18 rfl ?_; refine tkP 19 rfl ?_; refine tkF 20 rfl CR.out ?_; refine tkP 21 rfl ?_; refine tkP 22 rfl ?_; refine tkP 23 rfl ?_; refine tkP 24 rfl ?_; refine tkF 25 rfl CQ.out ?_; refine tkP 26 rfl ?_; refine tkP 27 rfl ?_; refine tkP 28 rfl ?_; refine tkP 29 rfl ?_; refine tkP 30 rfl ?_; refine tkF 31 rfl CF.out ?_; refine tkP 32 rfl ?_; refine tkP 33 rfl ?_; refine tkP 34 rfl ?_; refine tkF 35 rfl CG.out ?_; refine tkP 36 rfl ?_; refine tkP 37 rfl ?_; refine tkP 38 rfl ?_; refine wpAnyH_done (by kernel_rfl) ?_ _; refine NoPanic.normal ?_; go_wp2
                    go_roundw
                    case rel => exact ⟨j + 1, (j : Int), by omega, by go_num, by go_num, hid (by rw [Hn.out]; rfl), (hCk.belowR Hz.out.below).belowR hHeld.below⟩
                    case measure => simp [intOf]; omega
                  . have Hn : Hid (besC a LC (j + 1) = some q) := hid (Hbn.out.trans (if_neg (by rw [Hw.out, Hbt.out, decide_eq_false hr, decide_eq_false hf]; simp))); clear he; refine wp_region_noPanic ?_; refine wp_region_held_drew (S := Ch nob wz) (by kernel_rfl) ((Ch.refl _ _).drew) (fun hHeld => ?_); refine tkP 0 rfl ?_; refine tkP 1 rfl ?_; refine tkP 2 rfl ?_; refine tkP 3 rfl ?_; refine tkP 4 rfl ?_; refine tkP 5 rfl ?_; refine tkP 6 rfl ?_; refine tkF 7 rfl CR.out ?_; refine tkP 8 rfl ?_; refine tkP 9 rfl ?_; refine tkP 10 rfl ?_; refine tkP 11 rfl ?_; refine tkF 12 rfl CQ.out ?_; refine tkP 13 rfl ?_; refine tkP 14 rfl ?_; refine tkP 15 rfl ?_; refine tkP 16 rfl ?_; refine tkP 17 rfl ?_; refine tkP 18 rfl ?_; refine tkP 19 rfl ?_; refine tkF 20 rfl CR.out ?_; refine tkP 21 rfl ?_; refine tkP 22 rfl ?_; refine tkP 23 rfl ?_; refine tkP 24 rfl ?_; refine tkF 25 rfl CQ.out ?_; refine tkP 26 rfl ?_; refine tkP 27 rfl ?_; refine tkP 28 rfl ?_; refine tkP 29 rfl ?_; refine tkP 30 rfl ?_; refine tkF 31 rfl CF.out ?_; refine tkP 32 rfl ?_; refine tkP 33 rfl ?_; refine tkP 34 rfl ?_; refine tkF 35 rfl CG.out ?_; refine tkP 36 rfl ?_; refine tkP 37 rfl ?_; refine tkP 38 rfl ?_; refine wpAnyH_done (by kernel_rfl) ?_ _; refine NoPanic.normal ?_; go_wp2
                    go_roundw
                    case rel => exact ⟨j + 1, (q : Int), by omega, by go_num, by go_num, hid (by rw [Hn.out]; rfl), (hCk.belowR Hz.out.below).belowR hHeld.below⟩
                    case measure => simp [intOf]; omega
                . have ee : (t.b.r == s.b.r) = false := beq_eq_false_iff_ne.2 he; have Hn : Hid (besC a LC (j + 1) = some q) := hid (Hbn.out.trans (if_neg (by rw [Hw.out, Hbt.out, decide_eq_false hr, decide_eq_false he]; simp))); clear he; refine wp_region_noPanic ?_; refine wp_region_held_drew (S := Ch nob wz) (by kernel_rfl) ((Ch.refl _ _).drew) (fun hHeld => ?_); refine tkP 0 rfl ?_; refine tkP 1 rfl ?_; refine tkP 2 rfl ?_; refine tkP 3 rfl ?_; refine tkP 4 rfl ?_; refine tkP 5 rfl ?_; refine tkP 6 rfl ?_; refine tkF 7 rfl CR.out ?_; refine tkP 8 rfl ?_; refine tkP 9 rfl ?_; refine tkP 10 rfl ?_; refine tkP 11 rfl ?_; refine tkF 12 rfl CQ.out ?_; refine tkP 13 rfl ?_; refine tkP 14 rfl ?_; refine tkP 15 rfl ?_; refine tkP 16 rfl ?_; refine tkP 17 rfl ?_; refine tkP 18 rfl ?_; refine tkP 19 rfl ?_; refine tkF 20 rfl CR.out ?_; refine tkP 21 rfl ?_; refine tkP 22 rfl ?_; refine tkP 23 rfl ?_; refine tkP 24 rfl ?_; refine tkF 25 rfl CQ.out ?_; refine tkP 26 rfl ?_; refine tkP 27 rfl ?_; refine tkS 28 rfl ?_; refine tkS 29 rfl ?_; refine tkS 30 rfl ?_; refine tkS 31 rfl ?_; refine tkS 32 rfl ?_; refine tkS 33 rfl ?_; refine tkS 34 rfl ?_; refine tkS 35 rfl ?_; refine tkS 36 rfl ?_; refine tkP 37 rfl ?_; refine tkP 38 rfl ?_; refine wpAnyH_done (by kernel_rfl) ?_ _; refine NoPanic.normal ?_; go_wp2
                  go_roundw
                  case rel => exact ⟨j + 1, (q : Int), by omega, by go_num, by go_num, hid (by rw [Hn.out]; rfl), (hCk.belowR Hz.out.below).belowR hHeld.below⟩
                  case measure => simp [intOf]; omega
          . have el : (t.b.l != LC) = true := bneN hl; have Hn : Hid (besC a LC (j + 1) = besC a LC j) := hid (Hbn.out.trans (if_neg (by unfold wanC; rw [decide_eq_false hl]; simp))); have Hz : Hid (Ch nob wk wk) := hid (Ch.refl _ _); clear hl; refine wp_region_noPanic ?_; refine wp_region_held_drew (S := Ch nob wk) (by kernel_rfl) ((Ch.refl _ _).drew) (fun hHeld => ?_); refine tkP 0 rfl ?_; refine tkP 1 rfl ?_; refine tkP 2 rfl ?_; refine tkP 3 rfl ?_; refine tkF 4 rfl CL.out ?_; refine tkP 5 rfl ?_; refine tkF 6 rfl C19.out ?_; refine tkP 7 rfl ?_; refine tkP 8 rfl ?_; refine tkS 9 rfl ?_; refine tkS 10 rfl ?_; refine tkS 11 rfl ?_; refine tkS 12 rfl ?_; refine tkS 13 rfl ?_; refine tkS 14 rfl ?_; refine tkP 15 rfl ?_; refine wpAnyH_done (by kernel_rfl) ?_ _; refine NoPanic.normal ?_; go_wp2
            go_roundw
            case rel => exact ⟨j + 1, b, by omega, by go_num, by go_num, hid (by rw [Hn.out]; exact Hb0.out), (hCk.belowR Hz.out.below).belowR hHeld.below⟩
            case measure => simp [intOf]; omega
        . have hJ : ¬ (j : Int) < (a.length : Int) := by omega
          have hja : j = a.length := by omega
          subst hja; have hfol := fol_eq HT0.out; rw [<- HL0.out, <- HLC.out] at hfol; have hD4 := hD3.trans (hCk.below.mono hD3.size); have b19 := B19.out _ hCk; have b10 := K10.out _ hD4; have hBz := hB.trans (hD4.mono hB.size); obtain ⟨bs, hbs⟩ := nm (besC a LC a.length); have hb0 := Hb0.out; rw [<- hbs] at hb0 hfol; have Hbs := hid hbs; clear hbs Hb0; have hg1910 : g19 ≠ g10 := by have := (K10.out w0 (Below.refl _ _)).lt; omega
          cases bs with
          | none =>
           have hb1 : b = -1 := hb0; clear hb0; subst hb1; have Ht2 : Hid (T = (⟨LC, false, z32, []⟩, 0)) := hid (by rw [Ht.out, hfol]); clear hfol Ht; go_wp2_with (first | refine wp_ld 35 (.tmp 19) rfl rfl rfl b19.whole Tryz.underlying35 rfl sizeCi ?_ | (refine wp_st 35 (.tmp 10) (.tmp 210) rfl rfl rfl (f := 0) rfl (l := ciL ⟨LC, false, z32, []⟩ (.slice none 0 0)) rfl b10 (by exact Nat.le_refl _) sizeCi one_ci ?_; intro w9 hd9 hG9; refine wp_stop ?_)); rw [set_all (ciL zCi (.slice none 0 0)) (ciL ⟨LC, false, z32, []⟩ (.slice none 0 0)) rfl] at hd9; refine wp_go ?_; go_wp2; refine ret_cell1 rfl rfl rfl hd9.whole Tryz.underlying35 rfl sizeCi rfl ?_; rw [Ht2.out]; exact ⟨_, rfl, Rd.nil _ _, hBz.grown hG9 hBz.size (sk (by omega))⟩
          | some q =>
           have hb1 : b = (q : Int) := hb0; clear hb0; subst hb1; obtain ⟨hqj, s, hs, _⟩ := bes_lt Hbs.out.symm; have hqI : (q : Int) < (a.length : Int) := by omega
           have hq0 : (q : Int) >= 0 := by omega
           have Ht2 : Hid (T = (⟨LC, true, s.b.d, s.b.b⟩, 0)) := hid (by rw [Ht.out, hfol]; dsimp only; rw [hs]); have LS : (bvs s.b.d).length = 32 := by rw [len_bvs]; exact s.hh
           have lg10 := (K10.out w0 (Below.refl _ _)).lt; have hCx := hC.belowR hCk.below; have Hs := hid hs; clear hfol Ht hs b10; go_wp2_with (refine wp_st1 4 (.tmp 197) (.const (.bool true)) rfl rfl rfl (f := 1) rfl (v := .bool true) rfl b19 (by show 1 < 35; omega) sizeBo19 rfl rfl ?_; intro y5 b5' hG5; refine wp_stop ?_); rw [ci_set1] at b5'; have hC5 := hCx.grow hG5 (fun k hk => .inl (by injection hk with hk; exact hk.symm)); obtain ⟨ub5, hrg5, _⟩ := HK2.out _ hC5 q s Hs.out
           have hrh : y5.rangeAt gl (q * 36 + 3) (bvs s.b.d) := fun i v hv => by
            have := hrg5 (3 + i) v (bd_d s.b _ i v hv)
            rwa [<- Nat.add_assoc] at this
           clear hG5 hrg5; refine wp_go ?_; go_wp2_with (first | refine wp_ld 32 (.tmp 201) rfl rfl rfl hrh Tryz.underlying32 rfl (by rw [LS]; exact size25) ?_ | (refine wp_st 32 (.tmp 203) (.tmp 202) rfl rfl rfl (f := 2) rfl (l := bvs s.b.d) rfl b5' (by rw [LS]; show 2 + 32 <= 35; omega) (by rw [LS]; exact size25) (oneCell_bvs _) ?_; intro y6 b6' hG6; refine wp_stop ?_)); rw [ci_hash _ _ _ _ _ _ rfl s.hh] at b6'; have hC6 := hC5.grow hG6 (fun k hk => .inl (by injection hk with hk; exact hk.symm)); obtain ⟨ub6, hrg6, hub6⟩ := HK2.out _ hC6 q s Hs.out; obtain ⟨A6, c6, rfl⟩ := hub6.shape; have k35 : y6.cell? ⟨gl, q * 36 + 35, none⟩ = some (.slice A6 s.b.b.length c6) := hrg6 35 _ (bd_b s.hh _); clear hG6 hrh hrg6 b5'; refine wp_go ?_; go_wp2_with (refine wp_st1 33 (.tmp 209) (.tmp 208) rfl rfl rfl (f := 34) rfl (v := .slice A6 s.b.b.length c6) rfl b6' (by rw [len_ci (x := ⟨LC, true, s.b.d, []⟩) s.hh]; omega) sizeSl19 rfl rfl ?_; intro y7 b7' hG7; refine wp_stop ?_); rw [ci_set34 _ _ _ _ s.b.b _ _ s.hh] at b7'; have hC7 := hC6.grow hG7 (fun k hk => .inl (by injection hk with hk; exact hk.symm)); have hub7 := hub6.keep (F' := fun b => w0.heap.size <= b /\ b < g19) (w' := y7) (fun b hb hF => ⟨⟨hF.1, by have := hF.2; omega⟩, hG7.block b hb (fun h => by injection h with h; have := hF.2; omega)⟩); have hD7 := Ch.below_of hD2 hC7 (fun k hk => by have hk : k = g19 := hk; omega) hD2.size; have b10 := K10.out _ hD7; have hBz := hB.trans (hD7.mono hB.size); have LC35 := len_ci (x := ⟨LC, true, s.b.d, s.b.b⟩) s.hh (.slice A6 s.b.b.length c6); have hLC35 := hid LC35; clear hG7 k35 b6' hub6 LC35; refine wp_go ?_; go_wp2_with (first | refine wp_ld 35 (.tmp 19) rfl rfl rfl b7'.whole Tryz.underlying35 rfl (by rw [hLC35.out]; exact sizeCi) ?_ | (refine wp_st 35 (.tmp 10) (.tmp 210) rfl rfl rfl (f := 0) rfl (l := ciL ⟨LC, true, s.b.d, s.b.b⟩ (.slice A6 s.b.b.length c6)) rfl b10 (by rw [hLC35.out]; exact Nat.le_refl 35) (by rw [hLC35.out]; exact sizeCi) one_ci ?_; intro w9 hd9 hG9; refine wp_stop ?_)); rw [set_all (ciL zCi (.slice none 0 0)) (ciL ⟨LC, true, s.b.d, s.b.b⟩ (.slice A6 s.b.b.length c6)) (by rw [hLC35.out]; rfl)] at hd9; refine wp_go ?_; go_wp2; refine ret_cell1 rfl rfl rfl hd9.whole Tryz.underlying35 rfl (by rw [hLC35.out]; exact sizeCi) rfl ?_; rw [Ht2.out]; have hBs := hB.size; exact ⟨_, rfl, hub7.keep (fun b hb hF => ⟨Nat.le_trans hBs hF.1, hG9.block b hb (fun h => by injection h with h; have := hF.1; omega)⟩), hBz.grown hG9 hBz.size (sk (by omega))⟩
end Go.Proofs.YtnhhbbjkeekneaaGreatDoor
