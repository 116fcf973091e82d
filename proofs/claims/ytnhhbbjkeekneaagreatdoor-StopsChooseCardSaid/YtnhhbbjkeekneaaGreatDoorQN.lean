/- QN: layer 7, the document's side over any bytes: contracts of GetBatch, Check, CheckBatch. -/
import Derived.Test.YtnhhbbjkeekneaaGreatDoorM1
import Derived.Test.YtnhhbbjkeekneaaGreatDoorQM
import Derived.Test.YtnhhbbjkeekneaaGreatDoorZq
import Derived.Test.YtnhhbbjkeekneaaGreatDoorQE
import Derived.Test.YtnhhbbjkeekneaaGreatDoorQA
import Derived.Test.YtnhhbbjkeekneaaGreatDoorK3
import Derived.BigQuiet
set_option maxRecDepth 100000
set_option maxHeartbeats 16000000
namespace Go.Proofs.YtnhhbbjkeekneaaGreatDoor
open Go.RowKit Go.V
theorem rgb7_any (v : Value) (X : List UInt8) (F : Nat -> Prop) (w : World) (hv : Rd w F v (bys X)) (hXl : X.length <= 1000000) :
 Calls Tryz.prog 77 #[v] w (GbQ w (gbR7 X)) := by
 have hv := hv.weak (F' := fun b => b < w.heap.size) (fun b hb _ => hb); obtain ⟨A, cp, rfl⟩ := hv.shape
 have hT : gbR7 X = match cntR 4 (readPk X) with
  | .error e => .error e
  | .ok (c, z) => match itR X z c with
   | .error e => .error e
   | .ok (l, k) => if k < X.length then .error 2 else if fmB l = true then .ok l else .error 15 := rfl
 obtain ⟨T, hTT⟩ := nm (gbR7 X); rw [<- hTT] at hT |-; clear hTT; have Htt := hid hT; have Hcl := hid (fun (c z : Nat) (h : cntR 4 (readPk X) = .ok (c, z)) => And.intro (cntR_le (most := 4) h) (cntR_ok h)); clear hT; have hrc := rcount_any (.slice A X.length cp) X 0 4 (fun b => b < w.heap.size) w hv (Nat.zero_le _) (by omega) (by omega); rw [List.drop_zero] at hrc; go_enter Tryz.func77, Tryz.ntmps77; cases hq1 : cntR 4 (readPk X) with
 | error e =>
  have hep := cntR_pos hq1; have hne : ((e : Int) != 0) = true := by rw [bne_iff_ne]; omega
  have hq1' : cntR ((4 : Nat) : Int) (readPk X) = .error e := hq1; rw [hq1'] at hrc; have Ht : Hid (T = .error e) := hid (by rw [Htt.out, hq1]); have Hf := hid hrc; clear hrc hq1 hq1' hep Htt Hcl; go_wp2_with (fail); refine Hf.out.mono ?_; rintro e' w2 ⟨rfl, hB⟩; simp only [gotP]; clear Hf; go_wp2_with ((refine wp_newst 155 4 (.tmp 11) rfl rfl rfl rfl rfl rfl zeroGot (l := gotL 0 (.slice none 0 0) 0 e) rfl rfl sizeGot (one_got _ _ _ _ _ _) (by simp) ?_; intro WW bb hBB hss; refine wp_stop ?_)); have hB := hB.trans (hBB.mono hB.size); have c3 := bb.cellAt 3 _ rfl; obtain ⟨g4, hg4⟩ := nm (w2.heap.size); rw [<- hg4] at c3 |-; clear hg4 bb hBB hss; refine wp_go ?_; go_wp2; go_upto_region 3 with (fail)
  go_quiet (fail)
  go_wp2; go_ret2; exact GbQ.err Ht.out (by first | exact hB | exact bel_drewN hB _)
 | ok cz =>
 obtain ⟨n, z⟩ := cz; obtain ⟨hn4, hpk, _, _⟩ := Hcl.out n z hq1; have hzl := (packed_readPk hpk).2.2; have hq1' : cntR ((4 : Nat) : Int) (readPk X) = .ok (n, z) := hq1; rw [hq1'] at hrc; have hT1 := Htt.out; rw [hq1] at hT1; dsimp only at hT1; have Htt := hid hT1; have Hf := hid hrc; have hnw : IntKind.i64.wrap (n : Int) = (n : Int) := IntWalk.i64_in _ ⟨by omega, by omega⟩; clear hrc hq1 hq1' hT1 Hcl hpk; go_wp2_with (fail); refine Hf.out.mono ?_; rintro e w2 ⟨rfl, hB⟩; simp only [gotP]; have hbr := hv.below hB; have hs2 := hB.size; clear Hf; go_wp2_with ((refine wp_newst 155 4 (.tmp 11) rfl rfl rfl rfl rfl rfl zeroGot (l := gotL n (.slice none 0 0) z 0) rfl rfl sizeGot (one_got _ _ _ _ _ _) (by simp) ?_; intro WW bb hBB hss; refine wp_stop ?_)); have hbr := hbr.below hBB; have hB := hB.trans (hBB.mono hB.size); have b4 := bb; obtain ⟨g4, hg4⟩ := nm (w2.heap.size); rw [<- hg4] at b4 |-; have hgw4 : w.heap.size <= g4 := by omega
 have hg4l : g4 < WW.heap.size := b4.lt; clear hg4 bb hBB hss; obtain ⟨w3, hw3⟩ := nm (WW); rw [<- hw3] at hbr hB b4 hg4l |-; clear hw3; have c3 := b4.cellAt 3 _ rfl; have c2 := b4.cellAt 2 _ rfl; refine wp_go ?_; go_wp2; clear c3 c2
 go_loopw [5, 6, 7] (fun kv lv iv wr => ∃ (i k : Nat) (l : List Rq) (xs : List Value), i <= n /\ iv = .int .i64 i /\ kv = .int .i64 k /\ k <= X.length /\ Hid (itR X z i = .ok (l, k)) /\ wr.ownsRow w3.heap.size 126 7 lv l.length xs /\ RqX wr (fun b => w3.heap.size <= b /\ lv.ownBlock ≠ some b) l xs /\ Below w3.heap.size w3 wr) (fun _ _ i _ => n - (intOf i).toNat)
 case atStart => exact ⟨0, z, [], [], Nat.zero_le _, rfl, rfl, hzl, rfl, World.ownsRow_nil _ _ _ _, rfl, Below.refl _ _⟩
 case round =>
  obtain ⟨i, k, l, xs, hi, rfl, rfl, hk, hit, hor, hxr, hBr⟩ := hrel; have hll := it_len hit.out; have hBw := hB.trans (hBr.mono hB.size); have b4r := b4.below hBr; have c0 := b4r.cellAt 0 _ rfl; have hbw := hbr.below hBr; by_cases hlt : i < n
  . have hI : (i : Int) < (n : Int) := by omega
    have hone : oneR X l k = match textR 2000 (X.drop k) with
     | .error e => .error e
     | .ok (n, z) => match gtR7 (((X.drop k).drop z).take n) with
      | .error e => .error e
      | .ok r => .ok (l ++ [r], k + (z + n)) := rfl
    have hnx := it_next hit.out; rw [hone] at hnx; have t1 := rtext_any (.slice A X.length cp) X k 2000 (fun b => b < w.heap.size) wr hbw hk (by omega) (by omega); cases hq2 : textR 2000 (X.drop k) with
    | error e =>
     have hep := textR_pos hq2; have hne : ((e : Int) != 0) = true := by rw [bne_iff_ne]; omega
     have hq2' : textR ((2000 : Nat) : Int) (X.drop k) = .error e := hq2; rw [hq2'] at t1; rw [hq2] at hnx; have Ht : Hid (T = .error e) := hid (by rw [Htt.out, it_err hnx n (by omega)]); unfold RtPost at t1; dsimp only at t1; have Hp := hid t1; clear t1 hq2 hq2' hep hnx hone Htt hit; go_wp2_with (fail); refine Hp.out.mono ?_; rintro e' w5 ⟨rfl, hB5⟩; have hBw := hBw.trans (hB5.mono hBw.size); clear hB5 Hp hor hxr c0 b4r; go_wp2_with ((refine wp_newst 155 8 (.tmp 28) rfl rfl rfl rfl rfl rfl zeroGot (l := gotL 0 (.slice none 0 0) 0 e) rfl rfl sizeGot (one_got _ _ _ _ _ _) (by simp) ?_; intro WW bb hBB hss; refine wp_stop ?_)); have hBw := hBw.trans (hBB.mono hBw.size); have c3 := bb.cellAt 3 _ rfl; obtain ⟨g8, hg8⟩ := nm (w5.heap.size); rw [<- hg8] at c3 |-; clear hg8 bb hBB hss; refine wp_go ?_; go_wp2; go_upto_region 11 with (fail)
     go_quiet (fail)
     go_wp2; go_ret2; exact GbQ.err Ht.out (by first | exact hBw | exact bel_drewN hBw _)
    | ok ny =>
     obtain ⟨m, y⟩ := ny; have hfit := textR_fit hq2; rw [List.length_drop] at hfit; have hq2' : textR ((2000 : Nat) : Int) (X.drop k) = .ok (m, y) := hq2; rw [hq2'] at t1; rw [hq2] at hnx; unfold RtPost at t1; dsimp only at t1 hnx; obtain ⟨Y, hY⟩ := nm (((X.drop k).drop y).take m); rw [<- hY] at t1 hnx; have hYl : Y.length <= 1000000 := by rw [hY, List.length_take, List.length_drop, List.length_drop]; omega
     have Ht1 := hid t1; have hsw : IntKind.i64.wrap ((k : Int) + ((y + m : Nat) : Int)) = ((k + (y + m) : Nat) : Int) := by rw [show (k : Int) + ((y + m : Nat) : Int) = ((k + (y + m) : Nat) : Int) from by push_cast; rfl]; exact IntWalk.i64_in _ ⟨by omega, by omega⟩
     have hiw : IntKind.i64.wrap ((i : Int) + 1) = (i : Int) + 1 := IntWalk.i64_in _ ⟨by omega, by omega⟩; clear t1 hq2 hq2' hY hone; go_wp2_with (fail); refine Ht1.out.mono ?_; rintro e w5 ⟨v5, rfl, hv5, hB5⟩; obtain ⟨A5, c5, rfl⟩ := hv5.shape; have ho5 := own_bel hor hB5; have hx5 := hxr.keep (fun b hb hF => ⟨hF, hB5.block b hb⟩); have hBr5 := hBr.trans (hB5.mono hBr.size); have hBw5 := hBw.trans (hB5.mono hBw.size); have hs5 := hB5.size; have hlv := fun k hk => (ho5.lt k hk).2; clear hB5 Ht1 hor hxr c0 b4r hbw hBr hBw; go_wp2_with ((refine wp_newst 155 8 (.tmp 28) rfl rfl rfl rfl rfl rfl zeroGot (l := gotL 0 (.slice A5 Y.length c5) (y + m) 0) rfl rfl sizeGot (one_got _ _ _ _ _ _) (by simp) ?_; intro WW bb hBB hss; refine wp_stop ?_)); have hv6 := hv5.below hBB; have ho6 := own_bel ho5 hBB; have hx6 := hx5.keep (fun b hb hF => ⟨hF, hBB.block b hb⟩); have hBr6 := hBr5.trans (hBB.mono hBr5.size); have hBw6 := hBw5.trans (hBB.mono hBw5.size); have b8 := bb; obtain ⟨w6, hw6⟩ := nm (WW); rw [<- hw6] at hv6 ho6 hx6 hBr6 hBw6 b8 |-; obtain ⟨g8, hg8⟩ := nm (w5.heap.size); rw [<- hg8] at b8 |-; have c83 := b8.cellAt 3 _ rfl; have c82 := b8.cellAt 2 _ rfl; have c81 := b8.cellAt 1 _ rfl; clear hg8 bb hBB hss hw6 hv5 ho5 hx5 hBr5 hBw5; have hge := rgt7_any (.slice A5 Y.length c5) Y _ w6 hv6 hYl; refine wp_go ?_; cases hq3 : gtR7 Y with
     | error e =>
      have hep := gtR7_pos hq3; have hne : ((e : Int) != 0) = true := by rw [bne_iff_ne]; omega
      rw [hq3] at hge hnx; have Ht : Hid (T = .error e) := hid (by rw [Htt.out, it_err hnx n (by omega)]); unfold GrQ at hge; dsimp only at hge; have Hge := hid hge; have lE : (gqE (e : Int)).length = 8 := rfl; have e7 : (gqE (e : Int))[7]? = some (.int .i64 (e : Int)) := rfl; have oE := one_gqE (e : Int); obtain ⟨GE, hGE⟩ := nm (gqE (e : Int)); rw [<- hGE] at Hge lE e7 oE; clear hge hq3 hep hnx Htt hit hGE; go_wp2_with (fail); refine Hge.out.mono ?_; rintro e' w7 ⟨rfl, hB7⟩; have hBw7 := hBw6.trans (hB7.mono hBw6.size); clear Hge ho6 hx6 hv6 hB7 c83 c82 c81 b8; go_wp2_with (refine wp_newst 159 9 (.tmp 40) rfl rfl rfl rfl rfl rfl zeroGq (l := GE) rfl (by rw [lE]; rfl) (by rw [lE]; exact sizeGq) oE (by simp) ?_; intro w8 b9 hB8 hs8; refine wp_stop ?_); have hBw8 := hBw7.trans (hB8.mono hBw7.size); have c7 := b9.cellAt 7 _ e7; obtain ⟨g9, hg9⟩ := nm (w7.heap.size); rw [<- hg9] at c7 |-; clear hB8 b9 hs8 hg9; refine wp_go ?_; go_wp2; go_upto_region 15 with (fail)
      go_quiet (fail)
      go_wp2; go_ret2; exact GbQ.err Ht.out (by first | exact hBw8 | exact bel_drewN hBw8 _)
     | ok r =>
      rw [hq3] at hge hnx; unfold GrQ at hge; dsimp only at hge hnx; have Hge := hid hge; have Hnx := hid hnx; clear hge hq3 hnx hit; go_wp2_with (fail); refine Hge.out.mono ?_; rintro e w7 ⟨u7, rfl, hu7, hB7⟩; obtain ⟨A7, c7, rfl⟩ := hu7.shape; have ho7 := own_bel ho6 hB7; have hx7 := hx6.keep (fun b hb hF => ⟨hF, hB7.block b hb⟩); have hBr7 := hBr6.trans (hB7.mono hBr6.size); have hBw7 := hBw6.trans (hB7.mono hBw6.size); have hlv7 := fun k hk => (ho6.lt k hk).2; have hs37 := hBr6.size; have lG : (gqL (r.l (.slice A7 r.g.length c7)) 0).length = 8 := rfl; have e7 : (gqL (r.l (.slice A7 r.g.length c7)) 0)[7]? = some (.int .i64 0) := rfl; have oG := one_gqL (oneQ r A7 r.g.length c7) 0
      have hpre : ∀ (j : Nat) (x : Value), (r.l (.slice A7 r.g.length c7))[j]? = some x -> (gqL (r.l (.slice A7 r.g.length c7)) 0)[0 + j]? = some x := fun j x hx => by
       unfold gqL; rw [Nat.zero_add, List.getElem?_append_left (List.getElem?_eq_some_iff.1 hx).1]; exact hx
      obtain ⟨GL, hGL⟩ := nm (gqL (r.l (.slice A7 r.g.length c7)) 0); rw [<- hGL] at lG e7 oG hpre |-; clear Hge ho6 hx6 hv6 hB7 c83 c82 c81 b8 hGL hBr6 hBw6; go_wp2_with (refine wp_newst 159 9 (.tmp 40) rfl rfl rfl rfl rfl rfl zeroGq (l := GL) rfl (by rw [lG]; rfl) (by rw [lG]; exact sizeGq) oG (by simp) ?_; intro w8 b9 hB8 hs8; refine wp_stop ?_); have hu8 := hu7.below hB8; have ho8 := own_bel ho7 hB8; have hx8 := hx7.keep (fun b hb hF => ⟨hF, hB8.block b hb⟩); have hBr8 := hBr7.trans (hB8.mono hBr7.size); have hBw8 := hBw7.trans (hB8.mono hBw7.size); obtain ⟨g9, hg9⟩ := nm (w7.heap.size); rw [<- hg9] at b9 |-; have c97 := b9.cellAt 7 _ e7; have h9r := b9.range 0 _ hpre; clear hB8 hs8 hg9 ho7 hx7 hu7 hBr7 hBw7; refine wp_go ?_; go_wp2_with (first | refine wp_ld 126 (.tmp 47) rfl rfl rfl h9r Tryz.underlying126 rfl sizeQ ?_ | (refine wp_pushW (.tmp 46) (.tmp 48) 49 slQ rfl rfl rfl rfl rfl (us := r.l (.slice A7 r.g.length c7)) rfl rfl (oneQ r _ _ _) (by simp [Act.put]) rfl ho8 (by simp only [maxLen]; omega) (by omega) hBr8.size ?_; intro v9 w9 ho9 hG9 hat9; refine wp_stop ?_)); have hBr9 := hBr8.grown hG9 hBr8.size (fun k hk => (ho8.lt k hk).1)
      have hx9 : RqX w9 (fun b => w3.heap.size <= b /\ v9.ownBlock ≠ some b) (l ++ [r]) (xs ++ r.l (.slice A7 r.g.length c7)) := by
       refine RqX.snoc ?_ ?_
       . exact hu8.keep (fun b hb hF => ⟨⟨Nat.le_trans hs37 hF, by
          have hF : w6.heap.size <= b := hF; rcases hat9 with h | ⟨k, h, hk⟩
          . rw [h]; intro h'; have := hlv7 b h'; omega
          . rw [h]; intro h'; injection h' with h'; omega⟩, hG9.block b hb (by intro h'; have hF : w6.heap.size <= b := hF; have := hlv7 b h'.symm; omega)⟩)
       . exact hx8.keep (fun b hb hF => ⟨⟨hF.1, by
          rcases hat9 with h | ⟨k, h, hk⟩
          . rw [h]; exact hF.2
          . rw [h]; intro h'; injection h' with h'; omega⟩, hG9.block b hb (fun h' => hF.2 h'.symm)⟩)
      have ho9 : w9.ownsRow w3.heap.size 126 7 v9 (l ++ [r]).length (xs ++ r.l (.slice A7 r.g.length c7)) := by rw [List.length_append]; exact ho9
      clear hu8 hx8 ho8 hG9 hat9 b9 c97 h9r hBr8 hBw8; refine wp_go ?_; go_wp2
      go_roundw
      case rel => exact ⟨i + 1, k + (y + m), l ++ [r], _, by omega, by go_num, by go_num, by omega, Hnx, ho9, hx9, hBr9⟩
      case measure => simp [intOf]; omega
  . have hi' : i = n := by omega
    subst hi'; have hI : ¬ (i : Int) < (i : Int) := by omega
    have hT2 := Htt.out; rw [hit.out] at hT2; dsimp only at hT2; have hrd := (rqs_own hor hxr (fun b h => h.1))
    clear hor hxr Htt hit; by_cases hlo : k < X.length
    . have hlI : (k : Int) < (X.length : Int) := by omega
      rw [if_pos hlo] at hT2; have Ht := hid hT2; clear hT2 hrd; go_wp2; go_ret2; exact GbQ.err Ht.out hBw
    have hlI : ¬ (k : Int) < (X.length : Int) := by omega
    rw [if_neg hlo] at hT2; have hbt := fun u F W h => rfbatch_any u l F W h; obtain ⟨q, hq⟩ := nm (fmB l); rw [<- hq] at hT2 hbt; have Ht := hid hT2; clear hT2 hq; go_wp2_with (fail); refine (hbt _ _ _ hrd).mono ?_; rintro e w6 ⟨rfl, hB6⟩; have hrd := hrd.below hB6; have hB6' := hBw.trans (hB6.mono hBw.size); have hs3 := hB.size; cases q with
    | true =>
     have Ht2 : Hid (T = .ok l) := hid (Ht.out.trans (if_pos rfl)); clear Ht; go_wp2; go_ret2; rw [Ht2.out]; exact ⟨_, rfl, hrd.weak (fun b _ h => Nat.le_trans hs3 h), hB6'⟩
    | false =>
     have Ht2 : Hid (T = .error 15) := hid (Ht.out.trans (if_neg (by simp))); clear Ht; go_wp2; go_ret2; exact GbQ.err Ht2.out hB6'
theorem rcheck7_any (R : List Hx) (r : Rq) (uk ur u : Value) (F G : Nat -> Prop) (w : World) (hR : Rd w F ur (wds hxD R)) (hu : Rd w G u (bys r.g)) (ha : in64 r.a) (hb : in64 r.b) :
 Calls Tryz.prog 78 #[.agg #[uk, ur], .agg (r.l u).toArray] w fun e w' => e = .returned (.int .i64 (chk7 R r)) /\ Below w.heap.size w w' := by
 obtain ⟨A, c, rfl, _, _⟩ := wds_shape hR; obtain ⟨Au, cu, rfl⟩ := hu.shape; have b2 := (Blk.new' w 40 [uk, .slice A R.length c]).alloc (.cells (r.l (.slice Au r.g.length cu)).toArray 126); have b3 := Blk.new' (w.alloc (.cells #[uk, .slice A R.length c] 40)) 126 (r.l (.slice Au r.g.length cu)); have hB : Below w.heap.size w ((w.alloc (.cells #[uk, .slice A R.length c] 40)).alloc (.cells (r.l (.slice Au r.g.length cu)).toArray 126)) := ((Below.refl _ _).alloc (Nat.le_refl _) _).alloc (by simp) _; rw [show (w.alloc (.cells #[uk, .slice A R.length c] 40)).heap.size = w.heap.size + 1 from by simp] at b3; have hfo := fun X h => (show Calls Tryz.prog 105 #[.agg (r.l (.slice Au r.g.length cu)).toArray] X (fun e w' => e = .returned (.bool r.fm) /\ Below X.heap.size X w') from rformed_any r (.slice Au r.g.length cu) G X h)
 have htx := fun (hf : r.fm = true) X h => (show Calls Tryz.prog 107 #[.agg (r.l (.slice Au r.g.length cu)).toArray] X (fun e w' => ∃ v', e = .returned v' /\ NewB X w' v' r.text) from rtext7_any r (.slice Au r.g.length cu) G X h ha hb hf)
 have hl0 : (r.l (.slice Au r.g.length cu))[0]? = some (.int .i64 r.c) := rfl; have hl1 : (r.l (.slice Au r.g.length cu))[1]? = some (.int .i64 r.s) := rfl; have hl6 : (r.l (.slice Au r.g.length cu))[6]? = some (.slice Au r.g.length cu) := rfl; have hll := len_l r (.slice Au r.g.length cu); obtain ⟨L, hL⟩ := nm (r.l (.slice Au r.g.length cu)); rw [<- hL] at b2 b3 hB hfo htx hl0 hl1 hl6 hll |-; have hu := hu.below hB; have hR := hR.below hB; have Hfo := hid hfo; have Htx := hid htx; have Hll := hid hll; clear hfo htx hL hll; go_enter Tryz.func78, Tryz.ntmps78; go_wp2_with (first | refine wp_ld 126 (.tmp 3) rfl rfl rfl b3.whole Tryz.underlying126 rfl (by rw [Hll.out]; exact sizeQ) ?_); obtain ⟨w0, hw0⟩ := nm ((w.alloc (.cells #[uk, .slice A R.length c] 40)).alloc (.cells L.toArray 126)); rw [<- hw0] at b2 b3 hB hu hR |-; obtain ⟨g3, hg3⟩ := nm (w.heap.size + 1); rw [<- hg3] at b3 |-; obtain ⟨g2, hg2⟩ := nm (w.heap.size); rw [<- hg2] at b2 |-; clear hw0 hg3 hg2; refine (Hfo.out _ hu).mono ?_; rintro e w1 ⟨rfl, hB1⟩; have b2 := b2.below hB1; have b3 := b3.below hB1; have hu := hu.below hB1; have hR := hR.below hB1; have hB := hB.trans (hB1.mono hB.size); clear hB1; cases hf : r.fm with
 | false =>
  have Hc := hid (chk7_nf (R := R) hf); clear hf b2 b3; go_wp2; go_ret; exact ⟨by rw [Hc.out]; rfl, hB⟩
 | true =>
 obtain ⟨C, S0, _, _, hC, hS0, _, _, hC5, hS1, hS8, _⟩ := fm_bd hf; have hCt : r.c.toNat = C := by omega
 have c0 := b3.cellAt 0 _ hl0; rw [hC] at c0; have c1 := b3.cellAt 1 _ hl1; have c6 := b3.cellAt 6 _ hl6; have c21 := b2.cellAt 1 _ rfl; by_cases hCR : R.length <= C
 . have Hc := hid (chk7_no (R := R) hf (by rw [hCt]; exact hCR)); have hI : (C : Int) >= (R.length : Int) := by omega
   clear hf hC hCt; go_wp2; go_ret; exact ⟨by rw [Hc.out]; rfl, hB⟩
 have hI : ¬ (C : Int) >= (R.length : Int) := by omega
 have hCl : C < R.length := by omega
 obtain ⟨x, hx⟩ : ∃ x, R[C]? = some x := ⟨_, List.getElem?_eq_getElem hCl⟩
 have hc7 := chk7_at (R := R) hf (by rw [hCt]; exact hx); obtain ⟨g, off, cs, hAA, _, hrg, hel⟩ := wd_el hR hx; subst hAA; have hcs := hx_open hel; subst hcs; have hxl := x.2; have Htx := hid (Htx.out hf); have htl := (len_text r).1; have hve := verE_in x.1 r.text r.g; have hkv := fun tv (H : Nat -> Prop) Y h2 h3 => rverify_any x.1 tv (.slice Au r.g.length cu) r.text r.g H G Y hxl h2 h3 (by omega); obtain ⟨V, hV⟩ := nm (verE x.1 r.text r.g); obtain ⟨Nn, hN⟩ := nm (verN x.1 r.text r.g); rw [<- hV] at hc7 hve hkv; rw [<- hN] at hc7 hkv; have hbl : (bvs x.1).length = 32 := by rw [len_bvs]; exact hxl
 obtain ⟨lx, hlx⟩ := nm (bvs x.1); rw [<- hlx] at hrg hkv hbl; obtain ⟨T, hT⟩ := nm (r.text); rw [<- hT] at hkv Htx htl; have Hkv := hid hkv; have Hc7 := hid hc7; have hu1 := hu; have hsw : IntKind.i64.wrap (r.s - 1) = r.s - 1 := IntWalk.i64_in _ ⟨by omega, by omega⟩; have hCl2 : C < R.length := hCl; clear hf hC hCt hx hel hlx hV hN hc7 hkv hT hxl hS0; go_wp2; go_upto_region 5 with (fail)
 have H20 : Hid (∀ Z, Ch nob w1 Z -> Z.cell? ⟨g2, 1, none⟩ = some (.slice (some ⟨g, off, none⟩) R.length c)) := fun Z h => (b2.below h.below).cellAt 1 _ rfl; have H30 : Hid (∀ Z, Ch nob w1 Z -> Z.cell? ⟨g3, 0, none⟩ = some (.int .i64 (C : Int))) := fun Z h => (h.below.cell (lt_of_cell c0)).trans c0; have H36 : Hid (∀ Z, Ch nob w1 Z -> Z.cell? ⟨g3, 6, none⟩ = some (.slice Au r.g.length cu)) := fun Z h => (b3.below h.below).cellAt 6 _ hl6; have HX : Hid (∀ Z, Ch nob w1 Z -> Z.rangeAt g (off + C * 32) lx) := fun Z h j v hj => (h.below.cell (lt_of_cell (hrg j v hj))).trans (hrg j v hj); have HM : Hid (∀ Z, Ch nob w1 Z -> Z.rangeAt g3 0 L) := fun Z h => (b3.below h.below).whole; refine wp_region_noPanic ?_; refine wp_region_held_drew (S := Ch nob w1) (by kernel_rfl) ((Ch.refl _ _).drew) (fun hHeld => ?_); refine tkP 0 rfl ?_; refine tkF 1 rfl H20.out ?_; refine tkP 2 rfl ?_; refine tkF 3 rfl H30.out ?_; refine tkY 4 rfl (yi_ixa (by rfl) 25 (.tmp 18) (.tmp 20) (by rfl) (by rfl) (i := C) (by rfl) Tryz.underlying25 hCl2 size25) ?_; refine tkY 5 rfl (yieldsIf_load_mid (by rfl) 32 (.tmp 21) (by rfl) _ (off + C * 32) (by rfl) _ _ (fun _ hs => HX.out _ hs) Tryz.underlying32 rfl (by rw [hbl]; exact size25)) ?_; refine tkY 6 rfl (yieldsIf_load_mid (by rfl) 126 (.tmp 3) (by rfl) _ (0) (by rfl) _ _ (fun _ hs => HM.out _ hs) Tryz.underlying126 rfl (by rw [Hll.out]; exact sizeQ)) ?_; refine tkP 8 rfl ?_; refine tkF 9 rfl H36.out ?_; refine rdH 7 rfl (fun K hK => ?_); go_simp; refine (Htx.out _ (hu1.below hHeld.below)).mono ?_; rintro e' y1 ⟨v7, rfl, ho7, hE1⟩; have hv7 := Rd.of_own ho7; obtain ⟨A7, c7, rfl⟩ := own_shape ho7; refine hK.out _ _ (hHeld.belowR hE1) (fun hHeld => ?_); clear hK K
 try simp only [nP]
 refine rdH 10 rfl (fun K hK => ?_); go_simp; refine (Hkv.out _ _ _ hv7 (hu1.below hHeld.below)).mono ?_; rintro e' y2 ⟨rfl, hE2⟩; refine hK.out _ _ (hHeld.belowR hE2) (fun hHeld => ?_); clear hK K
 try simp only [nP]
 refine tkP 11 rfl ?_; refine tkP 12 rfl ?_; refine tkP 13 rfl ?_; refine tkP 14 rfl ?_; refine tkP 15 rfl ?_; refine wpAnyH_done (by kernel_rfl) ?_ _; refine NoPanic.normal ?_; have hB3 := hB.trans (hHeld.below.mono hB.size); have c13 : y2.cell? ⟨g3, 1, none⟩ = some (.int .i64 r.s) := (b3.below hHeld.below).cellAt 1 _ hl1; clear H20 H30 H36 HX HM hHeld hv7 hE1 hE2 c0 c1 c6 c21 b2 b3 hu hR hrg Hkv Htx Hfo hu1; have hc := Hc7.out; rcases hve with h0 | h5 | h2
 . subst h0; rw [if_neg (by simp)] at hc; by_cases hn : Nn = r.s - 1
   . have hnn : (Nn != r.s - 1) = false := by rw [hn]; simp
     rw [if_neg (by rw [hn]; simp)] at hc; have Hc := hid hc; clear hc Hc7 hn; go_wp2; go_ret; exact ⟨by rw [Hc.out]; rfl, hB3⟩
   . have hnn : (Nn != r.s - 1) = true := bne_iff_ne.2 hn; rw [if_pos hn] at hc; have Hc := hid hc; clear hc Hc7 hn; go_wp2; go_ret; exact ⟨by rw [Hc.out]; rfl, hB3⟩
 . subst h5; rw [if_pos (by decide)] at hc; have Hc := hid hc; clear hc Hc7; go_wp2; go_ret; exact ⟨by rw [Hc.out]; rfl, hB3⟩
 . subst h2; rw [if_pos (by decide)] at hc; have Hc := hid hc; clear hc Hc7; go_wp2; go_ret; exact ⟨by rw [Hc.out]; rfl, hB3⟩
theorem rcheckb7_any (R : List Hx) (X : List UInt8) (uk ur v : Value) (F G : Nat -> Prop) (w : World) (hR : Rd w F ur (wds hxD R)) (hv : Rd w G v (bys X)) (hXl : X.length <= 1000000) :
 Calls Tryz.prog 51 #[.agg #[uk, ur], v] w (CbQ w (chkb7 R X)) := by
 obtain ⟨A, c, rfl, _, _⟩ := wds_shape hR; obtain ⟨Av, cv, rfl⟩ := hv.shape; have b2 := Blk.new' w 40 [uk, .slice A R.length c]; have hB : Below w.heap.size w (w.alloc (.cells #[uk, .slice A R.length c] 40)) := (Below.refl _ _).alloc (Nat.le_refl _) _; have hgb := fun Y h => rgb7_any (.slice Av X.length cv) X G Y h hXl; have Hgb := hid hgb; clear hgb
 have hT : chkb7 R X = match gbR7 X with
  | .error e => ((e : Int), [])
  | .ok l => if chkL R l = 0 then (0, l) else (chkL R l, []) := rfl
 obtain ⟨T, hTT⟩ := nm (chkb7 R X); rw [<- hTT] at hT |-; clear hTT; have HT := hid hT; clear hT; go_enter Tryz.func51, Tryz.ntmps51; go_wp2_with (fail); obtain ⟨w0, hw0⟩ := nm (w.alloc (.cells #[uk, .slice A R.length c] 40)); rw [<- hw0] at b2 hB |-; obtain ⟨g2, hg2⟩ := nm (w.heap.size); rw [<- hg2] at b2 |-; clear hw0 hg2; have hgb := Hgb.out _ (hv.below hB); cases hq : gbR7 X with
 | error e =>
  have hep := gb7_pos hq; have hne : ((e : Int) != 0) = true := by rw [bne_iff_ne]; omega
  rw [hq] at hgb; have Ht : Hid (T = ((e : Int), [])) := hid (by rw [HT.out, hq]); unfold GbQ at hgb; have Hp := hid hgb; clear hgb hq hep HT Hgb; refine Hp.out.mono ?_; rintro e' w1 ⟨rfl, hB1⟩; have hB1' := hB.trans (hB1.mono hB.size); clear b2 hB1 Hp; go_wp2; go_ret2; exact CbQ.err Ht.out hB1'
 | ok l =>
  obtain ⟨hin, hfb⟩ := gb7_in hq; have hl4 := (fmB_all hfb).2.1; rw [hq] at hgb; unfold GbQ at hgb; dsimp only at hgb; have hT1 := HT.out; rw [hq] at hT1; dsimp only at hT1; have HT := hid hT1; have Hp := hid hgb; have Hin := hid hin; clear hgb hq hT1 Hgb hin hfb; refine Hp.out.mono ?_; rintro e' w1 ⟨u1, rfl, hu1, hB1⟩; obtain ⟨A1, c1, rfl⟩ := rqs_shape hu1; have hB1' := hB.trans (hB1.mono hB.size); have b21 := b2.below hB1; have hs01 := hB.size; clear b2 hB1 Hp; go_wp2
  go_loopw [7, 8] (fun ev iv wr => ∃ i : Nat, i <= l.length /\ iv = .int .i64 i /\ ev = .int .i64 0 /\ Hid (∀ j x, j < i -> l[j]? = some x -> chk7 R x = 0) /\ Below w1.heap.size w1 wr) (fun _ i _ => l.length - (intOf i).toNat)
  case atStart => exact ⟨0, Nat.zero_le _, rfl, rfl, hid (fun j x hj => absurd hj (Nat.not_lt_zero _)), Below.refl _ _⟩
  case round =>
   obtain ⟨i, hi, rfl, rfl, hz, hBr⟩ := hrel; have hBw := hB1'.trans (hBr.mono hB1'.size); have hur := hu1.below hBr; by_cases hlt : i < l.length
   . have hI : (i : Int) < (l.length : Int) := by omega
     obtain ⟨r, hr⟩ : ∃ r, l[i]? = some r := ⟨_, List.getElem?_eq_getElem hlt⟩
     obtain ⟨g1, off1, hA1⟩ : ∃ gl offl, A1 = some ⟨gl, offl, none⟩ := by
      obtain ⟨gl, offl, c', h⟩ := rqs_spot hur (by omega); injection h with h _ _
      exact ⟨gl, offl, h⟩
     subst hA1; obtain ⟨u, hru, hu⟩ := rqs_el hur hr; obtain ⟨Au, cu, rfl⟩ := Rd.shape hu; have hri := Hin.out r (List.mem_of_getElem? hr); have hck := fun Y h2 h3 => rcheck7_any R r uk (.slice A R.length c) (.slice Au r.g.length cu) F (fun b => w0.heap.size <= b) Y h2 h3 hri.1 hri.2; have hb1 := fun h => chkL_bad (R := R) hr hz.out h; have hll := len_l r (.slice Au r.g.length cu); obtain ⟨L, hL⟩ := nm (r.l (.slice Au r.g.length cu)); rw [<- hL] at hru hck hll; obtain ⟨V, hV⟩ := nm (chk7 R r); rw [<- hV] at hck hb1; have Hck := hid hck; have Hb1 := hid hb1; have HV := hid hV; have Hr := hid hr; have hlt2 : i < l.length := hlt; have hiw : IntKind.i64.wrap ((i : Int) + 1) = (i : Int) + 1 := IntWalk.i64_in _ ⟨by have := hl4; omega, by have := hl4; omega⟩; clear hL hck hb1 hV hr hri; go_wp2; go_upto_region 7 with (fail)
     have H2 : Hid (∀ Z, Ch nob wr Z -> Z.rangeAt g2 0 [uk, .slice A R.length c]) := fun Z h => ((b21.below hBr).below h.below).whole; have HL2 : Hid (∀ Z, Ch nob wr Z -> Z.rangeAt g1 (off1 + i * 7) L) := fun Z h j v hj => (h.below.cell (lt_of_cell (hru j v hj))).trans (hru j v hj); refine wp_region_noPanic ?_; refine wp_region_held_drew (S := Ch nob wr) (by kernel_rfl) ((Ch.refl _ _).drew) (fun hHeld => ?_); refine tkY 0 rfl (yieldsIf_load_mid (by rfl) 40 (.tmp 2) (by rfl) _ (0) (by rfl) _ _ (fun _ hs => H2.out _ hs) Tryz.underlying40 rfl (sizeKs7)) ?_; refine tkP 1 rfl ?_; refine tkP 2 rfl ?_; refine tkY 3 rfl (yi_ixa (by rfl) 97 (.tmp 24) (.tmp 25) (by rfl) (by rfl) (i := i) (by rfl) Tryz.underlying97 hlt2 sizeQ) ?_; refine tkY 4 rfl (yieldsIf_load_mid (by rfl) 126 (.tmp 26) (by rfl) _ (off1 + i * 7) (by rfl) _ _ (fun _ hs => HL2.out _ hs) Tryz.underlying126 rfl (by rw [hll]; exact sizeQ)) ?_; refine rdH 5 rfl (fun K hK => ?_); go_simp; refine (Hck.out _ (hR.below (hBw.trans (hHeld.below.mono hBw.size))) (hu.below hHeld.below)).mono ?_; rintro e' y1 ⟨rfl, hE1⟩; refine hK.out _ _ (hHeld.belowR hE1) (fun hHeld => ?_); clear hK K
     try simp only [nP]
     refine tkP 6 rfl ?_; refine wpAnyH_done (by kernel_rfl) ?_ _; refine NoPanic.normal ?_; have hBr5 := hBr.trans (hHeld.below.mono hBr.size); have hBw5 := hBw.trans (hHeld.below.mono hBw.size); clear H2 HL2 hHeld hE1 hru hu hur hBr hBw Hck; by_cases hV0 : V = 0
     . have hne : (V != 0) = false := by rw [hV0]; rfl
       have Hz2 : Hid (∀ j x, j < i + 1 -> l[j]? = some x -> chk7 R x = 0) := hid (fun j x hj hx => by
        rcases Nat.lt_or_ge j i with h | h
        . exact hz.out j x h hx
        . have e : j = i := by omega
          subst e; have := Hr.out.symm.trans hx; injection this with this
          subst this; rw [<- HV.out, hV0])
       subst hV0; clear Hb1 HV Hr; go_wp2
       go_roundw
       case rel => exact ⟨i + 1, by omega, by go_num, rfl, Hz2, hBr5⟩
       case measure => simp [intOf]; omega
     . have hne : (V != 0) = true := bne_iff_ne.2 hV0; have Ht : Hid (T = (V, [])) := hid (by rw [HT.out, Hb1.out hV0, if_neg hV0]); clear hV0 Hb1 HV Hr HT; go_wp2; go_ret2; exact CbQ.err Ht.out hBw5
   . have hi' : i = l.length := by omega
     subst hi'; have hI : ¬ (l.length : Int) < (l.length : Int) := by omega
     have Ht : Hid (T = (0, l)) := hid (by
      rw [HT.out, if_pos (chkL_ok (fun x hx => by
       obtain ⟨j, hj⟩ := List.getElem?_of_mem hx; exact hz.out j x (List.getElem?_eq_some_iff.1 hj).1 hj))])
     clear hz HT; go_wp2; go_ret2; rw [Ht.out]; exact ⟨_, rfl, hur.weak (fun b _ h => Nat.le_trans hs01 h), hBw⟩
end Go.Proofs.YtnhhbbjkeekneaaGreatDoor
