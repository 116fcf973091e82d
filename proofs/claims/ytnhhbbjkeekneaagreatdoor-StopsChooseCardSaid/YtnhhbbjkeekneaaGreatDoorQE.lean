/- QE: several texts in one (QI QB QC QD QE). -/
import Derived.Test.YtnhhbbjkeekneaaGreatDoorQH
import Derived.Test.YtnhhbbjkeekneaaGreatDoorM1
import Derived.Test.YtnhhbbjkeekneaaGreatDoorQA
set_option maxRecDepth 100000
set_option maxHeartbeats 16000000
namespace Go.Proofs.YtnhhbbjkeekneaaGreatDoor
open Go.RowKit Go.V
theorem textR_pos {most : Int} {X : List UInt8} {e : Nat} (h : textR most X = .error e) : e ≠ 0 := by
 unfold textR at h; cases hr : readPk X with
 | error e' =>
  have := rdF_err _ _ _ _ hr; rw [hr] at h; simp only [cntR] at h; injection h with h
  omega
 | ok r =>
  obtain ⟨x, n⟩ := r; rw [hr] at h; simp only [cntR] at h
  split at h
  . rename_i heq
    split at heq
    . cases heq
    . injection heq with heq
      injection heq with h1 h2
      split at h
      . injection h with h; omega
      . cases h
  . rename_i heq
    split at heq
    . injection heq with heq; injection h with h; omega
    . cases heq
theorem txtR_pos {X : List UInt8} {e : Nat} (h : txtR X = .error e) : e ≠ 0 := by
 unfold txtR at h
 split at h
 . injection h with h; omega
 . split at h
   . rename_i hq; have := rdF_err _ _ _ _ hq; injection h with h; omega
   . split at h
     . rename_i hq; have := rdF_err _ _ _ _ hq; injection h with h; omega
     . split at h
       . injection h with h; omega
       . cases h
def GtQ (w : World) (r : Except Nat Rq) (e : Ending) (w' : World) : Prop := match r with
 | .ok r => ∃ u, e = .returned (.tuple #[.agg (r.l u).toArray, .int .i64 0]) /\ Rd w' (fun b => w.heap.size <= b) u (bys r.g) /\ Below w.heap.size w w'
 | .error er => e = .returned (.tuple #[.agg zQ.toArray, .int .i64 (er : Int)]) /\ Below w.heap.size w w'
theorem GtQ.err {w w' : World} {r : Except Nat Rq} {er : Nat} (h : r = .error er) (hB : Below w.heap.size w w') : GtQ w r (.returned (.tuple #[.agg zQ.toArray, .int .i64 (er : Int)])) w' := by rw [h]; exact ⟨rfl, hB⟩
theorem gtReq7_any (v : Value) (X : List UInt8) (F : Nat -> Prop) (w : World) (hv : Rd w F v (bys X)) (hXl : X.length <= 1000000) :
 Calls Tryz.prog 119 #[v] w (GtQ w (gtR7 X)) := by
 obtain ⟨A, cp, rfl⟩ := hv.shape
 have hT : gtR7 X = match textR 100 X with
  | .error e => .error e
  | .ok (n, z) => match txtR ((X.drop z).take n) with
   | .error e => .error e
   | .ok r => match textR 1000 (X.drop (z + n)) with
    | .error e => .error e
    | .ok (m, y) => if z + n + (y + m) < X.length then .error 2 else
     if ({ r with g := ((X.drop (z + n)).drop y).take m } : Rq).fm = true then .ok { r with g := ((X.drop (z + n)).drop y).take m } else .error 15 := rfl
 obtain ⟨T, hTT⟩ := nm (gtR7 X); rw [<- hTT] at hT |-; clear hTT; have hbz := bldZQ; have hB : Below w.heap.size w (w.alloc (.cells #[.int .i64 0, .int .i64 0, .int .i64 0, .int .i64 0, .int .i64 0, .int .i64 0, .slice none 0 0] 126)) := (Below.refl _ _).alloc (Nat.le_refl _) _; have hz := Blk.new' w 126 zQ; have hbr := hv.below hB; have Htt := hid hT; clear hT; go_enter Tryz.func119, Tryz.ntmps119; go_wp2_with (fail); obtain ⟨w0, hw0⟩ := nm (w.alloc (.cells #[.int .i64 0, .int .i64 0, .int .i64 0, .int .i64 0, .int .i64 0, .int .i64 0, .slice none 0 0] 126)); have hz : Blk w0 w.heap.size 126 zQ := by rw [hw0]; exact hz
 rw [<- hw0] at hB hbr |-; clear hw0; obtain ⟨g0, hg0⟩ := nm (w.heap.size); rw [<- hg0] at hz |-; have hgw : w.heap.size <= g0 := by omega
 clear hg0; refine (new_any _ X F _ hbr (by omega)).mono ?_; rintro e w1 ⟨p, rfl, hp, hr1, hB1⟩; have hB1' : Below w.heap.size w w1 := hB.trans (hB1.mono hB.size); have hz1 := hz.below hB1; have hgl := hz.lt; have hpw : w.heap.size <= p := by have := hB.size; omega
 have hpl : p < w1.heap.size := by obtain ⟨_, h, _⟩ := hr1; exact lt_of_block h
 obtain ⟨FF, hFF⟩ := nm (fun b => w0.heap.size <= b /\ b < p); rw [<- hFF] at hr1; have hFp : ∀ b, FF b -> b < p := fun b h => by rw [hFF] at h; exact h.2
 clear hFF hz hbr hB hB1; have t1 := text_any p FF X 0 100 w1 hr1 (by omega) (by omega) (by omega); rw [List.drop_zero] at t1; cases hq1 : textR 100 X with
 | error e =>
  have hep := textR_pos hq1; have hne : ((e : Int) != 0) = true := by rw [bne_iff_ne]; omega
  rw [hq1] at t1; have Ht : Hid (T = .error e) := hid (by rw [Htt.out, hq1]); unfold TextPost at t1; have Hp := hid t1; clear t1 hq1 hr1 hep Htt; go_wp2_with (fail); refine Hp.out.mono ?_; rintro e' w2 ⟨rfl, hr2, hC2⟩; have hz2 := hz1.ch hC2 (by intro h; have h' : g0 = p := h; omega); have hB2 := Ch.below_of hB1' hC2 (fun k hk => by have : k = p := hk; omega) hB1'.size; clear hr2 hC2 hz1; go_wp2_with (first | refine wp_bld 126 [] rfl rfl [] rfl hbz ?_ | (refine wp_st 126 (.tmp 2) (.tmp 18) rfl rfl rfl (f := 0) rfl (l := zQ) rfl hz2 (by simp [zQ]) sizeQ zQ_one ?_; intro w9 hd9 hG9; refine wp_stop ?_)); refine wp_go ?_; go_wp2; refine ret_cell1 rfl rfl rfl hd9.whole Tryz.underlying126 rfl sizeQ rfl ?_; exact GtQ.err Ht.out (hB2.grown hG9 hB2.size (sk (by omega)))
 | ok nz =>
 obtain ⟨n, z⟩ := nz; rw [hq1] at t1; have hT1 := Htt.out; rw [hq1] at hT1; dsimp only at hT1; unfold TextPost at t1; dsimp only at t1; rw [Nat.zero_add, List.drop_zero] at t1; obtain ⟨Y, hY⟩ := nm ((X.drop z).take n); rw [<- hY] at t1 hT1; have hYl : Y.length <= 1000000 := by rw [hY, List.length_take, List.length_drop]; omega
 have Ht1 := hid t1; have Htt := hid hT1; clear t1 hT1 hq1 hY; go_wp2_with (fail); refine Ht1.out.mono ?_; rintro e w2 ⟨v2, rfl, hv2, hr2, hC2⟩; obtain ⟨A2, c2, rfl⟩ := hv2.shape; have hz2 := hz1.ch hC2 (by intro h; have h' : g0 = p := h; omega); have hB2 := Ch.below_of hB1' hC2 (fun k hk => by have : k = p := hk; omega) hB1'.size; have hrt := rdText7_any (.slice A2 Y.length c2) Y _ w2 hv2 hYl; clear Ht1 hr1 hz1; cases hq2 : txtR Y with
 | error e =>
  have hep := txtR_pos hq2; have hne : ((e : Int) != 0) = true := by rw [bne_iff_ne]; omega
  rw [hq2] at hrt; have Ht : Hid (T = .error e) := hid (by rw [Htt.out, hq2]); unfold TxQ at hrt; have Hrt := hid hrt; clear hrt hq2 hep Htt; go_wp2_with (fail); refine Hrt.out.mono ?_; rintro e' w3 ⟨rfl, hB3⟩; have hz3 := hz2.below hB3; have hB3' := hB2.trans (hB3.mono hB2.size); clear hr2 hz2 hv2 Hrt; go_wp2_with (refine wp_newst 126 7 (.tmp 23) rfl rfl rfl rfl rfl rfl zeroQ (l := zQ) rfl rfl sizeQ zQ_one (by simp) ?_; intro w4 hq4 hB4 hs4; refine wp_stop ?_); have hz4 := hz3.below hB4; have hB4' := hB3'.trans (hB4.mono hB3'.size); clear hz3 hB4 hq4 hs4; refine wp_go ?_; go_wp2_with (first | refine wp_bld 126 [] rfl rfl [] rfl hbz ?_ | (refine wp_st 126 (.tmp 2) (.tmp 27) rfl rfl rfl (f := 0) rfl (l := zQ) rfl hz4 (by simp [zQ]) sizeQ zQ_one ?_; intro w9 hd9 hG9; refine wp_stop ?_)); refine wp_go ?_; go_wp2; refine ret_cell1 rfl rfl rfl hd9.whole Tryz.underlying126 rfl sizeQ rfl ?_; exact GtQ.err Ht.out (hB4'.grown hG9 hB4'.size (sk (by omega)))
 | ok r =>
 rw [hq2] at hrt; unfold TxQ at hrt; dsimp only at hrt; have hT1 := Htt.out; rw [hq2] at hT1; dsimp only at hT1; have Htt := hid hT1; have Hrt := hid hrt; clear hrt hT1 hq2; go_wp2_with (fail); refine Hrt.out.mono ?_; rintro e w3 ⟨rfl, hB3⟩; have hr3 := hr2.belowR hB3; have hz3 := hz2.below hB3; have hB3' := hB2.trans (hB3.mono hB2.size); clear Hrt hr2 hz2 hv2; go_wp2_with (refine wp_newst 126 7 (.tmp 23) rfl rfl rfl rfl rfl rfl zeroQ (l := r.l (.slice none 0 0)) rfl rfl sizeQ (oneQ r _ _ _) (by simp) ?_; intro w4 hq4 hB4 hs4; refine wp_stop ?_); have hr4 := hr3.belowR hB4; have hz4 := hz3.below hB4; have hB4' := hB3'.trans (hB4.mono hB3'.size); have hpl4 : p < w3.heap.size := by obtain ⟨_, h, _⟩ := hr3; exact lt_of_block h
 have hgl4 := hz3.lt; obtain ⟨gq, hgq⟩ := nm (w3.heap.size); rw [<- hgq] at hq4 |-; rw [<- hgq] at hs4 hpl4 hgl4; have hgwq : w.heap.size <= gq := by omega
 clear hgq hr3 hz3 hB4; have t1 := text_any p FF X _ 1000 w4 hr4 (by omega) (by omega) (by omega); cases hq3 : textR 1000 (X.drop (z + n)) with
 | error e =>
  have hep := textR_pos hq3; have hne : ((e : Int) != 0) = true := by rw [bne_iff_ne]; omega
  rw [hq3] at t1; have Ht : Hid (T = .error e) := hid (by rw [Htt.out, hq3]); unfold TextPost at t1; have Hp := hid t1; clear t1 hq3 hr4 hep Htt; refine wp_go ?_; go_wp2_with (fail); refine Hp.out.mono ?_; rintro e' w5 ⟨rfl, hr5, hC5⟩; have hz5 := hz4.ch hC5 (by intro h; have h' : g0 = p := h; omega); have hq5 := hq4.ch hC5 (by intro h; have h' : gq = p := h; omega); have hB5 := Ch.below_of hB4' hC5 (fun k hk => by have : k = p := hk; omega) hB4'.size; clear hr5 hC5 hz4 hq4 Hp; go_wp2_with (refine wp_st1 33 (.tmp 34) (.tmp 32) rfl rfl rfl (f := 6) rfl (v := .slice none 0 0) rfl hq5 (by simp [Rq.l]) sizeSl7 rfl rfl ?_; intro w6 hq6 hG6; refine wp_stop ?_); have hz6 := hz5.keep (hG6.block _ hz5.lt (by intro h; injection h with h; omega)); have hB6 := hB5.grown hG6 hB5.size (sk (by omega)); clear hz5 hq5 hq6 hG6; refine wp_go ?_; go_wp2_with (first | refine wp_bld 126 [] rfl rfl [] rfl hbz ?_ | (refine wp_st 126 (.tmp 2) (.tmp 37) rfl rfl rfl (f := 0) rfl (l := zQ) rfl hz6 (by simp [zQ]) sizeQ zQ_one ?_; intro w9 hd9 hG9; refine wp_stop ?_)); refine wp_go ?_; go_wp2; refine ret_cell1 rfl rfl rfl hd9.whole Tryz.underlying126 rfl sizeQ rfl ?_; exact GtQ.err Ht.out (hB6.grown hG9 hB6.size (sk (by omega)))
 | ok my =>
 obtain ⟨m, y⟩ := my; rw [hq3] at t1; unfold TextPost at t1; dsimp only at t1; have hT1 := Htt.out; rw [hq3] at hT1; dsimp only at hT1; obtain ⟨S, hS⟩ := nm (((X.drop (z + n)).drop y).take m); rw [<- hS] at t1 hT1; have Htt := hid hT1; have Ht1 := hid t1; clear t1 hr4 hT1 hq3 hS; refine wp_go ?_; go_wp2_with (fail); refine Ht1.out.mono ?_; rintro e w5 ⟨v5, rfl, hv5, hr5, hC5⟩; obtain ⟨A5, c5, rfl⟩ := hv5.shape; have hz5 := hz4.ch hC5 (by intro h; have h' : g0 = p := h; omega); have hq5 := hq4.ch hC5 (by intro h; have h' : gq = p := h; omega); have hB5 := Ch.below_of hB4' hC5 (fun k hk => by have : k = p := hk; omega) hB4'.size; clear Ht1 hz4 hq4; obtain ⟨R, hR⟩ : ∃ R : Rq, R = { r with g := S } := ⟨_, rfl⟩
 rw [<- hR] at Htt; have hRl : ∀ u, R.l u = r.l u := fun u => by rw [hR]; rfl
 have hRg : R.g = S := by rw [hR]
 rw [<- hRg] at hv5; have hSl : S.length = R.g.length := by rw [hRg]
 rw [hSl]; have HR := hid hRl; clear hR hRl hSl hRg; go_wp2_with (refine wp_st1 33 (.tmp 34) (.tmp 32) rfl rfl rfl (f := 6) rfl (v := .slice A5 R.g.length c5) rfl hq5 (by simp [Rq.l]) sizeSl7 rfl rfl ?_; intro w6 hq6 hG6; refine wp_stop ?_); have hq6 : Blk w6 gq 126 (R.l (.slice A5 R.g.length c5)) := by rw [HR.out]; exact hq6
 have hz6 := hz5.keep (hG6.block _ hz5.lt (by intro h; injection h with h; omega))
 have hr6 : RdR w6 p FF X (z + n + (y + m)) := by
  obtain ⟨_, hpb, _⟩ := id hr5; exact RdR.keep hr5 (hG6.block _ (lt_of_block hpb) (by intro h; injection h with h; omega)) (fun b hb hF => hG6.block _ hb (by intro h; injection h with h; have := hFp b hF; omega))
 have hv6 : Rd w6 (fun b => w4.heap.size <= b) (.slice A5 R.g.length c5) (bys R.g) := hv5.keep (fun b hb hF => ⟨hF, hG6.block _ hb (by intro h; injection h with h; omega)⟩); have hB6 := hB5.grown hG6 hB5.size (sk (by omega)); clear hz5 hr5 hv5 hq5 hG6 HR; have f1 := done_any p _ X _ _ hr6; by_cases hlo : z + n + (y + m) < X.length
 . rw [if_pos hlo] at f1; have Ht : Hid (T = .error 2) := hid (Htt.out.trans (if_pos hlo)); have Hf := hid f1; clear f1 hr6 Htt; refine wp_go ?_; go_wp2_with (fail); refine Hf.out.mono ?_; rintro e _ ⟨rfl, nn, rfl⟩; have hz7 := hz6.drewN nn; have hB7 := Go.below_drewN hB6 nn; obtain ⟨w7, hw7⟩ := nm (w6.drewN nn); rw [<- hw7] at hz7 hB7 |-; clear hw7 hz6 hq6 hv6 hB6 Hf; go_wp2_with (first | refine wp_bld 126 [] rfl rfl [] rfl hbz ?_ | (refine wp_st 126 (.tmp 2) (.tmp 43) rfl rfl rfl (f := 0) rfl (l := zQ) rfl hz7 (by simp [zQ]) sizeQ zQ_one ?_; intro w9 hd9 hG9; refine wp_stop ?_)); refine wp_go ?_; go_wp2; refine ret_cell1 rfl rfl rfl hd9.whole Tryz.underlying126 rfl sizeQ rfl ?_; exact GtQ.err Ht.out (hB7.grown hG9 hB7.size (sk (by omega)))
 rw [if_neg hlo] at f1; have Htt := hid (Htt.out.trans (if_neg hlo)); have Hf := hid f1; clear f1 hr6; refine wp_go ?_; go_wp2_with (fail); refine Hf.out.mono ?_; rintro e _ ⟨rfl, nn, rfl⟩; have hz7 := hz6.drewN nn; have hq7 := hq6.drewN nn; have hv7 := hv6.ext ((Ch.refl nob w6).drewN nn); have hB7 := Go.below_drewN hB6 nn; obtain ⟨w7, hw7⟩ := nm (w6.drewN nn); rw [<- hw7] at hz7 hq7 hv7 hB7 |-; clear hw7 hz6 hq6 hv6 hB6 Hf; have hfm := fun W h => (show Calls Tryz.prog 121 #[.agg (R.l (.slice A5 R.g.length c5)).toArray] W _ from formed_any R (.slice A5 R.g.length c5) (fun b => w4.heap.size <= b) W h)
 have hRl := len_l R (.slice A5 R.g.length c5); have h1R := oneQ R A5 R.g.length c5; obtain ⟨q, hq⟩ := nm (R.fm); rw [<- hq] at hfm Htt; obtain ⟨L, hL⟩ := nm (R.l (.slice A5 R.g.length c5)); rw [<- hL] at hfm hq7 hRl h1R; have Hfm := hid hfm; have HL := hid hL; clear hfm hq hL; go_wp2_with (first | refine wp_ld 126 (.tmp 7) rfl rfl rfl hq7.whole Tryz.underlying126 rfl (by rw [hRl]; exact sizeQ) ?_); refine (Hfm.out _ hv7).mono ?_; rintro e w8 ⟨rfl, hB8⟩; have hz8 := hz7.below hB8; have hq8 := hq7.below hB8; have hv8 := hv7.below hB8; have hB8' := hB7.trans (hB8.mono hB7.size); clear hz7 hq7 hv7 Hfm; cases q with
 | false =>
  have Ht : Hid (T = .error 15) := hid (Htt.out.trans (if_neg (by simp))); clear Htt hq8 hv8; go_wp2_with (first | refine wp_bld 126 [] rfl rfl [] rfl hbz ?_ | (refine wp_st 126 (.tmp 2) (.tmp 48) rfl rfl rfl (f := 0) rfl (l := zQ) rfl hz8 (by simp [zQ]) sizeQ zQ_one ?_; intro w9 hd9 hG9; refine wp_stop ?_)); refine wp_go ?_; go_wp2; refine ret_cell1 rfl rfl rfl hd9.whole Tryz.underlying126 rfl sizeQ rfl ?_; exact GtQ.err Ht.out (hB8'.grown hG9 hB8'.size (sk (by omega)))
 | true =>
  have Ht : Hid (T = .ok R) := hid (Htt.out.trans (if_pos rfl)); clear Htt; go_wp2_with (first | refine wp_ld 126 (.tmp 7) rfl rfl rfl hq8.whole Tryz.underlying126 rfl (by rw [hRl]; exact sizeQ) ?_ | (refine wp_st 126 (.tmp 2) (.tmp 49) rfl rfl rfl (f := 0) rfl (l := L) rfl hz8 (by rw [hRl]; simp [zQ]) (by rw [hRl]; exact sizeQ) h1R ?_; intro w9 hd9 hG9; refine wp_stop ?_)); rw [show zQ.take 0 ++ L ++ zQ.drop (0 + L.length) = L from by rw [hRl]; simp [zQ]] at hd9; refine wp_go ?_; go_wp2; refine ret_cell1 rfl rfl rfl hd9.whole Tryz.underlying126 rfl (by rw [hRl]; exact sizeQ) rfl ?_; rw [Ht.out]; exact ⟨.slice A5 R.g.length c5, by rw [HL.out]; rfl, hv8.keep (fun b hb hF => ⟨by have := hB4'.size; omega, hG9.block _ hb (by intro h; injection h with h; omega)⟩), hB8'.grown hG9 hB8'.size (sk (by omega))⟩
end Go.Proofs.YtnhhbbjkeekneaaGreatDoor
namespace Go.V
open Go.RowKit
def six (A : Nat -> Int) : List Value := [.int .i64 (A 0), .int .i64 (A 1), .int .i64 (A 2), .int .i64 (A 3), .int .i64 (A 4), .int .i64 (A 5)]
theorem six_at (A : Nat -> Int) (C : Nat) (h : C < 6) : (six A)[C]? = some (.int .i64 (A C)) := by
 match C, h with
 | 0, _ | 1, _ | 2, _ | 3, _ | 4, _ | 5, _ => rfl
theorem six_set (A : Nat -> Int) (C : Nat) (s : Int) (h : C < 6) : (six A).set C (.int .i64 s) = six (upd A C s) := by
 match C, h with
 | 0, _ | 1, _ | 2, _ | 3, _ | 4, _ | 5, _ => rfl
end Go.V
namespace Go.Proofs.YtnhhbbjkeekneaaGreatDoor
open Go.RowKit Go.V
theorem fbatch_any (v : Value) (l : List Rq) (F : Nat -> Prop) (w : World) (hv : Rd w F v (rqs l)) :
 Calls Tryz.prog 120 #[v] w fun e w' => e = .returned (.bool (fmB l)) /\ Below w.heap.size w w' := by
 by_cases hn : l.length < 1 \/ 4 < l.length
 . obtain ⟨G, cp, rfl⟩ := rqs_shape hv; have Hf := hid (fmB_len hn); go_enter Tryz.func120, Tryz.ntmps120; rcases hn with hn | hn
   . have h1 : (l.length : Int) < 1 := by omega
     go_wp2; go_ret; exact ⟨by rw [Hf.out]; rfl, Below.refl _ _⟩
   . have h1 : ¬ (l.length : Int) < 1 := by omega
     have h2 : (4 : Int) < (l.length : Int) := by omega
     go_wp2; go_ret; exact ⟨by rw [Hf.out]; rfl, Below.refl _ _⟩
 have hn1 : 1 <= l.length := by omega
 have hn4 : l.length <= 4 := by omega
 obtain ⟨G, off, cp, rfl⟩ := rqs_spot hv hn1; have h1 : ¬ (l.length : Int) < 1 := by omega
 have h2 : ¬ (4 : Int) < (l.length : Int) := by omega
 have hL0 := Blk.new' w 198 [.int .i64 0, .int .i64 0, .int .i64 0, .int .i64 0, .int .i64 0, .int .i64 0]; have hB0 : Below w.heap.size w (w.alloc (.cells #[.int .i64 0, .int .i64 0, .int .i64 0, .int .i64 0, .int .i64 0, .int .i64 0] 198)) := (Below.refl _ _).alloc (Nat.le_refl _) _; go_enter Tryz.func120, Tryz.ntmps120; go_wp2; obtain ⟨w0, hw0⟩ := nm (w.alloc (.cells #[.int .i64 0, .int .i64 0, .int .i64 0, .int .i64 0, .int .i64 0, .int .i64 0] 198)); rw [<- hw0] at hL0 hB0 |-; clear hw0; obtain ⟨gL, hgL⟩ := nm (w.heap.size); rw [<- hgL] at hL0 |-; have hgl : w.heap.size <= gL := by omega
 clear hgL
 go_loopw [16] (fun iv wr => ∃ (i : Nat) (A : Nat -> Int), i <= l.length /\ iv = .int .i64 i /\ Blk wr gL 198 (six A) /\ good A (l.take i) /\ ris (l.take i) /\ (∀ x ∈ l.take i, x.fm = true) /\ Below w.heap.size w wr) (fun i _ => l.length - (intOf i).toNat)
 case atStart => exact ⟨0, fun _ => 0, Nat.zero_le _, rfl, hL0, good_nil, List.Pairwise.nil, fun x h => by simp at h, hB0⟩
 case round =>
  obtain ⟨i, A, hi, rfl, hL, hgd, hrs, hfp, hBr⟩ := hrel; have Hgd := hid hgd; have Hrs := hid hrs; have Hfp := hid hfp; clear hgd hrs hfp; by_cases hlt : i < l.length
  . obtain ⟨r, hr⟩ : ∃ r, l[i]? = some r := ⟨_, List.getElem?_eq_getElem hlt⟩
    have hI : (i : Int) < (l.length : Int) := by omega
    obtain ⟨u, hu7, hu⟩ := rqs_el (hv.below hBr) hr; obtain ⟨A1, c1, rfl⟩ := hu.shape; have Hr := hid hr; have Htk := hid (take_snoc' hr); clear hr; go_wp2_with (first | (refine wp_ixa 97 (.tmp 14) (.tmp 16) rfl rfl rfl rfl Tryz.underlying97 hlt sizeQ ?_) | (refine wp_ld 126 (.tmp 18) rfl rfl rfl hu7 Tryz.underlying126 rfl sizeQ ?_) | (refine wp_newst 126 5 (.tmp 19) rfl rfl rfl rfl rfl rfl zeroQ (l := r.l (.slice A1 r.g.length c1)) rfl rfl sizeQ (oneQ r _ _ _) (by simp [Act.put]) ?_; intro w8 hq8 hB8 hs8; refine wp_stop ?_)); have hL8 := hL.below hB8; have hgn : gL < wr.heap.size := hL.lt; have hu8 := hu.below hB8; have hB8' := hBr.trans (hB8.mono hBr.size); obtain ⟨gq, hgq⟩ := nm (wr.heap.size); rw [<- hgq] at hq8 |-; rw [<- hgq] at hgn; clear hgq hL hu hu7 hB8 hs8; refine wp_go ?_; go_upto_region 7 with (fail)
    have HV : Hid (∀ W, Ch nob w8 W -> W.rangeAt gq 0 (r.l (.slice A1 r.g.length c1))) := fun W h => (hq8.below h.below).whole; have HC : Hid (∀ W, Ch nob w8 W -> W.cell? ⟨gq, 0, none⟩ = some (.int .i64 r.c)) := fun W h => (hq8.below h.below).cellAt 0 _ rfl; have HS : Hid (∀ W, Ch nob w8 W -> W.cell? ⟨gq, 1, none⟩ = some (.int .i64 r.s)) := fun W h => (hq8.below h.below).cellAt 1 _ rfl; cases hf : r.fm with
    | false =>
     refine wp_region_noPanic ?_; refine wp_region_held_drew (S := Ch nob w8) (by kernel_rfl) ((Ch.refl _ _).drew) (fun hHeld => ?_); refine tkY 0 rfl (yieldsIf_load_mid (by rfl) 126 (.tmp 5) (by rfl) _ (0) (by rfl) _ _ (fun _ hs => HV.out _ hs) Tryz.underlying126 rfl (sizeQ)) ?_; refine rdH 1 rfl (fun K hK => ?_); go_simp; refine (formed_any r _ F _ (hu8.ext hHeld)).mono ?_; rintro e' w11 ⟨rfl, hB11⟩; rw [hf]; have hC11 := hHeld.belowR hB11; refine hK.out _ _ (hC11) (fun hHeld => ?_); clear hK K
     try simp only [nP]
     refine tkP 2 rfl ?_; refine tkP 3 rfl ?_; refine tkS 4 rfl ?_; refine tkS 5 rfl ?_; refine tkS 6 rfl ?_; refine tkS 7 rfl ?_; refine tkS 8 rfl ?_; refine tkS 9 rfl ?_; refine tkS 10 rfl ?_; refine tkP 11 rfl ?_; refine wpAnyH_done (by kernel_rfl) ?_ _; refine NoPanic.normal ?_; go_wp2; go_ret; exact ⟨by rw [fmB_fm Hr.out hf]; rfl, hB8'.trans (hC11.below.mono hB8'.size)⟩
    | true =>
     obtain ⟨C, S, K, Y, hC, hS, _, _, hC5, hS1, _, _, _, _⟩ := fm_bd hf; have hs1 : 1 <= r.s := by omega
     clear hS; have h60 : (C : Int) < 6 := by omega
     have hC6 : C < 6 := by omega
     rw [hC] at HC; have HA : Hid (∀ W, Ch nob w8 W -> W.cell? ⟨gL, C, none⟩ = some (.int .i64 (A C))) := fun W h => (hL8.below h.below).cellAt C _ (six_at A C hC6); by_cases hle : r.s <= A C
     . refine wp_region_noPanic ?_; refine wp_region_held_drew (S := Ch nob w8) (by kernel_rfl) ((Ch.refl _ _).drew) (fun hHeld => ?_); refine tkY 0 rfl (yieldsIf_load_mid (by rfl) 126 (.tmp 5) (by rfl) _ (0) (by rfl) _ _ (fun _ hs => HV.out _ hs) Tryz.underlying126 rfl (sizeQ)) ?_; refine rdH 1 rfl (fun K hK => ?_); go_simp; refine (formed_any r _ F _ (hu8.ext hHeld)).mono ?_; rintro e' w11 ⟨rfl, hB11⟩; rw [hf]; have hC11 := hHeld.belowR hB11; refine hK.out _ _ (hC11) (fun hHeld => ?_); clear hK K
       try simp only [nP]
       refine tkP 2 rfl ?_; refine tkP 3 rfl ?_; refine tkP 4 rfl ?_; refine tkF 5 rfl HS.out ?_; refine tkP 6 rfl ?_; refine tkF 7 rfl HC.out ?_; refine tkP 8 rfl ?_; refine tkF 9 rfl HA.out ?_; refine tkP 10 rfl ?_; refine tkP 11 rfl ?_; refine wpAnyH_done (by kernel_rfl) ?_ _; refine NoPanic.normal ?_; go_wp2; go_ret; exact ⟨by rw [fmB_ris (i + 1) (by rw [Htk.out]; exact ris_bad Hgd.out hC (by omega) hle)]; rfl, hB8'.trans (hC11.below.mono hB8'.size)⟩
     . refine wp_region_noPanic ?_; refine wp_region_held_drew (S := Ch nob w8) (by kernel_rfl) ((Ch.refl _ _).drew) (fun hHeld => ?_); refine tkY 0 rfl (yieldsIf_load_mid (by rfl) 126 (.tmp 5) (by rfl) _ (0) (by rfl) _ _ (fun _ hs => HV.out _ hs) Tryz.underlying126 rfl (sizeQ)) ?_; refine rdH 1 rfl (fun K hK => ?_); go_simp; refine (formed_any r _ F _ (hu8.ext hHeld)).mono ?_; rintro e' w11 ⟨rfl, hB11⟩; rw [hf]; have hC11 := hHeld.belowR hB11; refine hK.out _ _ (hC11) (fun hHeld => ?_); clear hK K
       try simp only [nP]
       refine tkP 2 rfl ?_; refine tkP 3 rfl ?_; refine tkP 4 rfl ?_; refine tkF 5 rfl HS.out ?_; refine tkP 6 rfl ?_; refine tkF 7 rfl HC.out ?_; refine tkP 8 rfl ?_; refine tkF 9 rfl HA.out ?_; refine tkP 10 rfl ?_; refine tkP 11 rfl ?_; refine wpAnyH_done (by kernel_rfl) ?_ _; refine NoPanic.normal ?_; have hq9 := hq8.below hC11.below; have hL9 := hL8.below hC11.below; have hB9 := hB8'.trans (hC11.below.mono hB8'.size); have e0 : w11.cell? ⟨gq, 0, none⟩ = some (.int .i64 (C : Int)) := HC.out w11 hC11; have e1 := hq9.cellAt 1 _ rfl; clear HV HC HS HA; have Hst := hid (six_set A C r.s hC6); go_wp2_with (refine wp_st1 3 (.tmp 36) (.tmp 35) rfl rfl rfl (f := C) rfl (v := .int .i64 r.s) rfl hL9 (by simp [six]; omega) sizeI7 rfl rfl ?_; intro w10 hL10 hG10; rw [Hst.out] at hL10)
       go_roundw
       case rel =>
        refine ⟨i + 1, upd A C r.s, by omega, by go_num, hL10, ?_, ?_, ?_, hB9.grown hG10 hB9.size (sk (by omega))⟩
        . rw [Htk.out]; exact good_snoc Hgd.out hC (by omega)
        . rw [Htk.out]; exact ris_good Hgd.out Hrs.out hC (by omega)
        . rw [Htk.out]; intro x hx; rw [List.mem_append] at hx; rcases hx with hx | hx
          . exact Hfp.out x hx
          . simp at hx; rw [hx]; exact hf
       case measure => simp [intOf]; omega
  . have hi' : i = l.length := by omega
    subst hi'; have hI : ¬ (l.length : Int) < (l.length : Int) := by omega
    have hrs := Hrs.out; have hfp := Hfp.out; rw [List.take_length] at hrs hfp; have Hfm := hid (fmB_true hn1 hn4 hfp hrs); clear hrs hfp; go_wp2; go_ret; exact ⟨by rw [Hfm.out]; rfl, hBr⟩
theorem rfbatch_any (v : Value) (l : List Rq) (F : Nat -> Prop) (w : World) (hv : Rd w F v (rqs l)) :
 Calls Tryz.prog 104 #[v] w fun e w' => e = .returned (.bool (fmB l)) /\ Below w.heap.size w w' := by
 by_cases hn : l.length < 1 \/ 4 < l.length
 . obtain ⟨G, cp, rfl⟩ := rqs_shape hv; have Hf := hid (fmB_len hn); go_enter Tryz.func104, Tryz.ntmps104; rcases hn with hn | hn
   . have h1 : (l.length : Int) < 1 := by omega
     go_wp2; go_ret; exact ⟨by rw [Hf.out]; rfl, Below.refl _ _⟩
   . have h1 : ¬ (l.length : Int) < 1 := by omega
     have h2 : (4 : Int) < (l.length : Int) := by omega
     go_wp2; go_ret; exact ⟨by rw [Hf.out]; rfl, Below.refl _ _⟩
 have hn1 : 1 <= l.length := by omega
 have hn4 : l.length <= 4 := by omega
 obtain ⟨G, off, cp, rfl⟩ := rqs_spot hv hn1; have h1 : ¬ (l.length : Int) < 1 := by omega
 have h2 : ¬ (4 : Int) < (l.length : Int) := by omega
 go_enter Tryz.func104, Tryz.ntmps104; go_wp2
 go_loopw [3] (fun iv wr => ∃ i : Nat, i <= l.length /\ iv = .int .i64 i /\ ris (l.take i) /\ (∀ x ∈ l.take i, x.fm = true) /\ Below w.heap.size w wr) (fun i _ => l.length - (intOf i).toNat)
 case atStart => exact ⟨0, Nat.zero_le _, rfl, List.Pairwise.nil, fun x h => by simp at h, Below.refl _ _⟩
 case round =>
  obtain ⟨i, hi, rfl, hrs, hfp, hBr⟩ := hrel; have Hrs := hid hrs; have Hfp := hid hfp; clear hrs hfp; by_cases hlt : i < l.length
  . obtain ⟨r, hr⟩ : ∃ r, l[i]? = some r := ⟨_, List.getElem?_eq_getElem hlt⟩
    have hI : (i : Int) < (l.length : Int) := by omega
    obtain ⟨u, hu7, hu⟩ := rqs_el (hv.below hBr) hr; obtain ⟨A1, c1, rfl⟩ := hu.shape; have Hr := hid hr; have Htk := hid (take_snoc' hr); clear hr; go_wp2_with (first | (refine wp_ixa 97 (.tmp 19) (.tmp 20) rfl rfl rfl rfl Tryz.underlying97 hlt sizeQ ?_) | (refine wp_ld 126 (.tmp 21) rfl rfl rfl hu7 Tryz.underlying126 rfl sizeQ ?_)); refine (rformed_any r _ F _ hu).mono ?_; rintro e w1 ⟨rfl, hB1⟩; have hB1' := hBr.trans (hB1.mono hBr.size); cases hf : r.fm with
    | false =>
     go_wp2; go_ret; exact ⟨by rw [fmB_fm Hr.out hf]; rfl, hB1'⟩
    | true =>
     go_wp2
     go_loopw [4] (fun kv wk => ∃ k : Nat, k <= i /\ kv = .int .i64 k /\ (∀ x ∈ l.take k, x.c = r.c -> x.s < r.s) /\ Below w.heap.size w wk) (fun k _ => i - (intOf k).toNat)
     case atStart => exact ⟨0, Nat.zero_le _, rfl, fun x h => by simp at h, hB1'⟩
     case round =>
      obtain ⟨k, hk, rfl, hpr, hBk⟩ := hrel; have Hpr := hid hpr; clear hpr; by_cases hki : k < i
      . have hkl : k < l.length := by omega
        have hK : (k : Int) < (i : Int) := by omega
        obtain ⟨y, hy⟩ : ∃ y, l[k]? = some y := ⟨_, List.getElem?_eq_getElem hkl⟩
        have HY0 : Hid (∀ W, Ch nob wr W -> W.cell? ⟨G, off + k * 7, none⟩ = some (.int .i64 y.c)) := fun W h => by
         obtain ⟨_, h7, _⟩ := rqs_el ((hv.below hBk).ext h) hy; exact h7 0 _ rfl
        have HY1 : Hid (∀ W, Ch nob wr W -> W.cell? ⟨G, off + k * 7 + 1, none⟩ = some (.int .i64 y.s)) := fun W h => by
         obtain ⟨_, h7, _⟩ := rqs_el ((hv.below hBk).ext h) hy; exact h7 1 _ rfl
        have HR0 : Hid (∀ W, Ch nob wr W -> W.cell? ⟨G, off + i * 7, none⟩ = some (.int .i64 r.c)) := fun W h => by
         obtain ⟨_, h7, _⟩ := rqs_el ((hv.below hBk).ext h) Hr.out; exact h7 0 _ rfl
        have HR1 : Hid (∀ W, Ch nob wr W -> W.cell? ⟨G, off + i * 7 + 1, none⟩ = some (.int .i64 r.s)) := fun W h => by
         obtain ⟨_, h7, _⟩ := rqs_el ((hv.below hBk).ext h) Hr.out; exact h7 1 _ rfl
        have Htk2 := hid (take_snoc' hy); have Hym : Hid (y ∈ l.take i) := List.mem_take_iff_getElem.2 ⟨k, by omega, by have := (List.getElem?_eq_some_iff.1 hy).2; exact this⟩; clear hy; go_upto_region 11 with (fail)
        by_cases hce : y.c = r.c
        . have hbe : (y.c == r.c) = true := by rw [beq_iff_eq]; exact hce
          have Hce := hid hce; clear hce; by_cases hge : r.s <= y.s
          . refine wp_region_noPanic ?_; refine wp_region_held_drew (S := Ch nob wr) (by kernel_rfl) ((Ch.refl _ _).drew) (fun hHeld => ?_); refine tkP 0 rfl ?_; refine tkP 1 rfl ?_; refine tkY 2 rfl (yi_ixa (by rfl) 97 (.tmp 30) (.tmp 31) (by rfl) (by rfl) (i := k) (by rfl) Tryz.underlying97 hkl sizeQ) ?_; refine tkP 3 rfl ?_; refine tkF 4 rfl HY0.out ?_; refine tkP 5 rfl ?_; refine tkP 6 rfl ?_; refine tkY 7 rfl (yi_ixa (by rfl) 97 (.tmp 35) (.tmp 36) (by rfl) (by rfl) (i := i) (by rfl) Tryz.underlying97 hlt sizeQ) ?_; refine tkP 8 rfl ?_; refine tkF 9 rfl HR0.out ?_; refine tkP 10 rfl ?_; refine tkP 11 rfl ?_; refine tkP 12 rfl ?_; refine tkP 13 rfl ?_; refine tkY 14 rfl (yi_ixa (by rfl) 97 (.tmp 42) (.tmp 43) (by rfl) (by rfl) (i := k) (by rfl) Tryz.underlying97 hkl sizeQ) ?_; refine tkP 15 rfl ?_; refine tkF 16 rfl HY1.out ?_; refine tkP 17 rfl ?_; refine tkP 18 rfl ?_; refine tkY 19 rfl (yi_ixa (by rfl) 97 (.tmp 47) (.tmp 48) (by rfl) (by rfl) (i := i) (by rfl) Tryz.underlying97 hlt sizeQ) ?_; refine tkP 20 rfl ?_; refine tkF 21 rfl HR1.out ?_; refine tkP 22 rfl ?_; refine tkP 23 rfl ?_; refine wpAnyH_done (by kernel_rfl) ?_ _; refine NoPanic.normal ?_; go_wp2; go_ret; exact ⟨by rw [fmB_ris (i + 1) (by rw [Htk.out]; intro h; have := (ris_snoc.1 h).2 y Hym.out Hce.out; omega)]; rfl, hBk.trans (hHeld.below.mono hBk.size)⟩
          . refine wp_region_noPanic ?_; refine wp_region_held_drew (S := Ch nob wr) (by kernel_rfl) ((Ch.refl _ _).drew) (fun hHeld => ?_); refine tkP 0 rfl ?_; refine tkP 1 rfl ?_; refine tkY 2 rfl (yi_ixa (by rfl) 97 (.tmp 30) (.tmp 31) (by rfl) (by rfl) (i := k) (by rfl) Tryz.underlying97 hkl sizeQ) ?_; refine tkP 3 rfl ?_; refine tkF 4 rfl HY0.out ?_; refine tkP 5 rfl ?_; refine tkP 6 rfl ?_; refine tkY 7 rfl (yi_ixa (by rfl) 97 (.tmp 35) (.tmp 36) (by rfl) (by rfl) (i := i) (by rfl) Tryz.underlying97 hlt sizeQ) ?_; refine tkP 8 rfl ?_; refine tkF 9 rfl HR0.out ?_; refine tkP 10 rfl ?_; refine tkP 11 rfl ?_; refine tkP 12 rfl ?_; refine tkP 13 rfl ?_; refine tkY 14 rfl (yi_ixa (by rfl) 97 (.tmp 42) (.tmp 43) (by rfl) (by rfl) (i := k) (by rfl) Tryz.underlying97 hkl sizeQ) ?_; refine tkP 15 rfl ?_; refine tkF 16 rfl HY1.out ?_; refine tkP 17 rfl ?_; refine tkP 18 rfl ?_; refine tkY 19 rfl (yi_ixa (by rfl) 97 (.tmp 47) (.tmp 48) (by rfl) (by rfl) (i := i) (by rfl) Tryz.underlying97 hlt sizeQ) ?_; refine tkP 20 rfl ?_; refine tkF 21 rfl HR1.out ?_; refine tkP 22 rfl ?_; refine tkP 23 rfl ?_; refine wpAnyH_done (by kernel_rfl) ?_ _; refine NoPanic.normal ?_; go_wp2
            go_roundw
            case rel =>
             refine ⟨k + 1, by omega, by go_num, ?_, hBk.trans (hHeld.below.mono hBk.size)⟩; rw [Htk2.out]; intro x hx hxc; rw [List.mem_append] at hx; rcases hx with hx | hx
             . exact Hpr.out x hx hxc
             . simp at hx; subst hx; omega
            case measure => simp [intOf]; omega
        . have hbe : (y.c == r.c) = false := by rw [beq_eq_false_iff_ne]; exact hce
          have Hce := hid hce; clear hce; refine wp_region_noPanic ?_; refine wp_region_held_drew (S := Ch nob wr) (by kernel_rfl) ((Ch.refl _ _).drew) (fun hHeld => ?_); refine tkP 0 rfl ?_; refine tkP 1 rfl ?_; refine tkY 2 rfl (yi_ixa (by rfl) 97 (.tmp 30) (.tmp 31) (by rfl) (by rfl) (i := k) (by rfl) Tryz.underlying97 hkl sizeQ) ?_; refine tkP 3 rfl ?_; refine tkF 4 rfl HY0.out ?_; refine tkP 5 rfl ?_; refine tkP 6 rfl ?_; refine tkY 7 rfl (yi_ixa (by rfl) 97 (.tmp 35) (.tmp 36) (by rfl) (by rfl) (i := i) (by rfl) Tryz.underlying97 hlt sizeQ) ?_; refine tkP 8 rfl ?_; refine tkF 9 rfl HR0.out ?_; refine tkP 10 rfl ?_; refine tkP 11 rfl ?_; refine tkS 12 rfl ?_; refine tkS 13 rfl ?_; refine tkS 14 rfl ?_; refine tkS 15 rfl ?_; refine tkS 16 rfl ?_; refine tkS 17 rfl ?_; refine tkS 18 rfl ?_; refine tkS 19 rfl ?_; refine tkS 20 rfl ?_; refine tkS 21 rfl ?_; refine tkS 22 rfl ?_; refine tkP 23 rfl ?_; refine wpAnyH_done (by kernel_rfl) ?_ _; refine NoPanic.normal ?_; go_wp2
          go_roundw
          case rel =>
           refine ⟨k + 1, by omega, by go_num, ?_, hBk.trans (hHeld.below.mono hBk.size)⟩; rw [Htk2.out]; intro x hx hxc; rw [List.mem_append] at hx; rcases hx with hx | hx
           . exact Hpr.out x hx hxc
           . simp at hx; subst hx; exact absurd hxc Hce.out
          case measure => simp [intOf]; omega
      . have hK : k = i := by omega
        subst hK; have hKI : ¬ (k : Int) < (k : Int) := by omega
        go_wp2
        go_roundw
        case rel =>
         refine ⟨k + 1, by omega, by go_num, ?_, ?_, hBk⟩
         . rw [Htk.out]; exact ris_snoc.2 ⟨Hrs.out, Hpr.out⟩
         . rw [Htk.out]; intro x hx; rw [List.mem_append] at hx; rcases hx with hx | hx
           . exact Hfp.out x hx
           . simp at hx; rw [hx]; exact hf
        case measure => simp [intOf]; omega
  . have hi' : i = l.length := by omega
    subst hi'; have hI : ¬ (l.length : Int) < (l.length : Int) := by omega
    have hrs := Hrs.out; have hfp := Hfp.out; rw [List.take_length] at hrs hfp; have Hfm := hid (fmB_true hn1 hn4 hfp hrs); clear hrs hfp; go_wp2; go_ret; exact ⟨by rw [Hfm.out]; rfl, hBr⟩
end Go.Proofs.YtnhhbbjkeekneaaGreatDoor
namespace Go.V
open Go.RowKit
def Rq.tb (r : Rq) : List UInt8 := packed r.bt.length ++ r.bt
def bB (l : List Rq) : List UInt8 := packed l.length ++ l.flatMap Rq.tb
end Go.V
namespace Go.Proofs.YtnhhbbjkeekneaaGreatDoor
open Go.RowKit Go.V
end Go.Proofs.YtnhhbbjkeekneaaGreatDoor
namespace Go.V
open Go.RowKit
theorem own_keep7 {w w' : World} {base : Nat} {e : TypeId} {s : Nat} {v : Value} {n : Nat} {xs : List Value} (h : w.ownsRow base e s v n xs) (hk : ∀ k, k < w.heap.size -> v.ownBlock = some k -> w'.heap[k]? = w.heap[k]?) : w'.ownsRow base e s v n xs := by
 obtain ⟨h1, h2⟩ := h; refine ⟨h1, ?_⟩; rcases h2 with h | ⟨g, cap, cur, rfl, hg, hh, h3⟩
 . exact .inl h
 . exact .inr ⟨g, cap, cur, rfl, hg, (hk g (lt_of_block hh) rfl).trans hh, h3⟩
end Go.V
namespace Go.Proofs.YtnhhbbjkeekneaaGreatDoor
open Go.RowKit Go.V
theorem slQ : SlW Tryz.prog 97 126 zQ 7 72 := .of Tryz.underlying97 (by kernel_rfl) rfl (by omega) (by omega)
end Go.Proofs.YtnhhbbjkeekneaaGreatDoor
