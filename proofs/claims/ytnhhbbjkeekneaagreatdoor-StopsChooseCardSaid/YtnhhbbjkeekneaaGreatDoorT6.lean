/- T6: several texts in one (QJ O1 O2 O3 K1 T6). -/
import Derived.Test.YtnhhbbjkeekneaaGreatDoorQE
import Derived.Test.YtnhhbbjkeekneaaGreatDoorSA
import Derived.Test.YtnhhbbjkeekneaaGreatDoorVA
import Derived.Test.YtnhhbbjkeekneaaGreatDoorM1
import Derived.IntWalk
import Derived.Test.YtnhhbbjkeekneaaGreatDoorT5
import Derived.Lib.SlBytesConst
set_option maxRecDepth 100000
set_option maxHeartbeats 16000000
namespace Go.Proofs.YtnhhbbjkeekneaaGreatDoor
open Go.RowKit Go.V
def GbQ (w : World) (r : Except Nat (List Rq)) (e : Ending) (w' : World) : Prop := match r with
 | .ok l => ∃ u, e = .returned (.tuple #[u, .int .i64 0]) /\ Rd w' (fun b => w.heap.size <= b) u (rqs l) /\ Below w.heap.size w w'
 | .error er => e = .returned (.tuple #[.slice none 0 0, .int .i64 (er : Int)]) /\ Below w.heap.size w w'
theorem GbQ.err {w w' : World} {r : Except Nat (List Rq)} {er : Nat} (h : r = .error er) (hB : Below w.heap.size w w') : GbQ w r (.returned (.tuple #[.slice none 0 0, .int .i64 (er : Int)])) w' := by rw [h]; exact ⟨rfl, hB⟩
theorem gtR7_pos {X : List UInt8} {e : Nat} (h : gtR7 X = .error e) : e ≠ 0 := by
 unfold gtR7 at h
 split at h
 . rename_i hq; injection h with h
   subst h; exact textR_pos hq
 . split at h
   . rename_i hq; injection h with h
     subst h; exact txtR_pos hq
   . split at h
     . rename_i hq; injection h with h
       subst h; exact textR_pos hq
     . split at h
       . injection h with h; omega
       . split at h
         . cases h
         . injection h with h; omega
theorem cntR_pos {X : List UInt8} {most : Int} {e : Nat} (h : cntR most (readPk X) = .error e) : e ≠ 0 := by
 cases hr : readPk X with
 | error e' =>
  have := rdF_err _ _ _ _ hr; rw [hr] at h; simp only [cntR] at h; injection h with h
  omega
 | ok r =>
  obtain ⟨x, n⟩ := r; rw [hr] at h; simp only [cntR] at h
  split at h
  . injection h with h; omega
  . cases h
theorem cntR_le {X : List UInt8} {c z : Nat} {most : Nat} (h : cntR (most : Int) (readPk X) = .ok (c, z)) : c <= most := by
 cases hr : readPk X with
 | error e' =>
  rw [hr] at h; simp only [cntR] at h; cases h
 | ok r =>
  obtain ⟨x, n⟩ := r; rw [hr] at h; simp only [cntR] at h
  split at h
  . cases h
  . rename_i hc; injection h with h
    injection h with h1 _
    omega
theorem gtBatch7_any (v : Value) (X : List UInt8) (F : Nat -> Prop) (w : World) (hv : Rd w F v (bys X)) (hXl : X.length <= 1000000) :
 Calls Tryz.prog 88 #[v] w (GbQ w (gbR7 X)) := by
 have hT : gbR7 X = match cntR 4 (readPk X) with
  | .error e => .error e
  | .ok (c, z) => match itR X z c with
   | .error e => .error e
   | .ok (l, k) => if k < X.length then .error 2 else if fmB l = true then .ok l else .error 15 := rfl
 obtain ⟨T, hTT⟩ := nm (gbR7 X); rw [<- hTT] at hT |-; clear hTT; obtain ⟨A, cp, rfl⟩ := hv.shape; have Htt := hid hT; have Hcl := hid (fun (c z : Nat) (h : cntR 4 (readPk X) = .ok (c, z)) => cntR_le (most := 4) h); clear hT; go_enter Tryz.func88, Tryz.ntmps88; go_wp2_with (fail); refine (new_any _ X F _ hv (by omega)).mono ?_; rintro e w1 ⟨p, rfl, hp, hr1, hB1⟩; have hpl : p < w1.heap.size := by obtain ⟨_, h, _⟩ := hr1; exact lt_of_block h
 obtain ⟨FF, hFF⟩ := nm (fun b => w.heap.size <= b /\ b < p); rw [<- hFF] at hr1; have hFp : ∀ b, FF b -> b < p := fun b h => by rw [hFF] at h; exact h.2
 clear hFF; have f1 := count_any p FF X 0 4 w1 hr1 (by omega) (by omega); rw [List.drop_zero] at f1; cases hq1 : cntR 4 (readPk X) with
 | error e =>
  have hep := cntR_pos hq1; have hne : ((e : Int) != 0) = true := by rw [bne_iff_ne]; omega
  rw [hq1] at f1; have Ht : Hid (T = .error e) := hid (by rw [Htt.out, hq1]); have Hf := hid f1; clear f1 hr1 hq1 hep Htt; go_wp2_with (fail); refine Hf.out.mono ?_; rintro e' w2 ⟨rfl, hr2, hC2⟩; have hB2 := Ch.below_of hB1 hC2 (fun k hk => by have : k = p := hk; omega) hB1.size; simp only [eCt]; clear hr2 hC2; go_wp2; go_ret2; exact GbQ.err Ht.out hB2
 | ok cz =>
 obtain ⟨n, z⟩ := cz; have hn4 := Hcl.out n z hq1; rw [hq1] at f1; have hT1 := Htt.out; rw [hq1] at hT1; dsimp only [lenP] at f1 hT1; have Htt := hid hT1; have Hf := hid f1; clear f1 hr1 hq1 hT1 Hcl; go_wp2_with (fail); refine Hf.out.mono ?_; rintro e w2 ⟨rfl, hr2, hC2⟩; have hB2 := Ch.below_of hB1 hC2 (fun k hk => by have : k = p := hk; omega) hB1.size; simp only [eCt]; rw [Nat.zero_add] at hr2; have hpl2 : p < w2.heap.size := by obtain ⟨_, h, _⟩ := hr2; exact lt_of_block h
 clear Hf; go_wp2_with (refine wp_mk0W slQ (.const (.int .i64 0)) (.tmp 22) rfl rfl n rfl rfl (by omega) (by simp only [maxLen]; omega) ?_; intro w3 ho3 hB3; refine wp_stop ?_); have hr3 := hr2.belowR hB3; have hB3' := hB2.trans (hB3.mono hB2.size); obtain ⟨gz, hgz⟩ := nm (w2.heap.size); rw [<- hgz] at ho3 hpl2 |-; have hgw : w.heap.size <= gz := by have := hB2.size; omega
 have hgz3 : gz <= w3.heap.size := by have := hB3.size; omega
 clear hgz hr2 hB3; refine wp_go ?_; go_wp2
 go_loopw [7, 25] (fun lv iv wr => ∃ (i k : Nat) (l : List Rq) (xs : List Value), i <= n /\ iv = .int .i64 i /\ Hid (itR X z i = .ok (l, k)) /\ RdR wr p FF X k /\ wr.ownsRow gz 126 7 lv l.length xs /\ RqX wr (fun b => gz <= b /\ lv.ownBlock ≠ some b) l xs /\ gz <= wr.heap.size /\ Below w.heap.size w wr) (fun _ i _ => n - (intOf i).toNat)
 case atStart => exact ⟨0, z, [], [], Nat.zero_le _, rfl, rfl, hr3, ho3, rfl, hgz3, hB3'⟩
 case round =>
  clear hr3 ho3 hB3'; obtain ⟨i, k, l, xs, hi, rfl, hit, hrr, hor, hxr, hgr, hBr⟩ := hrel; have hll := it_len hit.out; by_cases hlt : i < n
  . have hI : (i : Int) < (n : Int) := by omega
    have hone : oneR X l k = match textR 2000 (X.drop k) with
     | .error e => .error e
     | .ok (n, z) => match gtR7 (((X.drop k).drop z).take n) with
      | .error e => .error e
      | .ok r => .ok (l ++ [r], k + (z + n)) := rfl
    have hnx := it_next hit.out; rw [hone] at hnx; have t1 := text_any p FF X k 2000 wr hrr (by omega) (by omega) (by omega); cases hq2 : textR 2000 (X.drop k) with
    | error e =>
     have hep := textR_pos hq2; have hne : ((e : Int) != 0) = true := by rw [bne_iff_ne]; omega
     rw [hq2] at t1 hnx; have Ht : Hid (T = .error e) := hid (by rw [Htt.out, it_err hnx n (by omega)]); unfold TextPost at t1; have Hp := hid t1; clear t1 hq2 hrr hep hnx hone Htt hit; go_wp2_with (fail); refine Hp.out.mono ?_; rintro e' w5 ⟨rfl, hr5, hC5⟩; have hB5 := Ch.below_of hBr hC5 (fun k hk => by have : k = p := hk; omega) hBr.size; clear hr5 hC5 Hp hor hxr; go_wp2; go_ret2; exact GbQ.err Ht.out hB5
    | ok ny =>
     obtain ⟨m, y⟩ := ny; rw [hq2] at t1 hnx; unfold TextPost at t1; dsimp only at t1 hnx; obtain ⟨Y, hY⟩ := nm (((X.drop k).drop y).take m); rw [<- hY] at t1 hnx; have hYl : Y.length <= 1000000 := by rw [hY, List.length_take, List.length_drop, List.length_drop]; omega
     have hYm : Y.length = m \/ True := .inr trivial; have Ht1 := hid t1; clear t1 hrr hq2 hY hone hYm; go_wp2_with (fail); refine Ht1.out.mono ?_; rintro e w5 ⟨v5, rfl, hv5, hr5, hC5⟩; obtain ⟨A5, c5, rfl⟩ := hv5.shape; have ho5 := own_keep7 hor (fun k hk h => hC5.block k hk (by intro h'; have : k = p := h'; have := (hor.lt k h).1; omega)); have hx5 := hxr.keep (fun b hb hF => ⟨hF, hC5.block b hb (by intro h'; have : b = p := h'; have := hF.1; omega)⟩); have hB5 := Ch.below_of hBr hC5 (fun k hk => by have : k = p := hk; omega) hBr.size; have hg5 : gz <= w5.heap.size := by have := hC5.size; omega
     have hge := gtReq7_any (.slice A5 Y.length c5) Y _ w5 hv5 hYl; clear Ht1 hor hxr; cases hq3 : gtR7 Y with
     | error e =>
      have hep := gtR7_pos hq3; have hne : ((e : Int) != 0) = true := by rw [bne_iff_ne]; omega
      rw [hq3] at hge hnx; have Ht : Hid (T = .error e) := hid (by rw [Htt.out, it_err hnx n (by omega)]); unfold GtQ at hge; have Hge := hid hge; clear hge hq3 hep hnx Htt hit; go_wp2_with (fail); refine Hge.out.mono ?_; rintro e' w6 ⟨rfl, hB6⟩; have hB6' := hB5.trans (hB6.mono hB5.size); clear Hge hr5 ho5 hx5 hv5 hB6; go_wp2_with (refine wp_newst 126 10 (.tmp 38) rfl rfl rfl rfl rfl rfl zeroQ (l := zQ) rfl rfl sizeQ zQ_one (by simp) ?_; intro w7 hq7 hB7 hs7; refine wp_stop ?_); have hB7' := hB6'.trans (hB7.mono hB6'.size); clear hB7 hq7 hs7; refine wp_go ?_; go_wp2; go_ret2; exact GbQ.err Ht.out hB7'
     | ok r =>
      rw [hq3] at hge hnx; unfold GtQ at hge; dsimp only at hge hnx; have Hge := hid hge; have Hnx := hid hnx; clear hge hq3 hnx hit; go_wp2_with (fail); refine Hge.out.mono ?_; rintro e w6 ⟨u6, rfl, hu6, hB6⟩; obtain ⟨A6, c6, rfl⟩ := hu6.shape; have hr6 := hr5.belowR hB6; have ho6 := own_bel ho5 hB6; have hx6 := hx5.keep (fun b hb hF => ⟨hF, hB6.block b hb⟩); have hB6' := hB5.trans (hB6.mono hB5.size); have hlv := fun k hk => (ho5.lt k hk).2; clear hr5 ho5 hx5 hv5 Hge; go_wp2_with (refine wp_newst 126 10 (.tmp 38) rfl rfl rfl rfl rfl rfl zeroQ (l := r.l (.slice A6 r.g.length c6)) rfl rfl sizeQ (oneQ r _ _ _) (by simp) ?_; intro w7 hq7 hB7 hs7; refine wp_stop ?_); have hr7 := hr6.belowR hB7; have ho7 := own_bel ho6 hB7; have hx7 := hx6.keep (fun b hb hF => ⟨hF, hB7.block b hb⟩); have hu7 := hu6.below hB7; have hB7' := hB6'.trans (hB7.mono hB6'.size); have hg7 : gz <= w7.heap.size := by have := hB7.size; have := hB6.size; omega
      obtain ⟨gq, hgq⟩ := nm (w6.heap.size); rw [<- hgq] at hq7 |-; clear hgq hr6 ho6 hx6 hu6 hB7 hs7; refine wp_go ?_; go_wp2_with (first | (refine wp_ld 126 (.tmp 10) rfl rfl rfl hq7.whole Tryz.underlying126 rfl sizeQ ?_) | (refine wp_pushW (.tmp 43) (.tmp 44) 45 slQ rfl rfl rfl rfl rfl (us := r.l (.slice A6 r.g.length c6)) rfl rfl (oneQ r _ _ _) (by simp [Act.put]) rfl ho7 (by simp only [maxLen]; omega) (by omega) hg7 ?_; intro v8 w8 ho8 hG8 hat8; refine wp_stop ?_)); have hB8 := hB7'.grown hG8 hB7'.size (fun k hk => by have := (ho7.lt k hk).1; omega)
      have hr8 : RdR w8 p FF X (k + (y + m)) := by
       obtain ⟨_, hpb, _⟩ := id hr7; exact RdR.keep hr7 (hG8.block _ (lt_of_block hpb) (by intro h; have := (ho7.lt p h.symm).1; omega)) (fun b hb hF => hG8.block _ hb (by intro h; have := (ho7.lt b h.symm).1; have := hFp b hF; omega))
      have hx8 : RqX w8 (fun b => gz <= b /\ v8.ownBlock ≠ some b) (l ++ [r]) (xs ++ r.l (.slice A6 r.g.length c6)) := by
       refine RqX.snoc ?_ ?_
       . exact hu7.keep (fun b hb hF => ⟨⟨by omega, by
          rcases hat8 with h | ⟨k, h, hk⟩
          . rw [h]; intro h'; have := hlv b h'; omega
          . rw [h]; intro h'; injection h' with h'; omega⟩, hG8.block b hb (by intro h'; have := hlv b h'.symm; omega)⟩)
       . exact hx7.keep (fun b hb hF => ⟨⟨hF.1, by
          rcases hat8 with h | ⟨k, h, hk⟩
          . rw [h]; exact hF.2
          . rw [h]; intro h'; injection h' with h'; omega⟩, hG8.block b hb (fun h' => hF.2 h'.symm)⟩)
      have ho8 : w8.ownsRow gz 126 7 v8 (l ++ [r]).length (xs ++ r.l (.slice A6 r.g.length c6)) := by rw [List.length_append]; exact ho8
      clear hr7 hx7 hu7 ho7; refine wp_go ?_; go_wp2
      go_roundw
      case rel =>
       refine ⟨i + 1, k + (y + m), l ++ [r], _, by omega, by go_num, Hnx, hr8, ho8, hx8, by have := hG8.size; omega, hB8⟩
      case measure => simp [intOf]; omega
  . have hi' : i = n := by omega
    subst hi'; have hI : ¬ (i : Int) < (i : Int) := by omega
    have hT2 := Htt.out; rw [hit.out] at hT2; dsimp only at hT2; have hbt := fun u F W h => fbatch_any u l F W h; have f1 := done_any p _ X _ _ hrr; have hrd := (rqs_own hor hxr (fun b h => h.1)).ext (Ch.refl nob wr); clear hor hxr Htt hit; by_cases hlo : k < X.length
    . rw [if_pos hlo] at f1 hT2; have Ht := hid hT2; have Hf := hid f1; clear f1 hrr hT2 hbt hrd; go_wp2_with (fail); refine Hf.out.mono ?_; rintro e _ ⟨rfl, nn, rfl⟩; have hB5 := Go.below_drewN hBr nn; go_wp2; go_ret2; exact GbQ.err Ht.out hB5
    rw [if_neg hlo] at f1 hT2; obtain ⟨q, hq⟩ := nm (fmB l); rw [<- hq] at hT2 hbt; have Ht := hid hT2; have Hf := hid f1; clear f1 hrr hT2 hq; go_wp2_with (fail); refine Hf.out.mono ?_; rintro e _ ⟨rfl, nn, rfl⟩; have hrd := hrd.ext ((Ch.refl nob wr).drewN nn); have hB5 := Go.below_drewN hBr nn; go_wp2_with (fail); refine (hbt _ _ _ hrd).mono ?_; rintro e w6 ⟨rfl, hB6⟩; have hrd := hrd.below hB6; have hB6' := hB5.trans (hB6.mono hB5.size); cases q with
    | true =>
     have Ht2 : Hid (T = .ok l) := hid (Ht.out.trans (if_pos rfl)); clear Ht; go_wp2; go_ret2; rw [Ht2.out]; exact ⟨_, rfl, hrd.weak (fun b _ h => Nat.le_trans hgw h), hB6'⟩
    | false =>
     have Ht2 : Hid (T = .error 15) := hid (Ht.out.trans (if_neg (by simp))); clear Ht; go_wp2; go_ret2; exact GbQ.err Ht2.out hB6'
end Go.Proofs.YtnhhbbjkeekneaaGreatDoor
namespace Go.V
open Go.RowKit
def pieceF (t : List UInt8) : List UInt8 := (shaF t).take 16
def walkF (p : List UInt8) (j f : Nat) : Nat -> List UInt8
 | 0 => p
 | k + 1 => pieceF (walkF p j f k ++ [UInt8.ofNat j, UInt8.ofNat (f + k)])
end Go.V
namespace Go.Proofs.YtnhhbbjkeekneaaGreatDoor
open Go.RowKit Go.V
theorem len_piece (t : List UInt8) : (pieceF t).length = 16 := by unfold pieceF; rw [List.length_take, len_sha]; rfl
theorem len_walk (p : List UInt8) (j f : Nat) (hp : p.length = 16) : ∀ k, (walkF p j f k).length = 16
 | 0 => hp
 | _ + 1 => len_piece _
theorem rpiece_any (v : Value) (p : List UInt8) (F : Nat -> Prop) (w : World) (ht : Rd w F v (bys p)) (hn : p.length <= 17592186044416) :
 Calls Tryz.prog 160 #[v] w fun e w' => ∃ v', e = .returned v' /\ Rd w' (fun b => w.heap.size <= b) v' (bys (pieceF p)) /\ Below w.heap.size w w' := by
 obtain ⟨A, c, rfl⟩ := ht.shape; go_enter Tryz.func160, Tryz.ntmps160; go_wp2_with (fail); refine (rsum_any _ p _ _ ht hn).mono ?_; rintro e w1 ⟨rfl, hB1⟩; obtain ⟨d, hd⟩ := nm (shaF p); rw [<- hd]; have hdl : Hid (d.length = 32) := by show _ = _; rw [hd]; exact len_sha _
 have Hd := hid hd; clear hd; go_wp2_with (fail); refine (rbytes_any d _ hdl.out).mono ?_; rintro e w2 ⟨v2, rfl, hn2⟩; have hr2 := hn2.rd; obtain ⟨A2, c2, rfl⟩ := hr2.shape; obtain ⟨A3, m3, c3, hcut, hr3⟩ := Rd.cut_h slB hr2 16 (by omega) (by rw [hdl.out]; omega); go_wp2; go_ret; refine ⟨_, rfl, ?_, hB1.trans (hn2.2.mono hB1.size)⟩; unfold pieceF; rw [<- Hd.out]; exact hr3.weak (fun b _ h => by have : w1.heap.size <= b := h; have := hB1.size; omega)
theorem bs2B (x0 x1 : Int) : ∀ W : World, (Instr.buildSlice 33 2 #[(0, .int .u8 x0), (1, .int .u8 x1)]).run Tryz.prog W = .ok (.slice (some ⟨W.heap.size, 0, none⟩) 2 2) (W.alloc (.cells #[.int .u8 x0, .int .u8 x1] 5)) := fun _ => by kernel_rfl
theorem bvs2 (p : List UInt8) (j k : Nat) : bvs p ++ [.int .u8 ((j : Int) % 256), .int .u8 ((k : Int) % 256)] = bvs (p ++ [UInt8.ofNat j, UInt8.ofNat k]) := by
 have e : ∀ n : Nat, (n : Int) % 256 = (((UInt8.ofNat n).toNat : Nat) : Int) := fun n => by rw [UInt8.toNat_ofNat']; omega
 rw [e, e]; simp [bvs, byteV]
theorem rwalk_any (v : Value) (p : List UInt8) (j f n : Nat) (F : Nat -> Prop) (w : World) (ht : Rd w F v (bys p)) (hp : p.length = 16) (_hj : j <= 1000) (hf : f <= 1000) (hn : n <= 1000) :
 Calls Tryz.prog 149 #[v, .int .i64 (j : Int), .int .i64 (f : Int), .int .i64 (n : Int)] w fun e w' => ∃ v', e = .returned v' /\ Rd w' (fun b => F b \/ w.heap.size <= b) v' (bys (walkF p j f (n - f))) /\ Below w.heap.size w w' := by
 have Hp := hid hp; clear hp; have ht := ht.weak (F' := fun b => F b \/ w.heap.size <= b) (fun b _ h => .inl h); go_enter Tryz.func149, Tryz.ntmps149; go_wp2_with (fail)
 go_loopw [0, 9] (fun pv sv wr => ∃ k : Nat, (k = 0 \/ f + k <= n) /\ sv = .int .i64 ((f + k : Nat) : Int) /\ Rd wr (fun b => F b \/ w.heap.size <= b) pv (bys (walkF p j f k)) /\ Below w.heap.size w wr) (fun _ sv _ => n - (intOf sv).toNat)
 case atStart => exact ⟨0, .inl rfl, rfl, ht, Below.refl _ _⟩
 case round =>
  obtain ⟨k, hk, rfl, hr, hB⟩ := hrel; obtain ⟨q, hq⟩ := nm (walkF p j f k); have hql : Hid (q.length = 16) := by show _ = _; rw [hq]; exact len_walk p j f Hp.out k
  rw [<- hq] at hr; have Hq := hid hq; clear hq; obtain ⟨s, hs⟩ := nm (f + k); rw [<- hs]; rw [<- hs] at hk; have hs1000 : s <= 1000 := by omega
  have Hs := hid hs; clear hs; obtain ⟨A, c, rfl⟩ := hr.shape; by_cases hlt : s < n
  . have hbs := hB.size; have h0 := World.ownsRow_nil wr wr.heap.size 5 1; have hs1 := hr.src; have hul := u8w j; have hus := u8w s; rw [hql.out] at hs1 |-; go_wp2_with (refine wp_app (.tmp 17) (.tmp 18) slB rfl rfl rfl h0 rfl hs1 (oneCell_bvs q) (by simp [maxLen]) (by omega) (Nat.le_refl _) ?_; intro v2 w2 ho2 hG2 hat2; refine wp_stop ?_); rw [List.nil_append, Nat.zero_add] at ho2; have hB2 := hB.grown hG2 hB.size (fun k hk => by cases hk); have hz2 := hG2.size; have hb2 := bs2B ((j : Int) % 256) ((s : Int) % 256); have hpq := hid (bvs2 q j s); refine wp_go ?_; go_wp2_with (with_reducible refine wp_at 25 rfl ?_); refine wp_on ?_; refine wp_pushN (.tmp 20) 25 slB rfl rfl 2 [(0, .tmp 22), (1, .tmp 24)] rfl rfl rfl [(0, .int .u8 ((j : Int) % 256)), (1, .int .u8 ((s : Int) % 256))] (by rfl) [.int .u8 ((j : Int) % 256), .int .u8 ((s : Int) % 256)] hb2 (by intro u hu; simp at hu; rcases hu with rfl | rfl <;> rfl) (by simp) rfl ho2 (by simp [maxLen]) (by simp) (by omega) ?_; intro v3 w3 ho3 hG3 hat3; rw [hpq.out] at ho3; have hB3 := hB2.grown hG3 hB2.size (fun k hk => by have := (ho2.lt k hk).1; omega); have hr3 := Rd.of_own ho3; obtain ⟨A3, c3, rfl⟩ := own_shape ho3; go_wp2_with (fail); refine (rpiece_any _ (q ++ [UInt8.ofNat j, UInt8.ofNat s]) _ _ hr3 (by simp [hql.out])).mono ?_; rintro e w4 ⟨v4, rfl, hr4, hB4⟩; have hB4' := hB3.trans (hB4.mono hB3.size); have hws : Hid (walkF p j f (k + 1) = pieceF (q ++ [UInt8.ofNat j, UInt8.ofNat s])) := by show _ = _; rw [walkF, <- Hq.out, <- Hs.out]
    have hbs3 := hB3.size; go_wp2
    go_roundw
    case rel => exact ⟨k + 1, .inr (by have := Hs.out; omega), by have := Hs.out; go_num, by rw [hws.out]; exact hr4.weak (fun b _ h => .inr (by omega)), hB4'⟩
    case measure => simp [intOf]; omega
  . have hkn : k = n - f := by have := Hs.out; omega
    have hfin : Hid (walkF p j f (n - f) = q) := by show _ = _; rw [Hq.out, hkn]
    clear hkn; go_wp2; go_ret; exact ⟨_, rfl, by rw [hfin.out]; exact hr, hB⟩
end Go.Proofs.YtnhhbbjkeekneaaGreatDoor
namespace Go.V
open Go.RowKit
def nibF (h : List UInt8) : List Nat := h.flatMap fun b => [b.toNat / 16, b.toNat % 16]
def lackF : List UInt8 -> Nat
 | [] => 0
 | b :: h => (15 - b.toNat / 16) + (15 - b.toNat % 16) + lackF h
def digF (h : List UInt8) : List Nat := nibF (h.take 16) ++ [lackF (h.take 16) / 256, lackF (h.take 16) / 16 % 16, lackF (h.take 16) % 16]
theorem len_nib (h : List UInt8) : (nibF h).length = 2 * h.length := by
 induction h with
 | nil => rfl
 | cons b h ih => simp only [nibF, List.flatMap_cons, List.length_append, List.length_cons, List.length_nil] at ih |-; omega
theorem lack_le (h : List UInt8) : lackF h <= 30 * h.length := by
 induction h with
 | nil => simp [lackF]
 | cons b h ih => simp only [lackF, List.length_cons]; omega
theorem len_dig (h : List UInt8) (hl : 16 <= h.length) : (digF h).length = 35 := by
 unfold digF; rw [List.length_append, len_nib, List.length_take]; simp; omega
theorem lack_snoc (h : List UInt8) (b : UInt8) : lackF (h ++ [b]) = lackF h + (15 - b.toNat / 16) + (15 - b.toNat % 16) := by
 induction h with
 | nil => simp [lackF]
 | cons c h ih => simp only [List.cons_append, lackF, ih]; omega
theorem nib_snoc (h : List UInt8) (b : UInt8) : nibF (h ++ [b]) = nibF h ++ [b.toNat / 16, b.toNat % 16] := by simp [nibF]
theorem nib_lt (h : List UInt8) : ∀ n ∈ nibF h, n <= 15 := by
 intro n hn; unfold nibF at hn; obtain ⟨b, _, hb⟩ := List.mem_flatMap.1 hn; have := b.toNat_lt; simp at hb; rcases hb with rfl | rfl <;> omega
theorem dig_le (h : List UInt8) : ∀ n ∈ digF h, n <= 15 := by
 intro n hn; have hl := lack_le (h.take 16); have hl2 : (h.take 16).length <= 16 := List.length_take_le _ _; unfold digF at hn; rcases List.mem_append.1 hn with h1 | h1
 . exact nib_lt _ n h1
 . simp at h1; rcases h1 with rfl | rfl | rfl <;> omega
theorem take_step (h : List UInt8) (i : Nat) (x : UInt8) (hx : h[i]? = some x) : h.take (i + 1) = h.take i ++ [x] := by
 obtain ⟨hi, he⟩ := List.getElem?_eq_some_iff.1 hx; rw [List.take_succ_eq_append_getElem hi, he]
end Go.V
namespace Go.Proofs.YtnhhbbjkeekneaaGreatDoor
open Go.RowKit Go.V
theorem bs2I (x0 x1 : Int) : ∀ W : World, (Instr.buildSlice 66 2 #[(0, .int .i64 x0), (1, .int .i64 x1)]).run Tryz.prog W = .ok (.slice (some ⟨W.heap.size, 0, none⟩) 2 2) (W.alloc (.cells #[.int .i64 x0, .int .i64 x1] 3)) := fun _ => by kernel_rfl
theorem bs3I (x0 x1 x2 : Int) : ∀ W : World, (Instr.buildSlice 66 3 #[(0, .int .i64 x0), (1, .int .i64 x1), (2, .int .i64 x2)]).run Tryz.prog W = .ok (.slice (some ⟨W.heap.size, 0, none⟩) 3 3) (W.alloc (.cells #[.int .i64 x0, .int .i64 x1, .int .i64 x2] 3)) := fun _ => by kernel_rfl
theorem rdigits_any (h : List UInt8) (w : World) (hl : h.length = 32) :
 Calls Tryz.prog 148 #[.agg (bvs h).toArray] w fun e w' => ∃ v', e = .returned v' /\ w'.ownsRow w.heap.size 3 1 v' 35 (ivs (digF h)) /\ Below w.heap.size w w' := by
 have hb1 := Blk.new' w 32 (bvs h); have hB := (Below.refl w.heap.size w).alloc (Nat.le_refl _) (.cells (bvs h).toArray 32); have Hl := hid hl; clear hl; go_enter Tryz.func148, Tryz.ntmps148; go_wp2_with (fail); obtain ⟨w0, hw0⟩ := nm (w.alloc (.cells (bvs h).toArray 32)); rw [<- hw0] at hb1 hB |-; clear hw0; obtain ⟨g, hg⟩ := nm (w.heap.size); have hgl := hb1.lt; have h0 := World.ownsRow_nil w0 w0.heap.size 3 1; rw [<- hg] at hb1 hB |-; have Hg := hid hg; clear hg
 go_loopw [3, 4, 5] (fun ov sv iv wr => ∃ i : Nat, i <= 16 /\ iv = .int .i64 i /\ sv = .int .i64 ((lackF (h.take i) : Nat) : Int) /\ wr.ownsRow w0.heap.size 3 1 ov (2 * i) (ivs (nibF (h.take i))) /\ Below w0.heap.size w0 wr) (fun _ _ iv _ => 16 - (intOf iv).toNat)
 case atStart => exact ⟨0, by omega, rfl, rfl, h0, Below.refl _ _⟩
 case round =>
  obtain ⟨i, hi, rfl, rfl, ho, hB1⟩ := hrel; have hbr := hb1.below hB1; obtain ⟨s, hs⟩ := nm (lackF (h.take i)); have hsl := lack_le (h.take i); have hsl2 : (h.take i).length <= i := List.length_take_le _ _; rw [<- hs] at hsl |-; have Hs := hid hs; clear hs; have hbs := hB1.size; by_cases hil : i < 16
  . obtain ⟨x, hx⟩ : ∃ x, h[i]? = some x := ⟨_, List.getElem?_eq_getElem (by rw [Hl.out]; omega)⟩
    have hcx := hbr.cellAt i _ (bvs_at _ _ _ hx); unfold byteV at hcx; have hx256 := x.toNat_lt; have Hx := hid hx; clear hx; go_wp2_with (with_reducible refine wp_at 25 rfl ?_); refine wp_on ?_
    have hst : Hid (ivs (nibF (h.take i)) ++ ivs [x.toNat / 16, x.toNat % 16] = ivs (nibF (h.take (i + 1)))) := by
     show _ = _; rw [take_step h i x Hx.out, nib_snoc]; simp [ivs]
    have hsm : Hid (lackF (h.take (i + 1)) = s + (15 - x.toNat / 16) + (15 - x.toNat % 16)) := by
     show _ = _; rw [take_step h i x Hx.out, lack_snoc, Hs.out]
    refine wp_pushN (.tmp 22) 25 slI rfl rfl 2 [(0, .tmp 23), (1, .tmp 24)] rfl rfl rfl [(0, .int .i64 ((x.toNat : Int) / 16)), (1, .int .i64 ((x.toNat : Int) % 16))] (by rfl) (ivs [x.toNat / 16, x.toNat % 16]) (bs2I _ _) (oneCell_ivs _) (by simp) rfl ho (by simp only [maxLen, len_ivs, List.length_cons, List.length_nil]; omega) (by simp only [len_ivs, List.length_cons, List.length_nil]; omega) (by omega) ?_; intro v3 w3 ho3 hG3 hat3; rw [hst.out, len_ivs] at ho3; have hB3 := hB1.grown hG3 hbs (fun k hk => (ho.lt k hk).1); go_wp2
    go_roundw
    case rel => exact ⟨i + 1, by omega, by go_num, congrArg (Value.int .i64) (by rw [hsm.out]; omega), by simpa [Nat.mul_add] using ho3, hB3⟩
    case measure => simp [intOf]; omega
  . have h16 : i = 16 := by omega
    subst h16
    have hdf : Hid (ivs (nibF (h.take 16)) ++ ivs [s / 256, s / 16 % 16, s % 16] = ivs (digF h)) := by
     show _ = _; unfold digF; rw [<- Hs.out]; simp [ivs]
    go_wp2_with (with_reducible refine wp_at 41 rfl ?_); refine wp_on ?_; refine wp_pushN (.tmp 33) 41 slI rfl rfl 3 [(0, .tmp 35), (1, .tmp 38), (2, .tmp 40)] rfl rfl rfl [(0, .int .i64 ((s : Int) / 256)), (1, .int .i64 ((s : Int) / 16 % 16)), (2, .int .i64 ((s : Int) % 16))] (by rfl) (ivs [s / 256, s / 16 % 16, s % 16]) (bs3I _ _ _) (oneCell_ivs _) (by simp) rfl ho (by simp [maxLen, len_ivs]) (by simp [len_ivs]) (by omega) ?_; intro v3 w3 ho3 hG3 hat3; rw [hdf.out, len_ivs] at ho3; have hB3 := hB1.grown hG3 hbs (fun k hk => (ho.lt k hk).1); have hB4 := hB.trans (hB3.mono (by have := Hg.out; omega)); go_wp2; go_ret; exact ⟨_, rfl, own_base ho3 (by have := Hg.out; omega), by have := Hg.out; subst this; exact hB4⟩
end Go.Proofs.YtnhhbbjkeekneaaGreatDoor
namespace Go.V
open Go.RowKit
def catF (f : Nat -> List UInt8) (n : Nat) : List UInt8 := (List.range n).flatMap f
theorem cat_succ (f : Nat -> List UInt8) (n : Nat) : catF f (n + 1) = catF f n ++ f n := by simp [catF, List.range_succ]
def recF (text sig : List UInt8) : List UInt8 := shaF (catF (fun j => walkF ((sig.drop (16 * j)).take 16) j ((digF (shaF text)).getD j 0) (15 - (digF (shaF text)).getD j 0)) 35)
end Go.V
namespace Go.Proofs.YtnhhbbjkeekneaaGreatDoor
open Go.RowKit Go.V
theorem len_rec (text sig : List UInt8) : (recF text sig).length = 32 := len_sha _
theorem rwalk_i (v : Value) (p : List UInt8) (j f n : Nat) (jv fv nv : Int) (F : Nat -> Prop) (w : World) (ht : Rd w F v (bys p)) (hp : p.length = 16) (hj : j <= 1000) (hf : f <= 1000) (hn : n <= 1000) (e1 : jv = j) (e2 : fv = f) (e3 : nv = n) :
 Calls Tryz.prog 149 #[v, .int .i64 jv, .int .i64 fv, .int .i64 nv] w fun e w' => ∃ v', e = .returned v' /\ Rd w' (fun b => F b \/ w.heap.size <= b) v' (bys (walkF p j f (n - f))) /\ Below w.heap.size w w' := by
 subst e1 e2 e3; exact rwalk_any v p j f n F w ht hp hj hf hn
def recE (sig : List UInt8) : Int := if sig.length = 560 then 0 else 2
def recH (text sig : List UInt8) : List UInt8 := if sig.length = 560 then recF text sig else List.replicate 32 0
theorem zs8_bvs (n : Nat) : zs8 n = bvs (List.replicate n 0) := by simp [zs8, bvs, byteV]
theorem rrecover_any (tv sv : Value) (text sig : List UInt8) (F G : Nat -> Prop) (w : World) (ht : Rd w F tv (bys text)) (hs : Rd w G sv (bys sig)) (hn : text.length <= 17592186044416) :
 Calls Tryz.prog 133 #[tv, sv] w fun e w' => e = .returned (.tuple #[.agg (bvs (recH text sig)).toArray, .int .i64 (recE sig)]) /\ Below w.heap.size w w' := by
 obtain ⟨At, ct, rfl⟩ := ht.shape; have hs := hs.weak (F' := fun b => b < w.heap.size) (fun b hb _ => hb); obtain ⟨As, cs, rfl⟩ := hs.shape; have hcap := hs.cap
 have hsm : sig.length <= 9223372036854775807 := by
  obtain ⟨_, c', e, _, h2, _⟩ := hs.bytes; injection e with e1 e2 e3
  unfold maxLen at h2; omega
 have hz := Blk.new' w 32 (zs8 32); have hB := (Below.refl w.heap.size w).alloc (Nat.le_refl _) (.cells (zs8 32).toArray 32); by_cases h560 : sig.length = 560
 . have HE : Hid (recE sig = 0) := if_pos h560; have HH : Hid (recH text sig = recF text sig) := if_pos h560; rw [h560] at hs |-; have hne : ((560 : Int) != 560) = false := by decide
   have Hs := hid h560; clear h560 hcap hsm; go_enter Tryz.func133, Tryz.ntmps133; go_wp2_with (refine wp_new 32 rfl rfl zero25 ?_); refine (rsum_any _ text _ _ (ht.below hB) hn).mono ?_; rintro e w1 ⟨rfl, hB1⟩; go_wp2_with (fail); refine (rdigits_any (shaF text) _ (len_sha _)).mono ?_; rintro e wd ⟨dv, rfl, hod, hB2⟩; have hB12 := hB1.trans (hB2.mono hB1.size); have hBd := hB.trans (hB12.mono hB.size); have hzd := hz.below hB12; have hsd := hs.below hBd; obtain ⟨D, hD⟩ := nm (digF (shaF text)); rw [<- hD] at hod; have hDl : Hid (D.length = 35) := by show _ = _; rw [hD]; exact len_dig _ (by rw [len_sha]; omega)
   have hD15 : Hid (∀ n ∈ D, n <= 15) := by show ∀ n ∈ D, n <= 15; rw [hD]; exact dig_le _
   have HD := hid hD; clear hD; obtain ⟨gd, cd, rfl, hgd, hgl, hdc⟩ := own_ivs hod (by omega); have HDC := hid hdc; clear hdc hne; have hzl := hzd.lt; have h0 := World.ownsRow_nil wd wd.heap.size 5 1; go_wp2_with (fail)
   go_loopw [7, 8] (fun bv jv wr => ∃ j : Nat, j <= 35 /\ jv = .int .i64 j /\ wr.ownsRow wd.heap.size 5 1 bv (16 * j) (bvs (catF (fun j => walkF ((sig.drop (16 * j)).take 16) j (D.getD j 0) (15 - D.getD j 0)) j)) /\ Below wd.heap.size wd wr) (fun _ jv _ => 35 - (intOf jv).toNat)
   case atStart => exact ⟨0, by omega, rfl, h0, Below.refl _ _⟩
   case round =>
    obtain ⟨j, hj, rfl, ho, hB3⟩ := hrel; obtain ⟨C, hC⟩ := nm (catF (fun j => walkF ((sig.drop (16 * j)).take 16) j (D.getD j 0) (15 - D.getD j 0)) j); rw [<- hC] at ho; have HC := hid hC; clear hC; have hbs := hB3.size; by_cases hlt : j < 35
    . obtain ⟨dj, hdj⟩ : ∃ n, D[j]? = some n := ⟨_, List.getElem?_eq_getElem (by rw [hDl.out]; omega)⟩
      have hd15 := hD15.out dj (List.mem_of_getElem? hdj); have hcell := HDC.out j dj hdj; have HDG : Hid (∀ W, Ch (fun b => wd.heap.size <= b) wr W -> W.cell? ⟨gd, j, none⟩ = some (.int .i64 (dj : Int))) := fun W h => (World.cell?_of_block ((h.block gd (by omega) (by show ¬ wd.heap.size <= gd; omega)).trans (hB3.block gd hgl))).trans hcell
      have hcs0 : Hid (catF (fun j => walkF ((sig.drop (16 * j)).take 16) j (D.getD j 0) (15 - D.getD j 0)) (j + 1) = C ++ walkF ((sig.drop (16 * j)).take 16) j dj (15 - dj)) := by
       show _ = _; rw [cat_succ, HC.out]; simp [hdj]
      have hpl : Hid (((sig.drop (16 * j)).take 16).length = 16) := by show _ = _; rw [List.length_take, List.length_drop, Hs.out]; omega
      obtain ⟨A9, m9, c9, hcut, hcr⟩ := Rd.cut slB (hsd.below hB3) (16 * (j : Int)) (16 * (j : Int) + 16) (by omega) (by omega) (by rw [Hs.out]; omega); rw [show (16 * (j : Int)).toNat = 16 * j from by omega, show (16 * (j : Int) + 16).toNat - 16 * j = 16 from by omega] at hcr; have hwm : IntKind.i64.wrap (16 * (j : Int)) = 16 * (j : Int) := IntWalk.i64_in _ (by omega); have hwa : IntKind.i64.wrap (16 * (j : Int) + 16) = 16 * (j : Int) + 16 := IntWalk.i64_in _ (by omega); have hbd := hBd.size; clear hdj hcell; go_wp2; refine wp_region_noPanic ?_; refine wp_region_held_drew (S := Ch (fun b => wd.heap.size <= b) wr) (by kernel_rfl) ((Ch.refl _ _).drew) (fun hHeld => ?_); refine tkP 0 rfl ?_; refine tkP 1 rfl ?_; refine tkP 2 rfl ?_; refine tkP 3 rfl ?_; refine tkP 4 rfl ?_; refine tkP 5 rfl ?_; refine tkP 6 rfl ?_; refine tkP 7 rfl ?_; refine tkP 8 rfl ?_; refine tkP 9 rfl ?_; refine tkP 10 rfl ?_; refine tkP 11 rfl ?_; refine tkF 12 rfl HDG.out ?_; refine rdH 13 rfl (fun K hK => ?_); go_simp; refine (rwalk_i _ ((sig.drop (16 * j)).take 16) j dj 15 _ _ _ _ _ (hcr.ch hHeld (fun b hb hg => by have : b < w.heap.size := hb; have : wd.heap.size <= b := hg; omega)) hpl.out (by omega) (by omega) (by omega) rfl rfl rfl).mono ?_; rintro e' w5 ⟨v5, rfl, hr5, hB5⟩; have hC5 := hHeld.belowG hB5; have ho5 := own_keepB ho.drew hB5; have hwl : Hid ((walkF ((sig.drop (16 * j)).take 16) j dj (15 - dj)).length = 16) := len_walk _ _ _ hpl.out _; obtain ⟨q, hq⟩ := nm (walkF ((sig.drop (16 * j)).take 16) j dj (15 - dj)); rw [<- hq] at hr5 hwl; have Hq := hid hq; clear hq; obtain ⟨A5, c5, rfl⟩ := hr5.shape; have hs5 := hr5.src; rw [hwl.out] at hs5 |-; refine hK.out _ _ (hC5) (fun hHeld => ?_); clear hK K
      try simp only [nP]
      refine rdH 14 rfl (fun K hK => ?_); refine step_app (.tmp 20) (.tmp 33) slB (by rfl) (by rfl) (by rfl) ho5 (by rfl) hs5 (oneCell_bvs q) (by simp only [maxLen]; omega) (by omega) (by have := hC5.size; omega) ?_; intro v6 w6 ho6 hG6; have hC6 := hC5.growOwn hG6 (fun k hk => (ho5.lt k hk).1); refine hK.out _ _ (hC6) (fun hHeld => ?_); clear hK K
      try simp only [nP]
      refine tkP 15 rfl ?_; refine wpAnyH_done (by kernel_rfl) ?_ _; refine NoPanic.normal ?_; rw [show bvs C ++ bvs q = bvs (C ++ q) from by simp [bvs], Hq.out, <- hcs0.out] at ho6; go_wp2
      go_roundw
      case rel => exact ⟨j + 1, by omega, by go_num, ho6, hB3.trans ⟨hC6.os, hC6.tape, hC6.output, hC6.size, fun k hk => hC6.block k (by omega) (by show ¬ wd.heap.size <= k; omega)⟩⟩
      case measure => simp [intOf]; omega
    . have h35 : j = 35 := by omega
      subst h35; have hzr := hzd.below hB3; have hBr := hBd.trans (hB3.mono hBd.size); have hrd := Rd.of_own ho
      have hcl : Hid (C.length = 560) := by
       show _ = _; have := ho.1; rw [len_bvs] at this; omega
      go_wp2_with (fail); refine (rsum_any _ C _ _ hrd (by rw [hcl.out]; omega)).mono ?_; rintro e w7 ⟨rfl, hB7⟩; have hfin : Hid (recF text sig = shaF C) := by show _ = _; rw [HC.out, HD.out]; rfl
      rw [<- hfin.out]; obtain ⟨r, hr⟩ := nm (recF text sig); rw [<- hr]; have hrl : Hid (r.length = 32) := by show _ = _; rw [hr]; exact len_rec _ _
      have Hr := hid hr; clear hr hfin; have hz7 := hzr.below hB7; have hB7' := hBr.trans (hB7.mono hBr.size); go_wp2_with (refine wp_st 32 (.tmp 4) (.tmp 36) rfl rfl rfl (f := 0) rfl (l := bvs r) rfl hz7 (by simp [zs8, len_bvs, hrl.out]) (by rw [len_bvs, hrl.out]; exact size25) (oneCell_bvs _) ?_; intro w8 hb8 hG8); rw [set25 _ hrl.out] at hb8; refine ret_cell1 rfl rfl rfl hb8.whole und25 rfl (by rw [len_bvs, hrl.out]; exact size25) rfl ?_; exact ⟨by rw [HE.out, HH.out, Hr.out]; rfl, hB7'.grown hG8 hB7'.size (sk (by omega))⟩
 . have HE : Hid (recE sig = 2) := if_neg h560; have HH : Hid (recH text sig = List.replicate 32 0) := if_neg h560; have hne : ((sig.length : Int) != 560) = true := by rw [bne_iff_ne]; omega
   clear h560; go_enter Tryz.func133, Tryz.ntmps133; go_wp2_with (first | (refine wp_new 32 rfl rfl zero25 ?_) | (refine wp_bld 32 [] rfl rfl [] rfl bld25 ?_) | (refine wp_st 32 (.tmp 4) (.tmp 12) rfl rfl rfl (f := 0) rfl (l := zs8 32) rfl hz (by simp [zs8]) (by exact size25) one_zs8 ?_; intro w8 hb8 hG8)); rw [show (zs8 32).take 0 ++ zs8 32 ++ (zs8 32).drop (0 + (zs8 32).length) = zs8 32 from rfl] at hb8; go_wp2; refine ret_cell1 rfl rfl rfl hb8.whole und25 rfl (by exact size25) rfl ?_; exact ⟨by rw [HE.out, HH.out, <- zs8_bvs]; rfl, hB.grown hG8 (by simp) (sk (by omega))⟩
end Go.Proofs.YtnhhbbjkeekneaaGreatDoor
namespace Go.V
end Go.V
namespace Go.Proofs.YtnhhbbjkeekneaaGreatDoor
open Go.RowKit Go.V
def what : List UInt8 := [119, 104, 97, 116, 32, 100, 111, 32, 121, 97, 32, 119, 97, 110, 116, 32, 102, 111, 114, 32, 110, 111, 116, 104, 105, 110, 103, 63]
end Go.Proofs.YtnhhbbjkeekneaaGreatDoor
