/- O4: layer 4: contracts of package ots. -/
import Derived.Test.YtnhhbbjkeekneaaGreatDoorK3
import Derived.Test.YtnhhbbjkeekneaaGreatDoorVE
namespace Go.V
open Go.RowKit
theorem bvs_take (l : List UInt8) (n : Nat) : (bvs l).take n = bvs (l.take n) := by simp [bvs, List.map_take]
theorem bvs_drop (l : List UInt8) (n : Nat) : (bvs l).drop n = bvs (l.drop n) := by simp [bvs, List.map_drop]
theorem bvs_app (a b : List UInt8) : bvs (a ++ b) = bvs a ++ bvs b := by simp [bvs]
theorem u8v (n : Nat) : IntKind.u8.wrap (n : Int) = ((UInt8.ofNat n).toNat : Int) := by rw [u8w, UInt8.toNat_ofNat']
def zsI (n : Nat) : List Value := List.replicate n (.int .i64 0)
theorem len_zsI (n : Nat) : (zsI n).length = n := by simp [zsI]
theorem ivs_set (l : List Nat) (x i n : Nat) (hl : l.length = i) (hn : 0 < n) : (ivs l ++ zsI n).set i (.int .i64 (x : Int)) = ivs (l ++ [x]) ++ zsI (n - 1) := by
  obtain ⟨m, rfl⟩ : ∃ m, n = m + 1 := ⟨n - 1, by omega⟩
  rw [List.set_append_right _ _ (by rw [len_ivs]; omega), len_ivs, hl, Nat.sub_self]
  simp [zsI, List.replicate_succ, ivs]
/-- what digits leave from 15 -/
def lackN : List Nat → Nat
  | [] => 0
  | x :: l => (15 - x) + lackN l
theorem lackN_app (a b : List Nat) : lackN (a ++ b) = lackN a + lackN b := by
  induction a with
  | nil => simp [lackN]
  | cons x a ih => simp [lackN, ih]; omega
theorem lackN_nib (h : List UInt8) : lackN (nibF h) = lackF h := by
  induction h with
  | nil => rfl
  | cons b h ih =>
    rw [show nibF (b :: h) = [b.toNat / 16, b.toNat % 16] ++ nibF h from rfl, lackN_app, ih]
    simp [lackN, lackF]
theorem lackN_le (l : List Nat) : lackN l ≤ 15 * l.length := by
  induction l with
  | nil => simp [lackN]
  | cons x l ih => simp [lackN]; omega
end Go.V
namespace Go.Proofs.YtnhhbbjkeekneaaGreatDoor
open Go.RowKit Go.V
theorem len_zs8 (n : Nat) : (zs8 n).length = n := by simp [zs8]
theorem two_behind (p : List UInt8) (hp : p.length = 16) (a b : UInt8) : ((splice (zs8 18) 0 (bvs p)).set 16 (byteV a)).set 17 (byteV b) = bvs (p ++ [a, b]) := by
  have e : splice (zs8 18) 0 (bvs p) = bvs p ++ zs8 2 := by
    unfold splice zs8
    rw [List.take_zero, List.nil_append, List.drop_replicate, len_bvs, hp]
  rw [e, List.set_append_right _ _ (by rw [len_bvs, hp]; omega), len_bvs, hp, List.set_append_right _ _ (by rw [len_bvs, hp]; omega), len_bvs, hp]
  simp [bvs, zs8, List.replicate]
/-- n pieces, the rest noughts -/
def pcC (C : List UInt8) (n : Nat) : List Value := bvs C ++ List.replicate (560 - 16 * n) (.int .u8 0)
theorem len_pcC (C : List UInt8) (n : Nat) (hC : C.length = 16 * n) (hn : n ≤ 35) : (pcC C n).length = 560 := by simp [pcC, len_bvs, hC]; omega
theorem pcC_set (C q : List UInt8) (n : Nat) (hC : C.length = 16 * n) (hq : q.length = 16) (hn : n < 35) : (pcC C n).take (n * 16) ++ bvs q ++ (pcC C n).drop (n * 16 + (bvs q).length) = pcC (C ++ q) (n + 1) := by
  have hl : (bvs C).length = n * 16 := by rw [len_bvs, hC]; omega
  unfold pcC
  rw [List.take_append_of_le_length (by omega), List.take_of_length_le (by omega), List.drop_append, List.drop_of_length_le (by omega), List.nil_append, hl, len_bvs, hq, show n * 16 + 16 - n * 16 = 16 from by omega, List.drop_replicate, show 560 - 16 * n - 16 = 560 - 16 * (n + 1) from by omega]
  simp [bvs]
theorem pcC_0 (f : Nat → List UInt8) : pcC (catF f 0) 0 = zs8 560 := rfl
theorem pcC_end (C : List UInt8) : pcC C 35 = bvs C := by simp [pcC]
theorem sizePc : (Tryz.prog.info? 216).map (·.size) = some 16 := by kernel_rfl
theorem zeroPc : (Tryz.prog.info? 216).map (·.zero) = some (some (.agg (zs8 16).toArray)) := by kernel_rfl
theorem undPc : Tryz.prog.underlying 216 = some (.array 16 5) := Tryz.underlying216
set_option maxRecDepth 100000 in
set_option maxHeartbeats 1000000 in
theorem pieceOf_any (v : Value) (p : List UInt8) (F : Nat → Prop) (w : World) (hK : KS w) (ht : Rd w F v (bys p)) (hn : p.length ≤ 17592186044416) :
    Calls Tryz.prog 164 #[v] w fun e w' => e = .returned (.agg (bvs (pieceF p)).toArray) ∧ Below w.heap.size w w' := by
  obtain ⟨A, c, rfl⟩ := ht.shape
  have hz := Blk.new' w 216 (zs8 16)
  have hB := (Below.refl w.heap.size w).alloc (Nat.le_refl _) (.cells (zs8 16).toArray 216)
  have hr := ht.below hB
  have hlk : Hid ((pieceF p).length = 16) := len_piece p
  go_enter Tryz.func164, Tryz.ntmps164
  go_wp2_with (refine wp_new 216 rfl rfl zeroPc ?_)
  refine (sum_any _ p F _ (hK.below hB) hr (by omega)).mono ?_
  rintro e w1 ⟨rfl, hB1⟩
  obtain ⟨d, hd⟩ : ∃ d, d = shaF p := ⟨_, rfl⟩
  rw [← hd]
  have hdl : Hid (d.length = 32) := by show _ = _; rw [hd]; exact len_sha _
  have hpd : Hid (pieceF p = d.take 16) := by show _ = _; rw [hd]; rfl
  clear hd
  have hz1 := hz.below hB1
  have hb1 := hB.trans (hB1.mono hB.size)
  have hz3 := Blk.new' w1 32 (zs8 32)
  have hz2 := hz1.alloc (.cells (zs8 32).toArray 32)
  have hb2 := hb1.alloc hb1.size (.cells (zs8 32).toArray 32)
  have hsl := fun W => run_sla_all und25 size8 w1.heap.size 0 (by omega) W
  have hz1l := hz1.lt
  go_wp2_with (first | (refine wp_new 32 rfl rfl zero25 ?_) | (refine wp_st 32 (.tmp 3) (.tmp 6) rfl rfl rfl (f := 0) rfl (l := bvs d) rfl hz3 (by simp [zs8, len_bvs, hdl.out]) (by rw [len_bvs, hdl.out]; exact size25) (oneCell_bvs _) ?_; intro w4 hb4 hG4; refine wp_stop ?_))
  rw [set25 _ hdl.out] at hb4
  have hB4 := hb2.grown hG4 hb2.size (by intro k hk; injection hk with hk; have := hb1.size; omega)
  have hz4 := hz2.keep (hG4.block _ hz2.lt (by intro e; injection e with e; omega))
  have hr4 := Blk.rdcut hb4 32 32 (by rw [hdl.out]; omega) (by omega) (by simp [maxLen])
  rw [List.take_of_length_le (by rw [hdl.out]; omega)] at hr4
  have hz5 := hz4.alloc (.cells (zs8 16).toArray 216)
  have hb5 := hB4.alloc hB4.size (.cells (zs8 16).toArray 216)
  have hk5 := Blk.new' w4 216 (zs8 16)
  have hr5 := hr4.below ((Below.refl _ _).alloc (Nat.le_refl _) (.cells (zs8 16).toArray 216))
  have hsl5 := fun W => run_sla_all undPc size8 w4.heap.size 0 (by omega) W
  have hs5 := hr5.src
  rw [hdl.out] at hs5
  have hz4l := hz4.lt
  refine wp_go ?_
  go_wp2_with (refine wp_new 216 rfl rfl zeroPc ?_)
  obtain ⟨w5, hw5⟩ : ∃ w5, w5 = w4.alloc (.cells (zs8 16).toArray 216) := ⟨_, rfl⟩
  rw [← hw5] at hz5 hb5 hk5 hr5 hs5 ⊢
  clear hw5
  refine wp_region_tail 2 (by kernel_rfl) (by kernel_rfl) ?_
  simp only [List.take_succ_cons, List.take_zero, List.drop_succ_cons, List.drop_zero]
  repeat still_step
  refine wpStill_nil ?_
  replace hz5 := hz5.drew
  replace hb5 := hb5.drew
  replace hk5 := hk5.drew
  replace hs5 := (hr5.drew).src
  rw [hdl.out] at hs5
  go_wp2_with (first | (refine wp_copyT (.tmp 7) (.tmp 8) slB rfl rfl rfl rfl hk5 hs5 (oneCell_bvs d) (by omega) (by omega) (by simp [zs8]) ?_; intro w6 hb6 hG6; refine wp_stop ?_))
  rw [bvs_take, ← hpd.out, splice_all _ _ (by rw [len_zs8, len_bvs, hlk.out])] at hb6
  have hB6 := hb5.grown hG6 hb5.size (by intro k hk; injection hk with hk; have := hB4.size; omega)
  have hz6 := hz5.keep (hG6.block _ hz5.lt (by intro e; injection e with e; omega))
  clear hz5 hb5 hk5 hr5 hsl5 hs5 hb4 hr4 hz4 hG6 hG4 hB4 hz3 hz2 hb2 hsl hb1 hz1 hB1
  refine wp_go ?_
  go_wp2_with (first | (refine wp_ld (o := ⟨some 10, _, _, _, _, _⟩) 216 (.tmp 4) rfl rfl rfl hb6.whole undPc rfl (by rw [len_bvs, hlk.out]; exact sizePc) ?_) | (refine wp_st 216 (.tmp 2) (.tmp 10) rfl rfl rfl (f := 0) rfl (l := bvs (pieceF p)) rfl hz6 (by simp [zs8, len_bvs, hlk.out]) (by rw [len_bvs, hlk.out]; exact sizePc) (oneCell_bvs _) ?_; intro w7 hb7 hG7))
  rw [set_all _ _ (by rw [len_zs8, len_bvs, hlk.out])] at hb7
  refine ret_cell rfl rfl hb7.whole undPc rfl (by rw [len_bvs, hlk.out]; exact sizePc) rfl ?_
  exact ⟨rfl, hB6.grown hG7 hB6.size (by intro k hk; injection hk with hk; omega)⟩
theorem zero18 : (Tryz.prog.info? 225).map (·.zero) = some (some (.agg (zs8 18).toArray)) := by kernel_rfl
theorem und18 : Tryz.prog.underlying 225 = some (.array 18 5) := Tryz.underlying225
set_option maxRecDepth 100000 in
set_option maxHeartbeats 1000000 in
theorem stepped_any (p : List UInt8) (j s : Nat) (w : World) (hK : KS w) (hp : p.length = 16) (_hj : j ≤ 1000) (_hs : s ≤ 2000) :
    Calls Tryz.prog 163 #[.agg (bvs p).toArray, .int .i64 (j : Int), .int .i64 (s : Int)] w fun e w' => e = .returned (.agg (bvs (pieceF (p ++ [UInt8.ofNat j, UInt8.ofNat s]))).toArray) ∧ Below w.heap.size w w' := by
  have b0 := ((Blk.new' w 216 (bvs p)).alloc (.cells (zs8 16).toArray 216)).alloc (.cells (zs8 18).toArray 225)
  have b1 := (Blk.new' (w.alloc (.cells (bvs p).toArray 216)) 216 (zs8 16)).alloc (.cells (zs8 18).toArray 225)
  have b2 := Blk.new' ((w.alloc (.cells (bvs p).toArray 216)).alloc (.cells (zs8 16).toArray 216)) 225 (zs8 18)
  have hB := (((Below.refl w.heap.size w).alloc (Nat.le_refl _) (.cells (bvs p).toArray 216)).alloc (by simp) (.cells (zs8 16).toArray 216)).alloc (by simp; omega) (.cells (zs8 18).toArray 225)
  rw [show (w.alloc (.cells (bvs p).toArray 216)).heap.size = w.heap.size + 1 from by simp] at b1
  rw [show ((w.alloc (.cells (bvs p).toArray 216)).alloc (.cells (zs8 16).toArray 216)).heap.size = w.heap.size + 1 + 1 from by simp] at b2
  go_enter Tryz.func163, Tryz.ntmps163
  go_wp2_with (first | (refine wp_new 216 rfl rfl zeroPc ?_) | (refine wp_new 225 rfl rfl zero18 ?_; refine wp_stop ?_))
  obtain ⟨w0, hw0⟩ : ∃ w0, w0 = ((w.alloc (.cells (bvs p).toArray 216)).alloc (.cells (zs8 16).toArray 216)).alloc (.cells (zs8 18).toArray 225) := ⟨_, rfl⟩
  rw [← hw0] at b0 b1 b2 hB ⊢
  clear hw0
  have hsl0 := fun W => run_sla_all undPc size8 w.heap.size 0 (by omega) W
  have hsl2 := fun W => run_sla_all und18 size8 (w.heap.size + 1 + 1) 0 (by omega) W
  have hr0 := Blk.rdcut b0 16 16 (by omega) (by omega) (by simp [maxLen])
  rw [List.take_of_length_le (by omega)] at hr0
  have hs0 := hr0.src
  rw [hp] at hs0
  have huj := u8v j
  have hus := u8v s
  have htb := hid (two_behind p hp (UInt8.ofNat j) (UInt8.ofNat s))
  have hl18 : Hid ((splice (zs8 18) 0 (bvs p)).length = 18) := by show _ = _; simp [splice, zs8, len_bvs, hp]
  refine wp_go ?_
  go_wp2_with (fail)
  replace b0 := b0.drew
  replace b1 := b1.drew
  replace b2 := b2.drew
  replace hB := hB.drew
  replace hs0 := hr0.drew.src
  rw [hp] at hs0
  refine wp_region_tail 2 (by kernel_rfl) (by kernel_rfl) ?_
  simp only [List.take_succ_cons, List.take_zero, List.drop_succ_cons, List.drop_zero]
  repeat still_step
  refine wpStill_nil ?_
  go_wp2_with (refine wp_copyB (.tmp 8) (.tmp 9) slB rfl rfl rfl rfl b2 hs0 (oneCell_bvs p) (by omega) (fun _ => rfl) (by simp [zs8]) ?_; intro w3 hb3 hG3; refine wp_stop ?_)
  have hB3 := hB.grown hG3 hB.size (by intro k hk; injection hk with hk; omega)
  have c1 := b1.keep (hG3.block _ b1.lt (by intro e; injection e with e; omega))
  have hb3l := hb3.lt
  clear hsl0 hr0 hs0 b2 b0 b1 hG3
  refine wp_go ?_
  go_wp2_with (first | (refine wp_st1 5 (.tmp 15) (.tmp 12) rfl rfl rfl (f := 16) rfl (v := byteV (UInt8.ofNat j)) (by unfold byteV; rfl) hb3 (by rw [hl18.out]; omega) size8 rfl rfl ?_; intro w4 hb4 hG4) | (refine wp_st1 5 (.tmp 16) (.tmp 14) rfl rfl rfl (f := 17) rfl (v := byteV (UInt8.ofNat s)) (by unfold byteV; rfl) hb4 (by rw [List.length_set, hl18.out]; omega) size8 rfl rfl ?_; intro w5 hb5 hG5; refine wp_stop ?_))
  rw [htb.out] at hb5
  have hB4 := hB3.grown hG4 hB3.size (by intro k hk; injection hk with hk; omega)
  have hB5 := hB4.grown hG5 hB4.size (by intro k hk; injection hk with hk; omega)
  have c4 := c1.keep (hG4.block _ c1.lt (by intro e; injection e with e; omega))
  have c5 := c4.keep (hG5.block _ c4.lt (by intro e; injection e with e; omega))
  have hr5 := Blk.rdcut hb5 18 18 (by simp [hp]) (by omega) (by simp [maxLen])
  rw [List.take_of_length_le (by simp [hp])] at hr5
  have hlk : Hid ((pieceF (p ++ [UInt8.ofNat j, UInt8.ofNat s])).length = 16) := len_piece _
  refine wp_go ?_
  go_wp2_with (fail)
  refine (pieceOf_any _ (p ++ [UInt8.ofNat j, UInt8.ofNat s]) _ _ (hK.below hB5) (by simpa [hp] using hr5) (by simp [hp])).mono ?_
  rintro e w6 ⟨rfl, hB6⟩
  have c6 := c5.below hB6
  have hB6' := hB5.trans (hB6.mono hB5.size)
  obtain ⟨q, hq⟩ : ∃ q, q = pieceF (p ++ [UInt8.ofNat j, UInt8.ofNat s]) := ⟨_, rfl⟩
  rw [← hq] at hlk ⊢
  have Hq := hid hq
  clear hq
  go_wp2_with (refine wp_st 216 (.tmp 6) (.tmp 18) rfl rfl rfl (f := 0) rfl (l := bvs q) rfl c6 (by simp [zs8, len_bvs, hlk.out]) (by rw [len_bvs, hlk.out]; exact sizePc) (oneCell_bvs _) ?_; intro w7 hb7 hG7)
  rw [set_all _ _ (by rw [len_zs8, len_bvs, hlk.out])] at hb7
  refine ret_cell rfl rfl hb7.whole undPc rfl (by rw [len_bvs, hlk.out]; exact sizePc) rfl ?_
  exact ⟨by rw [Hq.out], hB6'.grown hG7 hB6'.size (by intro k hk; injection hk with hk; omega)⟩
set_option maxRecDepth 100000 in
set_option maxHeartbeats 1000000 in
theorem walked_any (p : List UInt8) (j f m : Nat) (jv fv nv : Int) (w : World) (hK : KS w) (hp : p.length = 16) (hj : j ≤ 1000) (hf : f ≤ 1000) (hm : m ≤ 1000) (e1 : jv = j) (e2 : fv = f) (e3 : nv = (f : Int) + m) :
    Calls Tryz.prog 154 #[.agg (bvs p).toArray, .int .i64 jv, .int .i64 fv, .int .i64 nv] w fun e w' => e = .returned (.agg (bvs (walkF p j f m)).toArray) ∧ Below w.heap.size w w' := by
  subst e1 e2 e3
  have Hp := hid hp
  clear hp
  have b0 := (Blk.new' w 216 (bvs p)).alloc (.cells (zs8 16).toArray 216)
  have b1 := Blk.new' (w.alloc (.cells (bvs p).toArray 216)) 216 (zs8 16)
  have hB := ((Below.refl w.heap.size w).alloc (Nat.le_refl _) (.cells (bvs p).toArray 216)).alloc (by simp) (.cells (zs8 16).toArray 216)
  rw [show (w.alloc (.cells (bvs p).toArray 216)).heap.size = w.heap.size + 1 from by simp] at b1
  go_enter Tryz.func154, Tryz.ntmps154
  go_wp2_with (refine wp_new 216 rfl rfl zeroPc ?_; refine wp_stop ?_)
  obtain ⟨w0, hw0⟩ : ∃ w0, w0 = (w.alloc (.cells (bvs p).toArray 216)).alloc (.cells (zs8 16).toArray 216) := ⟨_, rfl⟩
  rw [← hw0] at b0 b1 hB ⊢
  clear hw0
  have hsub : (f : Int) + (m : Int) - (f : Int) = (m : Int) := by omega
  refine wp_go ?_
  go_wp2_with (fail)
  go_loopw [13] (fun iv wr => ∃ k : Nat, k ≤ m ∧ iv = .int .i64 k ∧ Blk wr w.heap.size 216 (bvs (walkF p j f k)) ∧ Blk wr (w.heap.size + 1) 216 (zs8 16) ∧ Below w.heap.size w wr) (fun iv _ => m - (intOf iv).toNat)
  case atStart => exact ⟨0, by omega, rfl, b0, b1, hB⟩
  case round =>
    obtain ⟨k, hk, rfl, c0, c1, hBr⟩ := hrel
    obtain ⟨q, hq⟩ : ∃ q, q = walkF p j f k := ⟨_, rfl⟩
    have hql : Hid (q.length = 16) := by show _ = _; rw [hq]; exact len_walk p j f Hp.out k
    rw [← hq] at c0
    have Hq := hid hq
    clear hq
    by_cases hlt : k < m
    · have Hst : Hid (walkF p j f (k + 1) = pieceF (q ++ [UInt8.ofNat j, UInt8.ofNat (f + k)])) := by show _ = _; rw [walkF, Hq.out]
      obtain ⟨s, hs⟩ : ∃ s, s = f + k := ⟨_, rfl⟩
      rw [← hs] at Hst
      have hsi : (f : Int) + (k : Int) = (s : Int) := by omega
      have hs2 : s ≤ 2000 := by omega
      clear hs
      go_wp2_with (refine wp_ld 216 (.tmp 4) rfl rfl rfl c0.whole undPc rfl (by rw [len_bvs, hql.out]; exact sizePc) ?_)
      refine (stepped_any q j s _ (hK.below hBr) hql.out (by omega) (by omega)).mono ?_
      rintro e w3 ⟨rfl, hB3⟩
      rw [← Hst.out]
      have hl1 : Hid ((walkF p j f (k + 1)).length = 16) := len_walk p j f Hp.out (k + 1)
      obtain ⟨r, hr⟩ : ∃ r, r = walkF p j f (k + 1) := ⟨_, rfl⟩
      rw [← hr] at hl1 ⊢
      have Hr := hid hr
      clear hr
      have d0 := c0.below hB3
      have d1 := c1.below hB3
      have hB3' := hBr.trans (hB3.mono hBr.size)
      go_wp2_with (refine wp_st 216 (.tmp 4) (.tmp 21) rfl rfl rfl (f := 0) rfl (l := bvs r) rfl d0 (by rw [len_bvs, len_bvs, hl1.out, hql.out]; omega) (by rw [len_bvs, hl1.out]; exact sizePc) (oneCell_bvs _) ?_; intro w7 hb7 hG7)
      rw [set_all _ _ (by rw [len_bvs, len_bvs, hl1.out, hql.out]), Hr.out] at hb7
      have d1' := d1.keep (hG7.block _ d1.lt (by intro e; injection e with e; omega))
      have hB7 := hB3'.grown hG7 hB3'.size (by intro k hk; injection hk with hk; omega)
      go_wp2
      go_roundw
      case rel => exact ⟨k + 1, by omega, by go_num, hb7, d1', hB7⟩
      case measure => simp [intOf]; omega
    · have hkm : k = m := by omega
      have Hfin : Hid (walkF p j f m = q) := by show _ = _; rw [Hq.out, hkm]
      clear hkm
      go_wp2_with (first | (refine wp_ld 216 (.tmp 4) rfl rfl rfl c0.whole undPc rfl (by rw [len_bvs, hql.out]; exact sizePc) ?_) | (refine wp_st 216 (.tmp 8) (.tmp 23) rfl rfl rfl (f := 0) rfl (l := bvs q) rfl c1 (by simp [zs8, len_bvs, hql.out]) (by rw [len_bvs, hql.out]; exact sizePc) (oneCell_bvs _) ?_; intro w7 hb7 hG7))
      rw [set_all _ _ (by rw [len_zs8, len_bvs, hql.out])] at hb7
      refine ret_cell rfl rfl hb7.whole undPc rfl (by rw [len_bvs, hql.out]; exact sizePc) rfl ?_
      exact ⟨by rw [Hfin.out], hBr.grown hG7 hBr.size (by intro k hk; injection hk with hk; omega)⟩
theorem undPcs : Tryz.prog.underlying 217 = some (.array 35 216) := Tryz.underlying217
theorem sizePcs : (Tryz.prog.info? 217).map (·.size) = some 560 := by kernel_rfl
theorem zeroPcs : (Tryz.prog.info? 217).map (·.zero) = some (some (.agg (zs8 560).toArray)) := by kernel_rfl
theorem aggPc (W : World) : (isAgg 216).run Tryz.prog W = .ok true W := by kernel_rfl
set_option maxRecDepth 100000 in
set_option maxHeartbeats 1000000 in
theorem joined_any (C : List UInt8) (w : World) (hC : C.length = 560) :
    Calls Tryz.prog 155 #[.agg (bvs C).toArray] w fun e w' => ∃ v', e = .returned v' ∧ w'.ownsRow w.heap.size 5 1 v' 560 (bvs C) ∧ Below w.heap.size w w' := by
  have b0 := Blk.new' w 217 (bvs C)
  have hB := (Below.refl w.heap.size w).alloc (Nat.le_refl _) (.cells (bvs C).toArray 217)
  have HC := hid hC
  clear hC
  go_enter Tryz.func155, Tryz.ntmps155
  go_wp2_with (with_reducible refine wp_at 6 rfl ?_)
  obtain ⟨w0, hw0⟩ : ∃ w0, w0 = w.alloc (.cells (bvs C).toArray 217) := ⟨_, rfl⟩
  rw [← hw0] at b0 hB ⊢
  clear hw0
  have hb0l := b0.lt
  refine wp_on ?_
  refine wp_mk0 slB rfl (.const (.int .i64 0)) (.const (.int .i64 560)) rfl rfl 560 rfl rfl (by omega) (by simp [maxLen]) ?_
  intro w1 ho1 hB1
  have b1 := b0.below hB1
  have hBw := hB.trans (hB1.mono hB.size)
  replace ho1 := own_base ho1 hB.size
  have hs1 := hB1.size
  go_wp2_with (refine wp_ld 217 (.tmp 1) rfl rfl rfl b1.whole undPcs rfl (by rw [len_bvs, HC.out]; exact sizePcs) ?_)
  go_loopw [3, 5, 8] (fun bv pv iv wr => ∃ i : Nat, i ≤ 35 ∧ iv = .int .i64 i ∧ wr.ownsRow w.heap.size 5 1 bv (16 * i) (bvs (C.take (16 * i))) ∧ Below w.heap.size w wr) (fun _ _ iv _ => 35 - (intOf iv).toNat)
  case atStart => exact ⟨0, by omega, rfl, ho1, hBw⟩
  case round =>
    obtain ⟨i, hi, rfl, ho, hBr⟩ := hrel
    have hbs := hBr.size
    by_cases hlt : i < 35
    · obtain ⟨q, hq⟩ : ∃ q, q = (C.drop (16 * i)).take 16 := ⟨_, rfl⟩
      have hql : Hid (q.length = 16) := by show _ = _; rw [hq, List.length_take, List.length_drop, HC.out]; omega
      have Hst : Hid (bvs (C.take (16 * i)) ++ bvs q = bvs (C.take (16 * (i + 1)))) := by
        show _ = _
        rw [hq, ← bvs_app, ← List.take_add]
        rfl
      have Hcut : Hid (((bvs C).drop (i * 16)).take 16 = bvs q) := by show _ = _; rw [bvs_drop, bvs_take, hq, Nat.mul_comm]
      clear hq
      go_wp2_with (with_reducible refine wp_at 10 rfl ?_)
      refine wp_on ?_
      refine wp_idxW 217 (.tmp 7) (.tmp 8) rfl rfl rfl rfl undPcs hlt aggPc sizePc ?_
      rw [Hcut.out]
      have hz5 := Blk.new' wr 216 (zs8 16)
      have hB5 := hBr.alloc hbs (.cells (zs8 16).toArray 216)
      have ho5 := own_keepB ho ((Below.refl _ _).alloc (Nat.le_refl _) (.cells (zs8 16).toArray 216))
      have hsl := fun W => run_sla_all undPc size8 wr.heap.size 0 (by omega) W
      go_wp2_with (first | (refine wp_new 216 rfl rfl zeroPc ?_) | (refine wp_st 216 (.tmp 5) (.tmp 10) rfl rfl rfl (f := 0) rfl (l := bvs q) rfl hz5 (by simp [zs8, len_bvs, hql.out]) (by rw [len_bvs, hql.out]; exact sizePc) (oneCell_bvs _) ?_; intro w6 hb6 hG6; refine wp_stop ?_))
      rw [set_all _ _ (by rw [len_zs8, len_bvs, hql.out])] at hb6
      have hB6 := hB5.grown hG6 hB5.size (by intro k hk; injection hk with hk; omega)
      have hb6l := hb6.lt
      have ho6 := ho5.kept hG6 (.inr (by intro e; have := (ho.lt _ e).2; omega))
      have hs6 := (Blk.rdcut hb6 16 16 (by rw [hql.out]; omega) (by omega) (by simp [maxLen])).src
      rw [List.take_of_length_le (by rw [hql.out]; omega), hql.out] at hs6
      refine wp_go ?_
      go_wp2_with (with_reducible refine wp_at 13 rfl ?_)
      refine wp_on ?_
      refine wp_app (.tmp 11) (.tmp 12) slB rfl rfl rfl ho6 rfl hs6 (oneCell_bvs q) (by simp only [maxLen]; omega) (by omega) (by omega) ?_
      intro v7 w7 ho7 hG7 hat7
      rw [Hst.out] at ho7
      have hB7 := hB6.grown hG7 hB6.size (fun k hk => (ho6.lt k hk).1)
      go_wp2
      go_roundw
      case rel => exact ⟨i + 1, by omega, by go_num, ho7, hB7⟩
      case measure => simp [intOf]; omega
    · have h35 : i = 35 := by omega
      subst h35
      rw [List.take_of_length_le (by rw [HC.out]; omega)] at ho
      go_wp2
      go_ret
      exact ⟨_, rfl, ho, hBr⟩
theorem sizeI35 : (Tryz.prog.info? 218).map (·.size) = some 35 := by kernel_rfl
theorem zeroI35 : (Tryz.prog.info? 218).map (·.zero) = some (some (.agg (zsI 35).toArray)) := by kernel_rfl
theorem undI35 : Tryz.prog.underlying 218 = some (.array 35 3) := Tryz.underlying218
theorem sizeI : (Tryz.prog.info? 3).map (·.size) = some 1 := by kernel_rfl
set_option maxRecDepth 100000 in
set_option maxHeartbeats 2000000 in
theorem digits_any (h : List UInt8) (w : World) (hl : h.length = 32) :
    Calls Tryz.prog 153 #[.agg (bvs h).toArray] w fun e w' => e = .returned (.agg (ivs (digF h)).toArray) ∧ Below w.heap.size w w' := by
  have b0 := ((Blk.new' w 32 (bvs h)).alloc (.cells (zsI 35).toArray 218)).alloc (.cells (zsI 35).toArray 218)
  have b1 := (Blk.new' (w.alloc (.cells (bvs h).toArray 32)) 218 (zsI 35)).alloc (.cells (zsI 35).toArray 218)
  have b2 := Blk.new' ((w.alloc (.cells (bvs h).toArray 32)).alloc (.cells (zsI 35).toArray 218)) 218 (zsI 35)
  have hB := (((Below.refl w.heap.size w).alloc (Nat.le_refl _) (.cells (bvs h).toArray 32)).alloc (by simp) (.cells (zsI 35).toArray 218)).alloc (by simp; omega) (.cells (zsI 35).toArray 218)
  rw [show (w.alloc (.cells (bvs h).toArray 32)).heap.size = w.heap.size + 1 from by simp] at b1
  rw [show ((w.alloc (.cells (bvs h).toArray 32)).alloc (.cells (zsI 35).toArray 218)).heap.size = w.heap.size + 1 + 1 from by simp] at b2
  have Hl := hid hl
  clear hl
  go_enter Tryz.func153, Tryz.ntmps153
  go_wp2_with (refine wp_new 218 rfl rfl zeroI35 ?_)
  obtain ⟨w0, hw0⟩ : ∃ w0, w0 = ((w.alloc (.cells (bvs h).toArray 32)).alloc (.cells (zsI 35).toArray 218)).alloc (.cells (zsI 35).toArray 218) := ⟨_, rfl⟩
  rw [← hw0] at b0 b1 b2 hB ⊢
  clear hw0
  go_loopw [4, 8] (fun qv iv wr => ∃ i : Nat, i ≤ 16 ∧ iv = .int .i64 i ∧ Blk wr (w.heap.size + 1 + 1) 218 (ivs (nibF (h.take i)) ++ zsI (35 - 2 * i)) ∧ Blk wr w.heap.size 32 (bvs h) ∧ Blk wr (w.heap.size + 1) 218 (zsI 35) ∧ Below w.heap.size w wr) (fun _ iv _ => 16 - (intOf iv).toNat)
  case atStart => exact ⟨0, by omega, rfl, b2, b0, b1, hB⟩
  case round =>
    obtain ⟨i, hi, rfl, c2, c0, c1, hBr⟩ := hrel
    by_cases hlt : i < 16
    · obtain ⟨x, hx⟩ : ∃ x, h[i]? = some x := ⟨_, List.getElem?_eq_getElem (by rw [Hl.out]; omega)⟩
      have hcx := c0.cellAt i _ (bvs_at _ _ _ hx)
      unfold byteV at hcx
      have hx256 := x.toNat_lt
      have hbx := hid (bvs_at _ _ _ hx)
      have hs1 := hid (ivs_set (nibF (h.take i)) (x.toNat / 16) (2 * i) (35 - 2 * i) (by rw [len_nib, List.length_take, Hl.out]; omega) (by omega))
      have hs2 := hid (ivs_set (nibF (h.take i) ++ [x.toNat / 16]) (x.toNat % 16) (2 * i + 1) (35 - 2 * i - 1) (by rw [List.length_append, len_nib, List.length_take, Hl.out]; simp; omega) (by omega))
      have hst : Hid (nibF (h.take i) ++ [x.toNat / 16] ++ [x.toNat % 16] = nibF (h.take (i + 1))) := by
        show _ = _
        rw [take_step h i x hx, nib_snoc, List.append_assoc]
        rfl
      have hl0 : Hid ((ivs (nibF (h.take i)) ++ zsI (35 - 2 * i)).length = 35) := by show _ = _; rw [List.length_append, len_ivs, len_nib, List.length_take, Hl.out, len_zsI]; omega
      clear hx
      go_wp2_with (refine wp_st1 3 (.tmp 18) (.tmp 17) rfl rfl rfl (f := 2 * i) rfl (v := .int .i64 ((x.toNat / 16 : Nat) : Int)) rfl c2 (by rw [hl0.out]; omega) sizeI rfl rfl ?_; intro w3 hb3 hG3; refine wp_stop ?_)
      have d0 := c0.keep (hG3.block _ c0.lt (by intro e; injection e with e; omega))
      have d1 := c1.keep (hG3.block _ c1.lt (by intro e; injection e with e; omega))
      have hcx3 := d0.cellAt i _ hbx.out
      unfold byteV at hcx3
      have hB3 := hBr.grown hG3 hBr.size (by intro k hk; injection hk with hk; omega)
      have hlen3 := hid (show ((ivs (nibF (h.take i)) ++ zsI (35 - 2 * i)).set (2 * i) (.int .i64 ((x.toNat / 16 : Nat) : Int))).length = 35 from by rw [List.length_set]; exact hl0.out)
      rw [hs1.out] at hb3 hlen3
      refine wp_go ?_
      go_wp2_with (refine wp_st1 3 (.tmp 27) (.tmp 26) rfl rfl rfl (f := 2 * i + 1) rfl (v := .int .i64 ((x.toNat % 16 : Nat) : Int)) rfl hb3 (by rw [hlen3.out]; omega) sizeI rfl rfl ?_; intro w4 hb4 hG4; refine wp_stop ?_)
      rw [hs2.out, hst.out, show 35 - 2 * i - 1 - 1 = 35 - 2 * (i + 1) from by omega] at hb4
      have e0 := d0.keep (hG4.block _ d0.lt (by intro e; injection e with e; omega))
      have e1 := d1.keep (hG4.block _ d1.lt (by intro e; injection e with e; omega))
      have hB4 := hB3.grown hG4 hB3.size (by intro k hk; injection hk with hk; omega)
      refine wp_go ?_
      go_wp2
      go_roundw
      case rel => exact ⟨i + 1, by omega, by go_num, hb4, e0, e1, hB4⟩
      case measure => simp [intOf]; omega
    · have h16 : i = 16 := by omega
      subst h16
      rw [show ((16 : Nat) : Int) = (16 : Int) from rfl]
      clear hlt hi
      obtain ⟨D, hD⟩ : ∃ D, D = nibF (h.take 16) := ⟨_, rfl⟩
      rw [← hD] at c2
      have hDl : Hid (D.length = 32) := by show _ = _; rw [hD, len_nib, List.length_take, Hl.out]; rfl
      have hDm : Hid (∀ x ∈ D, x ≤ 15) := by show ∀ x ∈ D, x ≤ 15; rw [hD]; exact nib_lt _
      have hDk : Hid (lackN D = lackF (h.take 16)) := by show _ = _; rw [hD, lackN_nib]
      have HD := hid hD
      clear hD
      go_wp2_with (fail)
      go_loopw [5, 6, 29] (fun sv qv iv wr => ∃ i : Nat, i ≤ 32 ∧ iv = .int .i64 i ∧ sv = .int .i64 ((lackN (D.take i) : Nat) : Int) ∧ Blk wr (w.heap.size + 1 + 1) 218 (ivs D ++ zsI 3) ∧ Blk wr (w.heap.size + 1) 218 (zsI 35) ∧ Below w.heap.size w wr) (fun _ _ iv _ => 32 - (intOf iv).toNat)
      case atStart => exact ⟨0, by omega, rfl, rfl, c2, c1, hBr⟩
      case round =>
        obtain ⟨i, hi, rfl, rfl, d2, d1, hBr⟩ := hrel
        have hsl := lackN_le (D.take i)
        have hsl2 : (D.take i).length ≤ i := List.length_take_le _ _
        obtain ⟨s, hs⟩ : ∃ s, s = lackN (D.take i) := ⟨_, rfl⟩
        rw [← hs] at hsl ⊢
        have Hs := hid hs
        clear hs
        by_cases hlt : i < 32
        · obtain ⟨x, hx⟩ : ∃ x, D[i]? = some x := ⟨_, List.getElem?_eq_getElem (by rw [hDl.out]; exact hlt)⟩
          have hx15 : x ≤ 15 := hDm.out x (List.mem_of_getElem? hx)
          have hcx := d2.cellAt i (.int .i64 (x : Int)) (by rw [List.getElem?_append_left (by rw [len_ivs, hDl.out]; exact hlt)]; exact ivs_at D i x hx)
          have hst : Hid (lackN (D.take (i + 1)) = s + (15 - x)) := by
            show _ = _
            obtain ⟨hi', he⟩ := List.getElem?_eq_some_iff.1 hx
            rw [List.take_succ_eq_append_getElem hi', lackN_app, ← Hs.out, he]
            rfl
          clear hx
          go_wp2
          go_roundw
          case rel => exact ⟨i + 1, by omega, by go_num, congrArg (Value.int .i64) (by rw [hst.out]; omega), d2, d1, hBr⟩
          case measure => simp [intOf]; omega
        · have h32 : i = 32 := by omega
          subst h32
          rw [show ((32 : Nat) : Int) = (32 : Int) from rfl]
          have hsL : Hid (s = lackF (h.take 16)) := by show _ = _; rw [Hs.out, ← hDk.out, List.take_of_length_le (by rw [hDl.out]; omega)]
          have hs480 : s ≤ 480 := by omega
          clear hlt hi hsl hsl2
          have hA := hid (ivs_set D (s / 256) 32 3 hDl.out (by omega))
          have hAl : Hid ((ivs D ++ zsI 3).length = 35) := by show _ = _; rw [List.length_append, len_ivs, hDl.out, len_zsI]
          have hA2 := hid (ivs_set (D ++ [s / 256]) (s / 16 % 16) 33 2 (by rw [List.length_append, hDl.out]; rfl) (by omega))
          have hA2l : Hid ((ivs (D ++ [s / 256]) ++ zsI 2).length = 35) := by show _ = _; rw [List.length_append, len_ivs, List.length_append, hDl.out, len_zsI]; rfl
          have hA3 := hid (ivs_set (D ++ [s / 256] ++ [s / 16 % 16]) (s % 16) 34 1 (by rw [List.length_append, List.length_append, hDl.out]; rfl) (by omega))
          have hA3l : Hid ((ivs (D ++ [s / 256] ++ [s / 16 % 16]) ++ zsI 1).length = 35) := by show _ = _; rw [List.length_append, len_ivs, List.length_append, List.length_append, hDl.out, len_zsI]; rfl
          have hend : Hid (ivs (D ++ [s / 256] ++ [s / 16 % 16] ++ [s % 16]) ++ zsI (1 - 1) = ivs (digF h)) := by
            show _ = _
            unfold digF
            rw [← HD.out, ← hsL.out]
            simp [zsI]
          have hdl : Hid ((digF h).length = 35) := len_dig h (by rw [Hl.out]; omega)
          go_wp2_with (fail)
          go_loopw [7, 39] (fun qv iv wr => ((iv = .int .i64 0 ∧ Blk wr (w.heap.size + 1 + 1) 218 (ivs D ++ zsI 3)) ∨ (iv = .int .i64 1 ∧ Blk wr (w.heap.size + 1 + 1) 218 (ivs (D ++ [s / 256]) ++ zsI 2)) ∨ (iv = .int .i64 2 ∧ Blk wr (w.heap.size + 1 + 1) 218 (ivs (D ++ [s / 256] ++ [s / 16 % 16]) ++ zsI 1)) ∨ (iv = .int .i64 3 ∧ Blk wr (w.heap.size + 1 + 1) 218 (ivs (digF h)))) ∧ Blk wr (w.heap.size + 1) 218 (zsI 35) ∧ Below w.heap.size w wr) (fun _ iv _ => 3 - (intOf iv).toNat)
          case atStart => exact ⟨.inl ⟨rfl, d2⟩, d1, hBr⟩
          case round =>
            obtain ⟨hcases, e1, hBr⟩ := hrel
            rcases hcases with ⟨rfl, e2⟩ | ⟨rfl, e2⟩ | ⟨rfl, e2⟩ | ⟨rfl, e2⟩
            · go_wp2_with (refine wp_st1 3 (.tmp 50) (.tmp 49) rfl rfl rfl (f := 32) rfl (v := .int .i64 ((s / 256 : Nat) : Int)) (congrArg (Value.int .i64) ((i64_and15 _).trans (by omega))) e2 (by rw [hAl.out]; omega) sizeI rfl rfl ?_; intro w3 hb3 hG3; refine wp_stop ?_)
              rw [hA.out] at hb3
              have f1 := e1.keep (hG3.block _ e1.lt (by intro e; injection e with e; omega))
              have hB3 := hBr.grown hG3 hBr.size (by intro k hk; injection hk with hk; omega)
              refine wp_go ?_
              go_wp2
              go_roundw
              case rel => exact ⟨.inr (.inl ⟨rfl, hb3⟩), f1, hB3⟩
              case measure => simp [intOf]
            · go_wp2_with (refine wp_st1 3 (.tmp 50) (.tmp 49) rfl rfl rfl (f := 33) rfl (v := .int .i64 ((s / 16 % 16 : Nat) : Int)) (congrArg (Value.int .i64) ((i64_and15 _).trans (by omega))) e2 (by rw [hA2l.out]; omega) sizeI rfl rfl ?_; intro w3 hb3 hG3; refine wp_stop ?_)
              rw [hA2.out] at hb3
              have f1 := e1.keep (hG3.block _ e1.lt (by intro e; injection e with e; omega))
              have hB3 := hBr.grown hG3 hBr.size (by intro k hk; injection hk with hk; omega)
              refine wp_go ?_
              go_wp2
              go_roundw
              case rel => exact ⟨.inr (.inr (.inl ⟨rfl, hb3⟩)), f1, hB3⟩
              case measure => simp [intOf]
            · go_wp2_with (refine wp_st1 3 (.tmp 50) (.tmp 49) rfl rfl rfl (f := 34) rfl (v := .int .i64 ((s % 16 : Nat) : Int)) (congrArg (Value.int .i64) ((i64_and15 _).trans (by omega))) e2 (by rw [hA3l.out]; omega) sizeI rfl rfl ?_; intro w3 hb3 hG3; refine wp_stop ?_)
              rw [hA3.out] at hb3
              have f1 := e1.keep (hG3.block _ e1.lt (by intro e; injection e with e; omega))
              have hB3 := hBr.grown hG3 hBr.size (by intro k hk; injection hk with hk; omega)
              refine wp_go ?_
              go_wp2
              go_roundw
              case rel => exact ⟨.inr (.inr (.inr ⟨rfl, by rw [hend.out] at hb3; exact hb3⟩)), f1, hB3⟩
              case measure => simp [intOf]
            · go_wp2_with (first | (refine wp_ld 218 (.tmp 3) rfl rfl rfl e2.whole undI35 rfl (by rw [len_ivs, hdl.out]; exact sizeI35) ?_) | (refine wp_st 218 (.tmp 2) (.tmp 52) rfl rfl rfl (f := 0) rfl (l := ivs (digF h)) rfl e1 (by rw [len_ivs, len_zsI, hdl.out]; omega) (by rw [len_ivs, hdl.out]; exact sizeI35) (oneCell_ivs _) ?_; intro w7 hb7 hG7))
              rw [set_all _ _ (by rw [len_zsI, len_ivs, hdl.out])] at hb7
              refine ret_cell rfl rfl hb7.whole undI35 rfl (by rw [len_ivs, hdl.out]; exact sizeI35) rfl ?_
              exact ⟨rfl, hBr.grown hG7 hBr.size (by intro k hk; injection hk with hk; omega)⟩
set_option maxRecDepth 100000 in
set_option maxHeartbeats 2000000 in
theorem recover_any (tv sv : Value) (text sig : List UInt8) (F G : Nat → Prop) (w : World) (hK : KS w) (ht : Rd w F tv (bys text)) (hs : Rd w G sv (bys sig)) (hn : text.length ≤ 17592186044416) :
    Calls Tryz.prog 141 #[tv, sv] w fun e w' => e = .returned (.tuple #[.agg (bvs (recH text sig)).toArray, .int .i64 (recE sig)]) ∧ Below w.heap.size w w' := by
  have ht := ht.weak (F' := fun b => b < w.heap.size) (fun b hb _ => hb)
  have hs := hs.weak (F' := fun b => b < w.heap.size) (fun b hb _ => hb)
  obtain ⟨A, c, rfl⟩ := ht.shape
  obtain ⟨A2, c2, rfl⟩ := hs.shape
  have hz := Blk.new' w 32 (zs8 32)
  have hB := (Below.refl w.heap.size w).alloc (Nat.le_refl _) (.cells (zs8 32).toArray 32)
  by_cases h560 : sig.length = 560
  · have HE : Hid (recE sig = 0) := if_pos h560
    have HH : Hid (recH text sig = recF text sig) := if_pos h560
    rw [h560] at hs ⊢
    have hne : ((560 : Int) != 560) = false := by decide
    have Hs := hid h560
    clear h560
    have b0 := hz.alloc (.cells (zs8 560).toArray 217)
    have b2 := Blk.new' (w.alloc (.cells (zs8 32).toArray 32)) 217 (zs8 560)
    have hB0 := hB.alloc (by simp) (.cells (zs8 560).toArray 217)
    rw [show (w.alloc (.cells (zs8 32).toArray 32)).heap.size = w.heap.size + 1 from by simp] at b2
    go_enter Tryz.func141, Tryz.ntmps141
    go_wp2_with (first | (refine wp_new 32 rfl rfl zero25 ?_) | (refine wp_new 217 rfl rfl zeroPcs ?_))
    obtain ⟨w0, hw0⟩ : ∃ w0, w0 = (w.alloc (.cells (zs8 32).toArray 32)).alloc (.cells (zs8 560).toArray 217) := ⟨_, rfl⟩
    rw [← hw0] at b0 b2 hB0 ⊢
    clear hw0 hz hB
    refine (sum_any _ text _ _ (hK.below hB0) (ht.below hB0) (by omega)).mono ?_
    rintro e w1 ⟨rfl, hB1⟩
    have hB1' := hB0.trans (hB1.mono hB0.size)
    go_wp2_with (fail)
    refine (digits_any (shaF text) _ (len_sha _)).mono ?_
    rintro e w2 ⟨rfl, hB2⟩
    have hB2' := hB1'.trans (hB2.mono hB1'.size)
    replace b0 := (b0.below hB1).below hB2
    replace b2 := (b2.below hB1).below hB2
    clear hB1 hB2 hB1' hB0
    obtain ⟨D, hD⟩ : ∃ D, D = digF (shaF text) := ⟨_, rfl⟩
    have HDl : Hid (D.length = 35) := by show _ = _; rw [hD]; exact len_dig _ (by rw [len_sha]; omega)
    have HDm : Hid (∀ x ∈ D, x ≤ 15) := by show ∀ x ∈ D, x ≤ 15; rw [hD]; exact dig_le _
    rw [← hD]
    have HD := hid hD
    clear hD
    go_wp2_with (fail)
    go_loopw [7, 8, 9, 17] (fun qv dv pv iv wr => ∃ j : Nat, j ≤ 35 ∧ iv = .int .i64 j ∧ Blk wr (w.heap.size + 1) 217 (pcC (catF (fun j => walkF ((sig.drop (16 * j)).take 16) j (D.getD j 0) (15 - D.getD j 0)) j) j) ∧ Blk wr w.heap.size 32 (zs8 32) ∧ Below w.heap.size w wr) (fun _ _ _ iv _ => 35 - (intOf iv).toNat)
    case atStart => exact ⟨0, by omega, rfl, by rw [pcC_0]; exact b2, b0, hB2'⟩
    case round =>
      obtain ⟨j, hj, rfl, c2, c0, hBr⟩ := hrel
      have hCl : j ≤ 35 → (catF (fun j => walkF ((sig.drop (16 * j)).take 16) j (D.getD j 0) (15 - D.getD j 0)) j).length = 16 * j := by
        clear c2 hj
        induction j with
        | zero => intro _; rfl
        | succ n ih =>
          intro hn'
          rw [cat_succ, List.length_append, ih (by omega), len_walk _ _ _ (by rw [List.length_take, List.length_drop, Hs.out]; omega)]
          omega
      replace hCl := hCl hj
      have hCs := cat_succ (fun j => walkF ((sig.drop (16 * j)).take 16) j (D.getD j 0) (15 - D.getD j 0)) j
      obtain ⟨C, hC⟩ : ∃ C, C = catF (fun j => walkF ((sig.drop (16 * j)).take 16) j (D.getD j 0) (15 - D.getD j 0)) j := ⟨_, rfl⟩
      rw [← hC] at c2 hCl hCs
      have HC := hid hC
      have HCl := hid hCl
      have HCs := hid hCs
      clear hC hCl hCs
      have hbs := hBr.size
      by_cases hlt : j < 35
      · obtain ⟨x, hx⟩ : ∃ x, D[j]? = some x := ⟨_, List.getElem?_eq_getElem (by rw [HDl.out]; exact hlt)⟩
        have hx15 : x ≤ 15 := HDm.out x (List.mem_of_getElem? hx)
        have hiv := ivs_at D j x hx
        have hgx : D.getD j 0 = x := by rw [List.getD_eq_getElem?_getD, hx]; rfl
        rw [hgx] at HCs
        clear hgx hx
        go_wp2_with (first | (refine wp_idx 218 (.tmp 16) (.tmp 17) rfl rfl rfl rfl undI35 hlt Tryz.isAgg3 sizeI hiv ?_) | (refine wp_new 216 rfl rfl zeroPc ?_))
        have hzp := Blk.new' wr 216 (zs8 16)
        have hB3 := hBr.alloc hbs (.cells (zs8 16).toArray 216)
        have d0 := c0.alloc (.cells (zs8 16).toArray 216)
        have d2 := c2.alloc (.cells (zs8 16).toArray 216)
        have hs3 := hs.below hB3
        have hd2l := c2.lt
        have hd0l := c0.lt
        have hsl := fun W => run_sla_all undPc size8 wr.heap.size 0 (by omega) W
        obtain ⟨w3, hw3⟩ : ∃ w3, w3 = wr.alloc (.cells (zs8 16).toArray 216) := ⟨_, rfl⟩
        rw [← hw3] at hzp hB3 d0 d2 hs3 ⊢
        clear hw3
        replace hzp := hzp.drew
        replace hB3 := hB3.drew
        replace d0 := d0.drew
        replace d2 := d2.drew
        replace hs3 := hs3.drew
        obtain ⟨A', m', c', hcut, hr4⟩ := Rd.cut_l slB hs3 ((j : Int) * 16) (by omega) (by rw [Hs.out]; omega)
        rw [show ((j : Int) * 16).toNat = 16 * j from by omega] at hr4
        have hs4 := hr4.src
        obtain ⟨A5, c5, e5⟩ := hr4.shape
        have e5m : m' = (sig.drop (16 * j)).length := by injection e5
        have hdl : (sig.drop (16 * j)).length = 560 - 16 * j := by rw [List.length_drop, Hs.out]
        rw [hdl] at e5m hs4
        subst e5m
        clear e5 hdl hr4
        have Hq0 : Hid ((bvs (sig.drop (16 * j))).take 16 = bvs ((sig.drop (16 * j)).take 16)) := bvs_take _ _
        have Hql : Hid (((sig.drop (16 * j)).take 16).length = 16) := by show _ = _; rw [List.length_take, List.length_drop, Hs.out]; omega
        have hwr : IntKind.i64.wrap ((j : Int) * 16) = (j : Int) * 16 := IntWalk.i64_in _ (by omega)
        refine wp_region_tail 5 (by kernel_rfl) (by kernel_rfl) ?_
        simp only [List.take_succ_cons, List.take_zero, List.drop_succ_cons, List.drop_zero]
        repeat still_step
        refine wpStill_nil ?_
        go_wp2_with (refine wp_copyT (.tmp 21) (.tmp 25) slB rfl rfl rfl rfl hzp hs4 (oneCell_bvs _) (by omega) (by omega) (by simp [zs8]) ?_; intro w6 hb6 hG6; refine wp_stop ?_)
        rw [Hq0.out, splice_all _ _ (by rw [len_zs8, len_bvs, Hql.out])] at hb6
        have hB6 := hB3.grown hG6 hB3.size (by intro k hk; injection hk with hk; omega)
        have e0 := d0.keep (hG6.block _ d0.lt (by intro e; injection e with e; omega))
        have e2 := d2.keep (hG6.block _ d2.lt (by intro e; injection e with e; omega))
        obtain ⟨p, hp⟩ : ∃ p, p = (sig.drop (16 * j)).take 16 := ⟨_, rfl⟩
        rw [← hp] at hb6 Hql HCs
        clear hp hs4 hcut Hq0 hs3 hG6 hzp d0 d2 hB3
        refine wp_go ?_
        go_wp2_with (refine wp_ld 216 (.tmp 9) rfl rfl rfl hb6.whole undPc rfl (by rw [len_bvs, Hql.out]; exact sizePc) ?_)
        refine (walked_any p j x (15 - x) _ _ _ _ (hK.below hB6) Hql.out (by omega) (by omega) (by omega) rfl rfl (by omega)).mono ?_
        rintro e w4 ⟨rfl, hB4⟩
        have hql : Hid ((walkF p j x (15 - x)).length = 16) := len_walk _ _ _ Hql.out _
        obtain ⟨q, hq⟩ : ∃ q, q = walkF p j x (15 - x) := ⟨_, rfl⟩
        rw [← hq] at hql HCs ⊢
        clear hq
        have hset := hid (pcC_set C q j HCl.out hql.out hlt)
        have hlen := hid (len_pcC C j HCl.out hj)
        have f0 := e0.below hB4
        have f2 := e2.below hB4
        have hB4' := hB6.trans (hB4.mono hB6.size)
        have hf2l := f2.lt
        go_wp2_with (first | (refine wp_ixp 217 (.tmp 6) (.tmp 27) rfl rfl rfl rfl undPcs hlt sizePc ?_) | (refine wp_st 216 (.tmp 32) (.tmp 31) rfl rfl rfl (f := j * 16) (by rw [Nat.zero_add]; rfl) (l := bvs q) rfl f2 (by rw [hlen.out, len_bvs, hql.out]; omega) (by rw [len_bvs, hql.out]; exact sizePc) (oneCell_bvs _) ?_; intro w7 hb7 hG7))
        rw [hset.out, ← HCs.out] at hb7
        have g0 := f0.keep (hG7.block _ f0.lt (by intro e; injection e with e; omega))
        have hB7 := hB4'.grown hG7 hB4'.size (by intro k hk; injection hk with hk; omega)
        go_wp2
        go_roundw
        case rel => exact ⟨j + 1, by omega, by go_num, hb7, g0, hB7⟩
        case measure => simp [intOf]; omega
      · have h35 : j = 35 := by omega
        subst h35
        rw [pcC_end] at c2
        go_wp2_with (refine wp_ld 217 (.tmp 6) rfl rfl rfl c2.whole undPcs rfl (by rw [len_bvs, HCl.out]; exact sizePcs) ?_)
        refine (joined_any C _ HCl.out).mono ?_
        rintro e w3 ⟨v3, rfl, ho3, hB3⟩
        have hB3' := hBr.trans (hB3.mono hBr.size)
        have hr3 := Rd.of_own ho3
        go_wp2_with (fail)
        refine (sum_any _ C _ _ (hK.below hB3') hr3 (by rw [HCl.out]; omega)).mono ?_
        rintro e w4 ⟨rfl, hB4⟩
        have hB4' := hB3'.trans (hB4.mono hB3'.size)
        have Hp : Hid (shaF C = recF text sig) := by show _ = _; rw [HC.out, HD.out]; rfl
        have hpl : Hid ((recF text sig).length = 32) := len_rec _ _
        rw [Hp.out]
        have d0 := (c0.below hB3).below hB4
        go_wp2_with (refine wp_st 32 (.tmp 4) (.tmp 36) rfl rfl rfl (f := 0) rfl (l := bvs (recF text sig)) rfl d0 (by simp [zs8, len_bvs, hpl.out]) (by rw [len_bvs, hpl.out]; exact size25) (oneCell_bvs _) ?_; intro w7 hb7 hG7)
        rw [set25 _ hpl.out] at hb7
        go_wp2
        refine ret_cell1 rfl rfl rfl hb7.whole und25 rfl (by rw [len_bvs, hpl.out]; exact size25) rfl ?_
        exact ⟨by rw [HE.out, HH.out]; rfl, hB4'.grown hG7 hB4'.size (by intro k hk; injection hk with hk; omega)⟩
  · have HE : Hid (recE sig = 2) := if_neg h560
    have HH : Hid (recH text sig = List.replicate 32 0) := if_neg h560
    have hne : ((sig.length : Int) != 560) = true := by rw [bne_iff_ne]; omega
    clear h560
    go_enter Tryz.func141, Tryz.ntmps141
    go_wp2_with (first | (refine wp_new 32 rfl rfl zero25 ?_) | (refine wp_bld 32 [] rfl rfl [] rfl bld25 ?_) | (refine wp_st 32 (.tmp 4) (.tmp 13) rfl rfl rfl (f := 0) rfl (l := zs8 32) rfl hz (by simp [zs8]) (by exact size25) one_zs8 ?_; intro w8 hb8 hG8))
    rw [set_all _ _ rfl] at hb8
    go_wp2
    refine ret_cell1 rfl rfl rfl hb8.whole und25 rfl (by exact size25) rfl ?_
    exact ⟨by rw [HE.out, HH.out, ← zs8_bvs]; rfl, hB.grown hG8 (by simp) (by intro k hk; injection hk with hk; omega)⟩
end Go.Proofs.YtnhhbbjkeekneaaGreatDoor
