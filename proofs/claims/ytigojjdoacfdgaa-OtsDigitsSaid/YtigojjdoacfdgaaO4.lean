/- O4: layer 4: contracts of package ots. -/
import Derived.Test.YtigojjdoacfdgaaO3
import Derived.Test.YtigojjdoacfdgaaVE
namespace Go.V
open Go.RowKit
theorem bvs_take (l : List UInt8) (n : Nat) : (bvs l).take n = bvs (l.take n) := by simp [bvs, List.map_take]
theorem bvs_drop (l : List UInt8) (n : Nat) : (bvs l).drop n = bvs (l.drop n) := by simp [bvs, List.map_drop]
theorem bvs_app (a b : List UInt8) : bvs (a ++ b) = bvs a ++ bvs b := by simp [bvs]
theorem u8v (n : Nat) : IntKind.u8.wrap (n : Int) = ((UInt8.ofNat n).toNat : Int) := by rw [u8w, UInt8.toNat_ofNat']
def zsI (n : Nat) : List Value := List.replicate n (.int .i64 0)
theorem len_zsI (n : Nat) : (zsI n).length = n := by simp [zsI]
theorem ivs_app (a b : List Nat) : ivs (a ++ b) = ivs a ++ ivs b := by simp [ivs]
theorem ivs_set (l : List Nat) (x i n : Nat) (hl : l.length = i) (hn : 0 < n) : (ivs l ++ zsI n).set i (.int .i64 (x : Int)) = ivs (l ++ [x]) ++ zsI (n - 1) := by
  obtain ⟨m, rfl⟩ : ∃ m, n = m + 1 := ⟨n - 1, by omega⟩
  rw [List.set_append_right _ _ (by rw [len_ivs]; omega), len_ivs, hl, Nat.sub_self]
  simp [zsI, List.replicate_succ, ivs]
/-- what digits leave from 15 -/
def lackN : List Nat → Nat
  | [] => 0
  | x :: l => (15 - x) + lackN l
theorem lackN_app (a b : List Nat) : lackN (a ++ b) = lackN a + lackN b := by
  induction a with
  | nil => simp [lackN]
  | cons x a ih => simp [lackN, ih]; omega
theorem lackN_nib (h : List UInt8) : lackN (nibF h) = lackF h := by
  induction h with
  | nil => rfl
  | cons b h ih =>
    rw [show nibF (b :: h) = [b.toNat / 16, b.toNat % 16] ++ nibF h from rfl, lackN_app, ih]
    simp [lackN, lackF]
theorem lackN_le (l : List Nat) : lackN l ≤ 15 * l.length := by
  induction l with
  | nil => simp [lackN]
  | cons x l ih => simp [lackN]; omega
end Go.V
namespace Go.Proofs.Ytigojjdoacfdgaa
open Go.RowKit Go.V
theorem len_zs8 (n : Nat) : (zs8 n).length = n := by simp [zs8]
theorem two_behind (p : List UInt8) (hp : p.length = 16) (a b : UInt8) : ((splice (zs8 18) 0 (bvs p)).set 16 (byteV a)).set 17 (byteV b) = bvs (p ++ [a, b]) := by
  have e : splice (zs8 18) 0 (bvs p) = bvs p ++ zs8 2 := by
    unfold splice zs8
    rw [List.take_zero, List.nil_append, List.drop_replicate, len_bvs, hp]
  rw [e, List.set_append_right _ _ (by rw [len_bvs, hp]; omega), len_bvs, hp, List.set_append_right _ _ (by rw [len_bvs, hp]; omega), len_bvs, hp]
  simp [bvs, zs8, List.replicate]
/-- n pieces, the rest noughts -/
def pcC (C : List UInt8) (n : Nat) : List Value := bvs C ++ List.replicate (560 - 16 * n) (.int .u8 0)
theorem len_pcC (C : List UInt8) (n : Nat) (hC : C.length = 16 * n) (hn : n ≤ 35) : (pcC C n).length = 560 := by simp [pcC, len_bvs, hC]; omega
theorem pcC_set (C q : List UInt8) (n : Nat) (hC : C.length = 16 * n) (hq : q.length = 16) (hn : n < 35) : (pcC C n).take (n * 16) ++ bvs q ++ (pcC C n).drop (n * 16 + (bvs q).length) = pcC (C ++ q) (n + 1) := by
  have hl : (bvs C).length = n * 16 := by rw [len_bvs, hC]; omega
  unfold pcC
  rw [List.take_append_of_le_length (by omega), List.take_of_length_le (by omega), List.drop_append, List.drop_of_length_le (by omega), List.nil_append, hl, len_bvs, hq, show n * 16 + 16 - n * 16 = 16 from by omega, List.drop_replicate, show 560 - 16 * n - 16 = 560 - 16 * (n + 1) from by omega]
  simp [bvs]
theorem pcC_0 (f : Nat → List UInt8) : pcC (catF f 0) 0 = zs8 560 := rfl
theorem pcC_end (C : List UInt8) : pcC C 35 = bvs C := by simp [pcC]
theorem sizeI35 : (Try.prog.info? 25).map (·.size) = some 35 := by kernel_rfl
theorem zeroI35 : (Try.prog.info? 25).map (·.zero) = some (some (.agg (zsI 35).toArray)) := by kernel_rfl
theorem undI35 : Try.prog.underlying 25 = some (.array 35 3) := Try.underlying25
theorem sizeI : (Try.prog.info? 3).map (·.size) = some 1 := by kernel_rfl
set_option maxRecDepth 100000 in
set_option maxHeartbeats 2000000 in
theorem digits_any (h : List UInt8) (w : World) (hl : h.length = 32) :
    Calls Try.prog 5 #[.agg (bvs h).toArray] w fun e w' => e = .returned (.agg (ivs (digF h)).toArray) ∧ Below w.heap.size w w' := by
  have b0 := ((Blk.new' w 23 (bvs h)).alloc (.cells (zsI 35).toArray 25)).alloc (.cells (zsI 35).toArray 25)
  have b1 := (Blk.new' (w.alloc (.cells (bvs h).toArray 23)) 25 (zsI 35)).alloc (.cells (zsI 35).toArray 25)
  have b2 := Blk.new' ((w.alloc (.cells (bvs h).toArray 23)).alloc (.cells (zsI 35).toArray 25)) 25 (zsI 35)
  have hB := (((Below.refl w.heap.size w).alloc (Nat.le_refl _) (.cells (bvs h).toArray 23)).alloc (by simp) (.cells (zsI 35).toArray 25)).alloc (by simp; omega) (.cells (zsI 35).toArray 25)
  rw [show (w.alloc (.cells (bvs h).toArray 23)).heap.size = w.heap.size + 1 from by simp] at b1
  rw [show ((w.alloc (.cells (bvs h).toArray 23)).alloc (.cells (zsI 35).toArray 25)).heap.size = w.heap.size + 1 + 1 from by simp] at b2
  have Hl := hid hl
  clear hl
  go_enter Try.func5, Try.ntmps5
  go_wp2_with (refine wp_new 25 rfl rfl zeroI35 ?_)
  obtain ⟨w0, hw0⟩ : ∃ w0, w0 = ((w.alloc (.cells (bvs h).toArray 23)).alloc (.cells (zsI 35).toArray 25)).alloc (.cells (zsI 35).toArray 25) := ⟨_, rfl⟩
  rw [← hw0] at b0 b1 b2 hB ⊢
  clear hw0
  go_loopw [4, 8] (fun qv iv wr => ∃ i : Nat, i ≤ 16 ∧ iv = .int .i64 i ∧ Blk wr (w.heap.size + 1 + 1) 25 (ivs (nibF (h.take i)) ++ zsI (35 - 2 * i)) ∧ Blk wr w.heap.size 23 (bvs h) ∧ Blk wr (w.heap.size + 1) 25 (zsI 35) ∧ Below w.heap.size w wr) (fun _ iv _ => 16 - (intOf iv).toNat)
  case atStart => exact ⟨0, by omega, rfl, b2, b0, b1, hB⟩
  case round =>
    obtain ⟨i, hi, rfl, c2, c0, c1, hBr⟩ := hrel
    by_cases hlt : i < 16
    · obtain ⟨x, hx⟩ : ∃ x, h[i]? = some x := ⟨_, List.getElem?_eq_getElem (by rw [Hl.out]; omega)⟩
      have hcx := c0.cellAt i _ (bvs_at _ _ _ hx)
      unfold byteV at hcx
      have hx256 := x.toNat_lt
      have hbx := hid (bvs_at _ _ _ hx)
      have hs1 := hid (ivs_set (nibF (h.take i)) (x.toNat / 16) (2 * i) (35 - 2 * i) (by rw [len_nib, List.length_take, Hl.out]; omega) (by omega))
      have hs2 := hid (ivs_set (nibF (h.take i) ++ [x.toNat / 16]) (x.toNat % 16) (2 * i + 1) (35 - 2 * i - 1) (by rw [List.length_append, len_nib, List.length_take, Hl.out]; simp; omega) (by omega))
      have hst : Hid (nibF (h.take i) ++ [x.toNat / 16] ++ [x.toNat % 16] = nibF (h.take (i + 1))) := by
        show _ = _
        rw [take_step h i x hx, nib_snoc, List.append_assoc]
        rfl
      have hl0 : Hid ((ivs (nibF (h.take i)) ++ zsI (35 - 2 * i)).length = 35) := by show _ = _; rw [List.length_append, len_ivs, len_nib, List.length_take, Hl.out, len_zsI]; omega
      clear hx
      go_wp2_with (refine wp_st1 3 (.tmp 18) (.tmp 17) rfl rfl rfl (f := 2 * i) rfl (v := .int .i64 ((x.toNat / 16 : Nat) : Int)) rfl c2 (by rw [hl0.out]; omega) sizeI rfl rfl ?_; intro w3 hb3 hG3; refine wp_stop ?_)
      have d0 := c0.keep (hG3.block _ c0.lt (by intro e; injection e with e; omega))
      have d1 := c1.keep (hG3.block _ c1.lt (by intro e; injection e with e; omega))
      have hcx3 := d0.cellAt i _ hbx.out
      unfold byteV at hcx3
      have hB3 := hBr.grown hG3 hBr.size (by intro k hk; injection hk with hk; omega)
      have hlen3 := hid (show ((ivs (nibF (h.take i)) ++ zsI (35 - 2 * i)).set (2 * i) (.int .i64 ((x.toNat / 16 : Nat) : Int))).length = 35 from by rw [List.length_set]; exact hl0.out)
      rw [hs1.out] at hb3 hlen3
      refine wp_go ?_
      go_wp2_with (refine wp_st1 3 (.tmp 27) (.tmp 26) rfl rfl rfl (f := 2 * i + 1) rfl (v := .int .i64 ((x.toNat % 16 : Nat) : Int)) rfl hb3 (by rw [hlen3.out]; omega) sizeI rfl rfl ?_; intro w4 hb4 hG4; refine wp_stop ?_)
      rw [hs2.out, hst.out, show 35 - 2 * i - 1 - 1 = 35 - 2 * (i + 1) from by omega] at hb4
      have e0 := d0.keep (hG4.block _ d0.lt (by intro e; injection e with e; omega))
      have e1 := d1.keep (hG4.block _ d1.lt (by intro e; injection e with e; omega))
      have hB4 := hB3.grown hG4 hB3.size (by intro k hk; injection hk with hk; omega)
      refine wp_go ?_
      go_wp2
      go_roundw
      case rel => exact ⟨i + 1, by omega, by go_num, hb4, e0, e1, hB4⟩
      case measure => simp [intOf]; omega
    · have h16 : i = 16 := by omega
      subst h16
      rw [show ((16 : Nat) : Int) = (16 : Int) from rfl]
      clear hlt hi
      obtain ⟨D, hD⟩ : ∃ D, D = nibF (h.take 16) := ⟨_, rfl⟩
      rw [← hD] at c2
      have hDl : Hid (D.length = 32) := by show _ = _; rw [hD, len_nib, List.length_take, Hl.out]; rfl
      have hDm : Hid (∀ x ∈ D, x ≤ 15) := by show ∀ x ∈ D, x ≤ 15; rw [hD]; exact nib_lt _
      have hDk : Hid (lackN D = lackF (h.take 16)) := by show _ = _; rw [hD, lackN_nib]
      have HD := hid hD
      clear hD
      go_wp2_with (fail)
      go_loopw [5, 6, 29] (fun sv qv iv wr => ∃ i : Nat, i ≤ 32 ∧ iv = .int .i64 i ∧ sv = .int .i64 ((lackN (D.take i) : Nat) : Int) ∧ Blk wr (w.heap.size + 1 + 1) 25 (ivs D ++ zsI 3) ∧ Blk wr (w.heap.size + 1) 25 (zsI 35) ∧ Below w.heap.size w wr) (fun _ _ iv _ => 32 - (intOf iv).toNat)
      case atStart => exact ⟨0, by omega, rfl, rfl, c2, c1, hBr⟩
      case round =>
        obtain ⟨i, hi, rfl, rfl, d2, d1, hBr⟩ := hrel
        have hsl := lackN_le (D.take i)
        have hsl2 : (D.take i).length ≤ i := List.length_take_le _ _
        obtain ⟨s, hs⟩ : ∃ s, s = lackN (D.take i) := ⟨_, rfl⟩
        rw [← hs] at hsl ⊢
        have Hs := hid hs
        clear hs
        by_cases hlt : i < 32
        · obtain ⟨x, hx⟩ : ∃ x, D[i]? = some x := ⟨_, List.getElem?_eq_getElem (by rw [hDl.out]; exact hlt)⟩
          have hx15 : x ≤ 15 := hDm.out x (List.mem_of_getElem? hx)
          have hcx := d2.cellAt i (.int .i64 (x : Int)) (by rw [List.getElem?_append_left (by rw [len_ivs, hDl.out]; exact hlt)]; exact ivs_at D i x hx)
          have hst : Hid (lackN (D.take (i + 1)) = s + (15 - x)) := by
            show _ = _
            obtain ⟨hi', he⟩ := List.getElem?_eq_some_iff.1 hx
            rw [List.take_succ_eq_append_getElem hi', lackN_app, ← Hs.out, he]
            rfl
          clear hx
          go_wp2
          go_roundw
          case rel => exact ⟨i + 1, by omega, by go_num, congrArg (Value.int .i64) (by rw [hst.out]; omega), d2, d1, hBr⟩
          case measure => simp [intOf]; omega
        · have h32 : i = 32 := by omega
          subst h32
          rw [show ((32 : Nat) : Int) = (32 : Int) from rfl]
          have hsL : Hid (s = lackF (h.take 16)) := by show _ = _; rw [Hs.out, ← hDk.out, List.take_of_length_le (by rw [hDl.out]; omega)]
          have hs480 : s ≤ 480 := by omega
          clear hlt hi hsl hsl2
          have hA := hid (ivs_set D (s / 256) 32 3 hDl.out (by omega))
          have hAl : Hid ((ivs D ++ zsI 3).length = 35) := by show _ = _; rw [List.length_append, len_ivs, hDl.out, len_zsI]
          have hA2 := hid (ivs_set (D ++ [s / 256]) (s / 16 % 16) 33 2 (by rw [List.length_append, hDl.out]; rfl) (by omega))
          have hA2l : Hid ((ivs (D ++ [s / 256]) ++ zsI 2).length = 35) := by show _ = _; rw [List.length_append, len_ivs, List.length_append, hDl.out, len_zsI]; rfl
          have hA3 := hid (ivs_set (D ++ [s / 256] ++ [s / 16 % 16]) (s % 16) 34 1 (by rw [List.length_append, List.length_append, hDl.out]; rfl) (by omega))
          have hA3l : Hid ((ivs (D ++ [s / 256] ++ [s / 16 % 16]) ++ zsI 1).length = 35) := by show _ = _; rw [List.length_append, len_ivs, List.length_append, List.length_append, hDl.out, len_zsI]; rfl
          have hend : Hid (ivs (D ++ [s / 256] ++ [s / 16 % 16] ++ [s % 16]) ++ zsI (1 - 1) = ivs (digF h)) := by
            show _ = _
            unfold digF
            rw [← HD.out, ← hsL.out]
            simp [zsI]
          have hdl : Hid ((digF h).length = 35) := len_dig h (by rw [Hl.out]; omega)
          go_wp2_with (fail)
          go_loopw [7, 39] (fun qv iv wr => ((iv = .int .i64 0 ∧ Blk wr (w.heap.size + 1 + 1) 25 (ivs D ++ zsI 3)) ∨ (iv = .int .i64 1 ∧ Blk wr (w.heap.size + 1 + 1) 25 (ivs (D ++ [s / 256]) ++ zsI 2)) ∨ (iv = .int .i64 2 ∧ Blk wr (w.heap.size + 1 + 1) 25 (ivs (D ++ [s / 256] ++ [s / 16 % 16]) ++ zsI 1)) ∨ (iv = .int .i64 3 ∧ Blk wr (w.heap.size + 1 + 1) 25 (ivs (digF h)))) ∧ Blk wr (w.heap.size + 1) 25 (zsI 35) ∧ Below w.heap.size w wr) (fun _ iv _ => 3 - (intOf iv).toNat)
          case atStart => exact ⟨.inl ⟨rfl, d2⟩, d1, hBr⟩
          case round =>
            obtain ⟨hcases, e1, hBr⟩ := hrel
            rcases hcases with ⟨rfl, e2⟩ | ⟨rfl, e2⟩ | ⟨rfl, e2⟩ | ⟨rfl, e2⟩
            · go_wp2_with (refine wp_st1 3 (.tmp 50) (.tmp 49) rfl rfl rfl (f := 32) rfl (v := .int .i64 ((s / 256 : Nat) : Int)) (congrArg (Value.int .i64) ((i64_and15 _).trans (by omega))) e2 (by rw [hAl.out]; omega) sizeI rfl rfl ?_; intro w3 hb3 hG3; refine wp_stop ?_)
              rw [hA.out] at hb3
              have f1 := e1.keep (hG3.block _ e1.lt (by intro e; injection e with e; omega))
              have hB3 := hBr.grown hG3 hBr.size (by intro k hk; injection hk with hk; omega)
              refine wp_go ?_
              go_wp2
              go_roundw
              case rel => exact ⟨.inr (.inl ⟨rfl, hb3⟩), f1, hB3⟩
              case measure => simp [intOf]
            · go_wp2_with (refine wp_st1 3 (.tmp 50) (.tmp 49) rfl rfl rfl (f := 33) rfl (v := .int .i64 ((s / 16 % 16 : Nat) : Int)) (congrArg (Value.int .i64) ((i64_and15 _).trans (by omega))) e2 (by rw [hA2l.out]; omega) sizeI rfl rfl ?_; intro w3 hb3 hG3; refine wp_stop ?_)
              rw [hA2.out] at hb3
              have f1 := e1.keep (hG3.block _ e1.lt (by intro e; injection e with e; omega))
              have hB3 := hBr.grown hG3 hBr.size (by intro k hk; injection hk with hk; omega)
              refine wp_go ?_
              go_wp2
              go_roundw
              case rel => exact ⟨.inr (.inr (.inl ⟨rfl, hb3⟩)), f1, hB3⟩
              case measure => simp [intOf]
            · go_wp2_with (refine wp_st1 3 (.tmp 50) (.tmp 49) rfl rfl rfl (f := 34) rfl (v := .int .i64 ((s % 16 : Nat) : Int)) (congrArg (Value.int .i64) ((i64_and15 _).trans (by omega))) e2 (by rw [hA3l.out]; omega) sizeI rfl rfl ?_; intro w3 hb3 hG3; refine wp_stop ?_)
              rw [hA3.out] at hb3
              have f1 := e1.keep (hG3.block _ e1.lt (by intro e; injection e with e; omega))
              have hB3 := hBr.grown hG3 hBr.size (by intro k hk; injection hk with hk; omega)
              refine wp_go ?_
              go_wp2
              go_roundw
              case rel => exact ⟨.inr (.inr (.inr ⟨rfl, by rw [hend.out] at hb3; exact hb3⟩)), f1, hB3⟩
              case measure => simp [intOf]
            · go_wp2_with (first | (refine wp_ld 25 (.tmp 3) rfl rfl rfl e2.whole undI35 rfl (by rw [len_ivs, hdl.out]; exact sizeI35) ?_) | (refine wp_st 25 (.tmp 2) (.tmp 52) rfl rfl rfl (f := 0) rfl (l := ivs (digF h)) rfl e1 (by rw [len_ivs, len_zsI, hdl.out]; omega) (by rw [len_ivs, hdl.out]; exact sizeI35) (oneCell_ivs _) ?_; intro w7 hb7 hG7))
              rw [set_all _ _ (by rw [len_zsI, len_ivs, hdl.out])] at hb7
              refine ret_cell rfl rfl hb7.whole undI35 rfl (by rw [len_ivs, hdl.out]; exact sizeI35) rfl ?_
              exact ⟨rfl, hBr.grown hG7 hBr.size (by intro k hk; injection hk with hk; omega)⟩
end Go.Proofs.Ytigojjdoacfdgaa
