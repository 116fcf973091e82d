/- A3: several texts in one (A1 A2 A3). -/
import Derived.Test.YtfjgfaccfjdklaaDoorA0
import Derived.Test.YtfjgfaccfjdklaaDoorUC
import Derived.Test.YtfjgfaccfjdklaaDoorR2
import Derived.Test.YtfjgfaccfjdklaaDoorW9
import Derived.Test.YtfjgfaccfjdklaaDoorQ4
import Derived.Test.YtfjgfaccfjdklaaDoorUV
/- A1: layer 15: contract of the document's Put of values (layer 14). -/
namespace Go.Proofs.YtfjgfaccfjdklaaDoor
open Go.RowKit Go.V
theorem undCs : Tryd.prog.underlying 27 = some (.array 16 26) := by kernel_rfl
set_option maxRecDepth 100000 in
set_option maxHeartbeats 4000000 in
theorem rkput14_any (c : List Cl) (w : World) (hc : ClIn c) :
    Calls Tryd.prog 23 #[.agg (cvs c).toArray] w fun e w' => ∃ v', e = .returned v' ∧ NewB w w' v' (putK (nmF c)) := by
  have hcl := hc.len
  have Hin := hid hc.n
  have Lc := hid (show (cvs c).length = 32 by rw [len_cvs, hcl])
  have b1 := Blk.new' w 27 (cvs c)
  have hB : Below w.heap.size w (w.alloc (.cells (cvs c).toArray 27)) := (Below.refl _ _).alloc (Nat.le_refl _) _
  have hat := cvs_at c
  obtain ⟨ca, hca⟩ : ∃ q, q = cvs c := ⟨_, rfl⟩
  rw [← hca] at b1 hB hat Lc ⊢
  have Hat := hid hat
  clear hca hat
  obtain ⟨N, hN⟩ : ∃ N, N = nmF c := ⟨_, rfl⟩
  have hNl : N.length = 16 := by rw [hN, nm_len, hcl]
  have hNt : ∀ (i : Nat) (x : Cl), c[i]? = some x → N.take (i + 1) = N.take i ++ [nmC x] := by rw [hN]; exact nm_take c
  rw [← hN]
  clear hN
  have HNt := hid hNt
  clear hNt hc
  go_enter Tryd.func23, Tryd.ntmps23
  go_wp2
  obtain ⟨w0, hw0⟩ : ∃ x, x = w.alloc (.cells ca.toArray 27) := ⟨_, rfl⟩
  rw [← hw0] at b1 hB ⊢
  clear hw0
  obtain ⟨g1, hg1⟩ : ∃ g, g = w.heap.size := ⟨_, rfl⟩
  have hg1w : w.heap.size ≤ g1 := by omega
  rw [← hg1] at b1 ⊢
  clear hg1
  have hsz0 : w.heap.size ≤ w0.heap.size := hB.size
  go_loopw [3, 4, 5] (fun nv bv iv wr => ∃ i : Nat, i ≤ 16 ∧ iv = .int .i64 i ∧ nv = .int .i64 (cntK (N.take i) : Nat) ∧ wr.ownsRow w0.heap.size 5 1 bv (txtK 0 (N.take i)).length (bvs (txtK 0 (N.take i))) ∧ Below w0.heap.size w0 wr) (fun _ _ i _ => 16 - (intOf i).toNat)
  case atStart => exact ⟨0, Nat.zero_le _, rfl, rfl, World.ownsRow_nil _ _ _ _, Below.refl _ _⟩
  case round =>
    obtain ⟨i, hi, rfl, rfl, ho, hBr⟩ := hrel
    have b1r := b1.below hBr
    have hns := cntK_le (N.take i)
    have hT := len_txtK (N.take i) 0
    rw [List.length_take] at hns hT
    by_cases hlt : i < 16
    · have hI : (i : Int) < 16 := by omega
      obtain ⟨x, hx⟩ : ∃ x, c[i]? = some x := ⟨_, List.getElem?_eq_getElem (by omega)⟩
      have hx1 := Hat.out i x hx
      have X0 : wr.cell? ⟨g1, i * 2, none⟩ = some (.bool x.t) := b1r.cellAt _ _ (by rw [Nat.mul_comm]; exact hx1.1)
      have hsn := HNt.out i x hx
      have hxn := Hin.out x (List.mem_of_getElem? hx)
      obtain ⟨xt, xn⟩ := x
      have z2 : (0 + i * 2) = i * 2 := Nat.zero_add _
      have hTl : (N.take i).length = i := by rw [List.length_take, hNl]; omega
      have hst := txtK_snoc (N.take i) 0 (nmC ⟨xt, xn⟩)
      have hct := cntK_snoc (N.take i) (nmC ⟨xt, xn⟩)
      rw [← hsn, hTl, Nat.zero_add] at hst
      rw [← hsn] at hct
      obtain ⟨T, hTT⟩ : ∃ T, T = txtK 0 (N.take i) := ⟨_, rfl⟩
      obtain ⟨C, hCC⟩ : ∃ C, C = cntK (N.take i) := ⟨_, rfl⟩
      rw [← hTT] at ho hst hT
      rw [← hCC] at hct hns ⊢
      clear hTT hCC hsn hTl
      cases xt with
      | false =>
        have Hst := hid (show txtK 0 (N.take (i + 1)) = T by rw [hst]; exact List.append_nil _)
        have Hct := hid (show cntK (N.take (i + 1)) = C by rw [hct]; rfl)
        clear hst hct hx hx1
        go_wp2_with (refine wp_ixp 27 (.tmp 1) (.tmp 10) rfl rfl rfl rfl undCs hlt sizeCl ?_)
        go_roundw
        case rel => exact ⟨i + 1, by omega, by go_num, by rw [Hct.out], by rw [Hst.out]; exact ho, hBr⟩
        case measure => simp [intOf]; omega
      | true =>
        have Hst := hid (show txtK 0 (N.take (i + 1)) = T ++ [UInt8.ofNat i] ++ packed (foldN xn) by rw [hst]; show T ++ ((UInt8.ofNat i :: packed (foldN xn)) ++ []) = _; simp)
        have Hct := hid (show cntK (N.take (i + 1)) = C + 1 by rw [hct]; rfl)
        have hub : IntKind.u8.wrap (i : Int) = (i : Int) := by rw [u8w]; omega
        have hnw : IntKind.i64.wrap ((C : Int) + 1) = (C : Int) + 1 := IntWalk.i64_in _ (by omega)
        have hfl := foldN_lt xn hxn.1 hxn.2
        have hps := psz_bd (foldN xn)
        have HX1 := hid (show ca[i * 2 + 1]? = some (.int .i64 xn) by rw [Nat.mul_comm]; exact hx1.2)
        clear hst hct hx hx1
        go_wp2_with (first | refine wp_ixp 27 (.tmp 1) (.tmp 10) rfl rfl rfl rfl undCs hlt sizeCl ?_ | refine wp_push (.tmp 16) (.tmp 18) 19 slB rfl rfl rfl rfl rfl rfl rfl rfl (by simp) rfl ho (by simp only [maxLen]; omega) (by omega) hBr.size ?_)
        intro v2 w2 ho2 hG2 _
        have hB2 := hBr.grown hG2 hBr.size (fun k hk => (ho.lt k hk).1)
        have c1 : w2.cell? ⟨g1, i * 2 + 1, none⟩ = some (.int .i64 xn) := by
          have := (b1.below hB2)
          exact this.cellAt _ _ HX1.out
        rw [← byteV_of (by omega : i < 256), ← bvs_snoc] at ho2
        obtain ⟨T2, hT2⟩ : ∃ T2, T2 = T ++ [UInt8.ofNat i] := ⟨_, rfl⟩
        have hT2l : T2.length = T.length + 1 := by rw [hT2, List.length_append]; rfl
        rw [← hT2] at ho2 Hst
        rw [← hT2l] at ho2
        clear hT2
        go_wp2_with (refine wp_ixp 27 (.tmp 1) (.tmp 22) rfl rfl rfl rfl undCs hlt sizeCl ?_)
        refine (ref_fold_any xn _ hxn.1 hxn.2).mono ?_
        rintro e w3 ⟨rfl, rfl⟩
        go_wp2_with (fail)
        refine (refp_any (foldN xn) _ hfl).mono ?_
        rintro e w4 ⟨v4, rfl, ho4, hB4⟩
        have hB4' := hB2.trans (hB4.mono hB2.size)
        have ho3 := own_bel ho2 hB4
        rw [length_packed] at ho4
        obtain ⟨A4, c4, rfl⟩ := own_shape ho4
        have hs4 := (Rd.of_own ho4)
        go_wp2_with (refine wp_app (.tmp 21) (.tmp 27) slB rfl rfl rfl ho3 rfl (by rw [← length_packed (foldN xn)]; exact hs4.src) (oneCell_bvs _) (by simp only [maxLen]; omega) (by omega) hB4'.size ?_)
        intro v5 w5 ho5 hG5 _
        have hB5 := hB4'.grown hG5 hB4'.size (fun k hk => (ho3.lt k hk).1)
        go_wp2
        go_roundw
        case rel =>
          refine ⟨i + 1, by omega, by go_num, by rw [Hct.out]; go_num, ?_, hB5⟩
          rw [Hst.out]
          have e1 : bvs (T2 ++ packed (foldN xn)) = bvs T2 ++ bvs (packed (foldN xn)) := by unfold bvs; rw [List.map_append]
          rw [e1, List.length_append, length_packed, hT2l]
          exact ho5
        case measure => simp [intOf]; omega
    · have hi' : i = 16 := by omega
      subst hi'
      have hI : ¬ (16 : Int) < 16 := by omega
      have e16 : N.take 16 = N := List.take_of_length_le (by omega)
      rw [e16] at ho hT hns ⊢
      have hcw : IntKind.u64.wrap ((cntK N : Nat) : Int) = ((cntK N : Nat) : Int) := by rw [IntKind.wrap_u64]; omega
      have hZ2 : putK N = packed (cntK N) ++ txtK 0 N := rfl
      obtain ⟨C, hCC⟩ : ∃ C, C = cntK N := ⟨_, rfl⟩
      obtain ⟨T, hTT⟩ : ∃ T, T = txtK 0 N := ⟨_, rfl⟩
      rw [← hCC] at hcw hZ2 hns ⊢
      rw [← hTT] at ho hT hZ2
      have HZ := hid hZ2
      clear hZ2 hCC hTT e16
      obtain ⟨A1, c1, rfl⟩ := own_shape ho
      have hps := psz_bd C
      have hlp := length_packed C
      have Hlp := hid hlp
      clear hlp
      go_wp2_with (fail)
      refine (refp_any C _ (by omega)).mono ?_
      rintro e w4 ⟨v4, rfl, ho4, hB4⟩
      have hB4' := hBr.trans (hB4.mono hBr.size)
      have ho3 := own_bel ho hB4
      obtain ⟨A4, c4, rfl⟩ := own_shape ho4
      go_wp2_with (fail)
      refine (join_any _ _ _ _ _ _ _ (Rd.of_own ho4) (Rd.of_own ho3) (by rw [Hlp.out]; omega) (by omega)).mono ?_
      rintro e w5 ⟨v5, rfl, ho5, hB5⟩
      have hB5' := hB4'.trans (hB5.mono hB4'.size)
      go_wp2
      go_ret
      exact ⟨v5, rfl, by rw [HZ.out]; exact ⟨own_weak ho5 (Nat.le_trans hsz0 hB4'.size), hB.trans (hB5'.mono hsz0)⟩⟩
end Go.Proofs.YtfjgfaccfjdklaaDoor
/- A2: layer 15: contracts of the document's PutReply and Put. -/
namespace Go.Proofs.YtfjgfaccfjdklaaDoor
open Go.RowKit Go.V
def by8 (x : Int) : UInt8 := UInt8.ofNat (x % 256).toNat
theorem by8_w (x : Int) : IntKind.u8.wrap x = ((by8 x).toNat : Int) := by
  rw [IntKind.wrap_u8]
  unfold by8
  rw [UInt8.toNat_ofNat_of_lt' (by show (x % 256).toNat < 256; omega)]
  omega
/-- a reply's bytes -/
def rpB (r : Rp) : List UInt8 := [by8 r.c, by8 r.s, by8 r.k, if r.o then 1 else 0] ++ packed (foldN r.n)
theorem len_rpB (r : Rp) : (rpB r).length ≤ 14 := by
  have := psz_bd (foldN r.n)
  unfold rpB
  rw [List.length_append, length_packed]
  simp
  omega
set_option maxRecDepth 100000 in
set_option maxHeartbeats 2000000 in
theorem rputrep_any (r : Rp) (w : World) (hr : i64s r.n) :
    Calls Tryd.prog 24 #[.agg r.l.toArray] w fun e w' => ∃ v', e = .returned v' ∧ NewB w w' v' (rpB r) := by
  obtain ⟨c, s, k, o, n⟩ := r
  have hn : i64s n := hr
  have w0 := by8_w c
  have w1 := by8_w s
  have w2 := by8_w k
  unfold Rp.l
  cases o
  · have hT : ∃ T, T = [by8 c, by8 s, by8 k, 0] := ⟨_, rfl⟩
    obtain ⟨T, hT⟩ := hT
    have hTl : T.length = 4 := by rw [hT]; rfl
    have hTv : [.int .u8 ((by8 c).toNat : Int), .int .u8 ((by8 s).toNat : Int), .int .u8 ((by8 k).toNat : Int), .int .u8 (0 : Nat)] = bvs T := by rw [hT]; rfl
    have Htt := hid (show rpB ⟨c, s, k, false, n⟩ = T ++ packed (foldN n) by rw [hT]; rfl)
    have HTv := hid hTv
    clear hT hTv
    have hb4 := bs4B (by8 c).toNat (by8 s).toNat (by8 k).toNat 0
    have hvb := Blk.new' w 31 [.int .i64 c, .int .i64 s, .int .i64 k, .bool false, .int .i64 n]
    have hB : Below w.heap.size w (w.alloc (.cells #[.int .i64 c, .int .i64 s, .int .i64 k, .bool false, .int .i64 n] 31)) := (Below.refl _ _).alloc (Nat.le_refl _) _
    have c0 := hvb.cellAt 0 _ rfl
    have c1 := hvb.cellAt 1 _ rfl
    have c2 := hvb.cellAt 2 _ rfl
    have c3 := hvb.cellAt 3 _ rfl
    go_enter Tryd.func24, Tryd.ntmps24
    go_wp2_with (refine wp_pushN (.tmp 8) 19 slB rfl rfl 4 [(0, .tmp 11), (1, .tmp 14), (2, .tmp 17), (3, .tmp 18)] rfl rfl rfl [(0, .int .u8 ((by8 c).toNat : Int)), (1, .int .u8 ((by8 s).toNat : Int)), (2, .int .u8 ((by8 k).toNat : Int)), (3, .int .u8 0)] (by rfl) [.int .u8 ((by8 c).toNat : Int), .int .u8 ((by8 s).toNat : Int), .int .u8 ((by8 k).toNat : Int), .int .u8 (0 : Nat)] hb4 (by intro u hu; simp at hu; rcases hu with rfl | rfl | rfl | rfl <;> rfl) (by simp) rfl (World.ownsRow_nil _ w.heap.size _ _) (by simp [maxLen]) (by simp) hB.size ?_)
    intro v1 x1 ho1 hG1 _
    have hB1 : Below w.heap.size w x1 := hB.grown hG1 hB.size (fun b h => by simp [Value.ownBlock] at h)
    have ho1 : x1.ownsRow w.heap.size 5 1 v1 4 (bvs T) := by rw [← HTv.out]; simpa using ho1
    have hv1 : Blk x1 w.heap.size 31 [.int .i64 c, .int .i64 s, .int .i64 k, .bool false, .int .i64 n] := hvb.keep (hG1.block _ hvb.lt (by simp [Value.ownBlock]))
    clear c0 c1 c2 c3 w0 w1 w2 hb4 HTv hvb
    obtain ⟨g0, hg0⟩ : ∃ g, g = w.heap.size := ⟨_, rfl⟩
    rw [← hg0] at hv1 ⊢
    clear hg0
    have c4 := hv1.cellAt 4 _ rfl
    go_wp2_with (fail)
    refine (ref_fold_any n _ hn.1 hn.2).mono ?_
    rintro e _ ⟨rfl, rfl⟩
    go_wp2_with (fail)
    refine (refp_any _ _ (foldN_lt n hn.1 hn.2)).mono ?_
    rintro e x2 ⟨v2, rfl, ho2, hB2⟩
    have hB2' := hB1.trans (hB2.mono hB1.size)
    have ho1 := own_bel ho1 hB2
    have hp1 := psz_bd (foldN n)
    rw [length_packed] at ho2
    obtain ⟨A2, p2, rfl⟩ := own_shape ho2
    have hr2 := Rd.of_own ho2
    clear c4 hv1 hG1
    go_wp2_with (refine wp_app (.tmp 21) (.tmp 26) slB rfl rfl rfl ho1 rfl (by rw [← length_packed]; exact hr2.src) (oneCell_bvs _) (by simp only [maxLen]; omega) (by omega) hB2'.size ?_)
    intro v3 x3 ho3 hG3 _
    have hB3 : Below w.heap.size w x3 := hB2'.grown hG3 hB2'.size (fun k hk => (ho1.lt k hk).1)
    go_wp2
    go_ret
    refine ⟨v3, rfl, ?_, hB3⟩
    have e1 : bvs (T ++ packed (foldN n)) = bvs T ++ bvs (packed (foldN n)) := by unfold bvs; rw [List.map_append]
    rw [Htt.out, e1, List.length_append, length_packed, hTl]
    exact ho3
  · have hT : ∃ T, T = [by8 c, by8 s, by8 k, 1] := ⟨_, rfl⟩
    obtain ⟨T, hT⟩ := hT
    have hTl : T.length = 4 := by rw [hT]; rfl
    have hTv : [.int .u8 ((by8 c).toNat : Int), .int .u8 ((by8 s).toNat : Int), .int .u8 ((by8 k).toNat : Int), .int .u8 (1 : Nat)] = bvs T := by rw [hT]; rfl
    have Htt := hid (show rpB ⟨c, s, k, true, n⟩ = T ++ packed (foldN n) by rw [hT]; rfl)
    have HTv := hid hTv
    clear hT hTv
    have hb4 := bs4B (by8 c).toNat (by8 s).toNat (by8 k).toNat 1
    have hvb := Blk.new' w 31 [.int .i64 c, .int .i64 s, .int .i64 k, .bool true, .int .i64 n]
    have hB : Below w.heap.size w (w.alloc (.cells #[.int .i64 c, .int .i64 s, .int .i64 k, .bool true, .int .i64 n] 31)) := (Below.refl _ _).alloc (Nat.le_refl _) _
    have c0 := hvb.cellAt 0 _ rfl
    have c1 := hvb.cellAt 1 _ rfl
    have c2 := hvb.cellAt 2 _ rfl
    have c3 := hvb.cellAt 3 _ rfl
    go_enter Tryd.func24, Tryd.ntmps24
    go_wp2_with (refine wp_pushN (.tmp 8) 19 slB rfl rfl 4 [(0, .tmp 11), (1, .tmp 14), (2, .tmp 17), (3, .tmp 18)] rfl rfl rfl [(0, .int .u8 ((by8 c).toNat : Int)), (1, .int .u8 ((by8 s).toNat : Int)), (2, .int .u8 ((by8 k).toNat : Int)), (3, .int .u8 1)] (by rfl) [.int .u8 ((by8 c).toNat : Int), .int .u8 ((by8 s).toNat : Int), .int .u8 ((by8 k).toNat : Int), .int .u8 (1 : Nat)] hb4 (by intro u hu; simp at hu; rcases hu with rfl | rfl | rfl | rfl <;> rfl) (by simp) rfl (World.ownsRow_nil _ w.heap.size _ _) (by simp [maxLen]) (by simp) hB.size ?_)
    intro v1 x1 ho1 hG1 _
    have hB1 : Below w.heap.size w x1 := hB.grown hG1 hB.size (fun b h => by simp [Value.ownBlock] at h)
    have ho1 : x1.ownsRow w.heap.size 5 1 v1 4 (bvs T) := by rw [← HTv.out]; simpa using ho1
    have hv1 : Blk x1 w.heap.size 31 [.int .i64 c, .int .i64 s, .int .i64 k, .bool true, .int .i64 n] := hvb.keep (hG1.block _ hvb.lt (by simp [Value.ownBlock]))
    clear c0 c1 c2 c3 w0 w1 w2 hb4 HTv hvb
    obtain ⟨g0, hg0⟩ : ∃ g, g = w.heap.size := ⟨_, rfl⟩
    rw [← hg0] at hv1 ⊢
    clear hg0
    have c4 := hv1.cellAt 4 _ rfl
    go_wp2_with (fail)
    refine (ref_fold_any n _ hn.1 hn.2).mono ?_
    rintro e _ ⟨rfl, rfl⟩
    go_wp2_with (fail)
    refine (refp_any _ _ (foldN_lt n hn.1 hn.2)).mono ?_
    rintro e x2 ⟨v2, rfl, ho2, hB2⟩
    have hB2' := hB1.trans (hB2.mono hB1.size)
    have ho1 := own_bel ho1 hB2
    have hp1 := psz_bd (foldN n)
    rw [length_packed] at ho2
    obtain ⟨A2, p2, rfl⟩ := own_shape ho2
    have hr2 := Rd.of_own ho2
    clear c4 hv1 hG1
    go_wp2_with (refine wp_app (.tmp 21) (.tmp 26) slB rfl rfl rfl ho1 rfl (by rw [← length_packed]; exact hr2.src) (oneCell_bvs _) (by simp only [maxLen]; omega) (by omega) hB2'.size ?_)
    intro v3 x3 ho3 hG3 _
    have hB3 : Below w.heap.size w x3 := hB2'.grown hG3 hB2'.size (fun k hk => (ho1.lt k hk).1)
    go_wp2
    go_ret
    refine ⟨v3, rfl, ?_, hB3⟩
    have e1 : bvs (T ++ packed (foldN n)) = bvs T ++ bvs (packed (foldN n)) := by unfold bvs; rw [List.map_append]
    rw [Htt.out, e1, List.length_append, length_packed, hTl]
    exact ho3
def u64n (x : Int) : Nat := (x % 18446744073709551616).toNat
theorem u64n_lt (x : Int) : u64n x < 18446744073709551616 := by unfold u64n; omega
theorem u64n_w (x : Int) : IntKind.u64.wrap x = (u64n x : Int) := by rw [IntKind.wrap_u64]; unfold u64n; omega
def txB (b : List UInt8) : List UInt8 := packed b.length ++ b
def rpsB (a : List Rp) : List UInt8 := a.flatMap (fun r => txB (rpB r))
/-- a world's bytes -/
def putW (E : We) : List UInt8 := fixR 2 (u64n E.s) ++ fixR 2 (u64n E.f) ++ txB (putV E.v.n E.v.m) ++ txB (putV E.u.n E.u.m) ++ txB (putK E.c) ++ rpsB E.a
theorem len_txB (b : List UInt8) : (txB b).length ≤ b.length + 10 := by
  have := psz_bd b.length
  unfold txB
  rw [List.length_append, length_packed]
  omega
theorem len_rpsB : ∀ (a : List Rp), (rpsB a).length ≤ 24 * a.length
  | [] => Nat.zero_le _
  | r :: a => by
    have h1 := len_rpsB a
    have h2 := len_txB (rpB r)
    have h3 := len_rpB r
    show (txB (rpB r) ++ rpsB a).length ≤ _
    rw [List.length_append, List.length_cons]
    omega
theorem rps_take {a : List Rp} {i : Nat} {r : Rp} (h : a[i]? = some r) : rpsB (a.take (i + 1)) = rpsB (a.take i) ++ txB (rpB r) := by
  unfold rpsB
  rw [List.take_add_one, h, List.flatMap_append]
  simp
theorem len_putV (n : Int) (M : Nat) : (putV n M).length ≤ 4 := by
  unfold putV
  split
  · rw [List.length_append, len_fix2, len_fix2]; omega
  · exact Nat.zero_le _
theorem len_putK (s : List (Option Int)) (h : s.length = 16) : (putK s).length ≤ 186 := by
  have h1 := len_txtK s 0
  have h2 := psz_bd (cntK s)
  unfold putK
  rw [List.length_append, length_packed]
  omega
theorem undRps : Tryd.prog.underlying 32 = some (.array 6 31) := by kernel_rfl
theorem sizeRp : (Tryd.prog.info? 31).map (·.size) = some 5 := by kernel_rfl
theorem sizeWo : (Tryd.prog.info? 34).map (·.size) = some 68 := by kernel_rfl
set_option maxRecDepth 100000 in
set_option maxHeartbeats 8000000 in
theorem rput15_any (W : Wo) (w : World) (hW : WoIn W) :
    Calls Tryd.prog 7 #[.agg W.l.toArray] w fun e w' => ∃ v', e = .returned v' ∧ NewB w w' v' (putW W.e) := by
  have hpv : ∀ X, Calls Tryd.prog 22 #[.agg W.v.l.toArray] X fun e w' => ∃ v', e = .returned v' ∧ NewB X w' v' (putV W.v.n W.v.m) := fun X => rput_any W.v.n W.v.m X hW.v.2
  have hpu : ∀ X, Calls Tryd.prog 22 #[.agg W.u.l.toArray] X fun e w' => ∃ v', e = .returned v' ∧ NewB X w' v' (putV W.u.n W.u.m) := fun X => rput_any W.u.n W.u.m X hW.u.2
  have hpc := fun X => rkput14_any W.c X hW.c
  have hpr := fun (r : Rp) (hr : r ∈ W.a) X => rputrep_any r X (hW.a.2 r hr).n
  have hNl : (nmF W.c).length = 16 := by rw [nm_len, hW.c.len]
  have hLc : (cvs W.c).length = 32 := by rw [len_cvs, hW.c.len]
  have hal := hW.a.1
  have hwl := wol hW
  have hPW : putW W.e = fixR 2 (u64n W.s) ++ fixR 2 (u64n W.f) ++ txB (putV W.v.n W.v.m) ++ txB (putV W.u.n W.u.m) ++ txB (putK (nmF W.c)) ++ rpsB W.a := rfl
  obtain ⟨Z, hZ⟩ : ∃ Z, Z = putW W.e := ⟨_, rfl⟩
  rw [← hZ] at hPW ⊢
  clear hZ
  obtain ⟨l, hl⟩ : ∃ l, l = W.l := ⟨_, rfl⟩
  rw [← hl] at hwl ⊢
  clear hl
  have b0 := Blk.new' w 34 l
  have hB : Below w.heap.size w (w.alloc (.cells l.toArray 34)) := (Below.refl _ _).alloc (Nat.le_refl _) _
  have HW := hid hwl
  have Hpv := hid hpv
  have Hpu := hid hpu
  have Hpc := hid hpc
  have Hpr := hid hpr
  have Hlc := hid hLc
  have HPW := hid hPW
  have Hal := hid hal
  clear hwl hpv hpu hpc hpr hLc hW hPW hal
  have ws := u64n_w W.s
  have wf := u64n_w W.f
  go_enter Tryd.func7, Tryd.ntmps7
  go_upto_region 1 with (fail)
  obtain ⟨w0, hw0⟩ : ∃ x, x = w.alloc (.cells l.toArray 34) := ⟨_, rfl⟩
  rw [← hw0] at b0 hB ⊢
  clear hw0
  obtain ⟨g1, hg1⟩ : ∃ g, g = w.heap.size := ⟨_, rfl⟩
  rw [← hg1] at b0 ⊢
  clear hg1
  have C0 : Hid (∀ X, Ch nob w0 X → X.cell? ⟨g1, 0, none⟩ = some (.int .i64 W.s)) := fun X h => (b0.below h.below).cellAt 0 _ HW.out.s
  have C1 : Hid (∀ X, Ch nob w0 X → X.cell? ⟨g1, 1, none⟩ = some (.int .i64 W.f)) := fun X h => (b0.below h.below).cellAt 1 _ HW.out.f
  have Hla := hid (len_fix2 (u64n W.s))
  have Hlb := hid (len_fix2 (u64n W.f))
  refine wp_region_noPanic ?_
  refine wp_region_held_drew (S := Ch nob w0) (by kernel_rfl) ((Ch.refl _ _).drew) (fun hHeld => ?_)
  refine wpAnyH_take (i := 0) (oi := ⟨some 5, _, _, _, _, none⟩) (v := ?_) rfl (by kernel_rfl) (by kernel_rfl) (by kernel_rfl) (fun _ _ _ h => h) (Or.inl ⟨by rfl, ?_⟩) (by assumption) ?_
  rotate_left
  · intro w hSw; go_simp; try with_reducible rfl
  try simp only [Act.put, List.setIfInBounds_toArray, List.set_cons_zero, List.set_cons_succ]
  refine wpAnyH_take (i := 1) (oi := ⟨some 6, _, _, _, _, none⟩) (v := ?_) rfl (by kernel_rfl) (by kernel_rfl) (by kernel_rfl) (fun _ _ _ h => h) (Or.inl ⟨by rfl, ?_⟩) (by assumption) ?_
  rotate_left
  · intro w hSw; have hcw := C0.out w hSw; go_simp; try with_reducible rfl
  try simp only [Act.put, List.setIfInBounds_toArray, List.set_cons_zero, List.set_cons_succ]
  refine wpAnyH_take (i := 2) (oi := ⟨some 7, _, _, _, _, none⟩) (v := ?_) rfl (by kernel_rfl) (by kernel_rfl) (by kernel_rfl) (fun _ _ _ h => h) (Or.inl ⟨by rfl, ?_⟩) (by assumption) ?_
  rotate_left
  · intro w hSw; go_simp; try with_reducible rfl
  try simp only [Act.put, List.setIfInBounds_toArray, List.set_cons_zero, List.set_cons_succ]
  refine wpAnyH_take (i := 4) (oi := ⟨some 9, _, _, _, _, none⟩) (v := ?_) rfl (by kernel_rfl) (by kernel_rfl) (by kernel_rfl) (fun _ _ _ h => h) (Or.inl ⟨by rfl, ?_⟩) (by assumption) ?_
  rotate_left
  · intro w hSw; go_simp; try with_reducible rfl
  try simp only [Act.put, List.setIfInBounds_toArray, List.set_cons_zero, List.set_cons_succ]
  refine wpAnyH_take (i := 5) (oi := ⟨some 10, _, _, _, _, none⟩) (v := ?_) rfl (by kernel_rfl) (by kernel_rfl) (by kernel_rfl) (fun _ _ _ h => h) (Or.inl ⟨by rfl, ?_⟩) (by assumption) ?_
  rotate_left
  · intro w hSw; have hcw := C1.out w hSw; go_simp; try with_reducible rfl
  try simp only [Act.put, List.setIfInBounds_toArray, List.set_cons_zero, List.set_cons_succ]
  refine wpAnyH_take (i := 6) (oi := ⟨some 11, _, _, _, _, none⟩) (v := ?_) rfl (by kernel_rfl) (by kernel_rfl) (by kernel_rfl) (fun _ _ _ h => h) (Or.inl ⟨by rfl, ?_⟩) (by assumption) ?_
  rotate_left
  · intro w hSw; go_simp; try with_reducible rfl
  try simp only [Act.put, List.setIfInBounds_toArray, List.set_cons_zero, List.set_cons_succ]
  refine wpAnyH_ready (rs := [3]) (by kernel_rfl) (by simp) ?_
  refine AllReadyH.cons (o := ⟨some 8, _, _, _, _, none⟩) rfl (fun K hK => ?_) AllReadyH.nil
  go_simp
  refine (refx_any (u64n W.s) 2 _ (u64n_lt _)).mono ?_
  rintro e' w11 ⟨va, rfl, hoa, hB11⟩
  have hC11 := hHeld.belowR hB11
  refine hK.out _ _ (hC11) (fun hHeld => ?_)
  clear hK K
  try simp only [Act.put, List.setIfInBounds_toArray, List.set_cons_zero, List.set_cons_succ]
  refine wpAnyH_ready (rs := [7]) (by kernel_rfl) (by simp) ?_
  refine AllReadyH.cons (o := ⟨some 12, _, _, _, _, none⟩) rfl (fun K hK => ?_) AllReadyH.nil
  go_simp
  refine (refx_any (u64n W.f) 2 _ (u64n_lt _)).mono ?_
  rintro e' w12 ⟨vb, rfl, hob, hB12⟩
  have hoa := (Rd.of_own hoa).below hB12
  have hC12 := hC11.belowR hB12
  refine hK.out _ _ (hC12) (fun hHeld => ?_)
  clear hK K
  try simp only [Act.put, List.setIfInBounds_toArray, List.set_cons_zero, List.set_cons_succ]
  refine wpAnyH_ready (rs := [8]) (by kernel_rfl) (by simp) ?_
  refine AllReadyH.cons (o := ⟨some 13, _, _, _, _, none⟩) rfl (fun K hK => ?_) AllReadyH.nil
  go_simp
  refine (join_any _ _ _ _ _ _ _ hoa (Rd.of_own hob) (by rw [Hla.out]; omega) (by rw [Hlb.out]; omega)).mono ?_
  rintro e' w13 ⟨vc, rfl, hoc, hB13⟩
  have hC13 := hC12.belowR hB13
  refine hK.out _ _ (hC13) (fun hHeld => ?_)
  clear hK K
  try simp only [Act.put, List.setIfInBounds_toArray, List.set_cons_zero, List.set_cons_succ]
  refine wpAnyH_take (i := 9) (oi := ⟨some 3, _, _, _, _, none⟩) (v := ?_) rfl (by kernel_rfl) (by kernel_rfl) (by kernel_rfl) (fun _ _ _ h => h) (Or.inl ⟨by rfl, ?_⟩) (by assumption) ?_
  rotate_left
  · intro w hSw; go_simp; try with_reducible rfl
  try simp only [Act.put, List.setIfInBounds_toArray, List.set_cons_zero, List.set_cons_succ]
  refine wpAnyH_done (by kernel_rfl) ?_ _
  refine NoPanic.normal ?_
  have hBr := hC13.below
  have b1 := b0.below hBr
  obtain ⟨P0, hP0⟩ : ∃ P, P = fixR 2 (u64n W.s) ++ fixR 2 (u64n W.f) := ⟨_, rfl⟩
  have HP : Hid (P0.length ≤ 4) := by show _ ≤ _; rw [hP0, List.length_append, Hla.out, Hlb.out]; omega
  rw [← hP0] at hoc
  have hop := own_weak hoc (base' := w0.heap.size) hC12.below.size
  have E0 := hid hP0
  clear hP0 hoc hC13 hC12 hC11 hoa hob hB11 hB12 hB13 C0 C1 Hla Hlb ws wf
  go_wp2_with (refine wp_ld 24 (.tmp 15) rfl rfl rfl (b1.range 2 W.v.l HW.out.v) Tryd.underlying24 rfl sizeV ?_)
  refine (Hpv.out _).mono ?_
  rintro e y1 ⟨v1, rfl, ho1, hB1⟩
  have hBr := hBr.trans (hB1.mono hBr.size)
  have hop := own_bel hop hB1
  have hbl := len_putV W.v.n W.v.m
  obtain ⟨D, hD⟩ : ∃ D, D = putV W.v.n W.v.m := ⟨_, rfl⟩
  rw [← hD] at ho1 hbl
  have HD := hid hD
  clear hD hB1
  obtain ⟨A1, k1, rfl⟩ := own_shape ho1
  go_wp2_with (fail)
  refine (reft_any _ D _ _ (Rd.of_own ho1) (by omega)).mono ?_
  rintro e y2 ⟨v2, rfl, ho2, hB2⟩
  have hBr := hBr.trans (hB2.mono hBr.size)
  have hop := own_bel hop hB2
  have hpd := psz_bd D.length
  have hL : (packed D.length ++ D).length = psz D.length + D.length := by rw [List.length_append, length_packed]
  rw [hL] at ho2
  have HL := hid hL
  clear hL hB2 ho1
  obtain ⟨A2, k2, rfl⟩ := own_shape ho2
  have hs2 := Rd.of_own ho2
  have hpl := HP.out
  go_wp2_with (refine wp_app (.tmp 14) (.tmp 18) slB rfl rfl rfl hop rfl (by rw [← HL.out]; exact hs2.src) (oneCell_bvs _) (by simp only [maxLen]; omega) (by omega) hBr.size ?_)
  intro v3 y3 ho3 hG3 _
  have hBr := hBr.grown hG3 hBr.size (fun k hk => (hop.lt k hk).1)
  have b1 := b0.below hBr
  obtain ⟨P1, hP⟩ : ∃ P', P' = P0 ++ txB D := ⟨_, rfl⟩
  have hop : y3.ownsRow w0.heap.size 5 1 v3 P1.length (bvs P1) := by
    have e1 : bvs (P0 ++ txB D) = bvs P0 ++ bvs (packed D.length ++ D) := by unfold txB bvs; rw [List.map_append]
    have e2 : (P0 ++ txB D).length = P0.length + (psz D.length + D.length) := by rw [List.length_append, ← HL.out]; rfl
    rw [hP, e1, e2]
    exact ho3
  have HP : Hid (P1.length ≤ 30) := by
    show _ ≤ _
    have e2 : (P0 ++ txB D).length = P0.length + (psz D.length + D.length) := by rw [List.length_append, ← HL.out]; rfl
    rw [hP, e2]
    omega
  rw [HD.out] at hP
  have E1 := hid hP
  clear hP HD HL hs2 ho2 ho3 hG3 hpd hbl hpl
  go_wp2_with (refine wp_ld 24 (.tmp 21) rfl rfl rfl (b1.range 4 W.u.l HW.out.u) Tryd.underlying24 rfl sizeV ?_)
  refine (Hpu.out _).mono ?_
  rintro e y1 ⟨v1, rfl, ho1, hB1⟩
  have hBr := hBr.trans (hB1.mono hBr.size)
  have hop := own_bel hop hB1
  have hbl := len_putV W.u.n W.u.m
  obtain ⟨D, hD⟩ : ∃ D, D = putV W.u.n W.u.m := ⟨_, rfl⟩
  rw [← hD] at ho1 hbl
  have HD := hid hD
  clear hD hB1
  obtain ⟨A1, k1, rfl⟩ := own_shape ho1
  go_wp2_with (fail)
  refine (reft_any _ D _ _ (Rd.of_own ho1) (by omega)).mono ?_
  rintro e y2 ⟨v2, rfl, ho2, hB2⟩
  have hBr := hBr.trans (hB2.mono hBr.size)
  have hop := own_bel hop hB2
  have hpd := psz_bd D.length
  have hL : (packed D.length ++ D).length = psz D.length + D.length := by rw [List.length_append, length_packed]
  rw [hL] at ho2
  have HL := hid hL
  clear hL hB2 ho1
  obtain ⟨A2, k2, rfl⟩ := own_shape ho2
  have hs2 := Rd.of_own ho2
  have hpl := HP.out
  go_wp2_with (refine wp_app (.tmp 20) (.tmp 24) slB rfl rfl rfl hop rfl (by rw [← HL.out]; exact hs2.src) (oneCell_bvs _) (by simp only [maxLen]; omega) (by omega) hBr.size ?_)
  intro v3 y3 ho3 hG3 _
  have hBr := hBr.grown hG3 hBr.size (fun k hk => (hop.lt k hk).1)
  have b1 := b0.below hBr
  obtain ⟨P2, hP⟩ : ∃ P', P' = P1 ++ txB D := ⟨_, rfl⟩
  have hop : y3.ownsRow w0.heap.size 5 1 v3 P2.length (bvs P2) := by
    have e1 : bvs (P1 ++ txB D) = bvs P1 ++ bvs (packed D.length ++ D) := by unfold txB bvs; rw [List.map_append]
    have e2 : (P1 ++ txB D).length = P1.length + (psz D.length + D.length) := by rw [List.length_append, ← HL.out]; rfl
    rw [hP, e1, e2]
    exact ho3
  have HP : Hid (P2.length ≤ 60) := by
    show _ ≤ _
    have e2 : (P1 ++ txB D).length = P1.length + (psz D.length + D.length) := by rw [List.length_append, ← HL.out]; rfl
    rw [hP, e2]
    omega
  rw [HD.out] at hP
  have E2 := hid hP
  clear hP HD HL hs2 ho2 ho3 hG3 hpd hbl hpl
  go_wp2_with (refine wp_ld 27 (.tmp 27) rfl rfl rfl (b1.range 6 (cvs W.c) HW.out.c) undCs rfl (by rw [Hlc.out]; exact sizeCs) ?_)
  refine (Hpc.out _).mono ?_
  rintro e y1 ⟨v1, rfl, ho1, hB1⟩
  have hBr := hBr.trans (hB1.mono hBr.size)
  have hop := own_bel hop hB1
  have hbl := len_putK (nmF W.c) hNl
  obtain ⟨D, hD⟩ : ∃ D, D = putK (nmF W.c) := ⟨_, rfl⟩
  rw [← hD] at ho1 hbl
  have HD := hid hD
  clear hD hB1
  obtain ⟨A1, k1, rfl⟩ := own_shape ho1
  go_wp2_with (fail)
  refine (reft_any _ D _ _ (Rd.of_own ho1) (by omega)).mono ?_
  rintro e y2 ⟨v2, rfl, ho2, hB2⟩
  have hBr := hBr.trans (hB2.mono hBr.size)
  have hop := own_bel hop hB2
  have hpd := psz_bd D.length
  have hL : (packed D.length ++ D).length = psz D.length + D.length := by rw [List.length_append, length_packed]
  rw [hL] at ho2
  have HL := hid hL
  clear hL hB2 ho1
  obtain ⟨A2, k2, rfl⟩ := own_shape ho2
  have hs2 := Rd.of_own ho2
  have hpl := HP.out
  go_wp2_with (refine wp_app (.tmp 26) (.tmp 30) slB rfl rfl rfl hop rfl (by rw [← HL.out]; exact hs2.src) (oneCell_bvs _) (by simp only [maxLen]; omega) (by omega) hBr.size ?_)
  intro v3 y3 ho3 hG3 _
  have hBr := hBr.grown hG3 hBr.size (fun k hk => (hop.lt k hk).1)
  have b1 := b0.below hBr
  obtain ⟨P3, hP⟩ : ∃ P', P' = P2 ++ txB D := ⟨_, rfl⟩
  have hop : y3.ownsRow w0.heap.size 5 1 v3 P3.length (bvs P3) := by
    have e1 : bvs (P2 ++ txB D) = bvs P2 ++ bvs (packed D.length ++ D) := by unfold txB bvs; rw [List.map_append]
    have e2 : (P2 ++ txB D).length = P2.length + (psz D.length + D.length) := by rw [List.length_append, ← HL.out]; rfl
    rw [hP, e1, e2]
    exact ho3
  have HP : Hid (P3.length ≤ 400) := by
    show _ ≤ _
    have e2 : (P2 ++ txB D).length = P2.length + (psz D.length + D.length) := by rw [List.length_append, ← HL.out]; rfl
    rw [hP, e2]
    omega
  rw [HD.out] at hP
  have E3 := hid hP
  clear hP HD HL hs2 ho2 ho3 hG3 hpd hbl hpl
  go_wp2
  go_loopw [3, 4] (fun bv iv wr => ∃ i : Nat, i ≤ 6 ∧ iv = .int .i64 i ∧ wr.ownsRow w0.heap.size 5 1 bv (P3 ++ rpsB (W.a.take i)).length (bvs (P3 ++ rpsB (W.a.take i))) ∧ Below w0.heap.size w0 wr) (fun _ i _ => 6 - (intOf i).toNat)
  case atStart => exact ⟨0, Nat.zero_le _, rfl, by rw [List.take_zero, show rpsB [] = [] from rfl, List.append_nil]; exact hop, hBr⟩
  case round =>
    clear hop hBr b1
    obtain ⟨i, hi, rfl, hop, hBr⟩ := hrel
    by_cases hlt : i < 6
    · have hI : (i : Int) < 6 := by omega
      obtain ⟨r, hr⟩ : ∃ r, W.a[i]? = some r := ⟨_, List.getElem?_eq_getElem (by rw [Hal.out]; omega)⟩
      have hmem := List.mem_of_getElem? hr
      have b1 := b0.below hBr
      have hrg := b1.range (38 + i * 5) r.l (HW.out.a i r hr)
      have hrps := len_rpsB (W.a.take i)
      rw [List.length_take] at hrps
      have Htk := hid (rps_take hr)
      obtain ⟨Pi, hPi⟩ : ∃ P, P = P3 ++ rpsB (W.a.take i) := ⟨_, rfl⟩
      rw [← hPi] at hop
      have HP : Hid (Pi.length ≤ 544) := by
        show _ ≤ _
        have := HP.out
        rw [hPi, List.length_append]
        omega
      have HPi := hid hPi
      have Hmem := hid hmem
      clear hPi hmem hr hrps
      go_wp2_with (first | refine wp_ixp 32 (.tmp 38) (.tmp 37) rfl rfl rfl rfl undRps hlt sizeRp ?_ | refine wp_ld 31 (.tmp 39) rfl rfl rfl hrg Tryd.underlying31 rfl sizeRp ?_)
      refine (Hpr.out r Hmem.out _).mono ?_
      rintro e y1 ⟨v1, rfl, ho1, hB1⟩
      have hBr := hBr.trans (hB1.mono hBr.size)
      have hop := own_bel hop hB1
      have hbl := len_rpB r
      obtain ⟨D, hD⟩ : ∃ D, D = rpB r := ⟨_, rfl⟩
      rw [← hD] at ho1 hbl
      have HD := hid hD
      clear hD hB1
      obtain ⟨A1, k1, rfl⟩ := own_shape ho1
      go_wp2_with (fail)
      refine (reft_any _ D _ _ (Rd.of_own ho1) (by omega)).mono ?_
      rintro e y2 ⟨v2, rfl, ho2, hB2⟩
      have hBr := hBr.trans (hB2.mono hBr.size)
      have hop := own_bel hop hB2
      have hpd := psz_bd D.length
      have hL : (packed D.length ++ D).length = psz D.length + D.length := by rw [List.length_append, length_packed]
      rw [hL] at ho2
      have HL := hid hL
      clear hL hB2 ho1
      obtain ⟨A2, k2, rfl⟩ := own_shape ho2
      have hs2 := Rd.of_own ho2
      have hpl := HP.out
      go_wp2_with (refine wp_app (.tmp 36) (.tmp 42) slB rfl rfl rfl hop rfl (by rw [← HL.out]; exact hs2.src) (oneCell_bvs _) (by simp only [maxLen]; omega) (by omega) hBr.size ?_)
      intro v3 y3 ho3 hG3 _
      have hBr := hBr.grown hG3 hBr.size (fun k hk => (hop.lt k hk).1)
      have b1 := b0.below hBr
      obtain ⟨Pj, hP⟩ : ∃ P', P' = Pi ++ txB D := ⟨_, rfl⟩
      have hop : y3.ownsRow w0.heap.size 5 1 v3 Pj.length (bvs Pj) := by
        have e1 : bvs (Pi ++ txB D) = bvs Pi ++ bvs (packed D.length ++ D) := by unfold txB bvs; rw [List.map_append]
        have e2 : (Pi ++ txB D).length = Pi.length + (psz D.length + D.length) := by rw [List.length_append, ← HL.out]; rfl
        rw [hP, e1, e2]
        exact ho3
      have HP : Hid (Pj.length ≤ 900) := by
        show _ ≤ _
        have e2 : (Pi ++ txB D).length = Pi.length + (psz D.length + D.length) := by rw [List.length_append, ← HL.out]; rfl
        rw [hP, e2]
        omega
      rw [HD.out] at hP
      have Ej := hid hP
      clear hP HD HL hs2 ho2 ho3 hG3 hpd hbl hpl
      go_wp2
      go_roundw
      case rel =>
        refine ⟨i + 1, by omega, by go_num, ?_, hBr⟩
        rw [Htk.out, ← List.append_assoc, ← HPi.out, ← Ej.out]
        exact hop
      case measure => simp [intOf]; omega
    · have hi' : i = 6 := by omega
      subst hi'
      have hI : ¬ (6 : Int) < 6 := by omega
      rw [List.take_of_length_le (by rw [Hal.out]; omega)] at hop
      go_wp2
      go_ret
      refine ⟨_, rfl, ?_, hB.trans (hBr.mono hB.size)⟩
      rw [HPW.out, ← E0.out, ← E1.out, ← E2.out, ← E3.out]
      exact own_weak hop hB.size
end Go.Proofs.YtfjgfaccfjdklaaDoor
/- A3: layer 15: contract of the document's Fits. -/
namespace Go.Proofs.YtfjgfaccfjdklaaDoor
open Go.RowKit Go.V
def b16 (x : Int) : Prop := 0 ≤ x ∧ x ≤ 65535
def b8i (x : Int) : Prop := 0 ≤ x ∧ x ≤ 255
instance (x : Int) : Decidable (b16 x) := by unfold b16; exact inferInstance
instance (x : Int) : Decidable (b8i x) := by unfold b8i; exact inferInstance
def fitC (x : Cl) : Prop := x.t = false → x.n = 0
def fitR (r : Rp) : Prop := b8i r.c ∧ b8i r.s ∧ b8i r.k
instance (x : Cl) : Decidable (fitC x) := by unfold fitC; exact inferInstance
instance (r : Rp) : Decidable (fitR r) := by unfold fitR; exact inferInstance
/-- do a world's numbers fit its bytes? -/
def Fit (W : Wo) : Prop := b16 W.s ∧ b16 W.f ∧ rgt W.v.n W.v.m = true ∧ rgt W.u.n W.u.m = true ∧ (∀ x ∈ W.c, fitC x) ∧ ∀ r ∈ W.a, fitR r
instance (W : Wo) : Decidable (Fit W) := by unfold Fit; exact inferInstance
theorem zeroRp : (Tryd.prog.info? 31).map (·.zero) = some (some (.agg [.int .i64 0, .int .i64 0, .int .i64 0, .bool false, .int .i64 0].toArray)) := by kernel_rfl
set_option maxRecDepth 100000 in
set_option maxHeartbeats 8000000 in
theorem rfits15_any (W : Wo) (w : World) (hW : WoIn W) :
    Calls Tryd.prog 11 #[.agg W.l.toArray] w fun e w' => e = .returned (.bool (decide (Fit W))) ∧ Below w.heap.size w w' := by
  have hpv : ∀ X, Calls Tryd.prog 30 #[.agg W.v.l.toArray] X fun e w' => e = .returned (.bool (rgt W.v.n W.v.m)) ∧ Below X.heap.size X w' := fun X => rright_any W.v.n W.v.m X hW.v.2
  have hpu : ∀ X, Calls Tryd.prog 30 #[.agg W.u.l.toArray] X fun e w' => e = .returned (.bool (rgt W.u.n W.u.m)) ∧ Below X.heap.size X w' := fun X => rright_any W.u.n W.u.m X hW.u.2
  have hal := hW.a.1
  have hcl := hW.c.len
  have hwl := wol hW
  have hft : decide (Fit W) = decide (b16 W.s ∧ b16 W.f ∧ rgt W.v.n W.v.m = true ∧ rgt W.u.n W.u.m = true ∧ (∀ x ∈ W.c, fitC x) ∧ ∀ r ∈ W.a, fitR r) := rfl
  obtain ⟨Z, hZ⟩ : ∃ Z, Z = decide (Fit W) := ⟨_, rfl⟩
  rw [← hZ] at hft ⊢
  clear hZ
  have HZ := hid hft
  clear hft
  obtain ⟨l, hl⟩ : ∃ l, l = W.l := ⟨_, rfl⟩
  rw [← hl] at hwl ⊢
  clear hl
  obtain ⟨S, hS⟩ : ∃ S, S = W.s := ⟨_, rfl⟩
  obtain ⟨N, hN⟩ : ∃ N, N = W.f := ⟨_, rfl⟩
  have b0 := Blk.new' w 34 l
  have hB : Below w.heap.size w (w.alloc (.cells l.toArray 34)) := (Below.refl _ _).alloc (Nat.le_refl _) _
  have c0 := b0.cellAt 0 _ hwl.s
  have c1 := b0.cellAt 1 _ hwl.f
  rw [← hS] at c0
  rw [← hN] at c1
  have HW := hid hwl
  have Hpv := hid hpv
  have Hpu := hid hpu
  have Hal := hid hal
  have Hcl := hid hcl
  have HS := hid hS
  have HN := hid hN
  clear hwl hpv hpu hW hal hcl hS hN
  by_cases s0 : S < 0
  · have Hz : Hid (Z = false) := by show _ = _; rw [HZ.out]; exact decide_eq_false (fun h => by have := h.1.1; rw [← HS.out] at this; omega)
    clear HZ
    go_enter Tryd.func11, Tryd.ntmps11
    go_wp2
    go_ret
    exact ⟨by rw [Hz.out]; rfl, hB⟩
  · by_cases s1 : 65535 < S
    · have Hz : Hid (Z = false) := by show _ = _; rw [HZ.out]; exact decide_eq_false (fun h => by have := h.1.2; rw [← HS.out] at this; omega)
      clear HZ
      go_enter Tryd.func11, Tryd.ntmps11
      go_wp2
      go_ret
      exact ⟨by rw [Hz.out]; rfl, hB⟩
    · by_cases n0 : N < 0
      · have Hz : Hid (Z = false) := by show _ = _; rw [HZ.out]; exact decide_eq_false (fun h => by have := h.2.1.1; rw [← HN.out] at this; omega)
        clear HZ
        go_enter Tryd.func11, Tryd.ntmps11
        go_wp2
        go_ret
        exact ⟨by rw [Hz.out]; rfl, hB⟩
      · by_cases n1 : 65535 < N
        · have Hz : Hid (Z = false) := by show _ = _; rw [HZ.out]; exact decide_eq_false (fun h => by have := h.2.1.2; rw [← HN.out] at this; omega)
          clear HZ
          go_enter Tryd.func11, Tryd.ntmps11
          go_wp2
          go_ret
          exact ⟨by rw [Hz.out]; rfl, hB⟩
        · cases hv : rgt W.v.n W.v.m with
          | false =>
            have Hz : Hid (Z = false) := by show _ = _; rw [HZ.out]; exact decide_eq_false (fun h => by have := h.2.2.1; rw [hv] at this; cases this)
            rw [hv] at Hpv
            clear HZ hv
            go_enter Tryd.func11, Tryd.ntmps11
            go_wp2_with (refine wp_ldg 24 (.tmp 25) (by rfl) rfl rfl (b0.range 2 W.v.l HW.out.v) Tryd.underlying24 rfl sizeV ?_)
            refine (Hpv.out _).mono ?_
            rintro e y1 ⟨rfl, hB1⟩
            have b1 := b0.below hB1
            have hB := hB.trans (hB1.mono hB.size)
            go_wp2
            go_ret
            exact ⟨by rw [Hz.out]; rfl, hB⟩
          | true =>
            cases hu : rgt W.u.n W.u.m with
            | false =>
              have Hz : Hid (Z = false) := by show _ = _; rw [HZ.out]; exact decide_eq_false (fun h => by have := h.2.2.2.1; rw [hu] at this; cases this)
              rw [hv] at Hpv
              rw [hu] at Hpu
              clear HZ hv hu
              go_enter Tryd.func11, Tryd.ntmps11
              go_wp2_with (refine wp_ldg 24 (.tmp 25) (by rfl) rfl rfl (b0.range 2 W.v.l HW.out.v) Tryd.underlying24 rfl sizeV ?_)
              refine (Hpv.out _).mono ?_
              rintro e y1 ⟨rfl, hB1⟩
              have b1 := b0.below hB1
              have hB := hB.trans (hB1.mono hB.size)
              go_wp2_with (refine wp_ldg 24 (.tmp 31) (by rfl) rfl rfl (b1.range 4 W.u.l HW.out.u) Tryd.underlying24 rfl sizeV ?_)
              refine (Hpu.out _).mono ?_
              rintro e y2 ⟨rfl, hB2⟩
              have b2 := b1.below hB2
              have hB := hB.trans (hB2.mono hB.size)
              go_wp2
              go_ret
              exact ⟨by rw [Hz.out]; rfl, hB⟩
            | true =>
              have Hv := hid hv
              have Hu := hid hu
              rw [hv] at Hpv
              rw [hu] at Hpu
              clear hv hu
              go_enter Tryd.func11, Tryd.ntmps11
              go_wp2_with (refine wp_ldg 24 (.tmp 25) (by rfl) rfl rfl (b0.range 2 W.v.l HW.out.v) Tryd.underlying24 rfl sizeV ?_)
              refine (Hpv.out _).mono ?_
              rintro e y1 ⟨rfl, hB1⟩
              have b1 := b0.below hB1
              have hB := hB.trans (hB1.mono hB.size)
              go_wp2_with (refine wp_ldg 24 (.tmp 31) (by rfl) rfl rfl (b1.range 4 W.u.l HW.out.u) Tryd.underlying24 rfl sizeV ?_)
              refine (Hpu.out _).mono ?_
              rintro e y2 ⟨rfl, hB2⟩
              have b2 := b1.below hB2
              have hB := hB.trans (hB2.mono hB.size)
              have c0 := c0
              clear c0 c1 b0 b1 hB1 hB2 Hpv Hpu
              have HB := hid hB
              clear hB
              obtain ⟨g1, hg1⟩ : ∃ g, g = w.heap.size := ⟨_, rfl⟩
              have hg1w : w.heap.size ≤ g1 := by omega
              rw [← hg1] at b2 ⊢
              clear hg1
              go_wp2
              go_loopw [3] (fun iv wr => ∃ i : Nat, i ≤ 16 ∧ iv = .int .i64 i ∧ Hid (∀ j x, j < i → W.c[j]? = some x → fitC x) ∧ Below y2.heap.size y2 wr) (fun i _ => 16 - (intOf i).toNat)
              case atStart => exact ⟨0, Nat.zero_le _, rfl, hid (fun j x hj => absurd hj (Nat.not_lt_zero _)), Below.refl _ _⟩
              case round =>
                obtain ⟨i, hi, rfl, hsf, hBr⟩ := hrel
                have b3 := b2.below hBr
                have HBr := hid (HB.out.trans (hBr.mono HB.out.size))
                by_cases hlt : i < 16
                · have hI : (i : Int) < 16 := by omega
                  obtain ⟨x, hx⟩ : ∃ x, W.c[i]? = some x := ⟨_, List.getElem?_eq_getElem (by rw [Hcl.out]; omega)⟩
                  have hx1 := cvs_at W.c i x hx
                  obtain ⟨xt, xn⟩ := x
                  have X0 : wr.cell? ⟨g1, 6 + i * 2, none⟩ = some (.bool xt) := b3.cellAt _ _ (HW.out.c (i * 2) _ (by rw [Nat.mul_comm]; exact hx1.1))
                  have X1 : wr.cell? ⟨g1, 6 + i * 2 + 1, none⟩ = some (.int .i64 xn) := b3.cellAt _ _ (HW.out.c (i * 2 + 1) _ (by rw [Nat.mul_comm]; exact hx1.2))
                  have Hx := hid hx
                  clear hx hx1 b3
                  cases xt with
                  | true =>
                    have Hs := hid (fun j x (hj : j < i + 1) (hx : W.c[j]? = some x) => show fitC x from by
                      rcases Nat.lt_or_ge j i with h | h
                      · exact hsf.out j x h hx
                      · have e : j = i := by omega
                        subst e
                        have := hx.symm.trans Hx.out
                        injection this with this
                        subst this
                        intro h
                        cases h)
                    go_wp2_with (refine wp_ixp 27 (.tmp 41) (.tmp 40) rfl rfl rfl rfl undCs hlt sizeCl ?_)
                    go_roundw
                    case rel => exact ⟨i + 1, by omega, by go_num, Hs, hBr⟩
                    case measure => simp [intOf]; omega
                  | false =>
                    by_cases hn : xn = 0
                    · subst hn
                      have Hs := hid (fun j x (hj : j < i + 1) (hx : W.c[j]? = some x) => show fitC x from by
                        rcases Nat.lt_or_ge j i with h | h
                        · exact hsf.out j x h hx
                        · have e : j = i := by omega
                          subst e
                          have := hx.symm.trans Hx.out
                          injection this with this
                          subst this
                          intro _
                          rfl)
                      go_wp2_with (first | refine wp_ixp 27 (.tmp 41) (.tmp 40) rfl rfl rfl rfl undCs hlt sizeCl ?_ | refine wp_ixpg 27 (.tmp 48) (.tmp 47) (by rfl) rfl rfl rfl undCs hlt sizeCl ?_)
                      go_roundw
                      case rel => exact ⟨i + 1, by omega, by go_num, Hs, hBr⟩
                      case measure => simp [intOf]; omega
                    · have Hz : Hid (Z = false) := by show _ = _; rw [HZ.out]; exact decide_eq_false (fun h => hn (h.2.2.2.2.1 _ (List.mem_of_getElem? Hx.out) rfl))
                      clear HZ
                      go_wp2_with (first | refine wp_ixp 27 (.tmp 41) (.tmp 40) rfl rfl rfl rfl undCs hlt sizeCl ?_ | refine wp_ixpg 27 (.tmp 48) (.tmp 47) (by rfl) rfl rfl rfl undCs hlt sizeCl ?_)
                      go_ret
                      exact ⟨by rw [Hz.out]; rfl, HBr.out⟩
                · have hi' : i = 16 := by omega
                  subst hi'
                  have hI : ¬ (16 : Int) < 16 := by omega
                  have Hcs := hid (fun x (hx : x ∈ W.c) => show fitC x from by
                    obtain ⟨j, hj⟩ := List.mem_iff_getElem?.1 hx
                    have hjl : j < W.c.length := by
                      rcases Nat.lt_or_ge j W.c.length with h | h
                      · exact h
                      · rw [List.getElem?_eq_none h] at hj; cases hj
                    exact hsf.out j x (by rw [Hcl.out] at hjl; exact hjl) hj)
                  clear hsf b3
                  go_wp2
                  go_loopw [4] (fun iv wr => ∃ i : Nat, i ≤ 6 ∧ iv = .int .i64 i ∧ Hid (∀ j r, j < i → W.a[j]? = some r → fitR r) ∧ Below y2.heap.size y2 wr) (fun i _ => 6 - (intOf i).toNat)
                  case atStart => exact ⟨0, Nat.zero_le _, rfl, hid (fun j r hj => absurd hj (Nat.not_lt_zero _)), hBr⟩
                  case round =>
                    clear hBr HBr
                    obtain ⟨i, hi, rfl, hsf, hBr⟩ := hrel
                    have b3 := b2.below hBr
                    by_cases hlt : i < 6
                    · have hI : (i : Int) < 6 := by omega
                      obtain ⟨r, hr⟩ : ∃ r, W.a[i]? = some r := ⟨_, List.getElem?_eq_getElem (by rw [Hal.out]; omega)⟩
                      have hrg := b3.range (38 + i * 5) r.l (HW.out.a i r hr)
                      obtain ⟨rc, rs, rk, ro, rn⟩ := r
                      unfold Rp.l at hrg
                      have Hr := hid hr
                      clear hr b3
                      by_cases e0 : rc < 0
                      · have Hz : Hid (Z = false) := by show _ = _; rw [HZ.out]; exact decide_eq_false (fun h => by have h := h.2.2.2.2.2 _ (List.mem_of_getElem? Hr.out); have h : b8i rc ∧ b8i rs ∧ b8i rk := h; have := h.1; unfold b8i at this; omega)
                        clear HZ hsf b2 s0 s1 n0 n1
                        go_wp2_with (first | refine wp_ixp 32 (.tmp 59) (.tmp 58) rfl rfl rfl rfl undRps hlt sizeRp ?_ | refine wp_ld 31 (.tmp 60) rfl rfl rfl hrg Tryd.underlying31 rfl sizeRp ?_ | (refine wp_newst 31 5 (.tmp 61) rfl rfl rfl rfl rfl rfl zeroRp (l := [.int .i64 rc, .int .i64 rs, .int .i64 rk, .bool ro, .int .i64 rn]) rfl rfl sizeRp (by intro v hv; simp at hv; rcases hv with rfl | rfl | rfl | rfl | rfl <;> rfl) (by simp [Act.put]) ?_; intro y4 b5 hB4 hs4; refine wp_stop ?_))
                        have hBr := hBr.trans (hB4.mono hBr.size)
                        have q0 := b5.cellAt 0 _ rfl
                        have q1 := b5.cellAt 1 _ rfl
                        have q2 := b5.cellAt 2 _ rfl
                        obtain ⟨g5, hg5⟩ : ∃ g, g = wr.heap.size := ⟨_, rfl⟩
                        rw [← hg5] at q0 q1 q2 ⊢
                        clear hg5 hs4 b5 hB4 hrg
                        refine wp_go ?_
                        go_wp2
                        go_ret
                        exact ⟨by rw [Hz.out]; rfl, HB.out.trans (hBr.mono HB.out.size)⟩
                      · by_cases e1 : 255 < rc
                        · have Hz : Hid (Z = false) := by show _ = _; rw [HZ.out]; exact decide_eq_false (fun h => by have h := h.2.2.2.2.2 _ (List.mem_of_getElem? Hr.out); have h : b8i rc ∧ b8i rs ∧ b8i rk := h; have := h.1; unfold b8i at this; omega)
                          clear HZ hsf b2 s0 s1 n0 n1
                          go_wp2_with (first | refine wp_ixp 32 (.tmp 59) (.tmp 58) rfl rfl rfl rfl undRps hlt sizeRp ?_ | refine wp_ld 31 (.tmp 60) rfl rfl rfl hrg Tryd.underlying31 rfl sizeRp ?_ | (refine wp_newst 31 5 (.tmp 61) rfl rfl rfl rfl rfl rfl zeroRp (l := [.int .i64 rc, .int .i64 rs, .int .i64 rk, .bool ro, .int .i64 rn]) rfl rfl sizeRp (by intro v hv; simp at hv; rcases hv with rfl | rfl | rfl | rfl | rfl <;> rfl) (by simp [Act.put]) ?_; intro y4 b5 hB4 hs4; refine wp_stop ?_))
                          have hBr := hBr.trans (hB4.mono hBr.size)
                          have q0 := b5.cellAt 0 _ rfl
                          have q1 := b5.cellAt 1 _ rfl
                          have q2 := b5.cellAt 2 _ rfl
                          obtain ⟨g5, hg5⟩ : ∃ g, g = wr.heap.size := ⟨_, rfl⟩
                          rw [← hg5] at q0 q1 q2 ⊢
                          clear hg5 hs4 b5 hB4 hrg
                          refine wp_go ?_
                          go_wp2
                          go_ret
                          exact ⟨by rw [Hz.out]; rfl, HB.out.trans (hBr.mono HB.out.size)⟩
                        · by_cases e2 : rs < 0
                          · have Hz : Hid (Z = false) := by show _ = _; rw [HZ.out]; exact decide_eq_false (fun h => by have h := h.2.2.2.2.2 _ (List.mem_of_getElem? Hr.out); have h : b8i rc ∧ b8i rs ∧ b8i rk := h; have := h.2.1; unfold b8i at this; omega)
                            clear HZ hsf b2 s0 s1 n0 n1
                            go_wp2_with (first | refine wp_ixp 32 (.tmp 59) (.tmp 58) rfl rfl rfl rfl undRps hlt sizeRp ?_ | refine wp_ld 31 (.tmp 60) rfl rfl rfl hrg Tryd.underlying31 rfl sizeRp ?_ | (refine wp_newst 31 5 (.tmp 61) rfl rfl rfl rfl rfl rfl zeroRp (l := [.int .i64 rc, .int .i64 rs, .int .i64 rk, .bool ro, .int .i64 rn]) rfl rfl sizeRp (by intro v hv; simp at hv; rcases hv with rfl | rfl | rfl | rfl | rfl <;> rfl) (by simp [Act.put]) ?_; intro y4 b5 hB4 hs4; refine wp_stop ?_))
                            have hBr := hBr.trans (hB4.mono hBr.size)
                            have q0 := b5.cellAt 0 _ rfl
                            have q1 := b5.cellAt 1 _ rfl
                            have q2 := b5.cellAt 2 _ rfl
                            obtain ⟨g5, hg5⟩ : ∃ g, g = wr.heap.size := ⟨_, rfl⟩
                            rw [← hg5] at q0 q1 q2 ⊢
                            clear hg5 hs4 b5 hB4 hrg
                            refine wp_go ?_
                            go_wp2
                            go_ret
                            exact ⟨by rw [Hz.out]; rfl, HB.out.trans (hBr.mono HB.out.size)⟩
                          · by_cases e3 : 255 < rs
                            · have Hz : Hid (Z = false) := by show _ = _; rw [HZ.out]; exact decide_eq_false (fun h => by have h := h.2.2.2.2.2 _ (List.mem_of_getElem? Hr.out); have h : b8i rc ∧ b8i rs ∧ b8i rk := h; have := h.2.1; unfold b8i at this; omega)
                              clear HZ hsf b2 s0 s1 n0 n1
                              go_wp2_with (first | refine wp_ixp 32 (.tmp 59) (.tmp 58) rfl rfl rfl rfl undRps hlt sizeRp ?_ | refine wp_ld 31 (.tmp 60) rfl rfl rfl hrg Tryd.underlying31 rfl sizeRp ?_ | (refine wp_newst 31 5 (.tmp 61) rfl rfl rfl rfl rfl rfl zeroRp (l := [.int .i64 rc, .int .i64 rs, .int .i64 rk, .bool ro, .int .i64 rn]) rfl rfl sizeRp (by intro v hv; simp at hv; rcases hv with rfl | rfl | rfl | rfl | rfl <;> rfl) (by simp [Act.put]) ?_; intro y4 b5 hB4 hs4; refine wp_stop ?_))
                              have hBr := hBr.trans (hB4.mono hBr.size)
                              have q0 := b5.cellAt 0 _ rfl
                              have q1 := b5.cellAt 1 _ rfl
                              have q2 := b5.cellAt 2 _ rfl
                              obtain ⟨g5, hg5⟩ : ∃ g, g = wr.heap.size := ⟨_, rfl⟩
                              rw [← hg5] at q0 q1 q2 ⊢
                              clear hg5 hs4 b5 hB4 hrg
                              refine wp_go ?_
                              go_wp2
                              go_ret
                              exact ⟨by rw [Hz.out]; rfl, HB.out.trans (hBr.mono HB.out.size)⟩
                            · by_cases e4 : rk < 0
                              · have Hz : Hid (Z = false) := by show _ = _; rw [HZ.out]; exact decide_eq_false (fun h => by have h := h.2.2.2.2.2 _ (List.mem_of_getElem? Hr.out); have h : b8i rc ∧ b8i rs ∧ b8i rk := h; have := h.2.2; unfold b8i at this; omega)
                                clear HZ hsf b2 s0 s1 n0 n1
                                go_wp2_with (first | refine wp_ixp 32 (.tmp 59) (.tmp 58) rfl rfl rfl rfl undRps hlt sizeRp ?_ | refine wp_ld 31 (.tmp 60) rfl rfl rfl hrg Tryd.underlying31 rfl sizeRp ?_ | (refine wp_newst 31 5 (.tmp 61) rfl rfl rfl rfl rfl rfl zeroRp (l := [.int .i64 rc, .int .i64 rs, .int .i64 rk, .bool ro, .int .i64 rn]) rfl rfl sizeRp (by intro v hv; simp at hv; rcases hv with rfl | rfl | rfl | rfl | rfl <;> rfl) (by simp [Act.put]) ?_; intro y4 b5 hB4 hs4; refine wp_stop ?_))
                                have hBr := hBr.trans (hB4.mono hBr.size)
                                have q0 := b5.cellAt 0 _ rfl
                                have q1 := b5.cellAt 1 _ rfl
                                have q2 := b5.cellAt 2 _ rfl
                                obtain ⟨g5, hg5⟩ : ∃ g, g = wr.heap.size := ⟨_, rfl⟩
                                rw [← hg5] at q0 q1 q2 ⊢
                                clear hg5 hs4 b5 hB4 hrg
                                refine wp_go ?_
                                go_wp2
                                go_ret
                                exact ⟨by rw [Hz.out]; rfl, HB.out.trans (hBr.mono HB.out.size)⟩
                              · by_cases e5 : 255 < rk
                                · have Hz : Hid (Z = false) := by show _ = _; rw [HZ.out]; exact decide_eq_false (fun h => by have h := h.2.2.2.2.2 _ (List.mem_of_getElem? Hr.out); have h : b8i rc ∧ b8i rs ∧ b8i rk := h; have := h.2.2; unfold b8i at this; omega)
                                  clear HZ hsf b2 s0 s1 n0 n1
                                  go_wp2_with (first | refine wp_ixp 32 (.tmp 59) (.tmp 58) rfl rfl rfl rfl undRps hlt sizeRp ?_ | refine wp_ld 31 (.tmp 60) rfl rfl rfl hrg Tryd.underlying31 rfl sizeRp ?_ | (refine wp_newst 31 5 (.tmp 61) rfl rfl rfl rfl rfl rfl zeroRp (l := [.int .i64 rc, .int .i64 rs, .int .i64 rk, .bool ro, .int .i64 rn]) rfl rfl sizeRp (by intro v hv; simp at hv; rcases hv with rfl | rfl | rfl | rfl | rfl <;> rfl) (by simp [Act.put]) ?_; intro y4 b5 hB4 hs4; refine wp_stop ?_))
                                  have hBr := hBr.trans (hB4.mono hBr.size)
                                  have q0 := b5.cellAt 0 _ rfl
                                  have q1 := b5.cellAt 1 _ rfl
                                  have q2 := b5.cellAt 2 _ rfl
                                  obtain ⟨g5, hg5⟩ : ∃ g, g = wr.heap.size := ⟨_, rfl⟩
                                  rw [← hg5] at q0 q1 q2 ⊢
                                  clear hg5 hs4 b5 hB4 hrg
                                  refine wp_go ?_
                                  go_wp2
                                  go_ret
                                  exact ⟨by rw [Hz.out]; rfl, HB.out.trans (hBr.mono HB.out.size)⟩
                                · have Hs := hid (fun j x (hj : j < i + 1) (hx : W.a[j]? = some x) => show fitR x from by
                                    rcases Nat.lt_or_ge j i with h | h
                                    · exact hsf.out j x h hx
                                    · have e : j = i := by omega
                                      subst e
                                      have := hx.symm.trans Hr.out
                                      injection this with this
                                      subst this
                                      exact ⟨⟨by show 0 ≤ rc; omega, by show rc ≤ 255; omega⟩, ⟨by show 0 ≤ rs; omega, by show rs ≤ 255; omega⟩, by show 0 ≤ rk; omega, by show rk ≤ 255; omega⟩)
                                  clear hsf b2 s0 s1 n0 n1
                                  go_wp2_with (first | refine wp_ixp 32 (.tmp 59) (.tmp 58) rfl rfl rfl rfl undRps hlt sizeRp ?_ | refine wp_ld 31 (.tmp 60) rfl rfl rfl hrg Tryd.underlying31 rfl sizeRp ?_ | (refine wp_newst 31 5 (.tmp 61) rfl rfl rfl rfl rfl rfl zeroRp (l := [.int .i64 rc, .int .i64 rs, .int .i64 rk, .bool ro, .int .i64 rn]) rfl rfl sizeRp (by intro v hv; simp at hv; rcases hv with rfl | rfl | rfl | rfl | rfl <;> rfl) (by simp [Act.put]) ?_; intro y4 b5 hB4 hs4; refine wp_stop ?_))
                                  have hBr := hBr.trans (hB4.mono hBr.size)
                                  have q0 := b5.cellAt 0 _ rfl
                                  have q1 := b5.cellAt 1 _ rfl
                                  have q2 := b5.cellAt 2 _ rfl
                                  obtain ⟨g5, hg5⟩ : ∃ g, g = wr.heap.size := ⟨_, rfl⟩
                                  rw [← hg5] at q0 q1 q2 ⊢
                                  clear hg5 hs4 b5 hB4 hrg
                                  refine wp_go ?_
                                  go_wp2
                                  go_roundw
                                  case rel => exact ⟨i + 1, by omega, by go_num, Hs, hBr⟩
                                  case measure => simp [intOf]; omega
                    · have hi' : i = 6 := by omega
                      subst hi'
                      have hI : ¬ (6 : Int) < 6 := by omega
                      have Hz : Hid (Z = true) := by
                        show _ = _
                        rw [HZ.out]
                        refine decide_eq_true ⟨⟨by rw [← HS.out]; omega, by rw [← HS.out]; omega⟩, ⟨by rw [← HN.out]; omega, by rw [← HN.out]; omega⟩, Hv.out, Hu.out, Hcs.out, fun r hx => ?_⟩
                        obtain ⟨j, hj⟩ := List.mem_iff_getElem?.1 hx
                        have hjl : j < W.a.length := by
                          rcases Nat.lt_or_ge j W.a.length with h | h
                          · exact h
                          · rw [List.getElem?_eq_none h] at hj; cases hj
                        exact hsf.out j r (by rw [Hal.out] at hjl; exact hjl) hj
                      have HBe := hid (HB.out.trans (hBr.mono HB.out.size))
                      clear HZ hsf b3 b2 hBr s0 s1 n0 n1
                      go_wp2
                      go_ret
                      exact ⟨by rw [Hz.out]; rfl, HBe.out⟩
end Go.Proofs.YtfjgfaccfjdklaaDoor
