/- T6: layer 3: contract of the document's Derive; the law MacDerive. -/
import Derived.Test.YtlehdpoedmaghaaDoorT5
import Derived.Lib.SlBytesConst
namespace Go.Proofs.YtlehdpoedmaghaaDoor
open Go.RowKit Go.V
set_option maxRecDepth 100000 in
set_option maxHeartbeats 1000000 in
theorem rderive_any (m : List UInt8) (who use : Int) (w : World) (hm : m.length = 32) (h1 : -9223372036854775808 ≤ who) (h2 : who ≤ 9223372036854775807) (h3 : -9223372036854775808 ≤ use) (h4 : use ≤ 9223372036854775807) :
    Calls Tryd.prog 14 #[.agg (bvs m).toArray, .int .i64 who, .int .i64 use] w fun e w' => ∃ v', e = .returned v' ∧ Rd w' (fun b => w.heap.size ≤ b) v' (bys (devF m who use)) ∧ Below w.heap.size w w' := by
  have hb3 := Blk.new' w 25 (bvs m)
  have hB := (Below.refl w.heap.size w).alloc (Nat.le_refl _) (.cells (bvs m).toArray 25)
  obtain ⟨x, hx, ex, Hx⟩ := u64w who h1 h2
  obtain ⟨y, hy, ey, Hy⟩ := u64w use h3 h4
  have HX := hid Hx
  have HY := hid Hy
  have Hm := hid hm
  clear hm Hx Hy
  go_enter Tryd.func14, Tryd.ntmps14
  go_wp2_with (refine wp_ld 25 (.tmp 3) rfl rfl rfl hb3.whole und25 rfl (by rw [len_bvs, Hm.out]; exact size25) ?_)
  refine (rbytes_any m _ Hm.out).mono ?_
  rintro e w1 ⟨v1, rfl, ho1, hB1⟩
  rw [Hm.out] at ho1
  have hB1' := hB.trans (hB1.mono hB.size)
  go_wp2_with (fail)
  refine (refx_any x 8 _ hx).mono ?_
  rintro e w2 ⟨v2, rfl, hn2⟩
  rw [fixR8] at hn2
  have hB2 := hB1'.trans (hn2.2.mono hB1'.size)
  have ho2 := own_keepB ho1 hn2.2
  have hs2 := hn2.rd
  obtain ⟨A2, c2, rfl⟩ := hs2.shape
  have hs2 := hs2.src
  rw [len_fx] at hs2 ⊢
  have hz2 := hB2.size
  have hz1 := hB1.size
  have hz12 := hn2.2.size
  go_wp2_with (refine wp_app (.tmp 10) (.tmp 13) slB rfl rfl rfl ho2 rfl hs2 (oneCell_bvs _) (by simp [maxLen]) (by omega) (by omega) ?_; intro v3 w3 ho3 hG3 hat3; refine wp_stop ?_)
  have hB3 := hB2.grown hG3 hB2.size (fun k hk => by have := (ho2.lt k hk).1; simp at this; omega)
  rw [show bvs m ++ bvs (fx 8 x) = bvs (m ++ fx 8 x) from by simp [bvs]] at ho3
  have hz3 := hG3.size
  refine wp_go ?_
  go_wp2_with (fail)
  refine (refx_any y 8 _ hy).mono ?_
  rintro e w4 ⟨v4, rfl, hn4⟩
  rw [fixR8] at hn4
  have hB4 := hB3.trans (hn4.2.mono hB3.size)
  have ho4 := own_keepB ho3 hn4.2
  have hs4 := hn4.rd
  obtain ⟨A4, c4, rfl⟩ := hs4.shape
  have hs4 := hs4.src
  rw [len_fx] at hs4 ⊢
  have hz4 := hn4.2.size
  go_wp2_with (refine wp_app (.tmp 15) (.tmp 18) slB rfl rfl rfl ho4 rfl hs4 (oneCell_bvs _) (by simp [maxLen]) (by omega) (by omega) ?_; intro v5 w5 ho5 hG5 hat5; refine wp_stop ?_)
  have hB5 := hB4.grown hG5 hB4.size (fun k hk => by have := (ho4.lt k hk).1; simp at this; omega)
  rw [show bvs (m ++ fx 8 x) ++ bvs (fx 8 y) = bvs (m ++ fx 8 x ++ fx 8 y) from by simp [bvs]] at ho5
  have hr5 := Rd.of_own ho5
  refine wp_go ?_
  go_wp2_with (fail)
  refine (rsum_any _ (m ++ fx 8 x ++ fx 8 y) _ _ hr5 (by rw [List.length_append, List.length_append, Hm.out, len_fx, len_fx]; omega)).mono ?_
  rintro e w6 ⟨rfl, hB6⟩
  have hB6' := hB5.trans (hB6.mono hB5.size)
  obtain ⟨d, hd⟩ : ∃ d, d = shaF (m ++ fx 8 x ++ fx 8 y) := ⟨_, rfl⟩
  rw [← hd]
  have hdl : Hid (d.length = 32) := by show _ = _; rw [hd]; exact len_sha _
  have Hd := hid hd
  clear hd
  go_wp2_with (fail)
  refine (rbytes_any d _ hdl.out).mono ?_
  rintro e w7 ⟨v7, rfl, hn7⟩
  go_wp2
  go_ret
  refine ⟨_, rfl, ?_, hB6'.trans (hn7.2.mono hB6'.size)⟩
  unfold devF
  rw [← HX.out, ← HY.out, ← Hd.out]
  exact hn7.rd.weak (fun b _ hb => by have := hB6'.size; omega)

def jefe : List UInt8 := [74, 101, 102, 101]
def what : List UInt8 := [119, 104, 97, 116, 32, 100, 111, 32, 121, 97, 32, 119, 97, 110, 116, 32, 102, 111, 114, 32, 110, 111, 116, 104, 105, 110, 103, 63]
theorem tag_jefe : (tagF jefe what).take 4 = [0x5b, 0xdc, 0xc1, 0x46] := by decide +kernel
set_option maxRecDepth 100000 in
set_option maxHeartbeats 1000000 in
theorem wakes_any (w : World) (hK : KS w) :
    Calls Tryd.prog 7 #[] w fun e w' => e = .returned (.bool true) ∧ Below w.heap.size w w' := by
  have hcv := Lib.run_convert_bytes_const (P := Tryd.prog) w 22 5 #[.int .u8 74, .int .u8 101, .int .u8 102, .int .u8 101] 4 4 Tryd.underlying22 Tryd.underlying5
  have hcv2 := Lib.run_convert_bytes_const (P := Tryd.prog) (w.alloc (.cells #[.int .u8 74, .int .u8 101, .int .u8 102, .int .u8 101] 5 (4, 5))) 22 5 #[.int .u8 119, .int .u8 104, .int .u8 97, .int .u8 116, .int .u8 32, .int .u8 100, .int .u8 111, .int .u8 32, .int .u8 121, .int .u8 97, .int .u8 32, .int .u8 119, .int .u8 97, .int .u8 110, .int .u8 116, .int .u8 32, .int .u8 102, .int .u8 111, .int .u8 114, .int .u8 32, .int .u8 110, .int .u8 111, .int .u8 116, .int .u8 104, .int .u8 105, .int .u8 110, .int .u8 103, .int .u8 63] 28 28 Tryd.underlying22 Tryd.underlying5
  rw [show (w.alloc (.cells #[.int .u8 74, .int .u8 101, .int .u8 102, .int .u8 101] 5 (4, 5))).heap.size = w.heap.size + 1 from by simp] at hcv2
  go_enter Tryd.func7, Tryd.ntmps7
  have hr1 := rdLit w 5 (4, 5) #[.int .u8 74, .int .u8 101, .int .u8 102, .int .u8 101] jefe rfl 4 rfl (by simp [maxLen])
  have hr2 := rdLit (w.alloc (.cells #[.int .u8 74, .int .u8 101, .int .u8 102, .int .u8 101] 5 (4, 5))) 5 (28, 29) #[.int .u8 119, .int .u8 104, .int .u8 97, .int .u8 116, .int .u8 32, .int .u8 100, .int .u8 111, .int .u8 32, .int .u8 121, .int .u8 97, .int .u8 32, .int .u8 119, .int .u8 97, .int .u8 110, .int .u8 116, .int .u8 32, .int .u8 102, .int .u8 111, .int .u8 114, .int .u8 32, .int .u8 110, .int .u8 111, .int .u8 116, .int .u8 104, .int .u8 105, .int .u8 110, .int .u8 103, .int .u8 63] what rfl 28 rfl (by simp [maxLen])
  rw [show (w.alloc (.cells #[.int .u8 74, .int .u8 101, .int .u8 102, .int .u8 101] 5 (4, 5))).heap.size = w.heap.size + 1 from by simp] at hr2
  have hr1 := hr1.below ((Below.refl _ _).alloc (Nat.le_refl _) (.cells #[.int .u8 119, .int .u8 104, .int .u8 97, .int .u8 116, .int .u8 32, .int .u8 100, .int .u8 111, .int .u8 32, .int .u8 121, .int .u8 97, .int .u8 32, .int .u8 119, .int .u8 97, .int .u8 110, .int .u8 116, .int .u8 32, .int .u8 102, .int .u8 111, .int .u8 114, .int .u8 32, .int .u8 110, .int .u8 111, .int .u8 116, .int .u8 104, .int .u8 105, .int .u8 110, .int .u8 103, .int .u8 63] 5 (28, 29)))
  have hB := ((Below.refl w.heap.size w).alloc (Nat.le_refl _) (.cells #[.int .u8 74, .int .u8 101, .int .u8 102, .int .u8 101] 5 (4, 5))).alloc (by simp) (.cells #[.int .u8 119, .int .u8 104, .int .u8 97, .int .u8 116, .int .u8 32, .int .u8 100, .int .u8 111, .int .u8 32, .int .u8 121, .int .u8 97, .int .u8 32, .int .u8 119, .int .u8 97, .int .u8 110, .int .u8 116, .int .u8 32, .int .u8 102, .int .u8 111, .int .u8 114, .int .u8 32, .int .u8 110, .int .u8 111, .int .u8 116, .int .u8 104, .int .u8 105, .int .u8 110, .int .u8 103, .int .u8 63] 5 (28, 29))
  have HK := hid (hK.below hB)
  have HR1 := hid hr1
  have HR2 := hid hr2
  have HB := hid hB
  clear hr1 hr2 hB
  go_wp2_with (fail)
  refine (tag_any _ _ jefe what _ _ _ HK.out HR1.out HR2.out (by decide) (by decide)).mono ?_
  rintro e w1 ⟨rfl, hB1⟩
  have hB1' := HB.out.trans (hB1.mono HB.out.size)
  clear hcv hcv2 HR1 HR2 HB HK
  obtain ⟨p0, p1, p2, p3⟩ := at4v tag_jefe
  have P0 := hid (bvs_at _ _ _ p0)
  have P1 := hid (bvs_at _ _ _ p1)
  have P2 := hid (bvs_at _ _ _ p2)
  have P3 := hid (bvs_at _ _ _ p3)
  obtain ⟨M, hM⟩ : ∃ M, M = tagF jefe what := ⟨_, rfl⟩
  rw [← hM] at P0 P1 P2 P3 ⊢
  have lM : Hid (M.length = 32) := by show _ = _; rw [hM]; exact len_tag _ _
  clear hM p0 p1 p2 p3
  have hz1 := Blk.new' w1 25 (zs8 32)
  have hB2 := hB1'.alloc hB1'.size (.cells (zs8 32).toArray 25)
  go_wp2_with (first | (refine wp_new 25 rfl rfl zero25 ?_) | (refine wp_st 25 (.tmp 1) (.tmp 6) rfl rfl rfl (f := 0) rfl (l := bvs M) rfl hz1 (by simp [zs8, len_bvs, lM.out]) (by rw [len_bvs, lM.out]; exact size25) (oneCell_bvs _) ?_; intro w5 hb5 hG5; refine wp_stop ?_))
  rw [set25 _ lM.out] at hb5
  have hB5 := hB2.grown hG5 hB2.size (by intro k hk; injection hk with hk; have := hB1'.size; omega)
  refine wp_go ?_
  have c0 := hb5.cellAt 0 _ P0.out
  have c1 := hb5.cellAt 1 _ P1.out
  have c2 := hb5.cellAt 2 _ P2.out
  have c3 := hb5.cellAt 3 _ P3.out
  rw [show byteV 0x5b = .int .u8 91 from rfl] at c0
  rw [show byteV 0xdc = .int .u8 220 from rfl] at c1
  rw [show byteV 0xc1 = .int .u8 193 from rfl] at c2
  rw [show byteV 0x46 = .int .u8 70 from rfl] at c3
  go_wp2
  go_ret
  exact ⟨rfl, hB5⟩
set_option maxRecDepth 100000 in
set_option maxHeartbeats 1000000 in
theorem macDerive_law (m : List UInt8) (who use : Int) (w : World) (hK : KS w) (hm : m.length = 32) (h1 : -9223372036854775808 ≤ who) (h2 : who ≤ 9223372036854775807) (h3 : -9223372036854775808 ≤ use) (h4 : use ≤ 9223372036854775807) :
    Calls Tryd.prog 6 #[.agg (bvs m).toArray, .int .i64 who, .int .i64 use] w fun e w' => e = .returned (.bool true) ∧ Below w.heap.size w w' := by
  have hb := Blk.new' w 25 (bvs m)
  have hB := (Below.refl w.heap.size w).alloc (Nat.le_refl _) (.cells (bvs m).toArray 25)
  have Hm := hid hm
  clear hm
  go_enter Tryd.func6, Tryd.ntmps6
  go_wp2_with (fail)
  refine (wakes_any _ (hK.below hB)).mono ?_
  rintro e w1 ⟨rfl, hB1⟩
  have hB1' := hB.trans (hB1.mono hB.size)
  have hb1 := hb.below hB1
  go_wp2_with (refine wp_ld 25 (.tmp 3) rfl rfl rfl hb1.whole und25 rfl (by rw [len_bvs, Hm.out]; exact size25) ?_)
  refine (derive_any m who use _ (hK.below hB1') Hm.out h1 h2 h3 h4).mono ?_
  rintro e w2 ⟨v2, rfl, hr2, hB2⟩
  have hB2' := hB1'.trans (hB2.mono hB1'.size)
  have hb2 := hb1.below hB2
  obtain ⟨d, hd⟩ : ∃ d, d = devF m who use := ⟨_, rfl⟩
  rw [← hd] at hr2
  have hdl : Hid (d.length = 32) := by show _ = _; rw [hd]; exact len_dev _ _ _
  have Hd := hid hd
  clear hd
  obtain ⟨A2, c2, rfl⟩ := hr2.shape
  rw [hdl.out] at hr2 ⊢
  go_wp2_with (refine wp_ldg (o := ⟨some 19, _, _, _, _, _⟩) 25 (.tmp 3) (by rfl) rfl rfl hb2.whole und25 rfl (by rw [len_bvs, Hm.out]; exact size25) ?_)
  refine (rderive_any m who use _ Hm.out h1 h2 h3 h4).mono ?_
  rintro e w3 ⟨v3, rfl, hr3, hB3⟩
  rw [← Hd.out] at hr3
  have hB3' := hB2'.trans (hB3.mono hB2'.size)
  go_wp2_with (fail)
  refine (same_b _ _ d d _ _ _ (hr2.below hB3) hr3).mono ?_
  rintro e w4 ⟨rfl, hB4⟩
  rw [decide_eq_true rfl]
  go_wp2
  go_ret
  exact ⟨rfl, hB3'.trans (hB4.mono hB3'.size)⟩
end Go.Proofs.YtlehdpoedmaghaaDoor
