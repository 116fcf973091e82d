/- T6: layer 3: contract of the document's Derive; the law MacDerive. -/
import Derived.Test.YtcbojdbmfjhkiaaDoorT5
import Derived.Lib.SlBytesConst
namespace Go.Proofs.YtcbojdbmfjhkiaaDoor
open Go.RowKit Go.V
set_option maxRecDepth 100000 in
set_option maxHeartbeats 1000000 in
theorem rderive_any (m : List UInt8) (who use : Int) (w : World) (hm : m.length = 32) (h1 : -9223372036854775808 ≤ who) (h2 : who ≤ 9223372036854775807) (h3 : -9223372036854775808 ≤ use) (h4 : use ≤ 9223372036854775807) :
    Calls Tryd.prog 18 #[.agg (bvs m).toArray, .int .i64 who, .int .i64 use] w fun e w' => ∃ v', e = .returned v' ∧ Rd w' (fun b => w.heap.size ≤ b) v' (bys (devF m who use)) ∧ Below w.heap.size w w' := by
  have hb3 := Blk.new' w 23 (bvs m)
  have hB := (Below.refl w.heap.size w).alloc (Nat.le_refl _) (.cells (bvs m).toArray 23)
  obtain ⟨x, hx, ex, Hx⟩ := u64w who h1 h2
  obtain ⟨y, hy, ey, Hy⟩ := u64w use h3 h4
  have HX := hid Hx
  have HY := hid Hy
  have Hm := hid hm
  clear hm Hx Hy
  go_enter Tryd.func18, Tryd.ntmps18
  go_wp2_with (refine wp_ld 23 (.tmp 3) rfl rfl rfl hb3.whole und25 rfl (by rw [len_bvs, Hm.out]; exact size25) ?_)
  refine (rbytes_any m _ Hm.out).mono ?_
  rintro e w1 ⟨v1, rfl, ho1, hB1⟩
  rw [Hm.out] at ho1
  have hB1' := hB.trans (hB1.mono hB.size)
  go_wp2_with (fail)
  refine (refx_any x 8 _ hx).mono ?_
  rintro e w2 ⟨v2, rfl, hn2⟩
  rw [fixR8] at hn2
  have hB2 := hB1'.trans (hn2.2.mono hB1'.size)
  have ho2 := own_keepB ho1 hn2.2
  have hs2 := hn2.rd
  obtain ⟨A2, c2, rfl⟩ := hs2.shape
  have hs2 := hs2.src
  rw [len_fx] at hs2 ⊢
  have hz2 := hB2.size
  have hz1 := hB1.size
  have hz12 := hn2.2.size
  go_wp2_with (refine wp_app (.tmp 10) (.tmp 13) slB rfl rfl rfl ho2 rfl hs2 (oneCell_bvs _) (by simp [maxLen]) (by omega) (by omega) ?_; intro v3 w3 ho3 hG3 hat3; refine wp_stop ?_)
  have hB3 := hB2.grown hG3 hB2.size (fun k hk => by have := (ho2.lt k hk).1; simp at this; omega)
  rw [show bvs m ++ bvs (fx 8 x) = bvs (m ++ fx 8 x) from by simp [bvs]] at ho3
  have hz3 := hG3.size
  refine wp_go ?_
  go_wp2_with (fail)
  refine (refx_any y 8 _ hy).mono ?_
  rintro e w4 ⟨v4, rfl, hn4⟩
  rw [fixR8] at hn4
  have hB4 := hB3.trans (hn4.2.mono hB3.size)
  have ho4 := own_keepB ho3 hn4.2
  have hs4 := hn4.rd
  obtain ⟨A4, c4, rfl⟩ := hs4.shape
  have hs4 := hs4.src
  rw [len_fx] at hs4 ⊢
  have hz4 := hn4.2.size
  go_wp2_with (refine wp_app (.tmp 15) (.tmp 18) slB rfl rfl rfl ho4 rfl hs4 (oneCell_bvs _) (by simp [maxLen]) (by omega) (by omega) ?_; intro v5 w5 ho5 hG5 hat5; refine wp_stop ?_)
  have hB5 := hB4.grown hG5 hB4.size (fun k hk => by have := (ho4.lt k hk).1; simp at this; omega)
  rw [show bvs (m ++ fx 8 x) ++ bvs (fx 8 y) = bvs (m ++ fx 8 x ++ fx 8 y) from by simp [bvs]] at ho5
  have hr5 := Rd.of_own ho5
  refine wp_go ?_
  go_wp2_with (fail)
  refine (rsum_any _ (m ++ fx 8 x ++ fx 8 y) _ _ hr5 (by rw [List.length_append, List.length_append, Hm.out, len_fx, len_fx]; omega)).mono ?_
  rintro e w6 ⟨rfl, hB6⟩
  have hB6' := hB5.trans (hB6.mono hB5.size)
  obtain ⟨d, hd⟩ : ∃ d, d = shaF (m ++ fx 8 x ++ fx 8 y) := ⟨_, rfl⟩
  rw [← hd]
  have hdl : Hid (d.length = 32) := by show _ = _; rw [hd]; exact len_sha _
  have Hd := hid hd
  clear hd
  go_wp2_with (fail)
  refine (rbytes_any d _ hdl.out).mono ?_
  rintro e w7 ⟨v7, rfl, hn7⟩
  go_wp2
  go_ret
  refine ⟨_, rfl, ?_, hB6'.trans (hn7.2.mono hB6'.size)⟩
  unfold devF
  rw [← HX.out, ← HY.out, ← Hd.out]
  exact hn7.rd.weak (fun b _ hb => by have := hB6'.size; omega)

def jefe : List UInt8 := [74, 101, 102, 101]
def what : List UInt8 := [119, 104, 97, 116, 32, 100, 111, 32, 121, 97, 32, 119, 97, 110, 116, 32, 102, 111, 114, 32, 110, 111, 116, 104, 105, 110, 103, 63]
theorem tag_jefe : (tagF jefe what).take 4 = [0x5b, 0xdc, 0xc1, 0x46] := by decide +kernel
end Go.Proofs.YtcbojdbmfjhkiaaDoor
