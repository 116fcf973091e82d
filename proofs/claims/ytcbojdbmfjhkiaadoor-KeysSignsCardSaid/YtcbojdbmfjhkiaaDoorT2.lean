/- T2: layer 3: contracts of behind, Derive. -/
import Derived.Test.YtcbojdbmfjhkiaaDoorT1
import Derived.Test.YtcbojdbmfjhkiaaDoorVC
namespace Go.Proofs.YtcbojdbmfjhkiaaDoor
open Go.RowKit Go.V
/-- the first i bytes turned, the rest noughts -/
def bhR (m : UInt8) (k : List UInt8) (L i : Nat) : List Value := (bvs (xorB m k ++ List.replicate L 0)).take i ++ List.replicate (64 + L - i) (.int .u8 0)
theorem bhR_len (m : UInt8) (k : List UInt8) (L i : Nat) (hk : k.length = 64) (hi : i ≤ 64) : (bhR m k L i).length = 64 + L := by
  simp [bhR, len_bvs, len_xorB, hk]; omega
theorem bhR_0 (m : UInt8) (k : List UInt8) (L : Nat) : bhR m k L 0 = zs8 (64 + L) := by simp [bhR, zs8]
theorem bhR_set (m : UInt8) (k : List UInt8) (L i : Nat) (hk : k.length = 64) (hi : i < 64) (c : UInt8) (hc : k[i]? = some c) : (bhR m k L i).set i (byteV (c ^^^ m)) = bhR m k L (i + 1) := by
  unfold bhR
  refine fill_set _ _ (64 + L) i (by simp [len_bvs, len_xorB, hk]) (by omega) _ ?_
  refine bvs_at _ _ _ ?_
  rw [List.getElem?_append_left (by rw [len_xorB, hk]; exact hi)]
  simp [xorB, hc]
theorem bhR_end (m : UInt8) (k t : List UInt8) (hk : k.length = 64) : splice (bhR m k t.length 64) 64 (bvs t) = bvs (xorB m k ++ t) := by
  have hl : (bvs (xorB m k)).length = 64 := by rw [len_bvs, len_xorB, hk]
  have e : bhR m k t.length 64 = bvs (xorB m k) ++ zs8 t.length := by
    unfold bhR
    rw [show bvs (xorB m k ++ List.replicate t.length 0) = bvs (xorB m k) ++ bvs (List.replicate t.length 0) from by simp [bvs], List.take_append_of_le_length (by omega), List.take_of_length_le (by omega), show 64 + t.length - 64 = t.length from by omega]
    rfl
  unfold splice
  rw [e, List.take_append_of_le_length (by omega), List.take_of_length_le (by omega), List.drop_of_length_le (by simp [len_bvs, len_xorB, hk, zs8]), List.append_nil]
  simp [bvs]
theorem cut64 (g L : Nat) : ∃ A c, sliced (some ⟨g, 0, none⟩) 64 (64 + L) (64 + L) 1 = .slice A L c ∧ (0 < L → A = some ⟨g, 64, none⟩) := by
  refine ⟨if 64 + L = 64 then some ⟨g, 0, none⟩ else some ⟨g, 64, none⟩, L, ?_, fun h => if_neg (by omega)⟩
  unfold sliced
  rw [show 64 + L - 64 = L from by omega, Option.map_some, add_mk]
/-- a key derived -/
def devF (m : List UInt8) (who use : Int) : List UInt8 := shaF ((m ++ fx 8 (who % 18446744073709551616).toNat) ++ fx 8 (use % 18446744073709551616).toNat)
theorem len_dev (m : List UInt8) (who use : Int) : (devF m who use).length = 32 := len_sha _
set_option maxRecDepth 100000 in
set_option maxHeartbeats 1000000 in
theorem derive_any (m : List UInt8) (who use : Int) (w : World) (hK : KS w) (hm : m.length = 32) (h1 : -9223372036854775808 ≤ who) (h2 : who ≤ 9223372036854775807) (h3 : -9223372036854775808 ≤ use) (h4 : use ≤ 9223372036854775807) :
    Calls Tryd.prog 29 #[.agg (bvs m).toArray, .int .i64 who, .int .i64 use] w fun e w' => ∃ v', e = .returned v' ∧ Rd w' (fun b => w.heap.size ≤ b) v' (bys (devF m who use)) ∧ Below w.heap.size w w' := by
  have hb3 := Blk.new' w 23 (bvs m)
  have hB := (Below.refl w.heap.size w).alloc (Nat.le_refl _) (.cells (bvs m).toArray 23)
  have hsl := fun W => run_sla_all und25 size8 w.heap.size 0 (by omega) W
  have hr := Blk.rdcut hb3 32 32 (by omega) (by omega) (by simp [maxLen])
  rw [List.take_of_length_le (by omega)] at hr
  obtain ⟨x, hx, ex, Hx⟩ := u64w who h1 h2
  obtain ⟨y, hy, ey, Hy⟩ := u64w use h3 h4
  have HX := hid Hx
  have HY := hid Hy
  have Hm := hid hm
  clear hm Hx Hy
  go_enter Tryd.func29, Tryd.ntmps29
  go_wp2_with (fail)
  refine (putx_any _ m x 8 _ _ hr hx (by rw [Hm.out]; omega)).mono ?_
  rintro e w1 ⟨v1, rfl, hn1⟩
  rw [fixR8] at hn1
  have hB1 := hB.trans (hn1.2.mono hB.size)
  go_wp2_with (fail)
  refine (putx_any _ (m ++ fx 8 x) y 8 _ _ hn1.rd hy (by rw [List.length_append, Hm.out, len_fx]; omega)).mono ?_
  rintro e w2 ⟨v2, rfl, hn2⟩
  rw [fixR8] at hn2
  have hB2 := hB1.trans (hn2.2.mono hB1.size)
  go_wp2_with (fail)
  refine (sum_any _ (m ++ fx 8 x ++ fx 8 y) _ _ (hK.below hB2) hn2.rd (by rw [List.length_append, List.length_append, Hm.out, len_fx, len_fx]; omega)).mono ?_
  rintro e w3 ⟨rfl, hB3⟩
  obtain ⟨d, hd⟩ : ∃ d, d = shaF (m ++ fx 8 x ++ fx 8 y) := ⟨_, rfl⟩
  rw [← hd]
  have hdl : Hid (d.length = 32) := by show _ = _; rw [hd]; exact len_sha _
  have Hd := hid hd
  clear hd
  have hB3' := hB2.trans (hB3.mono hB2.size)
  have hz3 := Blk.new' w3 23 (zs8 32)
  have hB4 := hB3'.alloc hB3'.size (.cells (zs8 32).toArray 23)
  have hsl4 := fun W => run_sla_all und25 size8 w3.heap.size 0 (by omega) W
  go_wp2_with (first | (refine wp_new 23 rfl rfl zero25 ?_) | (refine wp_st 23 (.tmp 8) (.tmp 18) rfl rfl rfl (f := 0) rfl (l := bvs d) rfl hz3 (by simp [zs8, len_bvs, hdl.out]) (by rw [len_bvs, hdl.out]; exact size25) (oneCell_bvs _) ?_; intro w5 hb5 hG5))
  rw [set25 _ hdl.out] at hb5
  have hB5 := hB4.grown hG5 hB4.size (by intro k hk; injection hk with hk; have := hB3'.size; omega)
  have hr5 := Blk.rdcut hb5 32 32 (by rw [hdl.out]; omega) (by omega) (by simp [maxLen])
  rw [List.take_of_length_le (by rw [hdl.out]; omega)] at hr5
  go_ret
  refine ⟨_, rfl, ?_, hB5⟩
  unfold devF
  rw [← HX.out, ← HY.out, ← Hd.out]
  exact hr5.weak (fun b _ hb => by have := hB3'.size; omega)
end Go.Proofs.YtcbojdbmfjhkiaaDoor
