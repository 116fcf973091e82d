/- T2: layer 3: contracts of behind, Derive. -/
import Derived.Test.YtnhhbbjkeekneaaDoorT1
import Derived.Test.YtnhhbbjkeekneaaDoorVA
namespace Go.Proofs.YtnhhbbjkeekneaaDoor
open Go.RowKit Go.V
/-- the first i bytes turned, the rest noughts -/
def bhR (m : UInt8) (k : List UInt8) (L i : Nat) : List Value := (bvs (xorB m k ++ List.replicate L 0)).take i ++ List.replicate (64 + L - i) (.int .u8 0)
theorem bhR_len (m : UInt8) (k : List UInt8) (L i : Nat) (hk : k.length = 64) (hi : i ≤ 64) : (bhR m k L i).length = 64 + L := by
  simp [bhR, len_bvs, len_xorB, hk]; omega
theorem bhR_0 (m : UInt8) (k : List UInt8) (L : Nat) : bhR m k L 0 = zs8 (64 + L) := by simp [bhR, zs8]
theorem bhR_set (m : UInt8) (k : List UInt8) (L i : Nat) (hk : k.length = 64) (hi : i < 64) (c : UInt8) (hc : k[i]? = some c) : (bhR m k L i).set i (byteV (c ^^^ m)) = bhR m k L (i + 1) := by
  unfold bhR
  refine fill_set _ _ (64 + L) i (by simp [len_bvs, len_xorB, hk]) (by omega) _ ?_
  refine bvs_at _ _ _ ?_
  rw [List.getElem?_append_left (by rw [len_xorB, hk]; exact hi)]
  simp [xorB, hc]
theorem bhR_end (m : UInt8) (k t : List UInt8) (hk : k.length = 64) : splice (bhR m k t.length 64) 64 (bvs t) = bvs (xorB m k ++ t) := by
  have hl : (bvs (xorB m k)).length = 64 := by rw [len_bvs, len_xorB, hk]
  have e : bhR m k t.length 64 = bvs (xorB m k) ++ zs8 t.length := by
    unfold bhR
    rw [show bvs (xorB m k ++ List.replicate t.length 0) = bvs (xorB m k) ++ bvs (List.replicate t.length 0) from by simp [bvs], List.take_append_of_le_length (by omega), List.take_of_length_le (by omega), show 64 + t.length - 64 = t.length from by omega]
    rfl
  unfold splice
  rw [e, List.take_append_of_le_length (by omega), List.take_of_length_le (by omega), List.drop_of_length_le (by simp [len_bvs, len_xorB, hk, zs8]), List.append_nil]
  simp [bvs]
theorem cut64 (g L : Nat) : ∃ A c, sliced (some ⟨g, 0, none⟩) 64 (64 + L) (64 + L) 1 = .slice A L c ∧ (0 < L → A = some ⟨g, 64, none⟩) := by
  refine ⟨if 64 + L = 64 then some ⟨g, 0, none⟩ else some ⟨g, 64, none⟩, L, ?_, fun h => if_neg (by omega)⟩
  unfold sliced
  rw [show 64 + L - 64 = L from by omega, Option.map_some, add_mk]
set_option maxRecDepth 100000 in
set_option maxHeartbeats 1000000 in
theorem behind_any (k : List UInt8) (m : UInt8) (v : Value) (text : List UInt8) (F : Nat → Prop) (w : World) (hk : k.length = 64) (ht : Rd w F v (bys text)) (hn : text.length ≤ 17592186044416) :
    Calls Tryd.prog 44 #[.agg (bvs k).toArray, .int .u8 (m.toNat : Int), v] w fun e w' => ∃ v', e = .returned v' ∧ w'.ownsRow w.heap.size 5 1 v' (64 + text.length) (bvs (xorB m k ++ text)) ∧ Below w.heap.size w w' := by
  obtain ⟨A, c, rfl⟩ := ht.shape
  have ht := ht.weak (F' := fun b => b < w.heap.size) (fun b hb _ => hb)
  have Hk := hid hk
  have hb3 := Blk.new' w 85 (bvs k)
  have hB := (Below.refl w.heap.size w).alloc (Nat.le_refl _) (.cells (bvs k).toArray 85)
  have hr := ht.below hB
  obtain ⟨L, hL⟩ : ∃ L, L = text.length := ⟨_, rfl⟩
  rw [← hL] at hn
  have HL := hid hL
  go_enter Tryd.func44, Tryd.ntmps44
  rw [← hL]
  clear hk hL
  go_wp2_with (refine wp_mk slB rfl (.tmp 12) (.tmp 12) rfl rfl (64 + L) (congrArg (Value.int .i64) (by omega)) (congrArg (Value.int .i64) (by omega)) (by omega) (by simp only [maxLen]; omega) (zs8 (64 + L)) rfl ?_; refine wp_stop ?_)
  have b1 : Blk ((w.alloc (.cells (bvs k).toArray 85)).alloc (.cells (zs8 (64 + L)).toArray 5)) (w.heap.size + 1) 5 (zs8 (64 + L)) := by
    have := Blk.new' (w.alloc (.cells (bvs k).toArray 85)) 5 (zs8 (64 + L))
    simpa using this
  have b0 := hb3.alloc (.cells (zs8 (64 + L)).toArray 5)
  have hB1 := hB.alloc (by simp) (.cells (zs8 (64 + L)).toArray 5)
  have hr1 := hr.below ((Below.refl _ _).alloc (Nat.le_refl _) (.cells (zs8 (64 + L)).toArray 5))
  obtain ⟨w0, hw0⟩ : ∃ w0, w0 = ((w.alloc (.cells (bvs k).toArray 85)).alloc (.cells (zs8 (64 + L)).toArray 5)) := ⟨_, rfl⟩
  rw [← hw0] at b0 b1 hB1 hr1 ⊢
  clear hw0 hb3 hB hr ht
  refine wp_go ?_
  go_wp2_with (refine wp_ld 85 (.tmp 3) rfl rfl rfl b0.whole und35 rfl (by rw [len_bvs, Hk.out]; exact size35) ?_)
  rw [← bhR_0 m k L] at b1
  go_loopw [15] (fun iv wr => ∃ i : Nat, i ≤ 64 ∧ iv = .int .i64 i ∧ Blk wr (w.heap.size + 1) 5 (bhR m k L i) ∧ Below w.heap.size w wr ∧ Below (w.heap.size + 1) w0 wr) (fun iv _ => 64 - (intOf iv).toNat)
  case atStart => exact ⟨0, by omega, rfl, b1, hB1, Below.refl _ _⟩
  case round =>
    obtain ⟨i, hi, rfl, hb, hBw, hBr⟩ := hrel
    by_cases hil : i < 64
    · obtain ⟨x, hx⟩ : ∃ x, k[i]? = some x := ⟨_, List.getElem?_eq_getElem (by rw [Hk.out]; exact hil)⟩
      have hpx := bvs_at k i x hx
      unfold byteV at hpx
      have hset := hid (bhR_set m k L i Hk.out hil x hx)
      have hln := hid (bhR_len m k L i Hk.out hi)
      have HX := hid hx
      clear hx
      go_wp2_with (first | (refine wp_idx 85 (.tmp 14) (.tmp 15) rfl rfl rfl rfl und35 hil Tryd.isAgg5 size8 hpx ?_) | (refine wp_st1 5 (.tmp 24) (.tmp 23) rfl rfl rfl (f := i) rfl (v := byteV (x ^^^ m)) (congrArg (Value.int .u8) (xor8_out x m)) hb (by rw [hln.out]; omega) size8 rfl rfl ?_; intro w3 hb3 hG3))
      rw [hset.out] at hb3
      have hB3 := hBw.grown hG3 hBw.size (by intro k hk; injection hk with hk; omega)
      have hR3 := hBr.grown hG3 (by have := hb.lt; omega) (by intro k hk; injection hk with hk; omega)
      go_wp2
      go_roundw
      case rel => exact ⟨i + 1, by omega, by go_num, hb3, hB3, hR3⟩
      case measure => simp [intOf]; omega
    · have h64 : i = 64 := by omega
      subst h64
      obtain ⟨A2, c2, hsl, hA2⟩ := cut64 (w.heap.size + 1) L
      have hcut := fun W => run_cut_l slB (some ⟨w.heap.size + 1, 0, none⟩) (64 + L) (64 + L) 64 (by omega) (by omega) W
      rw [show (64 : Int).toNat = 64 from rfl, hsl] at hcut
      have hsr := (hr1.keep (F' := fun b => b < w.heap.size) (fun b hb hf => ⟨hf, hBr.block b (by omega)⟩)).src
      rw [← HL.out] at hsr
      have hend := hid (bhR_end m k text Hk.out)
      rw [← HL.out] at hend
      have hln := hid (bhR_len m k L 64 Hk.out hi)
      clear hsl hil
      go_wp2_with (refine wp_copyB (.tmp 27) (.tmp 28) slB rfl rfl rfl rfl hb hsr (oneCell_bvs text) (Nat.le_refl _) hA2 (by rw [hln.out]; omega) ?_; intro w5 hb5 hG5)
      rw [hend.out] at hb5
      have hB5 := hBw.grown hG5 hBw.size (by intro k hk; injection hk with hk; omega)
      go_ret
      exact ⟨_, rfl, own_of_blk hb5 (by omega) _ (by rw [len_bvs, List.length_append, len_xorB, Hk.out, ← HL.out]) (by simp only [maxLen]; omega), hB5⟩

end Go.Proofs.YtnhhbbjkeekneaaDoor
