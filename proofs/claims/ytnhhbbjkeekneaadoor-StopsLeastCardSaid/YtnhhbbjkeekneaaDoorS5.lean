/- S5: contracts of the mixer's end, of digest. -/
import Derived.Test.YtnhhbbjkeekneaaDoorS4
import Derived.Test.YtnhhbbjkeekneaaDoorRB
namespace Go.Proofs.YtnhhbbjkeekneaaDoor
open Go.RowKit Go.V

/-- the array rest, i bytes of the length in it -/
def restL (n bits i : Nat) : List UInt8 := 128 :: (List.replicate n 0 ++ ((fx 8 bits).take i ++ List.replicate (71 - n - i) 0))
theorem restL_len (n bits i : Nat) (hn : n < 64) (hi : i ≤ 8) : (restL n bits i).length = 72 := by
  simp [restL, len_fx]; omega
theorem restL_0 (n bits : Nat) (hn : n < 64) : (zs8 72).set 0 (.int .u8 128) = bvs (restL n bits 0) := by
  have e : restL n bits 0 = 128 :: List.replicate 71 0 := by
    unfold restL
    rw [List.take_zero, List.nil_append, List.replicate_append_replicate]
    congr 2
    omega
  rw [e]
  simp [zs8, bvs, List.replicate_succ, byteV]
theorem restL_set (n bits i : Nat) (hn : n < 64) (hi : i < 8) (c : UInt8) (hc : (fx 8 bits)[i]? = some c) : (bvs (restL n bits i)).set (1 + n + i) (byteV c) = bvs (restL n bits (i + 1)) := by
  rw [show (bvs (restL n bits i)).set (1 + n + i) (byteV c) = bvs ((restL n bits i).set (1 + n + i) c) from by simp [bvs, List.map_set]]
  congr 1
  unfold restL
  rw [show 1 + n + i = (n + i) + 1 from by omega, List.set_cons_succ, List.set_append_right _ _ (by simp), List.length_replicate, show n + i - n = i from by omega]
  congr 2
  have hl : ((fx 8 bits).take i).length = i := by simp [len_fx]; omega
  have hil : i < (fx 8 bits).length := by rw [len_fx]; exact hi
  rw [List.set_append_right _ _ (by omega), hl, Nat.sub_self, show 71 - n - i = (71 - n - (i + 1)) + 1 from by omega, List.replicate_succ, List.set_cons_zero, List.take_succ_eq_append_getElem hil]
  have : (fx 8 bits)[i] = c := by rw [List.getElem?_eq_getElem hil] at hc; injection hc
  rw [this]
  simp
theorem restL_take (n bits : Nat) (_hn : n < 64) : (restL n bits 8).take (9 + n) = 128 :: (List.replicate n 0 ++ fx 8 bits) := by
  unfold restL
  rw [show 9 + n = (n + 8) + 1 from by omega, List.take_succ_cons]
  congr 1
  rw [List.take_append, List.length_replicate, List.take_of_length_le (by simp), show n + 8 - n = 8 from by omega, List.take_of_length_le (by rw [len_fx]; omega : (fx 8 bits).length ≤ 8), List.take_append_of_le_length (by rw [len_fx]; omega), List.take_of_length_le (by rw [len_fx]; omega)]
theorem fx_at (n x i : Nat) (hi : i < n) : (fx n x)[i]? = some (UInt8.ofNat (x / 256 ^ (n - 1 - i) % 256)) := by
  simp [fx, hi]
theorem byte8 (x j : Nat) : Value.int .u8 ((x : Int) / 2 ^ (8 * j) % 256) = byteV (UInt8.ofNat (x / 256 ^ j % 256)) := by rw [fix_byte, byteV_of (by omega)]
theorem zero66 : (Tryd.prog.info? 116).map (·.zero) = some (some (.agg (zs8 72).toArray)) := by kernel_rfl
theorem Blk.rdcut {w : World} {b : Nat} {t : TypeId} {bs : List UInt8} (h : Blk w b t (bvs bs)) (m c : Nat) (hm : m ≤ bs.length) (h1 : m ≤ c) (h2 : c ≤ maxLen) : Rd w (fun k => k = b) (.slice (some ⟨b, 0, none⟩) m c) (bys (bs.take m)) := by
  have hl : (bs.take m).length = m := by rw [List.length_take]; omega
  unfold bys Rd
  refine ⟨_, c, by rw [hl], by rw [hl]; exact h1, h2, fun h0 => by rw [List.eq_nil_of_length_eq_zero h0]; rfl, fun _ => ⟨_, _, rfl, rfl, RdC.of_bytes fun j u hu => ?_⟩⟩
  rw [Nat.zero_add]
  refine h.cellAt j u ?_
  have hj := (List.getElem?_eq_some_iff.1 hu).1
  rw [len_bvs, hl] at hj
  have e : bvs (bs.take m) = (bvs bs).take m := by simp [bvs]
  rw [e, List.getElem?_take, if_pos hj] at hu
  exact hu

set_option maxRecDepth 100000 in
set_option maxHeartbeats 2000000 in
theorem end_any (g : Nat) (p : List UInt8) (w : World) (hK : KS w) (hM : MixR w g p) (hg : g ≠ 0) (hn : p.length < 288230376151711744) :
    Calls Tryd.prog 56 #[.pointer (some ⟨g, 0, none⟩)] w fun e w' => e = .returned (.tuple #[]) ∧ MixR w' g (pad p) ∧ Ch (fun b => b = g) w w' := by
  have hM' := hM
  obtain ⟨blk, s, hms, hblk⟩ := hM
  have hcs := hblk.cellAt 72 _ (mixC_size s blk _ hms.1)
  have hgl := hblk.lt
  obtain ⟨n, hn'⟩ : ∃ n, n = padN p.length := ⟨_, rfl⟩
  have hn64 : n < 64 := by rw [hn']; unfold padN; omega
  have hne : ((119 : Int) - (p.length : Int) % 64) % 64 = (n : Int) := by rw [hn']; unfold padN; omega
  have Hn := hid hn'
  clear hn'
  go_enter Tryd.func56, Tryd.ntmps56
  have hs1 := fun W => run_sla_l Tryd.underlying116 size8 w.heap.size 0 (1 + n) .u64 (1 + (n : Int)) (by omega) (by omega) W
  rw [Nat.zero_add] at hs1
  have hs2 := fun W => run_slh slB w.heap.size (1 + n) (72 - (1 + n)) (72 - (1 + n)) 8 .i64 8 rfl (by omega) (by omega) W
  have hs3 := fun W => run_sla_h Tryd.underlying116 size8 w.heap.size 0 (9 + n) .u64 (1 + (n : Int) + 8) (by omega) (by omega) (by omega) W
  have hB0 : Below w.heap.size w (w.alloc (.cells (zs8 72).toArray 116)) := (Below.refl _ _).alloc (Nat.le_refl _) _
  have hz := Blk.new' w 116 (zs8 72)
  go_wp2_with (first | (refine wp_new 116 rfl rfl zero66 ?_) | (refine wp_st1 5 (.tmp 19) (.const (.int .u8 128)) rfl rfl rfl (f := 0) rfl (v := .int .u8 128) rfl hz (by simp [zs8]) size8 rfl rfl ?_; intro w1 hb1 hG1))
  rw [restL_0 n (8 * p.length) hn64] at hb1
  have hB1 := hB0.grown hG1 (Nat.le_of_lt (by simp)) (by intro k hk; injection hk with hk; omega)
  clear hz hG1 hB0 hcs hs1 hs2 hne
  obtain ⟨bits, hbits⟩ : ∃ bits, bits = 8 * p.length := ⟨_, rfl⟩
  rw [show (8 * (p.length : Int)) = (bits : Int) from by omega]
  rw [← hbits] at hb1
  have hbl : bits < 18446744073709551616 := by omega
  have Hb := hid hbits
  clear hbits
  go_loopw [26] (fun iv wr => ∃ i : Nat, i ≤ 8 ∧ iv = .int .i64 i ∧ Blk wr w.heap.size 116 (bvs (restL n bits i)) ∧ Below w.heap.size w wr) (fun iv _ => 8 - (intOf iv).toNat)
  case atStart => exact ⟨0, by omega, rfl, hb1, hB1⟩
  case round =>
    obtain ⟨i, hi, rfl, hb, hB⟩ := hrel
    by_cases hil : i < 8
    · have hset := hid (restL_set n bits i hn64 hil _ (fx_at 8 bits i hil))
      go_wp2_with (refine wp_st1 5 (.tmp 37) (.tmp 36) rfl rfl rfl (f := 1 + n + i) rfl (v := byteV (UInt8.ofNat (bits / 256 ^ (8 - 1 - i) % 256))) (byte8 bits (7 - i)) hb (by rw [len_bvs, restL_len _ _ _ hn64 (by omega)]; omega) size8 rfl rfl ?_; intro w3 hb3 hG3)
      rw [hset.out] at hb3
      have hB3 := hB.grown hG3 hB.size (by intro k hk; injection hk with hk; omega)
      go_wp2
      go_roundw
      case rel => exact ⟨i + 1, by omega, by go_num, hb3, hB3⟩
      case measure => simp [intOf]; omega
    · have h8 : i = 8 := by omega
      subst h8
      have hr := Blk.rdcut hb (9 + n) 72 (by rw [restL_len _ _ _ hn64 (by omega)]; omega) (by omega) (by simp [maxLen])
      rw [restL_take _ _ hn64] at hr
      have hpad : Hid (p ++ 128 :: (List.replicate n 0 ++ fx 8 bits) = pad p) := by
        show _ = _
        rw [Hn.out, Hb.out]
        unfold pad
        simp
      have Hr := hid hr
      clear hr hb
      go_wp2_with (fail)
      refine (put_any g p _ _ _ _ (hK.below hB) (hM'.keep (hB.block g hgl)) Hr.out (by intro e; omega) hg (by simp [len_fx]; omega)).mono ?_
      rintro e' w5 ⟨rfl, hM5, hC5⟩
      rw [hpad.out] at hM5
      go_wp2
      go_end0
      exact ⟨rfl, hM5, ((Ch.of_below hB).weaken fun _ _ e => e.elim).trans hC5⟩
end Go.Proofs.YtnhhbbjkeekneaaDoor
