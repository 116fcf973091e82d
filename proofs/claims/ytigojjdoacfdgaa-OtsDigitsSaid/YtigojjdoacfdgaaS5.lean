/- S5: contracts of the mixer's end, of digest. -/
import Derived.Test.YtigojjdoacfdgaaS4
import Derived.Test.YtigojjdoacfdgaaR2
namespace Go.Proofs.Ytigojjdoacfdgaa
open Go.RowKit Go.V

/-- the array rest, i bytes of the length in it -/
def restL (n bits i : Nat) : List UInt8 := 128 :: (List.replicate n 0 ++ ((fx 8 bits).take i ++ List.replicate (71 - n - i) 0))
theorem restL_len (n bits i : Nat) (hn : n < 64) (hi : i ≤ 8) : (restL n bits i).length = 72 := by
  simp [restL, len_fx]; omega
theorem restL_0 (n bits : Nat) (hn : n < 64) : (zs8 72).set 0 (.int .u8 128) = bvs (restL n bits 0) := by
  have e : restL n bits 0 = 128 :: List.replicate 71 0 := by
    unfold restL
    rw [List.take_zero, List.nil_append, List.replicate_append_replicate]
    congr 2
    omega
  rw [e]
  simp [zs8, bvs, List.replicate_succ, byteV]
theorem restL_set (n bits i : Nat) (hn : n < 64) (hi : i < 8) (c : UInt8) (hc : (fx 8 bits)[i]? = some c) : (bvs (restL n bits i)).set (1 + n + i) (byteV c) = bvs (restL n bits (i + 1)) := by
  rw [show (bvs (restL n bits i)).set (1 + n + i) (byteV c) = bvs ((restL n bits i).set (1 + n + i) c) from by simp [bvs, List.map_set]]
  congr 1
  unfold restL
  rw [show 1 + n + i = (n + i) + 1 from by omega, List.set_cons_succ, List.set_append_right _ _ (by simp), List.length_replicate, show n + i - n = i from by omega]
  congr 2
  have hl : ((fx 8 bits).take i).length = i := by simp [len_fx]; omega
  have hil : i < (fx 8 bits).length := by rw [len_fx]; exact hi
  rw [List.set_append_right _ _ (by omega), hl, Nat.sub_self, show 71 - n - i = (71 - n - (i + 1)) + 1 from by omega, List.replicate_succ, List.set_cons_zero, List.take_succ_eq_append_getElem hil]
  have : (fx 8 bits)[i] = c := by rw [List.getElem?_eq_getElem hil] at hc; injection hc
  rw [this]
  simp
theorem restL_take (n bits : Nat) (_hn : n < 64) : (restL n bits 8).take (9 + n) = 128 :: (List.replicate n 0 ++ fx 8 bits) := by
  unfold restL
  rw [show 9 + n = (n + 8) + 1 from by omega, List.take_succ_cons]
  congr 1
  rw [List.take_append, List.length_replicate, List.take_of_length_le (by simp), show n + 8 - n = 8 from by omega, List.take_of_length_le (by rw [len_fx]; omega : (fx 8 bits).length ≤ 8), List.take_append_of_le_length (by rw [len_fx]; omega), List.take_of_length_le (by rw [len_fx]; omega)]
theorem fx_at (n x i : Nat) (hi : i < n) : (fx n x)[i]? = some (UInt8.ofNat (x / 256 ^ (n - 1 - i) % 256)) := by
  simp [fx, hi]
theorem byte8 (x j : Nat) : Value.int .u8 ((x : Int) / 2 ^ (8 * j) % 256) = byteV (UInt8.ofNat (x / 256 ^ j % 256)) := by rw [fix_byte, byteV_of (by omega)]
theorem Blk.rdcut {w : World} {b : Nat} {t : TypeId} {bs : List UInt8} (h : Blk w b t (bvs bs)) (m c : Nat) (hm : m ≤ bs.length) (h1 : m ≤ c) (h2 : c ≤ maxLen) : Rd w (fun k => k = b) (.slice (some ⟨b, 0, none⟩) m c) (bys (bs.take m)) := by
  have hl : (bs.take m).length = m := by rw [List.length_take]; omega
  unfold bys Rd
  refine ⟨_, c, by rw [hl], by rw [hl]; exact h1, h2, fun h0 => by rw [List.eq_nil_of_length_eq_zero h0]; rfl, fun _ => ⟨_, _, rfl, rfl, RdC.of_bytes fun j u hu => ?_⟩⟩
  rw [Nat.zero_add]
  refine h.cellAt j u ?_
  have hj := (List.getElem?_eq_some_iff.1 hu).1
  rw [len_bvs, hl] at hj
  have e : bvs (bs.take m) = (bvs bs).take m := by simp [bvs]
  rw [e, List.getElem?_take, if_pos hj] at hu
  exact hu

end Go.Proofs.Ytigojjdoacfdgaa
