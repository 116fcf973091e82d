/- S2: contracts of mixed and words. -/
import Derived.Test.YtigojjdoacfdgaaS1
import Derived.Great.BuildSlice
namespace Go.Proofs.Ytigojjdoacfdgaa
open Go.RowKit Go.V

theorem ones_u32 : (if IntKind.u32.signed = true then (-1 : Int) else IntKind.u32.max) = 4294967295 := rfl
theorem t_out (a b c d e f g h K X : UInt32) : ((((h.toNat : Int) + ((rotr e 6 ^^^ rotr e 11 ^^^ rotr e 25).toNat : Int) + (((e &&& f) ^^^ (~~~e &&& g)).toNat : Int) + (K.toNat : Int)) % 4294967296 + (X.toNat : Int)) % 4294967296) = ((tF ⟨a, b, c, d, e, f, g, h⟩ K X).toNat : Int) := by
  show _ = ((h + (rotr e 6 ^^^ rotr e 11 ^^^ rotr e 25) + ((e &&& f) ^^^ (~~~e &&& g)) + K + X).toNat : Int)
  rw [← add_out, ← add_out, ← add_out, ← add_out]
  omega
theorem u_out (a b c d e f g h : UInt32) : (((rotr a 2 ^^^ rotr a 13 ^^^ rotr a 22).toNat : Int) + (((a &&& b) ^^^ (a &&& c) ^^^ (b &&& c)).toNat : Int)) % 4294967296 = ((uF ⟨a, b, c, d, e, f, g, h⟩).toNat : Int) := add_out _ _

theorem rnds_s {ws : List UInt32} {s : S8} {k : Nat} {a b c d e f g h T U x : UInt32} (hs : rnds ws s k = ⟨a, b, c, d, e, f, g, h⟩) (hx : ws[k]? = some x) (hT : T = tF ⟨a, b, c, d, e, f, g, h⟩ (kc k) x) (hU : U = uF ⟨a, b, c, d, e, f, g, h⟩) :
    rnds ws s (k + 1) = ⟨T + U, a, b, c, d + T, e, f, g⟩ := by
  have : ws.getD k 0 = x := by rw [List.getD_eq_getElem?_getD, hx]; rfl
  rw [rnds, hs, this, hT, hU]
  rfl
/-- the first i words added, the others as they were -/
def addTo (s t : S8) (i : Nat) : List UInt32 := (s8l (addS s t)).take i ++ (s8l s).drop i
theorem addTo_len (s t : S8) (i : Nat) (h : i ≤ 8) : (addTo s t i).length = 8 := by simp [addTo, s8l]; omega
theorem addTo_step (s t : S8) (i : Nat) (h : i < 8) : ∃ x y, (s8l t)[i]? = some y ∧ (addTo s t i)[i]? = some x ∧ (addTo s t i).set i (x + y) = addTo s t (i + 1) := by
  obtain rfl | rfl | rfl | rfl | rfl | rfl | rfl | rfl : i = 0 ∨ i = 1 ∨ i = 2 ∨ i = 3 ∨ i = 4 ∨ i = 5 ∨ i = 6 ∨ i = 7 := by omega
  all_goals exact ⟨_, _, rfl, rfl, rfl⟩
theorem wvs_set (l : List UInt32) (i : Nat) (x : UInt32) : (wvs l).set i (u32V x) = wvs (l.set i x) := by simp [wvs, List.map_set]

theorem wl_len (b : List UInt8) : ∀ k, (wl b k).length = k
  | 0 => rfl
  | k + 1 => by rw [wl, snw, List.length_append, wl_len b k]; rfl
theorem wl_s (b : List UInt8) (k : Nat) : wl b (k + 1) = wl b k ++ [if k < 16 then be4 b k else nxw (wl b k) k] := rfl
theorem zero47 : True := trivial
/-- 64 words, the first k of them known, the rest noughts -/
def part64 (b : List UInt8) (k : Nat) : List Value := wvs (wl b k) ++ zs32 (64 - k)
theorem part64_len (b : List UInt8) (k : Nat) (h : k ≤ 64) : (part64 b k).length = 64 := by simp [part64, len_wvs, wl_len, zs32]; omega
theorem part64_set (b : List UInt8) (k : Nat) (h : k < 64) (x : UInt32) (hx : x = if k < 16 then be4 b k else nxw (wl b k) k) : (part64 b k).set k (u32V x) = part64 b (k + 1) := by
  unfold part64
  rw [List.set_append_right _ _ (by rw [len_wvs, wl_len]; omega), len_wvs, wl_len, Nat.sub_self, zs32, show 64 - k = (64 - (k + 1)) + 1 from by omega, List.replicate_succ, List.set_cons_zero, wl_s, ← hx]
  simp [wvs, zs32]
theorem part64_at (b : List UInt8) (k j : Nat) (hj : j < k) : (part64 b k)[j]? = some (u32V ((wl b k).getD j 0)) := by
  unfold part64
  rw [List.getElem?_append_left (by rw [len_wvs, wl_len]; exact hj)]
  refine wvs_at _ _ _ ?_
  rw [List.getD_eq_getElem?_getD, List.getElem?_eq_getElem (by rw [wl_len]; exact hj)]
  rfl
theorem part64_end (b : List UInt8) : part64 b 64 = wvs (wl b 64) := by simp [part64, zs32]
end Go.Proofs.Ytigojjdoacfdgaa
