/- T4: layer 3: contract of Vector. -/
import Derived.Test.YtacjijhpbeegbaaDoorT3
namespace Go.V
open Go.RowKit
theorem flat_at (z : List Value) (hz : 0 < z.length) : ∀ (n j : Nat), ((List.replicate n z).flatten)[j]? = if j < n * z.length then z[j % z.length]? else none
  | 0, j => by simp
  | n + 1, j => by
    rw [List.replicate_succ, List.flatten_cons]
    by_cases h : j < z.length
    · rw [List.getElem?_append_left h, Nat.mod_eq_of_lt h, if_pos (by rw [Nat.succ_mul]; omega)]
    · rw [List.getElem?_append_right (by omega), flat_at z hz n, show j % z.length = (j - z.length) % z.length from (Nat.mod_eq_sub_mod (by omega))]
      congr 1
      rw [Nat.succ_mul]
      exact propext ⟨fun h => by omega, fun h => by omega⟩
theorem madeCells_flat (z : List Value) (hz : 0 < z.length) : ∀ n : Nat, (madeCells z.toArray (n * z.length)).toList = (List.replicate n z).flatten := by
  intro n
  apply List.ext_getElem?
  intro j
  rw [flat_at z hz n j]
  unfold madeCells
  by_cases hj : j < n * z.length
  · rw [if_pos hj]
    simp [hj, List.getElem?_eq_getElem (Nat.mod_lt j hz)]
  · rw [if_neg hj]
    simp [hj]
theorem run_mkA {P : Program} {t e : TypeId} {z : List Value} (hs : P.underlying t = some (.slice e)) (hi : (P.info? e).map (fun i => (i.zero, i.size, i.bytes)) = some (some (.agg z.toArray), z.length, z.length)) (hz : 0 < z.length) (n : Nat) (hb : z.length * n ≤ 281474976710656) (hm : n ≤ maxLen) (W : World) :
    (Instr.makeSlice t (.int .i64 (n : Int)) (.int .i64 (n : Int))).run P W = .ok (.slice (some ⟨W.heap.size, 0, none⟩) n n) (W.alloc (.cells (List.replicate n z).flatten.toArray e)) := by
  obtain ⟨i, hi1, h2, h3, h4⟩ := info_parts hi
  have h63 : (n : Int) ≤ 9223372036854775807 := by simp [maxLen] at hm; omega
  have hb' : (i.bytes : Int) * (n : Int) ≤ 281474976710656 := by
    have : ((i.bytes * n : Nat) : Int) ≤ 281474976710656 := by rw [h4]; omega
    rwa [Int.natCast_mul] at this
  have hr := run_make (P := P) W t e i (.agg z.toArray) hs hi1 h2 .i64 .i64 n n (by omega) (Int.le_refl _) hb' h63
  rw [hr]
  simp only [Int.toNat_natCast, h3]
  congr 3
  apply Array.ext'
  rw [show (Value.agg z.toArray).cells = z.toArray from rfl, madeCells_flat z hz]
theorem wp_mkA {P : Program} {w : World} {ops : Array Oper} {rest : List Oper} {o : Oper} {a : Act} {Q : Exit → Act → World → Prop} {t e : TypeId} {z : List Value} (hs : P.underlying t = some (.slice e)) (hi : (P.info? e).map (fun i => (i.zero, i.size, i.bytes)) = some (some (.agg z.toArray), z.length, z.length)) (hz : 0 < z.length) (x y : Operand) (hgd : o.guard = none) (ho : o.op = .makeSlice t x y) (n : Nat)
    (hx : a.eval x = .int .i64 (n : Int)) (hy : a.eval y = .int .i64 (n : Int)) (hb : z.length * n ≤ 281474976710656) (hm : n ≤ maxLen) (l : List Value) (hl : l = (List.replicate n z).flatten)
    (h : wpList P ops Q rest (a.put o.dst (.slice (some ⟨w.heap.size, 0, none⟩) n n)) (w.alloc (.cells l.toArray e))) : wpList P ops Q (o :: rest) a w := by
  refine wpList_plain hgd fun K hK => ?_
  subst hl
  unfold Oper.wp execOp
  simp only [ho, hx, hy, Sem.run_bind, Sem.run_pure, run_mkA hs hi hz n hb hm, Result.andThen_ok]
  exact hK _ _ h
end Go.V
namespace Go.Proofs.YtacjijhpbeegbaaDoor
open Go.RowKit Go.V
/-- the first i tags, the rest noughts -/
def vecC (keys : List (List UInt8)) (text : List UInt8) (n i : Nat) : List Value := bvs ((keys.take i).map fun k => tagF k text).flatten ++ zs8 (32 * (n - i))
theorem flatten_len32 (l : List (List UInt8)) (h : ∀ x ∈ l, x.length = 32) : l.flatten.length = 32 * l.length := by
  induction l with
  | nil => rfl
  | cons x l ih =>
    rw [List.flatten_cons, List.length_append, h x (by simp), ih (fun y hy => h y (by simp [hy])), List.length_cons]
    omega
theorem vecF_len (keys : List (List UInt8)) (text : List UInt8) (i : Nat) (hi : i ≤ keys.length) : (((keys.take i).map fun k => tagF k text).flatten).length = 32 * i := by
  rw [flatten_len32 _ (by intro x hx; obtain ⟨k, _, rfl⟩ := List.mem_map.1 hx; exact len_tag _ _)]
  simp; omega
theorem vecC_len (keys : List (List UInt8)) (text : List UInt8) (n i : Nat) (hi : i ≤ n) (hn : n ≤ keys.length) : (vecC keys text n i).length = 32 * n := by
  rw [vecC, List.length_append, len_bvs, vecF_len _ _ _ (by omega)]
  simp [zs8]; omega
theorem vecC_set (keys : List (List UInt8)) (text : List UInt8) (n i : Nat) (hi : i < n) (k : List UInt8) (hk : keys[i]? = some k) :
    (vecC keys text n i).take (i * 32) ++ bvs (tagF k text) ++ (vecC keys text n i).drop (i * 32 + (bvs (tagF k text)).length) = vecC keys text n (i + 1) := by
  obtain ⟨hlt, he⟩ := List.getElem?_eq_some_iff.1 hk
  have hl : (bvs ((keys.take i).map fun k => tagF k text).flatten).length = i * 32 := by rw [len_bvs, vecF_len _ _ _ (by omega)]; omega
  have e1 : bvs ((keys.take (i + 1)).map fun k => tagF k text).flatten = bvs ((keys.take i).map fun k => tagF k text).flatten ++ bvs (tagF k text) := by
    rw [List.take_succ_eq_append_getElem hlt, he]
    simp [bvs]
  unfold vecC
  rw [e1, len_bvs, len_tag, List.take_append_of_le_length (by omega), List.take_of_length_le (by omega), List.drop_append, List.drop_of_length_le (by omega), List.nil_append, hl, show i * 32 + 32 - i * 32 = 32 from by omega]
  congr 1
  unfold zs8
  rw [List.drop_replicate]
  congr 1
  omega
theorem zs_flat : ∀ n : Nat, zs8 (32 * n) = (List.replicate n (zs8 32)).flatten
  | 0 => rfl
  | n + 1 => by
    rw [List.replicate_succ, List.flatten_cons, ← zs_flat n]
    unfold zs8
    rw [List.replicate_append_replicate]
    congr 1
    omega
end Go.Proofs.YtacjijhpbeegbaaDoor
