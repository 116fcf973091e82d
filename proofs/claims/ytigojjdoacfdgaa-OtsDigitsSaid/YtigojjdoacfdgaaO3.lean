/- O3: layer 4: contracts of the document's Public, Sign, Recover. -/
import Derived.Test.YtigojjdoacfdgaaO2
import Derived.IntWalk
namespace Go.V
open Go.RowKit
/-- n pieces, one behind the other -/
def catF (f : Nat → List UInt8) (n : Nat) : List UInt8 := (List.range n).flatMap f
theorem cat_succ (f : Nat → List UInt8) (n : Nat) : catF f (n + 1) = catF f n ++ f n := by simp [catF, List.range_succ]
theorem len_cat (f : Nat → List UInt8) (hf : ∀ j, (f j).length = 16) : ∀ n, (catF f n).length = 16 * n
  | 0 => rfl
  | n + 1 => by rw [cat_succ, List.length_append, len_cat f hf n, hf]; omega
def pubF (seed : List UInt8) (idx : Int) : List UInt8 := shaF (catF (fun j => walkF (secF seed idx j) j 0 15) 35)
def sigF (seed : List UInt8) (idx : Int) (text : List UInt8) : List UInt8 := catF (fun j => walkF (secF seed idx j) j 0 ((digF (shaF text)).getD j 0)) 35
def recF (text sig : List UInt8) : List UInt8 := shaF (catF (fun j => walkF ((sig.drop (16 * j)).take 16) j ((digF (shaF text)).getD j 0) (15 - (digF (shaF text)).getD j 0)) 35)
theorem cat_piece (f : Nat → List UInt8) (hf : ∀ j, (f j).length = 16) (n j : Nat) (hj : j < n) : ((catF f n).drop (16 * j)).take 16 = f j := by
  induction n with
  | zero => omega
  | succ n ih =>
    rw [cat_succ]
    have hl := len_cat f hf n
    by_cases h : j < n
    · rw [List.drop_append_of_le_length (by omega), List.take_append_of_le_length (by rw [List.length_drop]; omega)]
      exact ih h
    · have : j = n := by omega
      subst this
      rw [← hl, List.drop_left, List.take_of_length_le (by rw [hf]; omega)]
theorem cat_congr (f g : Nat → List UInt8) (n : Nat) (h : ∀ j, j < n → f j = g j) : catF f n = catF g n := by
  induction n with
  | zero => rfl
  | succ n ih => rw [cat_succ, cat_succ, ih (fun j hj => h j (by omega)), h n (by omega)]
theorem ivs_at (l : List Nat) (j n : Nat) (h : l[j]? = some n) : (ivs l)[j]? = some (.int .i64 (n : Int)) := by simp [ivs, h]
/-- a row's cells, in its own words -/
theorem own_cellAt {w : World} {base : Nat} {e : TypeId} {v : Value} {n : Nat} {xs : List Value} (h : w.ownsRow base e 1 v n xs) (j : Nat) (u : Value) (hu : xs[j]? = some u) : ∃ g c, v = .slice (some ⟨g, 0, none⟩) n c ∧ base ≤ g ∧ g < w.heap.size ∧ w.cell? ⟨g, j, none⟩ = some u := by
  rcases h.2 with ⟨rfl, rfl⟩ | ⟨g, cap, cur, rfl, hg, hh, h1, h2, h3, h4⟩
  · have := h.1
    rw [List.eq_nil_of_length_eq_zero (by omega : xs.length = 0)] at hu
    simp at hu
  · refine ⟨g, cap, rfl, hg, lt_of_block hh, ?_⟩
    have := h.cells (g := g) rfl j u hu
    rwa [add_mk, Nat.zero_add] at this
theorem own_ivs {w : World} {base : Nat} {e : TypeId} {v : Value} {n : Nat} {D : List Nat} (h : w.ownsRow base e 1 v n (ivs D)) (hn : 0 < n) : ∃ g c, v = .slice (some ⟨g, 0, none⟩) n c ∧ base ≤ g ∧ g < w.heap.size ∧ ∀ (j k : Nat), D[j]? = some k → w.cell? ⟨g, j, none⟩ = some (.int .i64 (k : Int)) := by
  have hl : D.length = n := by have := h.1; rw [len_ivs] at this; omega
  obtain ⟨k0, hk0⟩ : ∃ k, D[0]? = some k := ⟨_, List.getElem?_eq_getElem (by omega)⟩
  obtain ⟨g, c, rfl, hg, hlt, _⟩ := own_cellAt h 0 _ (ivs_at D 0 k0 hk0)
  refine ⟨g, c, rfl, hg, hlt, fun j k hk => ?_⟩
  obtain ⟨g', c', e, _, _, hc⟩ := own_cellAt h j _ (ivs_at D j k hk)
  injection e with e1
  injection e1 with e1
  injection e1 with e2
  subst e2
  exact hc
end Go.V
namespace Go.Proofs.Ytigojjdoacfdgaa
open Go.RowKit Go.V
theorem len_pub (seed : List UInt8) (idx : Int) : (pubF seed idx).length = 32 := len_sha _
theorem len_rec (text sig : List UInt8) : (recF text sig).length = 32 := len_sha _
theorem len_sig (seed : List UInt8) (idx : Int) (text : List UInt8) : (sigF seed idx text).length = 560 := len_cat _ (fun _ => len_walk _ _ _ (len_sec _ _ _) _) 35
def recE (sig : List UInt8) : Int := if sig.length = 560 then 0 else 2
def recH (text sig : List UInt8) : List UInt8 := if sig.length = 560 then recF text sig else List.replicate 32 0
theorem len_recH (text sig : List UInt8) : (recH text sig).length = 32 := by
  unfold recH
  by_cases h : sig.length = 560
  · rw [if_pos h]; exact len_rec _ _
  · rw [if_neg h]; simp
theorem zs8_bvs (n : Nat) : zs8 n = bvs (List.replicate n 0) := by simp [zs8, bvs, byteV]
theorem rec_sig (seed : List UInt8) (idx : Int) (text : List UInt8) : recF text (sigF seed idx text) = pubF seed idx := by
  unfold recF pubF
  congr 1
  refine cat_congr _ _ 35 (fun j hj => ?_)
  have hd : (digF (shaF text)).getD j 0 ≤ 15 := by
    have hl := len_dig (shaF text) (by rw [len_sha]; omega)
    rw [List.getD_eq_getElem?_getD, List.getElem?_eq_getElem (by omega)]
    exact dig_le _ _ (List.getElem_mem _)
  have hp : ((sigF seed idx text).drop (16 * j)).take 16 = walkF (secF seed idx j) j 0 ((digF (shaF text)).getD j 0) := cat_piece (fun j => walkF (secF seed idx j) j 0 ((digF (shaF text)).getD j 0)) (fun _ => len_walk _ _ _ (len_sec _ _ _) _) 35 j hj
  rw [hp]
  have := walkF_add (secF seed idx j) j 0 ((digF (shaF text)).getD j 0) (15 - (digF (shaF text)).getD j 0)
  rw [Nat.zero_add] at this
  rw [this, show (digF (shaF text)).getD j 0 + (15 - (digF (shaF text)).getD j 0) = 15 from by omega]
end Go.Proofs.Ytigojjdoacfdgaa
