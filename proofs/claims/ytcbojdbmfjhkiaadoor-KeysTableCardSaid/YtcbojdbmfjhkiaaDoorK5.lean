/- K5: layer 5: what is signed is right by the root (lists); wakes; the law KeysVerify. -/
import Derived.Test.YtcbojdbmfjhkiaaDoorK4
namespace Go.Proofs.YtcbojdbmfjhkiaaDoor
open Go.RowKit Go.V
theorem len_root (seed : List UInt8) : (rootF seed).length = 32 := by
  unfold rootF
  rw [List.getD_eq_getElem?_getD, List.getElem?_eq_getElem (by rw [tree_len]; omega)]
  exact tree_32 seed 7 _ (List.getElem_mem _)
theorem path_at (seed : List UInt8) (k : Nat) (text : List UInt8) (hk : k ≤ 7) (i : Nat) (hi : i < 3) : ((ksigF seed k text).drop (561 + 32 * i)).take 32 = (treeF seed 7).getD (besI k i) [] := by
  have h32 := path_32 seed k 3 hk (by omega)
  have hs := len_sig seed (k : Int) text
  have hp : pathT seed k 3 = [(treeF seed 7).getD (besI k 0) [], (treeF seed 7).getD (besI k 1) [], (treeF seed 7).getD (besI k 2) []] := rfl
  have l0 := h32 ((treeF seed 7).getD (besI k 0) []) (by rw [hp]; simp)
  have l1 := h32 ((treeF seed 7).getD (besI k 1) []) (by rw [hp]; simp)
  have l2 := h32 ((treeF seed 7).getD (besI k 2) []) (by rw [hp]; simp)
  have e : ksigF seed k text = ([UInt8.ofNat k] ++ sigF seed (k : Int) text) ++ ((treeF seed 7).getD (besI k 0) [] ++ ((treeF seed 7).getD (besI k 1) [] ++ (treeF seed 7).getD (besI k 2) [])) := by
    unfold ksigF
    rw [show ((besL k 3).map fun i => (treeF seed 7).getD i []) = pathT seed k 3 from rfl, hp]
    simp
  have hl : ([UInt8.ofNat k] ++ sigF seed (k : Int) text).length = 561 := by rw [List.length_append, hs]; rfl
  rw [e, List.drop_append, List.drop_of_length_le (by omega), List.nil_append, hl, show 561 + 32 * i - 561 = 32 * i from by omega]
  obtain rfl | rfl | rfl : i = 0 ∨ i = 1 ∨ i = 2 := by omega
  · rw [Nat.mul_zero, List.drop_zero, List.take_append_of_le_length (by omega), List.take_of_length_le (by omega)]
  · rw [List.drop_append, List.drop_of_length_le (by omega), List.nil_append, l0, show 32 * 1 - 32 = 0 from rfl, List.drop_zero, List.take_append_of_le_length (by omega), List.take_of_length_le (by omega)]
  · rw [List.drop_append, List.drop_of_length_le (by omega), List.nil_append, l0, show 32 * 2 - 32 = 32 from rfl, List.drop_append, List.drop_of_length_le (by omega), List.nil_append, l1, Nat.sub_self, List.drop_zero, List.take_of_length_le (by omega)]
theorem leaf_ksig (seed : List UInt8) (k : Nat) (text : List UInt8) (hk : k ≤ 7) : leafOf (ksigF seed k text) = k := by
  unfold leafOf ksigF
  simp
  omega
theorem top_ksig (seed : List UInt8) (k : Nat) (text : List UInt8) (hk : k ≤ 7) : topF text (ksigF seed k text) = rootF seed := by
  have hl := tree_len seed
  have h0 : recF text (((ksigF seed k text).drop 1).take 560) = (treeF seed 7).getD (frmF 0 + k / 2 ^ 0) [] := by
    have hs := len_sig seed (k : Int) text
    have e : ((ksigF seed k text).drop 1).take 560 = sigF seed (k : Int) text := by
      unfold ksigF
      rw [List.append_assoc, List.singleton_append, List.drop_succ_cons, List.drop_zero, List.take_append_of_le_length (by omega), List.take_of_length_le (by omega)]
    rw [e, rec_sig, show frmF 0 + k / 2 ^ 0 = k from by simp [frmF], tree_leaf seed hl k (by omega)]
  have step : ∀ i, i ≤ 3 → upF (recF text (((ksigF seed k text).drop 1).take 560)) (ksigF seed k text) k i = (treeF seed 7).getD (frmF i + k / 2 ^ i) [] := by
    intro i
    induction i with
    | zero => intro _; exact h0
    | succ i ih =>
      intro hi
      have hp := path_at seed k text hk i (by omega)
      rw [upF, ih (by omega), hp]
      have hh := half_next k i
      have hq := half_le k i hk
      obtain ⟨q, hqq⟩ : ∃ q, q = k / 2 ^ i := ⟨_, rfl⟩
      have hb : besI k i = if q % 2 = 0 then frmF i + q + 1 else frmF i + q - 1 := by rw [hqq]; rfl
      have hq2 : q ≤ 7 / 2 ^ i := by rw [hqq]; exact Nat.div_le_div_right hk
      rw [← hqq] at hh hq ⊢
      rw [← hh, hb]
      have hf : ∃ m, m < 7 ∧ frmF (i + 1) + q / 2 = 8 + m ∧ 2 * m = frmF i + 2 * (q / 2) := by
        obtain rfl | rfl | rfl : i = 0 ∨ i = 1 ∨ i = 2 := by omega
        · exact ⟨q / 2, by omega, by simp [frmF], by simp [frmF]⟩
        · simp at hq2; exact ⟨4 + q / 2, by omega, by simp [frmF]; omega, by simp [frmF]; omega⟩
        · simp at hq2; exact ⟨6, by omega, by simp [frmF]; omega, by simp [frmF]; omega⟩
      obtain ⟨m, hm, e1, e2⟩ := hf
      rw [e1, tree_node seed hl m hm]
      by_cases hev : q % 2 = 0
      · rw [if_pos hev, if_pos hev, show frmF i + q = 2 * m from by omega]
      · rw [if_neg hev, if_neg hev, show frmF i + q = 2 * m + 1 from by omega, Nat.add_sub_cancel]
  unfold topF
  rw [leaf_ksig seed k text hk, step 3 (by omega)]
  unfold rootF
  congr 1
  have : k / 2 ^ 3 = 0 := by omega
  rw [this]
  rfl
theorem ver_ksig (seed : List UInt8) (k : Nat) (text : List UInt8) (hk : k ≤ 7) : verN (rootF seed) text (ksigF seed k text) = (k : Int) ∧ verE (rootF seed) text (ksigF seed k text) = 0 := by
  have hok : okSig (ksigF seed k text) := ⟨len_ksig _ _ _ hk, by rw [leaf_ksig _ _ _ hk]; exact hk⟩
  unfold verN verE
  rw [if_pos hok, if_pos hok, if_pos (top_ksig seed k text hk), if_pos (top_ksig seed k text hk), leaf_ksig _ _ _ hk]
  exact ⟨rfl, rfl⟩
end Go.Proofs.YtcbojdbmfjhkiaaDoor
