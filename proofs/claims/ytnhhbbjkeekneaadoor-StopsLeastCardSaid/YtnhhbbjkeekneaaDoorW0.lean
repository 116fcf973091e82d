/- W0: several texts in one (Z1 W0). -/
import Derived.Test.YtnhhbbjkeekneaaDoorYG
import Derived.Test.YtnhhbbjkeekneaaDoorT5
import Derived.Test.YtnhhbbjkeekneaaDoorV
/- Z1: layer 9: seals as lists; long; the document's Seal. -/
namespace Go.Proofs.YtnhhbbjkeekneaaDoor
open Go.RowKit Go.V
/-- the seal of m's sender -/
def keyOf (ks : List (List UInt8)) (m : Mg) : List UInt8 := ks.getD m.f.toNat []
def errS (ks : List (List UInt8)) (m : Mg) : Nat := if errG m = 0 then (if (ks.length : Int) ≤ m.f then 6 else 0) else errG m
def slS (ks : List (List UInt8)) (m : Mg) : List UInt8 := Mg.by m ++ tagF (keyOf ks m) (Mg.by m)
/-- what sealed bytes open to -/
def opR (ks : List (List UInt8)) (X : List UInt8) : Except Nat Mg :=
  if X.length < 32 then .error 1 else if 65504 < X.length - 32 then .error 4 else match rdM (X.take (X.length - 32)) with
    | .error e => .error e
    | .ok m => if (ks.length : Int) ≤ m.f then .error 6 else if tagF (keyOf ks m) (X.take (X.length - 32)) = X.drop (X.length - 32) then .ok m else .error 5
theorem errG_bd {m : Mg} (he : errG m = 0) : m.ps.length ≤ 16 ∧ (Mg.by m).length ≤ 65504 ∧ numB m = true := by
  unfold errG at he
  split at he
  · cases he
  · split at he
    · exact ⟨by omega, by omega, by assumption⟩
    · cases he
theorem part_le : ∀ (ps : List (List UInt8)) (t : List UInt8), t ∈ ps → t.length ≤ (ps.flatMap tb1).length
  | p :: ps, t, h => by
    rw [List.flatMap_cons, List.length_append]
    rcases List.mem_cons.1 h with rfl | h
    · unfold tb1; rw [List.length_append]; omega
    · have := part_le ps t h; omega
theorem body_le {m : Mg} (hh : m.h.length = 32) (h : (Mg.by m).length ≤ 65504) : m.b.length ≤ 65536 ∧ ∀ t ∈ m.ps, t.length ≤ 65536 := by
  rw [len_by2 hh] at h
  exact ⟨by omega, fun t ht => by have := part_le m.ps t ht; omega⟩
theorem rdM_by {m : Mg} (hh : m.h.length = 32) (he : errG m = 0) : rdM (Mg.by m) = .ok m := by
  obtain ⟨h1, h2, h3⟩ := errG_bd he
  obtain ⟨h4, h5⟩ := body_le hh h2
  have := rdM_put hh h3 h4 h1 h5 []
  rwa [List.append_nil, if_pos rfl] at this
theorem errS_0 {ks : List (List UInt8)} {m : Mg} (h : errS ks m = 0) : errG m = 0 ∧ m.f < (ks.length : Int) := by
  unfold errS at h
  split at h
  · split at h
    · cases h
    · exact ⟨by assumption, by omega⟩
  · exact absurd h (by assumption)
/-- what any 32 bytes behind a message's open to -/
theorem op_at {ks : List (List UInt8)} {m : Mg} (hh : m.h.length = 32) (he : errS ks m = 0) (T : List UInt8) (hT : T.length = 32) : opR ks (Mg.by m ++ T) = if tagF (keyOf ks m) (Mg.by m) = T then .ok m else .error 5 := by
  obtain ⟨hg, hf⟩ := errS_0 he
  have hl := (errG_bd hg).2.1
  have hn : (Mg.by m ++ T).length - 32 = (Mg.by m).length := by rw [List.length_append, hT]; omega
  unfold opR
  rw [if_neg (by rw [List.length_append, hT]; omega), hn, if_neg (by omega), List.take_left, List.drop_left, rdM_by hh hg]
  dsimp only
  rw [if_neg (by omega)]
theorem op_sl {ks : List (List UInt8)} {m : Mg} (hh : m.h.length = 32) (he : errS ks m = 0) : opR ks (slS ks m) = .ok m := by
  unfold slS
  rw [op_at hh he _ (len_tag _ _), if_pos rfl]
theorem errS_num {m : Mg} (h : numB m = true) : 0 ≤ m.f ∧ m.f ≤ 15 := by
  unfold numB at h
  have := of_decide_eq_true h
  omega
structure KsSm (ks : List (List UInt8)) : Prop where
  n : ks.length ≤ 1000000
  t : ∀ k ∈ ks, k.length ≤ 1000000
theorem KsSm.key {ks : List (List UInt8)} (h : KsSm ks) (m : Mg) : (keyOf ks m).length ≤ 1000000 := by
  unfold keyOf
  rw [List.getD_eq_getElem?_getD]
  cases hk : ks[m.f.toNat]? with
  | none => simp
  | some k => exact h.t k (List.mem_of_getElem? hk)
end Go.Proofs.YtnhhbbjkeekneaaDoor
/- W0: layer 6: the bits of a mask as a list; what two sets share. -/
namespace Go.V
/-- the bits of a mask, from the lowest on -/
def mbit (M i : Nat) : Bool := decide (M / 2 ^ i % 2 = 1)
def memL (M n : Nat) : List Nat := (List.range n).filter (mbit M)
theorem mem_len_le (M n : Nat) : (memL M n).length ≤ n := by
  unfold memL
  have := List.length_filter_le (mbit M) (List.range n)
  simpa using this
theorem mbit_test (M i : Nat) : mbit M i = M.testBit i := by
  unfold mbit
  rw [Nat.testBit_eq_decide_div_mod_eq]
end Go.V
