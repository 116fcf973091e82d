/- SP: facts of the mixer's lists. No project text. -/
import Derived.Test.YtnhhbbjkeekneaaGreatDoorS1
namespace Go.V

theorem fbk_congr (p q : List UInt8) : ∀ n, p.take (64 * n) = q.take (64 * n) → fbk p n = fbk q n
  | 0, _ => rfl
  | n + 1, h => by
    have h1 : p.take (64 * n) = q.take (64 * n) := by
      have := congrArg (List.take (64 * n)) h
      rw [List.take_take, List.take_take, show min (64 * n) (64 * (n + 1)) = 64 * n from by omega] at this
      exact this
    have h2 : (p.drop (64 * n)).take 64 = (q.drop (64 * n)).take 64 := by
      have := congrArg (List.drop (64 * n)) h
      rw [List.drop_take, List.drop_take, show 64 * (n + 1) - 64 * n = 64 from by omega] at this
      exact this
    rw [fbk, fbk, fbk_congr p q n h1, h2]
theorem fbk_app (p q : List UInt8) (n : Nat) (h : 64 * n ≤ p.length) : fbk (p ++ q) n = fbk p n :=
  fbk_congr _ _ n (by rw [List.take_append_of_le_length h])
/-- the mixer's state and block behind the bytes p -/
def MS (p blk : List UInt8) (s : S8) : Prop := blk.length = 64 ∧ blk.take (p.length % 64) = p.drop (64 * (p.length / 64)) ∧ s = fbk p (p.length / 64)
theorem MS.part {p blk : List UInt8} {s : S8} (h : MS p blk s) (x : List UInt8) (hx : p.length % 64 + x.length < 64) :
    MS (p ++ x) (blk.take (p.length % 64) ++ x ++ blk.drop (p.length % 64 + x.length)) s := by
  obtain ⟨h1, h2, h3⟩ := h
  have e1 : (p ++ x).length / 64 = p.length / 64 := by rw [List.length_append]; omega
  have e2 : (p ++ x).length % 64 = p.length % 64 + x.length := by rw [List.length_append]; omega
  have e3 : (blk.take (p.length % 64)).length = p.length % 64 := by rw [List.length_take]; omega
  refine ⟨by simp only [List.length_append, List.length_drop, e3]; omega, ?_, ?_⟩
  · rw [e1, e2, List.take_append_of_le_length (by rw [List.length_append, e3]; omega), List.take_of_length_le (by rw [List.length_append, e3]; omega), h2,
      List.drop_append_of_le_length (by omega)]
  · rw [e1, fbk_app _ _ _ (by omega)]; exact h3
theorem MS.full {p blk : List UInt8} {s : S8} (h : MS p blk s) (x : List UInt8) (hx : p.length % 64 + x.length = 64) :
    MS (p ++ x) (blk.take (p.length % 64) ++ x) (blockF s (blk.take (p.length % 64) ++ x)) := by
  obtain ⟨h1, h2, h3⟩ := h
  have e1 : (p ++ x).length / 64 = p.length / 64 + 1 := by rw [List.length_append]; omega
  have e2 : (p ++ x).length % 64 = 0 := by rw [List.length_append]; omega
  have e3 : (blk.take (p.length % 64)).length = p.length % 64 := by rw [List.length_take]; omega
  refine ⟨by rw [List.length_append, e3]; omega, ?_, ?_⟩
  · rw [e1, e2, List.take_zero, List.drop_of_length_le (by rw [List.length_append]; omega)]
  · rw [e1, fbk, fbk_app _ _ _ (by omega), ← h3, List.drop_append_of_le_length (by omega), h2, List.take_of_length_le (by rw [List.length_append, List.length_drop]; omega)]
theorem MS.nil (blk : List UInt8) (h : blk.length = 64) : MS [] blk iv := ⟨h, by simp, rfl⟩
end Go.V
