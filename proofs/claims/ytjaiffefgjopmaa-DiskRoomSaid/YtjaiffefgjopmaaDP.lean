/- DP: layer 10: what lists of files and acts tell (no walk). -/
import Derived.Test.YtjaiffefgjopmaaD8
namespace Go.V
open Go.RowKit
theorem find_wo : ∀ (l : List Fl) (x n : ByteArray), n ≠ x → findF (woF l x) n = findF l n
  | [], _, _, _ => rfl
  | f :: l, x, n, h => by
    rw [wo_cons]
    by_cases hf : f.n = x
    · rw [if_pos hf, find_wo l x n h, findF, if_neg (fun e => h (e.symm.trans hf))]
    · rw [if_neg hf, findF, findF, find_wo l x n h]
theorem find_app : ∀ (l m : List Fl) (n : ByteArray), findF (l ++ m) n = (findF l n).or (findF m n)
  | [], m, n => by simp [findF]
  | f :: l, m, n => by
    rw [List.cons_append, findF, findF]
    split
    · rfl
    · exact find_app l m n
theorem find_wi (x : ByteArray) (b : List UInt8) (n : ByteArray) (h : n ≠ x) : ∀ (l : List Fl) (st : List Fl × Bool), findF (l.foldl (wiS x b) st).1 n = (findF st.1 n).or (findF l n)
  | [], st => by simp [findF]
  | f :: l, st => by
    rw [List.foldl_cons, find_wi x b n h l]
    unfold wiS
    split
    · rename_i hf
      rw [findF, if_neg (fun e => h (e.symm.trans hf))]
    · split
      · dsimp only
        rw [find_app]
        have e1 : findF [⟨x, b⟩, f] n = findF [f] n := by rw [findF, if_neg (fun e => h e.symm)]
        rw [e1, Option.or_assoc]
        congr 1
        rw [findF, findF, findF]
        split <;> simp
      · dsimp only
        rw [find_app, Option.or_assoc]
        congr 1
        rw [findF, findF, findF]
        split <;> simp
theorem find_with (l : List Fl) (x : ByteArray) (b : List UInt8) (n : ByteArray) (h : n ≠ x) : findF (withF l x b) n = findF l n := by
  have h1 := find_wi x b n h l ([], false)
  unfold withF wiF
  split
  · rw [h1]; simp [findF]
  · rw [find_app, h1]
    have e1 : findF [⟨x, b⟩] n = none := by rw [findF, if_neg (fun e => h e.symm)]; rfl
    rw [e1]
    simp [findF]
/-- an act of other names leaves a file as it is -/
theorem find_done (l : List Fl) (a : Ac) (n : ByteArray) (h1 : n ≠ a.n) (h2 : n ≠ a.t) : findF (doneF l a) n = findF l n := by
  unfold doneF
  split
  · exact find_with _ _ _ _ h1
  · split
    · exact find_with _ _ _ _ h1
    · split
      · split
        · rw [find_with _ _ _ _ h2, find_wo _ _ _ h1]
        · rfl
      · split
        · exact find_wo _ _ _ h1
        · rfl
theorem find_now (n : ByteArray) : ∀ (p : List Ac) (l : List Fl), (∀ a ∈ p, n ≠ a.n ∧ n ≠ a.t) → findF (nowL l p) n = findF l n
  | [], _, _ => rfl
  | a :: p, l, h => by
    have h0 := h a (by simp)
    have e1 : nowL l (a :: p) = nowL (doneF l a) p := rfl
    rw [e1, find_now n p _ (fun b hb => h b (by simp [hb])), find_done l a n h0.1 h0.2]
theorem find_cr (keep : Nat) (torn cut : Int) (n : ByteArray) : ∀ (p : List Ac) (i : Nat) (l : List Fl), (∀ a ∈ p, n ≠ a.n ∧ n ≠ a.t) → findF (crF keep torn cut i l p) n = findF l n
  | [], _, _, _ => rfl
  | a :: p, i, l, h => by
    have h0 := h a (by simp)
    rw [crF, find_cr keep torn cut n p _ _ (fun b hb => h b (by simp [hb]))]
    unfold crS
    split
    · exact find_done l (tornF a cut) n h0.1 h0.2
    · split
      · exact find_done l a n h0.1 h0.2
      · rfl
/-- a crash that keeps all -/
theorem cr_all (cut : Int) : ∀ (p : List Ac) (i : Nat) (l : List Fl), crF 18446744073709551615 (-1) cut i l p = nowL l p
  | [], _, _ => rfl
  | a :: p, i, l => by
    have h1 : crS 18446744073709551615 (-1) cut l i a = doneF l a := by
      unfold crS
      rw [if_neg (fun h => by have := h.1; omega)]
      have h2 : ∀ k : Fin 64, 18446744073709551615 / 2 ^ k.val % 2 = 1 := by decide
      rw [if_pos (h2 ⟨i % 64, by omega⟩)]
    rw [crF, h1, cr_all cut p]
    rfl
/-- one that keeps nothing -/
theorem cr_none (cut : Int) : ∀ (p : List Ac) (i : Nat) (l : List Fl), crF 0 (-1) cut i l p = l
  | [], _, _ => rfl
  | a :: p, i, l => by
    have h1 : crS 0 (-1) cut l i a = l := by
      unfold crS
      rw [if_neg (fun h => by have := h.1; omega), if_neg (by simp)]
    rw [crF, h1, cr_none cut p]
theorem wo_sum (a : Ac) (h : ¬ a.k = 0) : ∀ l : List Fl, (l.map fun f => if a.k = 0 ∨ f.n ≠ a.n then f.b.length else 0).sum = tot (woF l a.n)
  | [] => rfl
  | f :: l => by
    rw [List.map_cons, List.sum_cons, wo_sum a h l, wo_cons]
    by_cases hf : f.n = a.n
    · rw [if_neg (fun e => e.elim h (fun e => e hf)), if_pos hf, Nat.zero_add]
    · rw [if_pos (.inr hf), if_neg hf, tot_cons]
theorem sz_zero (a : Ac) (h : a.k = 0) (l : List Fl) : szA a l = a.b.length + tot l := by
  unfold szA tot
  simp [h]
/-- no act makes more bytes than it was asked for -/
theorem done_room (l : List Fl) (a : Ac) : tot (doneF l a) ≤ if a.k = 0 ∨ a.k = 1 then szA a l else tot l := by
  have h := wo_tot l a.n
  unfold doneF
  by_cases h0 : a.k = 0
  · rw [if_pos h0, if_pos (.inl h0), with_tot, List.length_append, sz_zero a h0]
    omega
  · rw [if_neg h0]
    by_cases h1 : a.k = 1
    · rw [if_pos h1, if_pos (.inr h1), with_tot]
      unfold szA
      rw [wo_sum a h0]
      omega
    · have hc : ¬ (a.k = 0 ∨ a.k = 1) := fun e => e.elim h0 h1
      rw [if_neg h1, if_neg hc]
      split
      · cases hf : findF l a.n with
        | none => exact Nat.le_refl _
        | some b =>
          dsimp only
          rw [with_tot]
          rw [hf] at h
          have h2 := wo_tot (woF l a.n) a.t
          simp at h
          omega
      · split <;> omega
theorem now_push (d : Dk) (a : Ac) : nowL d.syn (d.pend ++ [a]) = doneF (nowF d) a := now_snoc _ _ _
theorem burn_syn (d : Dk) : (burnF d).1.syn = d.syn := rfl
theorem burn_pend (d : Dk) : (burnF d).1.pend = d.pend := rfl
theorem burn_room (d : Dk) : (burnF d).1.room = d.room := rfl
theorem burn_now (d : Dk) : nowF (burnF d).1 = nowF d := rfl
/-- a disk that no fuse was laid at -/
def calm (d : Dk) : Prop := d.fuse = -1 ∧ d.down = false
theorem burn_calm (d : Dk) (h : calm d) : burnF d = (d, true) := by
  obtain ⟨room, syn, pend, fuse, down⟩ := d
  obtain ⟨h1, h2⟩ := h
  dsimp only at h1 h2
  subst h1 h2
  rfl
theorem push_room (d : Dk) (a : Ac) (h : (tot (doneF (nowF d) a) : Int) ≤ d.room) (h0 : (tot (nowF d) : Int) ≤ d.room) : (pushF d a).1.room = d.room ∧ (tot (nowF (pushF d a).1) : Int) ≤ d.room := by
  unfold pushF
  split
  · exact ⟨rfl, by show (tot (nowL d.syn (d.pend ++ [a])) : Int) ≤ d.room; rw [now_push]; exact h⟩
  · exact ⟨rfl, h0⟩
/-- the files are never more than there is room for, as long as nothing crashes -/
theorem do_room (d : Dk) (a : Ac) (hk : 0 ≤ a.k) (h5 : a.k ≠ 5) (h : (tot (nowF d) : Int) ≤ d.room) : (doF d a).1.room = d.room ∧ (tot (nowF (doF d a).1) : Int) ≤ d.room := by
  have hd := done_room (nowF d) a
  unfold doF
  split
  · split
    · exact ⟨rfl, h⟩
    · exact ⟨rfl, h⟩
  split
  · exact ⟨rfl, h⟩
  split
  · split <;> exact ⟨rfl, h⟩
  split
  · exact ⟨rfl, h⟩
  split
  · exact ⟨rfl, h⟩
  split
  · rename_i h1
    rw [if_pos (by omega)] at hd
    unfold sizeR
    split
    · exact ⟨rfl, h⟩
    · exact push_room d a (by omega) h
  · rename_i h1
    rw [if_neg (by omega)] at hd
    unfold findR
    split
    · exact ⟨rfl, h⟩
    · exact push_room d a (by omega) h
theorem push_calm (d : Dk) (a : Ac) (h : calm d) : pushF d a = ({ d with pend := d.pend ++ [a] }, 0) := by
  unfold pushF
  rw [burn_calm d h, if_pos rfl]
/-- without a fuse: an act of a kind up to 5 leaves it so; what it does to what was synced and is pending -/
theorem do_calm (d : Dk) (a : Ac) (h : calm d) (h6 : a.k < 6) : calm (doF d a).1 := by
  unfold doF
  rw [burn_calm d h]
  split
  · rw [if_pos rfl]; exact h
  split
  · exact ⟨rfl, rfl⟩
  rw [if_neg (by omega), if_neg (by omega), if_neg (by rw [h.2]; simp)]
  split
  · exact h
  split
  · unfold sizeR
    split
    · exact h
    · rw [push_calm d a h]; exact h
  · unfold findR
    split
    · exact h
    · rw [push_calm d a h]; exact h
/-- .. of a kind below 4: what was synced stays; one act more may be pending -/
theorem do_pend (d : Dk) (a : Ac) (h : calm d) (h6 : a.k < 4) : (doF d a).1.syn = d.syn ∧ ((doF d a).1.pend = d.pend ∨ (doF d a).1.pend = d.pend ++ [a]) := by
  unfold doF
  rw [if_neg (by omega), if_neg (by omega), if_neg (by omega), if_neg (by omega), if_neg (by rw [h.2]; simp)]
  split
  · exact ⟨rfl, .inl rfl⟩
  split
  · unfold sizeR
    split
    · exact ⟨rfl, .inl rfl⟩
    · rw [push_calm d a h]; exact ⟨rfl, .inr rfl⟩
  · unfold findR
    split
    · exact ⟨rfl, .inl rfl⟩
    · rw [push_calm d a h]; exact ⟨rfl, .inr rfl⟩
end Go.V
