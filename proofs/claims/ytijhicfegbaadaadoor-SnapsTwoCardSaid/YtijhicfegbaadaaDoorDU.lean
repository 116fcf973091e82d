/- DU: several texts in one (DP DL DQ DU). -/
import Derived.Test.YtijhicfegbaadaaDoorD8
/- DP: layer 10: what lists of files and acts tell (no walk). -/
namespace Go.V
open Go.RowKit
theorem find_wo : ∀ (l : List Fl) (x n : ByteArray), n ≠ x → findF (woF l x) n = findF l n
  | [], _, _, _ => rfl
  | f :: l, x, n, h => by
    rw [wo_cons]
    by_cases hf : f.n = x
    · rw [if_pos hf, find_wo l x n h, findF, if_neg (fun e => h (e.symm.trans hf))]
    · rw [if_neg hf, findF, findF, find_wo l x n h]
theorem find_app : ∀ (l m : List Fl) (n : ByteArray), findF (l ++ m) n = (findF l n).or (findF m n)
  | [], m, n => by simp [findF]
  | f :: l, m, n => by
    rw [List.cons_append, findF, findF]
    split
    · rfl
    · exact find_app l m n
theorem find_wi (x : ByteArray) (b : List UInt8) (n : ByteArray) (h : n ≠ x) : ∀ (l : List Fl) (st : List Fl × Bool), findF (l.foldl (wiS x b) st).1 n = (findF st.1 n).or (findF l n)
  | [], st => by simp [findF]
  | f :: l, st => by
    rw [List.foldl_cons, find_wi x b n h l]
    unfold wiS
    split
    · rename_i hf
      rw [findF, if_neg (fun e => h (e.symm.trans hf))]
    · split
      · dsimp only
        rw [find_app]
        have e1 : findF [⟨x, b⟩, f] n = findF [f] n := by rw [findF, if_neg (fun e => h e.symm)]
        rw [e1, Option.or_assoc]
        congr 1
        rw [findF, findF, findF]
        split <;> simp
      · dsimp only
        rw [find_app, Option.or_assoc]
        congr 1
        rw [findF, findF, findF]
        split <;> simp
theorem find_with (l : List Fl) (x : ByteArray) (b : List UInt8) (n : ByteArray) (h : n ≠ x) : findF (withF l x b) n = findF l n := by
  have h1 := find_wi x b n h l ([], false)
  unfold withF wiF
  split
  · rw [h1]; simp [findF]
  · rw [find_app, h1]
    have e1 : findF [⟨x, b⟩] n = none := by rw [findF, if_neg (fun e => h e.symm)]; rfl
    rw [e1]
    simp [findF]
/-- an act of other names leaves a file as it is -/
theorem find_done (l : List Fl) (a : Ac) (n : ByteArray) (h1 : n ≠ a.n) (h2 : n ≠ a.t) : findF (doneF l a) n = findF l n := by
  unfold doneF
  split
  · exact find_with _ _ _ _ h1
  · split
    · exact find_with _ _ _ _ h1
    · split
      · split
        · rw [find_with _ _ _ _ h2, find_wo _ _ _ h1]
        · rfl
      · split
        · exact find_wo _ _ _ h1
        · rfl
theorem find_now (n : ByteArray) : ∀ (p : List Ac) (l : List Fl), (∀ a ∈ p, n ≠ a.n ∧ n ≠ a.t) → findF (nowL l p) n = findF l n
  | [], _, _ => rfl
  | a :: p, l, h => by
    have h0 := h a (by simp)
    have e1 : nowL l (a :: p) = nowL (doneF l a) p := rfl
    rw [e1, find_now n p _ (fun b hb => h b (by simp [hb])), find_done l a n h0.1 h0.2]
theorem find_cr (keep : Nat) (torn cut : Int) (n : ByteArray) : ∀ (p : List Ac) (i : Nat) (l : List Fl), (∀ a ∈ p, n ≠ a.n ∧ n ≠ a.t) → findF (crF keep torn cut i l p) n = findF l n
  | [], _, _, _ => rfl
  | a :: p, i, l, h => by
    have h0 := h a (by simp)
    rw [crF, find_cr keep torn cut n p _ _ (fun b hb => h b (by simp [hb]))]
    unfold crS
    split
    · exact find_done l (tornF a cut) n h0.1 h0.2
    · split
      · exact find_done l a n h0.1 h0.2
      · rfl
/-- a crash that keeps all -/
theorem cr_all (cut : Int) : ∀ (p : List Ac) (i : Nat) (l : List Fl), crF 18446744073709551615 (-1) cut i l p = nowL l p
  | [], _, _ => rfl
  | a :: p, i, l => by
    have h1 : crS 18446744073709551615 (-1) cut l i a = doneF l a := by
      unfold crS
      rw [if_neg (fun h => by have := h.1; omega)]
      have h2 : ∀ k : Fin 64, 18446744073709551615 / 2 ^ k.val % 2 = 1 := by decide
      rw [if_pos (h2 ⟨i % 64, by omega⟩)]
    rw [crF, h1, cr_all cut p]
    rfl
/-- one that keeps nothing -/
theorem cr_none (cut : Int) : ∀ (p : List Ac) (i : Nat) (l : List Fl), crF 0 (-1) cut i l p = l
  | [], _, _ => rfl
  | a :: p, i, l => by
    have h1 : crS 0 (-1) cut l i a = l := by
      unfold crS
      rw [if_neg (fun h => by have := h.1; omega), if_neg (by simp)]
    rw [crF, h1, cr_none cut p]
theorem wo_sum (a : Ac) (h : ¬ a.k = 0) : ∀ l : List Fl, (l.map fun f => if a.k = 0 ∨ f.n ≠ a.n then f.b.length else 0).sum = tot (woF l a.n)
  | [] => rfl
  | f :: l => by
    rw [List.map_cons, List.sum_cons, wo_sum a h l, wo_cons]
    by_cases hf : f.n = a.n
    · rw [if_neg (fun e => e.elim h (fun e => e hf)), if_pos hf, Nat.zero_add]
    · rw [if_pos (.inr hf), if_neg hf, tot_cons]
theorem sz_zero (a : Ac) (h : a.k = 0) (l : List Fl) : szA a l = a.b.length + tot l := by
  unfold szA tot
  simp [h]
/-- no act makes more bytes than it was asked for -/
theorem done_room (l : List Fl) (a : Ac) : tot (doneF l a) ≤ if a.k = 0 ∨ a.k = 1 then szA a l else tot l := by
  have h := wo_tot l a.n
  unfold doneF
  by_cases h0 : a.k = 0
  · rw [if_pos h0, if_pos (.inl h0), with_tot, List.length_append, sz_zero a h0]
    omega
  · rw [if_neg h0]
    by_cases h1 : a.k = 1
    · rw [if_pos h1, if_pos (.inr h1), with_tot]
      unfold szA
      rw [wo_sum a h0]
      omega
    · have hc : ¬ (a.k = 0 ∨ a.k = 1) := fun e => e.elim h0 h1
      rw [if_neg h1, if_neg hc]
      split
      · cases hf : findF l a.n with
        | none => exact Nat.le_refl _
        | some b =>
          dsimp only
          rw [with_tot]
          rw [hf] at h
          have h2 := wo_tot (woF l a.n) a.t
          simp at h
          omega
      · split <;> omega
theorem now_push (d : Dk) (a : Ac) : nowL d.syn (d.pend ++ [a]) = doneF (nowF d) a := now_snoc _ _ _
theorem burn_syn (d : Dk) : (burnF d).1.syn = d.syn := rfl
theorem burn_pend (d : Dk) : (burnF d).1.pend = d.pend := rfl
theorem burn_room (d : Dk) : (burnF d).1.room = d.room := rfl
theorem burn_now (d : Dk) : nowF (burnF d).1 = nowF d := rfl
/-- a disk that no fuse was laid at -/
def calm (d : Dk) : Prop := d.fuse = -1 ∧ d.down = false
theorem burn_calm (d : Dk) (h : calm d) : burnF d = (d, true) := by
  obtain ⟨room, syn, pend, fuse, down⟩ := d
  obtain ⟨h1, h2⟩ := h
  dsimp only at h1 h2
  subst h1 h2
  rfl
theorem push_room (d : Dk) (a : Ac) (h : (tot (doneF (nowF d) a) : Int) ≤ d.room) (h0 : (tot (nowF d) : Int) ≤ d.room) : (pushF d a).1.room = d.room ∧ (tot (nowF (pushF d a).1) : Int) ≤ d.room := by
  unfold pushF
  split
  · exact ⟨rfl, by show (tot (nowL d.syn (d.pend ++ [a])) : Int) ≤ d.room; rw [now_push]; exact h⟩
  · exact ⟨rfl, h0⟩
/-- the files are never more than there is room for, as long as nothing crashes -/
theorem do_room (d : Dk) (a : Ac) (hk : 0 ≤ a.k) (h5 : a.k ≠ 5) (h : (tot (nowF d) : Int) ≤ d.room) : (doF d a).1.room = d.room ∧ (tot (nowF (doF d a).1) : Int) ≤ d.room := by
  have hd := done_room (nowF d) a
  unfold doF
  split
  · split
    · exact ⟨rfl, h⟩
    · exact ⟨rfl, h⟩
  split
  · exact ⟨rfl, h⟩
  split
  · split <;> exact ⟨rfl, h⟩
  split
  · exact ⟨rfl, h⟩
  split
  · exact ⟨rfl, h⟩
  split
  · rename_i h1
    rw [if_pos (by omega)] at hd
    unfold sizeR
    split
    · exact ⟨rfl, h⟩
    · exact push_room d a (by omega) h
  · rename_i h1
    rw [if_neg (by omega)] at hd
    unfold findR
    split
    · exact ⟨rfl, h⟩
    · exact push_room d a (by omega) h
theorem push_calm (d : Dk) (a : Ac) (h : calm d) : pushF d a = ({ d with pend := d.pend ++ [a] }, 0) := by
  unfold pushF
  rw [burn_calm d h, if_pos rfl]
/-- without a fuse: an act of a kind up to 5 leaves it so; what it does to what was synced and is pending -/
theorem do_calm (d : Dk) (a : Ac) (h : calm d) (h6 : a.k < 6) : calm (doF d a).1 := by
  unfold doF
  rw [burn_calm d h]
  split
  · rw [if_pos rfl]; exact h
  split
  · exact ⟨rfl, rfl⟩
  rw [if_neg (by omega), if_neg (by omega), if_neg (by rw [h.2]; simp)]
  split
  · exact h
  split
  · unfold sizeR
    split
    · exact h
    · rw [push_calm d a h]; exact h
  · unfold findR
    split
    · exact h
    · rw [push_calm d a h]; exact h
/-- .. of a kind below 4: what was synced stays; one act more may be pending -/
theorem do_pend (d : Dk) (a : Ac) (h : calm d) (h6 : a.k < 4) : (doF d a).1.syn = d.syn ∧ ((doF d a).1.pend = d.pend ∨ (doF d a).1.pend = d.pend ++ [a]) := by
  unfold doF
  rw [if_neg (by omega), if_neg (by omega), if_neg (by omega), if_neg (by omega), if_neg (by rw [h.2]; simp)]
  split
  · exact ⟨rfl, .inl rfl⟩
  split
  · unfold sizeR
    split
    · exact ⟨rfl, .inl rfl⟩
    · rw [push_calm d a h]; exact ⟨rfl, .inr rfl⟩
  · unfold findR
    split
    · exact ⟨rfl, .inl rfl⟩
    · rw [push_calm d a h]; exact ⟨rfl, .inr rfl⟩
end Go.V
/- DL: layer 10: long, right. -/
namespace Go.V
open Go.RowKit
def bigA (a : Ac) : Bool := decide (300 < a.b.length) || decide (40 < a.n.size) || decide (40 < a.t.size)
def longF (l : List Ac) : Bool := decide (80 < l.length) || l.any bigA
theorem longF_no {l : List Ac} (h1 : l.length ≤ 80) (h : ∀ (i : Nat) (a : Ac), l[i]? = some a → bigA a = false) : longF l = false := by
  unfold longF
  rw [decide_eq_false (by omega), Bool.false_or, List.any_eq_false]
  intro a ha
  obtain ⟨i, hi⟩ := List.getElem?_of_mem ha
  simp [h i a hi]
theorem longF_yes {l : List Ac} {i : Nat} {a : Ac} (hi : l[i]? = some a) (h : bigA a = true) : longF l = true := by
  unfold longF
  rw [List.any_eq_true.2 ⟨a, List.mem_of_getElem? hi, h⟩, Bool.or_true]
theorem longF_len {l : List Ac} (h : 80 < l.length) : longF l = true := by
  unfold longF
  rw [decide_eq_true h, Bool.true_or]
theorem longF_out {l : List Ac} (h : longF l = false) : l.length ≤ 80 ∧ ∀ a ∈ l, a.b.length ≤ 300 ∧ a.n.size ≤ 40 ∧ a.t.size ≤ 40 := by
  unfold longF at h
  rw [Bool.or_eq_false_iff, decide_eq_false_iff_not, List.any_eq_false] at h
  refine ⟨by omega, fun a ha => ?_⟩
  have h2 := h.2 a ha
  unfold bigA at h2
  simp at h2
  omega
end Go.V
namespace Go.Proofs.YtijhicfegbaadaaDoor
open Go.RowKit Go.V
end Go.Proofs.YtijhicfegbaadaaDoor
/- DQ: layer 10: how large a disk gets; its fuse. -/
namespace Go.V
open Go.RowKit
/-- a list of texts as strings -/
def strs (l : List ByteArray) : Dat := .sl l.length (l.map fun s => .atom (.string s))
def mN (d : Dk) : Nat := d.syn.length + d.pend.length
def mT (d : Dk) : Nat := tot d.syn + totA d.pend
theorem push_bd (d : Dk) (a : Ac) : mN (pushF d a).1 ≤ mN d + 1 ∧ mT (pushF d a).1 ≤ mT d + a.b.length := by
  unfold pushF
  split
  · refine ⟨?_, ?_⟩
    · show d.syn.length + (d.pend ++ [a]).length ≤ _
      unfold mN
      simp
      omega
    · show tot d.syn + totA (d.pend ++ [a]) ≤ _
      rw [totA_app, totA_one]
      unfold mT
      omega
  · exact ⟨by show mN d ≤ _; omega, by show mT d ≤ _; omega⟩
theorem do_bd (d : Dk) (a : Ac) : mN (doF d a).1 ≤ mN d + 1 ∧ mT (doF d a).1 ≤ mT d + a.b.length := by
  have h0 : mN d ≤ mN d + 1 ∧ mT d ≤ mT d + a.b.length := ⟨by omega, by omega⟩
  have hn := now_bd d.pend d.syn
  have hp := push_bd d a
  unfold doF
  split
  · split
    · refine ⟨?_, ?_⟩
      · show (nowF d).length + 0 ≤ _
        unfold nowF mN
        omega
      · show tot (nowF d) + totA [] ≤ _
        unfold nowF mT
        simp [totA]
        unfold totA at hn
        omega
    · exact h0
  split
  · have hc := cr_bd a.keep a.torn a.cut d.pend 0 d.syn
    refine ⟨?_, ?_⟩
    · show (crF a.keep a.torn a.cut 0 d.syn d.pend).length + 0 ≤ _
      unfold mN
      omega
    · show tot (crF a.keep a.torn a.cut 0 d.syn d.pend) + totA [] ≤ _
      have e0 : totA [] = 0 := rfl
      unfold mT
      omega
  split
  · exact h0
  split
  · split <;> exact h0
  split
  · exact h0
  split
  · exact h0
  split
  · unfold sizeR
    split
    · exact h0
    · exact hp
  · unfold findR
    split
    · exact h0
    · exact hp
def i64R (x : Int) : Prop := -9223372036854775808 ≤ x ∧ x ≤ 9223372036854775807
theorem burn_fuse (d : Dk) (h : i64R d.fuse) : i64R (burnF d).1.fuse := by
  unfold burnF i64R at *
  dsimp only
  split <;> omega
theorem push_fuse (d : Dk) (a : Ac) (h : i64R d.fuse) : i64R (pushF d a).1.fuse ∧ (pushF d a).1.room = d.room := by
  unfold pushF
  split
  · exact ⟨burn_fuse d h, rfl⟩
  · exact ⟨burn_fuse d h, rfl⟩
theorem dk_fuse (d : Dk) (a : Ac) (h : i64R d.fuse) (hm : i64R a.m) : i64R (doF d a).1.fuse ∧ (doF d a).1.room = d.room := by
  have hp := push_fuse d a h
  unfold doF
  split
  · split
    · exact ⟨burn_fuse d h, rfl⟩
    · exact ⟨burn_fuse d h, rfl⟩
  split
  · exact ⟨by show i64R (-1); unfold i64R; omega, rfl⟩
  split
  · exact ⟨h, rfl⟩
  split
  · split
    · exact ⟨h, rfl⟩
    · exact ⟨hm, rfl⟩
  split
  · exact ⟨h, rfl⟩
  split
  · exact ⟨h, rfl⟩
  split
  · unfold sizeR
    split
    · exact ⟨h, rfl⟩
    · exact hp
  · unfold findR
    split
    · exact ⟨h, rfl⟩
    · exact hp
theorem dk_sm {d : Dk} (hn : mN d ≤ 500000) (ht : mT d ≤ 1000000000) (hr : 0 ≤ d.room ∧ d.room ≤ 9223372036854775807) (hf : i64R d.fuse) : DkSm d := ⟨hn, ht, hr, hf⟩
end Go.V
/- DU: layer 10: no two files of one name. -/
namespace Go.V
open Go.RowKit
def uq (l : List Fl) : Prop := (l.map Fl.n).Nodup
theorem wi_perm (n : ByteArray) (b : List UInt8) : ∀ (l : List Fl) (st : List Fl × Bool),
    (st.2 = true → (l.foldl (wiS n b) st).2 = true ∧ (l.foldl (wiS n b) st).1.Perm (st.1 ++ woF l n)) ∧
    (st.2 = false → ((l.foldl (wiS n b) st).2 = false ∧ (l.foldl (wiS n b) st).1.Perm (st.1 ++ woF l n)) ∨ ((l.foldl (wiS n b) st).2 = true ∧ (l.foldl (wiS n b) st).1.Perm (⟨n, b⟩ :: (st.1 ++ woF l n))))
  | [], st => by
    have e : woF [] n = [] := rfl
    rw [e, List.append_nil]
    exact ⟨fun h => ⟨h, List.Perm.refl _⟩, fun h => .inl ⟨h, List.Perm.refl _⟩⟩
  | f :: l, st => by
    rw [List.foldl_cons]
    have ih := wi_perm n b l (wiS n b st f)
    rw [wo_cons]
    obtain ⟨x, q⟩ := st
    unfold wiS at ih ⊢
    by_cases hf : f.n = n
    · rw [if_pos hf] at ih ⊢
      rw [if_pos hf]
      exact ih
    · rw [if_neg hf] at ih ⊢
      rw [if_neg hf]
      by_cases hg : q = false ∧ gtS f.n n = true
      · dsimp only at ih ⊢
        rw [if_pos hg] at ih ⊢
        have h1 := ih.1 rfl
        refine ⟨fun h => (by rw [hg.1] at h; cases h), fun _ => .inr ⟨h1.1, h1.2.trans ?_⟩⟩
        dsimp only
        rw [List.append_assoc]
        have e : [(⟨n, b⟩ : Fl), f] ++ woF l n = ⟨n, b⟩ :: (f :: woF l n) := rfl
        rw [e]
        exact List.perm_middle
      · dsimp only at ih ⊢
        rw [if_neg hg] at ih ⊢
        dsimp only at ih ⊢
        have e : x ++ [f] ++ woF l n = x ++ f :: woF l n := by simp
        rw [e] at ih
        exact ih
theorem with_perm (l : List Fl) (n : ByteArray) (b : List UInt8) : (withF l n b).Perm (⟨n, b⟩ :: woF l n) := by
  have h := (wi_perm n b l ([], false)).2 rfl
  unfold withF wiF
  rcases h with ⟨h1, h2⟩ | ⟨h1, h2⟩
  · rw [if_neg (by rw [h1]; simp)]
    exact (h2.append_right _).trans (by simp)
  · rw [if_pos h1]
    exact h2
theorem uq_wo {l : List Fl} (h : uq l) (n : ByteArray) : uq (woF l n) := List.Nodup.sublist (List.Sublist.map _ (List.filter_sublist)) h
theorem uq_with {l : List Fl} (h : uq l) (n : ByteArray) (b : List UInt8) : uq (withF l n b) := by
  unfold uq
  have hp := (with_perm l n b).map Fl.n
  rw [hp.nodup_iff, List.map_cons, List.nodup_cons]
  refine ⟨?_, uq_wo h n⟩
  intro hm
  obtain ⟨f, hf, he⟩ := List.mem_map.1 hm
  unfold woF at hf
  have := (List.mem_filter.1 hf).2
  simp at this
  exact this he
theorem uq_done {l : List Fl} (h : uq l) (a : Ac) : uq (doneF l a) := by
  unfold doneF
  split
  · exact uq_with h _ _
  · split
    · exact uq_with h _ _
    · split
      · split
        · exact uq_with (uq_wo h _) _ _
        · exact h
      · split
        · exact uq_wo h _
        · exact h
theorem uq_now : ∀ (p : List Ac) {l : List Fl}, uq l → uq (nowL l p)
  | [], _, h => h
  | a :: p, _, h => uq_now p (uq_done h a)
theorem uq_cr (keep : Nat) (torn cut : Int) : ∀ (p : List Ac) (i : Nat) {l : List Fl}, uq l → uq (crF keep torn cut i l p)
  | [], _, _, h => h
  | a :: p, i, l, h => by
    rw [crF]
    refine uq_cr keep torn cut p (i + 1) ?_
    unfold crS
    split
    · exact uq_done h _
    · split
      · exact uq_done h _
      · exact h
theorem push_uq (d : Dk) (a : Ac) (h : uq d.syn) : uq (pushF d a).1.syn := by
  unfold pushF
  split <;> exact h
theorem do_uq (d : Dk) (a : Ac) (h : uq d.syn) : uq (doF d a).1.syn := by
  unfold doF
  split
  · split
    · exact uq_now _ h
    · exact h
  split
  · exact uq_cr _ _ _ _ _ h
  split
  · exact h
  split
  · split <;> exact h
  split
  · exact h
  split
  · exact h
  split
  · unfold sizeR
    split
    · exact h
    · exact push_uq d a h
  · unfold findR
    split
    · exact h
    · exact push_uq d a h
/-- each file is found by its name -/
theorem uq_find : ∀ {l : List Fl}, uq l → ∀ (i : Nat) (f : Fl), l[i]? = some f → findF l f.n = some f.b
  | [], _, _, _, h => by simp at h
  | g :: l, hu, 0, f, h => by
    simp at h
    subst h
    rw [findF, if_pos rfl]
  | g :: l, hu, i + 1, f, h => by
    have h' : l[i]? = some f := by simpa using h
    unfold uq at hu
    rw [List.map_cons, List.nodup_cons] at hu
    have hne : g.n ≠ f.n := fun e => hu.1 (by rw [e]; exact List.mem_map.2 ⟨f, List.mem_of_getElem? h', rfl⟩)
    rw [findF, if_neg hne]
    exact uq_find hu.2 i f h'
end Go.V
