/- B0: layer 16, pure: requests that wait, as lists. No project text. -/
import Derived.Test.YtnpgloeldoiekaaA0
import Derived.Test.YtnpgloeldoiekaaQA
namespace Go.Proofs.Ytnpgloeldoiekaa
open Go.RowKit Go.V
/-- does one of them wait already? -/
def hasQ (l : List Rq) (r : Rq) : Bool := l.any (fun x => decide (x.c = r.c) && decide (x.s = r.s))
def addE (l : List Rq) (r : Rq) : Int := if r.fm = false then 15 else if hasQ l r = true then 7 else if 12 ≤ l.length then 4 else 0
def addL (l : List Rq) (r : Rq) : List Rq := if addE l r = 0 then l ++ [r] else l
/-- is one to be done yet? -/
def dueQ (a : List Rp) (r : Rq) : Bool := decide (lastS a r.c < r.s)
def okQ (a : List Rp) (o : List Rq) (r : Rq) : Bool := dueQ a r && o.all (fun x => !(decide (x.c = r.c) && decide (r.s ≤ x.s)))
def batS (a : List Rp) (o : List Rq) (r : Rq) : List Rq := if o.length < 4 ∧ okQ a o r = true then o ++ [r] else o
def batQ (a : List Rp) (l : List Rq) : List Rq := l.foldl (batS a) []
def drpQ (a : List Rp) (l : List Rq) : List Rq := l.filter (dueQ a)
/-- what waits -/
structure QIn (l : List Rq) : Prop where
  fm : ∀ r ∈ l, r.fm = true
  len : l.length ≤ 12
  one : l.Pairwise (fun x y => ¬ (x.c = y.c ∧ x.s = y.s))
theorem fm_in {r : Rq} (h : r.fm = true) : 0 ≤ r.c ∧ r.c ≤ 5 ∧ 1 ≤ r.s ∧ r.s ≤ 8 ∧ r.g.length ≤ 1000 := by
  unfold Rq.fm at h
  rw [decide_eq_true_iff] at h
  exact ⟨h.1, h.2.1, h.2.2.1, h.2.2.2.1, h.2.2.2.2.2⟩
theorem qin_nil : QIn [] := ⟨fun r h => by simp at h, Nat.zero_le _, List.Pairwise.nil⟩
theorem has_not {l : List Rq} {r : Rq} (h : hasQ l r = false) : ∀ x ∈ l, ¬ (x.c = r.c ∧ x.s = r.s) := by
  intro x hx he
  unfold hasQ at h
  rw [List.any_eq_false] at h
  have := h x hx
  rw [decide_eq_true he.1, decide_eq_true he.2] at this
  exact this rfl
theorem add_z {l : List Rq} {r : Rq} (h : addE l r = 0) : r.fm = true ∧ hasQ l r = false ∧ l.length < 12 := by
  unfold addE at h
  split at h
  · omega
  · split at h
    · omega
    · split at h
      · omega
      · rename_i h1 h2 h3
        exact ⟨by simpa using h1, by simpa using h2, by omega⟩
theorem qin_add {l : List Rq} (h : QIn l) (r : Rq) : QIn (addL l r) := by
  unfold addL
  split
  · rename_i hz
    obtain ⟨h1, h2, h3⟩ := add_z hz
    refine ⟨fun x hx => ?_, by simp; omega, ?_⟩
    · rcases List.mem_append.1 hx with hx | hx
      · exact h.fm x hx
      · rw [List.mem_singleton.1 hx]; exact h1
    · rw [List.pairwise_append]
      refine ⟨h.one, by simp, fun x hx y hy => ?_⟩
      rw [List.mem_singleton.1 hy]
      exact has_not h2 x hx
  · exact h
theorem qin_drp {l : List Rq} (h : QIn l) (a : List Rp) : QIn (drpQ a l) := by
  refine ⟨fun r hr => h.fm r (List.mem_filter.1 hr).1, Nat.le_trans (List.length_filter_le _ _) h.len, h.one.sublist List.filter_sublist⟩
theorem bat_snoc (a : List Rp) (l : List Rq) (r : Rq) : batQ a (l ++ [r]) = batS a (batQ a l) r := by
  unfold batQ
  rw [List.foldl_append]
  rfl
/-- what is taken -/
structure BIn (a : List Rp) (l o : List Rq) : Prop where
  len : o.length ≤ 4
  mem : ∀ r ∈ o, r ∈ l ∧ dueQ a r = true
  ris : ris o
theorem ok_out {a : List Rp} {o : List Rq} {r : Rq} (h : okQ a o r = true) : dueQ a r = true ∧ ∀ x ∈ o, x.c = r.c → x.s < r.s := by
  unfold okQ at h
  rw [Bool.and_eq_true] at h
  refine ⟨h.1, fun x hx he => ?_⟩
  have := List.all_eq_true.1 h.2 x hx
  rw [decide_eq_true he] at this
  simp at this
  omega
theorem bin_step {a : List Rp} {l o : List Rq} {r : Rq} (h : BIn a l o) : BIn a (l ++ [r]) (batS a o r) := by
  unfold batS
  split
  · rename_i hc
    obtain ⟨h1, h2⟩ := ok_out hc.2
    refine ⟨by simp; omega, fun x hx => ?_, ris_snoc.2 ⟨h.ris, h2⟩⟩
    rcases List.mem_append.1 hx with hx | hx
    · exact ⟨List.mem_append_left _ (h.mem x hx).1, (h.mem x hx).2⟩
    · rw [List.mem_singleton.1 hx]
      exact ⟨by simp, h1⟩
  · exact ⟨h.len, fun x hx => ⟨List.mem_append_left _ (h.mem x hx).1, (h.mem x hx).2⟩, h.ris⟩
theorem bin_all (a : List Rp) (l : List Rq) : BIn a l (batQ a l) := by
  have : ∀ n, BIn a (l.take n) (batQ a (l.take n)) := by
    intro n
    induction n with
    | zero => exact ⟨Nat.zero_le _, fun r h => by simp [batQ] at h, List.Pairwise.nil⟩
    | succ n ih =>
      rcases Nat.lt_or_ge n l.length with hn | hn
      · rw [take_snoc' (List.getElem?_eq_getElem hn), bat_snoc]
        exact bin_step ih
      · rw [List.take_of_length_le (by omega)] at ih ⊢
        exact ih
  have h := this l.length
  rw [List.take_length] at h
  exact h
theorem bat_fm {a : List Rp} {l : List Rq} (h : QIn l) (hne : 1 ≤ (batQ a l).length) : fmB (batQ a l) = true := by
  have hb := bin_all a l
  exact fmB_true hne hb.len (fun r hr => h.fm r (hb.mem r hr).1) hb.ris
/-- the first one that is to be done is the first that is taken -/
theorem bat_keep (a : List Rp) : ∀ (l o : List Rq) (r : Rq), o[0]? = some r → (l.foldl (batS a) o)[0]? = some r
  | [], o, r, h => h
  | x :: l, o, r, h => by
    refine bat_keep a l (batS a o x) r ?_
    unfold batS
    split
    · rw [List.getElem?_append_left (List.getElem?_eq_some_iff.1 h).1]; exact h
    · exact h
theorem bat_skip (a : List Rp) : ∀ (l : List Rq), (∀ x ∈ l, dueQ a x = false) → batQ a l = []
  | [], _ => rfl
  | x :: l, h => by
    have e : batS a [] x = [] := by
      unfold batS okQ
      rw [h x (by simp)]
      simp
    show l.foldl (batS a) (batS a [] x) = []
    rw [e]
    exact bat_skip a l (fun y hy => h y (by simp [hy]))
theorem bat_first {a : List Rp} {l : List Rq} {i : Nat} {r : Rq} (hr : l[i]? = some r) (hd : dueQ a r = true) (hb : ∀ x ∈ l.take i, dueQ a x = false) : (batQ a l)[0]? = some r := by
  have hi := (List.getElem?_eq_some_iff.1 hr).1
  have e : l = (l.take i ++ [r]) ++ l.drop (i + 1) := by
    rw [← take_snoc' hr, List.take_append_drop]
  have e2 : batQ a (l.take i ++ [r]) = [r] := by
    rw [bat_snoc, bat_skip a _ hb]
    unfold batS okQ
    rw [hd]
    simp
  rw [e]
  unfold batQ at e2 ⊢
  rw [List.foldl_append, e2]
  exact bat_keep a _ [r] r rfl
end Go.Proofs.Ytnpgloeldoiekaa
