/- JU: layer 13, pure: a book as what was entered, what was written by regency, what was accepted. -/
import Derived.Test.YtkoncjcnpconkaaJP
import Derived.Test.YtkoncjcnpconkaaJK
namespace Go.V
open Go.RowKit Go.Proofs
/-- what is kept of two votes: the first, but where it is none or of a lesser regency -/
def lateF (a m : Vt) : Vt := if a.k ≠ 0 ∧ ¬ (a.v < m.v ∨ m.v = a.v ∧ a.r < m.r) then a else m
def enS13 (a m : Vt) : Vt := if m.k = 1 then lateF a m else a
def enF13 (l : List Vt) : Vt := l.foldl enS13 zV
theorem enF13_snoc (l : List Vt) (m : Vt) : enF13 (l ++ [m]) = enS13 (enF13 l) m := by unfold enF13; rw [List.foldl_append]; rfl
theorem cmpK_le {x y : K2} : cmpK x y ≤ 0 ↔ ¬ (y.1.1 < x.1.1 ∨ x.1.1 = y.1.1 ∧ y.1.2 < x.1.2) := by
  unfold cmpK orZ cmpZ
  repeat' split
  all_goals omega
theorem lit64 {x : Int} (h : in64w x) : (Lit.int .i64 x).wf = true := by
  show (decide (IntKind.i64.min ≤ x) && decide (x ≤ IntKind.i64.max)) = true
  rw [Bool.and_eq_true, decide_eq_true_iff, decide_eq_true_iff]
  exact h
theorem vt_ext {a b : Vt} (h1 : a.k = b.k) (h2 : a.v = b.v) (h3 : a.r = b.r) (h4 : a.s = b.s) (h5 : a.h = b.h) (h6 : a.b = b.b) (h7 : a.ps = b.ps) : a = b := by
  cases a; cases b
  simp at h1 h2 h3 h4 h5 h6 h7
  subst h1 h2 h3 h4 h5 h6 h7
  rfl
theorem parts_reg {m : Vt} (h : partsV m = true) (hk : m.k = 1) : regV m.v m.r = m := by
  unfold partsV at h
  rw [decide_eq_true_iff] at h
  obtain ⟨h1, h2, h3, h4, h5, h6⟩ := h
  obtain ⟨h7, h8, h9⟩ := h5 hk
  exact vt_ext hk.symm rfl rfl (by show (0 : Int) = _; omega) h8.symm (List.eq_nil_of_length_eq_zero h9).symm (List.eq_nil_of_length_eq_zero (by rcases h6 with h | h <;> omega)).symm
/-- what is entered, and its regency -/
def InvE (a : Vt) (p : Int × Int) : Prop := (a = zV ∧ p = (-1, -1)) ∨ (a.k = 1 ∧ partsV a = true ∧ p = (a.v, a.r))
theorem inv_ent {a m : Vt} {p : Int × Int} (h : InvE a p) (hm : partsV m = true) : InvE (enS13 a m) (regS p m) := by
  by_cases hk : m.k = 1
  · rw [show enS13 a m = lateF a m from if_pos hk]
    have hf := fine_of hm
    rcases h with ⟨rfl, rfl⟩ | ⟨h1, h2, rfl⟩
    · rw [show lateF zV m = m from if_neg (fun h => h.1 rfl), regS_if (-1, -1) m ⟨hk, .inl (by have := hf.v; show (-1 : Int) < _; omega)⟩]
      exact .inr ⟨hk, hm, rfl⟩
    · by_cases hg : a.v < m.v ∨ m.v = a.v ∧ a.r < m.r
      · rw [show lateF a m = m from if_neg (fun h => h.2 hg), regS_if (a.v, a.r) m ⟨hk, hg⟩]
        exact .inr ⟨hk, hm, rfl⟩
      · rw [show lateF a m = a from if_pos ⟨by omega, hg⟩, regS_no (a.v, a.r) m (fun h => hg h.2)]
        exact .inr ⟨h1, h2, rfl⟩
  · rw [show enS13 a m = a from if_neg hk, regS_no p m (fun h => hk h.1)]
    exact h
theorem inv_go : ∀ (l : List Vt) (a : Vt) (p : Int × Int), InvE a p → (∀ m ∈ l, partsV m = true) → InvE (l.foldl enS13 a) (l.foldl regS p)
  | [], _, _, h, _ => h
  | m :: l, a, p, h, hf => inv_go l _ _ (inv_ent h (hf m (by simp))) (fun x hx => hf x (by simp [hx]))
theorem inv_all {l : List Vt} (hf : ∀ m ∈ l, partsV m = true) : InvE (enF13 l) (regF l) := inv_go l zV (-1, -1) (.inl ⟨rfl, rfl⟩) hf
theorem ent_pre {l : List Vt} (hf : ∀ m ∈ l, partsV m = true) : (if 0 ≤ (regF l).1 then [regV (regF l).1 (regF l).2] else []) = if (enF13 l).k ≠ 0 then [enF13 l] else [] := by
  rcases inv_all hf with ⟨h1, h2⟩ | ⟨h1, h2, h3⟩
  · rw [h1, h2]; rfl
  · have hv := (fine_of h2).v
    rw [h3, if_pos (by show 0 ≤ (enF13 l).v; omega), if_pos (by omega)]
    show [regV (enF13 l).v (enF13 l).r] = _
    rw [parts_reg h2 h1]
theorem ent_reg {l : List Vt} (hf : ∀ m ∈ l, partsV m = true) : (if (regF l).1 < 0 then ((0 : Int), (0 : Int)) else regF l) = ((enF13 l).v, (enF13 l).r) := by
  rcases inv_all hf with ⟨h1, h2⟩ | ⟨h1, h2, h3⟩
  · rw [h1, h2]; rfl
  · have hv := (fine_of h2).v
    rw [h3, if_neg (by show ¬ (enF13 l).v < 0; omega)]
/-- what the book holds of a slot's votes -/
def BkR (B : List Vt) (S : Int) (L : List (K2 × Vt)) (A : Vt) : Prop := (∀ x : K2, findS L x = B.find? (isW S x.1.1 x.1.2)) ∧ A = (accQ S B).getD zV
theorem bk_nil : BkR [] 0 [] zV := ⟨fun _ => rfl, rfl⟩
theorem acc_none (S : Int) : ∀ (l : List Vt), (∀ m ∈ l, ¬ (m.k = 3 ∧ m.s = S)) → accQ S l = none := by
  intro l
  unfold accQ
  have : ∀ (l : List Vt) (o : Option Vt), (∀ m ∈ l, ¬ (m.k = 3 ∧ m.s = S)) → l.foldl (accS S) o = o := by
    intro l
    induction l with
    | nil => intro o _; rfl
    | cons x l ih =>
      intro o h
      rw [List.foldl_cons, show accS S o x = o from if_neg (h x (by simp))]
      exact ih o (fun m hm => h m (by simp [hm]))
  exact this l none
theorem bk_begin {B : List Vt} {S : Int} (hS : slotF B < S) : BkR B S [] zV := by
  refine ⟨fun x => ?_, ?_⟩
  · have : B.find? (isW S x.1.1 x.1.2) = none := by
      rw [List.find?_eq_none]
      intro m hm h
      obtain ⟨h1, h2, _⟩ := isW_out h
      have := slotF_ge hm (by omega)
      omega
    rw [this]; rfl
  · rw [acc_none S B (fun m hm h => by have := slotF_ge hm (by omega); omega)]; rfl
/-- a vote that is none of a slot's -/
theorem bk_skip {B : List Vt} {S : Int} {L : List (K2 × Vt)} {A m : Vt} (h : BkR B S L A) (hk : m.k = 1) : BkR (B ++ [m]) S L A := by
  refine ⟨fun x => ?_, ?_⟩
  · rw [h.1 x, List.find?_append]
    have : [m].find? (isW S x.1.1 x.1.2) = none := by rw [List.find?_cons_of_neg (by rw [isW_no (by omega)]; simp)]; rfl
    rw [this, Option.or_none]
  · rw [h.2, accQ_snoc, show accS S (accQ S B) m = accQ S B from if_neg (by omega)]
theorem findS_cons (x s : K2) (m : Vt) (L : List (K2 × Vt)) : findS ((s, m) :: L) x = if s = x then some m else findS L x := by
  unfold findS
  rw [List.find?_cons]
  by_cases h : s = x
  · rw [if_pos h, show decide ((s, m).1 = x) = true from decide_eq_true h]; rfl
  · rw [if_neg h, show decide ((s, m).1 = x) = false from decide_eq_false h]
theorem findS_none {s : K2} {L : List (K2 × Vt)} (h : findS L s = none) : ∀ p ∈ L, p.1 ≠ s := by
  intro p hp e
  unfold findS at h
  rw [Option.map_eq_none_iff, List.find?_eq_none] at h
  exact h p hp (decide_eq_true e)
theorem bk_write {B : List Vt} {S : Int} {L : List (K2 × Vt)} {A m : Vt} {s : K2} (h : BkR B S L A) (hk : m.k = 2) (hs : m.s = S) (h1 : s.1.1 = m.v) (h2 : s.1.2 = m.r) (hn : findS L s = none) : BkR (B ++ [m]) S ((s, m) :: woS L s) A := by
  rw [woS_none (findS_none hn)]
  have hn2 := h.1 s
  rw [hn] at hn2
  refine ⟨fun x => ?_, ?_⟩
  · rw [findS_cons, List.find?_append]
    by_cases hx : s = x
    · subst hx
      rw [if_pos rfl, ← hn2, Option.none_or, List.find?_cons_of_pos (isW_mk hk hs h1.symm h2.symm)]
    · rw [if_neg hx, h.1 x]
      have : [m].find? (isW S x.1.1 x.1.2) = none := by rw [List.find?_cons_of_neg (by rw [isW_no (fun hh => hx (k2_ext (by omega) (by omega)))]; simp)]; rfl
      rw [this, Option.or_none]
  · rw [h.2, accQ_snoc, show accS S (accQ S B) m = accQ S B from if_neg (by omega)]
theorem bk_again {B : List Vt} {S : Int} {L : List (K2 × Vt)} {A m d : Vt} {s : K2} (h : BkR B S L A) (hk : m.k = 2) (h1 : s.1.1 = m.v) (h2 : s.1.2 = m.r) (hn : findS L s = some d) : BkR (B ++ [m]) S L A := by
  have hn2 := h.1 s
  rw [hn] at hn2
  refine ⟨fun x => ?_, ?_⟩
  · rw [h.1 x, List.find?_append]
    by_cases hx : s = x
    · subst hx
      rw [← hn2]; rfl
    · have : [m].find? (isW S x.1.1 x.1.2) = none := by rw [List.find?_cons_of_neg (by rw [isW_no (fun hh => hx (k2_ext (by omega) (by omega)))]; simp)]; rfl
      rw [this, Option.or_none]
  · rw [h.2, accQ_snoc, show accS S (accQ S B) m = accQ S B from if_neg (by omega)]
theorem bk_acc {B : List Vt} {S : Int} {L : List (K2 × Vt)} {A m : Vt} (h : BkR B S L A) (hk : m.k = 3) (hs : m.s = S) : BkR (B ++ [m]) S L (lateF A m) := by
  refine ⟨fun x => ?_, ?_⟩
  · rw [h.1 x, List.find?_append]
    have : [m].find? (isW S x.1.1 x.1.2) = none := by rw [List.find?_cons_of_neg (by rw [isW_no (by omega)]; simp)]; rfl
    rw [this, Option.or_none]
  · rw [h.2, accQ_snoc]
    unfold accS
    rw [if_pos ⟨hk, hs⟩]
    cases hq : accQ S B with
    | none => exact if_neg (fun h => h.1 rfl)
    | some y =>
      have hy := accQ_out (s := S) B none (fun y hy => by cases hy) hq
      show lateF y m = _
      by_cases hg : y.v < m.v ∨ m.v = y.v ∧ y.r < m.r
      · rw [show lateF y m = m from if_neg (fun h => h.2 hg)]
        show m = Option.getD (if _ then some m else some y) zV
        rw [if_pos hg]; rfl
      · rw [show lateF y m = y from if_pos ⟨by omega, hg⟩]
        show y = Option.getD (if _ then some m else some y) zV
        rw [if_neg hg]; rfl
/-- the slots -/
theorem slot_same {B : List Vt} {m : Vt} (h : m.k = 1 ∨ m.s ≤ slotF B) : slotF (B ++ [m]) = slotF B := by
  rw [slotF_snoc]; exact if_neg (by omega)
theorem slot_new {B : List Vt} {m : Vt} (h1 : 1 < m.k) (h : slotF B < m.s) : slotF (B ++ [m]) = m.s := by
  rw [slotF_snoc]; exact if_pos ⟨h1, h⟩
theorem ent_same {B : List Vt} {m : Vt} (h : m.k ≠ 1) : enF13 (B ++ [m]) = enF13 B := by rw [enF13_snoc]; exact if_neg h
theorem ent_new {B : List Vt} {m : Vt} (h : m.k = 1) : enF13 (B ++ [m]) = lateF (enF13 B) m := by rw [enF13_snoc]; exact if_pos h
/-! the keys, rising, lead to what was written in the document's order -/
def mk2 (v r : Int) : K2 := if h : (Lit.int .i64 v).wf = true ∧ (Lit.int .i64 r).wf = true then ⟨(v, r), h⟩ else default
theorem mk2_eq {v r : Int} (h1 : in64w v) (h2 : in64w r) : mk2 v r = ⟨(v, r), lit64 h1, lit64 h2⟩ := dif_pos ⟨lit64 h1, lit64 h2⟩
theorem mk2_1 {v r : Int} (h1 : in64w v) (h2 : in64w r) : (mk2 v r).1.1 = v ∧ (mk2 v r).1.2 = r := by rw [mk2_eq h1 h2]; exact ⟨rfl, rfl⟩
theorem small64 {x : Int} (h1 : 0 ≤ x) (h2 : x ≤ 1000) : in64w x := ⟨by omega, by omega⟩
def keyV (m : Vt) : K2 := mk2 m.v m.r
theorem wr_key {l : List Vt} {v r : Nat} {m : Vt} (hv : v < 61) (hr : r < 41) (h : wroteF l v r = some m) : (keyV m).1.1 = (v : Int) ∧ (keyV m).1.2 = (r : Int) := by
  obtain ⟨_, _, h3, h4⟩ := wroteF_out h
  have := mk2_1 (v := m.v) (r := m.r) (small64 (by omega) (by omega)) (small64 (by omega) (by omega))
  unfold keyV
  exact ⟨by rw [this.1, h3], by rw [this.2, h4]⟩
theorem pw_R (l : List Vt) (v : Nat) (hv : v < 61) : ∀ n, n ≤ 41 → ((wrotesR l v n).map keyV).Pairwise (fun x y => ltOf cmpK x y = true)
  | 0, _ => by unfold wrotesR; simp
  | n + 1, hn => by
    have e : wrotesR l v (n + 1) = wrotesR l v n ++ (wroteF l v n).toList := by
      unfold wrotesR
      rw [List.range_succ, List.flatMap_append, List.flatMap_singleton]
    rw [e, List.map_append, List.pairwise_append]
    refine ⟨pw_R l v hv n (by omega), ?_, ?_⟩
    · cases wroteF l v n <;> simp
    · intro x hx y hy
      obtain ⟨a, ha, rfl⟩ := List.mem_map.1 hx
      obtain ⟨b, hb, rfl⟩ := List.mem_map.1 hy
      obtain ⟨r, hr, h1⟩ := mem_wrotesR ha
      have h2 : wroteF l v n = some b := by simpa using hb
      have k1 := wr_key hv (by omega) h1
      have k2 := wr_key hv (by omega) h2
      rw [ltK]
      omega
theorem pw_F (l : List Vt) : ∀ n, n ≤ 61 → ((wrotesF l n).map keyV).Pairwise (fun x y => ltOf cmpK x y = true)
  | 0, _ => by unfold wrotesF; simp
  | n + 1, hn => by
    have e : wrotesF l (n + 1) = wrotesF l n ++ wrotesR l n 41 := by
      unfold wrotesF
      rw [List.range_succ, List.flatMap_append, List.flatMap_singleton]
    rw [e, List.map_append, List.pairwise_append]
    refine ⟨pw_F l n (by omega), pw_R l n (by omega) 41 (by omega), ?_⟩
    intro x hx y hy
    obtain ⟨a, ha, rfl⟩ := List.mem_map.1 hx
    obtain ⟨b, hb, rfl⟩ := List.mem_map.1 hy
    obtain ⟨v, r, hv, hr, h1⟩ := mem_wrotesF ha
    obtain ⟨r2, hr2, h2⟩ := mem_wrotesR hb
    have k1 := wr_key (by omega) hr h1
    have k2 := wr_key (by omega) hr2 h2
    rw [ltK]
    omega
theorem wrotes_sorted {B : List Vt} {L : List (K2 × Vt)} {A : Vt} {ss : List K2} (h : BkR B (slotF B) L A) (hf : ∀ m ∈ B, partsV m = true) (hu : (L.map (·.1)).Nodup) (hp : ss.Perm (L.map (·.1))) :
    (K2.sorted ss).map (fun x => (findS L x).getD zV) = wrotesF B 61 ∧ ∀ x ∈ K2.sorted ss, (findS L x).isSome = true := by
  have hmem : ∀ x, x ∈ L.map (·.1) ↔ (findS L x).isSome = true := by
    intro x
    constructor
    · intro hx
      cases hq : findS L x with
      | none =>
        obtain ⟨p, hp, rfl⟩ := List.mem_map.1 hx
        exact absurd rfl (findS_none hq p hp)
      | some d => rfl
    · intro hx
      cases hq : findS L x with
      | none => rw [hq] at hx; cases hx
      | some d =>
        unfold findS at hq
        rw [Option.map_eq_some_iff] at hq
        obtain ⟨p, hp, _⟩ := hq
        have h1 := List.find?_some hp
        exact List.mem_map.2 ⟨p, List.mem_of_find?_eq_some hp, of_decide_eq_true h1⟩
  have hfin : ∀ (x : K2) (d : Vt), findS L x = some d → x = keyV d ∧ wroteF B x.1.1 x.1.2 = some d ∧ partsV d = true := by
    intro x d hd
    rw [h.1 x] at hd
    obtain ⟨_, _, h3, h4⟩ := isW_out (List.find?_some hd)
    have hpd := hf d (List.mem_of_find?_eq_some hd)
    have hfd := fine_of hpd
    have := mk2_1 (v := d.v) (r := d.r) (small64 (by have := hfd.v; omega) (by have := hfd.v; omega)) (small64 (by have := hfd.r; omega) (by have := hfd.r; omega))
    exact ⟨k2_ext (by rw [keyV, this.1, h3]) (by rw [keyV, this.2, h4]), hd, hpd⟩
  have hkw : ∀ m ∈ wrotesF B 61, findS L (keyV m) = some m := by
    intro m hm
    obtain ⟨v, r, hv, hr, h1⟩ := mem_wrotesF hm
    have hk := wr_key hv hr h1
    rw [h.1 (keyV m), hk.1, hk.2]
    exact h1
  have hpm : (K2.sorted ss).Perm ((wrotesF B 61).map keyV) := by
    have h1 : (K2.sorted ss).Perm (L.map (·.1)) := (List.mergeSort_perm _ _).trans hp
    refine h1.trans ?_
    have hn2 : ((wrotesF B 61).map keyV).Nodup := (pw_F B 61 (Nat.le_refl _)).imp (fun {x y} hxy e => by subst e; rw [ltK] at hxy; omega)
    refine (List.perm_ext_iff_of_nodup hu hn2).2 (fun x => ?_)
    rw [hmem]
    constructor
    · intro hx
      cases hq : findS L x with
      | none => rw [hq] at hx; cases hx
      | some d =>
        obtain ⟨h1, h2, h3⟩ := hfin x d hq
        have hfd := fine_of h3
        obtain ⟨_, _, h5, h6⟩ := wroteF_out h2
        obtain ⟨v, hv⟩ : ∃ v : Nat, (v : Int) = x.1.1 := ⟨x.1.1.toNat, by have := hfd.v; omega⟩
        obtain ⟨r, hr⟩ : ∃ r : Nat, (r : Int) = x.1.2 := ⟨x.1.2.toNat, by have := hfd.r; omega⟩
        rw [h1]
        refine List.mem_map.2 ⟨d, wrotesF_mem (v := v) (r := r) (by have := hfd.v; omega) (by have := hfd.r; omega) (by rw [hv, hr]; exact h2), rfl⟩
    · intro hx
      obtain ⟨m, hm, rfl⟩ := List.mem_map.1 hx
      rw [hkw m hm]; rfl
  have hs1 : (K2.sorted ss).Pairwise (fun x y => (!(ltOf cmpK) y x) = true) := by
    refine List.pairwise_mergeSort (fun a b c h1 h2 => ?_) (fun a b => ?_) ss
    · rw [Bool.not_eq_true', ltK_no] at *
      omega
    · simp only [Bool.or_eq_true, Bool.not_eq_true', ltK_no]
      omega
  have hs2 : ((wrotesF B 61).map keyV).Pairwise (fun x y => (!(ltOf cmpK) y x) = true) := (pw_F B 61 (Nat.le_refl _)).imp (fun {x y} hxy => by rw [ltK] at hxy; rw [Bool.not_eq_true', ltK_no]; omega)
  have heq : K2.sorted ss = (wrotesF B 61).map keyV := by
    refine List.Perm.eq_of_pairwise (le := fun x y => (!(ltOf cmpK) y x) = true) ?_ hs1 hs2 hpm
    intro a b _ _ h1 h2
    exact totK a b (by simpa using h2) (by simpa using h1)
  refine ⟨?_, fun x hx => ?_⟩
  · rw [heq, List.map_map]
    refine (List.map_congr_left fun m hm => ?_).trans (List.map_id _)
    show (findS L (keyV m)).getD zV = m
    rw [hkw m hm]; rfl
  · rw [heq] at hx
    obtain ⟨m, hm, rfl⟩ := List.mem_map.1 hx
    rw [hkw m hm]; rfl
end Go.V
