/- Cr: several texts in one (Zq Xh I5 Cr). -/
import Derived.Test.YtnhhbbjkeekneaaGreatDoorZp
import Derived.Test.YtnhhbbjkeekneaaGreatDoorOT
import Derived.Test.YtnhhbbjkeekneaaGreatDoorCo
/- Zq: layer 19, pure: what follows from what is told. No project text. -/
namespace Go.Proofs.YtnhhbbjkeekneaaGreatDoor
open Go.RowKit Go.V
theorem val_len (ks : List (List UInt8)) (R : List Hx) (V : Vc) (first : Int) (m : Mg) : (valC ks R V first m).2.d.length = 32 := by
  unfold valC
  repeat (first | rfl | split)
  all_goals first | rfl | exact len_sha _
/-- one who told, and what -/
structure To where
  f : Int
  b : Bd
  hh : b.d.length = 32
/-- the parts, one behind the other: who told what, or the error -/
def tkC (ks : List (List UInt8)) (R : List Hx) (V : Vc) (first reg : Int) : List To → List (List UInt8) → Except Int (List To)
  | a, [] => .ok a
  | a, X :: P => match opOf ks V X with
    | .error e => .error (e : Int)
    | .ok m => if m.k ≠ 5 ∨ m.r ≠ reg then .error 10
      else if a.any (fun t => decide (t.f = m.f)) = true then .error 7
      else if (valC ks R V first m).1 ≠ 0 then .error (valC ks R V first m).1
      else tkC ks R V first reg (a ++ [⟨m.f, (valC ks R V first m).2, val_len ks R V first m⟩]) P
def lasC (c : Int) (l : List To) : Int := l.foldl (fun c t => if t.b.l > c then t.b.l else c) c
def wanC (c : Int) (t : To) : Bool := decide (t.b.l = c) && t.b.h
def betC (l : List To) (t : To) : Option Nat → Bool
  | none => true
  | some j => match l[j]? with
    | none => false
    | some s => decide (t.b.r > s.b.r) || (decide (t.b.r = s.b.r) && decide (t.f < s.f))
def besC (l : List To) (c : Int) : Nat → Option Nat
  | 0 => none
  | i + 1 => match l[i]? with
    | none => besC l c i
    | some t => if (wanC c t && betC l t (besC l c i)) = true then some i else besC l c i
/-- a choice: the last slot, whether the next is bound, to which batch -/
structure Ci where
  l : Int
  h : Bool
  d : List UInt8
  b : List UInt8
def zCi : Ci := ⟨0, false, z32, []⟩
def ciL (x : Ci) (u : Value) : List Value := [.int .i64 x.l, .bool x.h] ++ bvs x.d ++ [u]
def folC (l : List To) : Ci := match l with
  | [] => zCi
  | t :: _ => match besC l (lasC t.b.l l) l.length with
    | none => ⟨lasC t.b.l l, false, z32, []⟩
    | some j => match l[j]? with
      | none => zCi
      | some s => ⟨lasC t.b.l l, true, s.b.d, s.b.b⟩
def choC (ks : List (List UInt8)) (R : List Hx) (V : Vc) (first reg : Int) (P : List (List UInt8)) : Ci × Int :=
  if enoN V.n V.m = 0 ∨ P.length < enoN V.n V.m ∨ 16 < P.length then (zCi, 12)
  else match tkC ks R V first reg [] P with
    | .error e => (zCi, e)
    | .ok l => (folC l, 0)
/-! steps -/
theorem bes_next {l : List To} {c : Int} {i : Nat} {t : To} (h : l[i]? = some t) : besC l c (i + 1) = if (wanC c t && betC l t (besC l c i)) = true then some i else besC l c i := by
  show (match l[i]? with | none => besC l c i | some t => if (wanC c t && betC l t (besC l c i)) = true then some i else besC l c i) = _
  rw [h]
theorem bes_lt {l : List To} {c : Int} : ∀ {i j : Nat}, besC l c i = some j → j < i ∧ ∃ t, l[j]? = some t ∧ wanC c t = true
  | 0, j, h => by cases h
  | i + 1, j, h => by
    cases ht : l[i]? with
    | none =>
      have h : besC l c i = some j := by
        have : besC l c (i + 1) = besC l c i := by
          show (match l[i]? with | none => besC l c i | some t => if (wanC c t && betC l t (besC l c i)) = true then some i else besC l c i) = _
          rw [ht]
        rw [← this]; exact h
      obtain ⟨h1, h2⟩ := bes_lt h
      exact ⟨by omega, h2⟩
    | some t =>
      rw [bes_next ht] at h
      split at h
      · rename_i hw
        injection h with h
        subst h
        rw [Bool.and_eq_true] at hw
        exact ⟨by omega, t, ht, hw.1⟩
      · obtain ⟨h1, h2⟩ := bes_lt h
        exact ⟨by omega, h2⟩
theorem bes_none {l : List To} {c : Int} : ∀ {i : Nat}, besC l c i = none → ∀ j, j < i → ∀ t, l[j]? = some t → wanC c t = false
  | 0, _, j, hj, _, _ => by omega
  | i + 1, h, j, hj, s, hs => by
    cases ht : l[i]? with
    | none =>
      have h : besC l c i = none := by
        have : besC l c (i + 1) = besC l c i := by
          show (match l[i]? with | none => besC l c i | some t => if (wanC c t && betC l t (besC l c i)) = true then some i else besC l c i) = _
          rw [ht]
        rw [← this]; exact h
      rcases Nat.lt_or_ge j i with hji | hji
      · exact bes_none h j hji s hs
      · have : j = i := by omega
        subst this
        rw [ht] at hs
        cases hs
    | some t =>
      rw [bes_next ht] at h
      split at h
      · cases h
      · rename_i hw
        rcases Nat.lt_or_ge j i with hji | hji
        · exact bes_none h j hji s hs
        · have : j = i := by omega
          subst this
          rw [ht] at hs
          injection hs with hs
          subst hs
          cases hq : wanC c t with
          | false => rfl
          | true =>
            exfalso
            apply hw
            rw [hq, h]
            rfl
/-! what is told by all -/
theorem las_ge (l : List To) : ∀ c : Int, c ≤ lasC c l ∧ ∀ t ∈ l, t.b.l ≤ lasC c l := by
  induction l with
  | nil => intro c; exact ⟨by unfold lasC; exact Int.le_refl _, fun t h => by cases h⟩
  | cons s l ih =>
    intro c
    have e : lasC c (s :: l) = lasC (if s.b.l > c then s.b.l else c) l := rfl
    rw [e]
    obtain ⟨h1, h2⟩ := ih (if s.b.l > c then s.b.l else c)
    have hc : c ≤ (if s.b.l > c then s.b.l else c) ∧ s.b.l ≤ (if s.b.l > c then s.b.l else c) := by split <;> omega
    refine ⟨by omega, fun t ht => ?_⟩
    rcases List.mem_cons.1 ht with rfl | ht
    · omega
    · exact h2 t ht
theorem tk_ok {ks : List (List UInt8)} {R : List Hx} {V : Vc} {first reg : Int} : ∀ {P : List (List UInt8)} {a l : List To}, tkC ks R V first reg a P = .ok l →
    l.length = a.length + P.length ∧ (∀ t ∈ a, t ∈ l) ∧ ∀ X ∈ P, ∃ m, opOf ks V X = .ok m ∧ (valC ks R V first m).1 = 0 ∧ (⟨m.f, (valC ks R V first m).2, val_len ks R V first m⟩ : To) ∈ l
  | [], a, l, h => by
    injection h with h
    subst h
    exact ⟨rfl, fun t ht => ht, fun X hX => by cases hX⟩
  | X :: P, a, l, h => by
    unfold tkC at h
    split at h
    · cases h
    · rename_i m hm
      split at h
      · cases h
      · split at h
        · cases h
        · split at h
          · cases h
          · rename_i _ _ hv
            obtain ⟨h1, h2, h3⟩ := tk_ok h
            refine ⟨by rw [h1]; simp only [List.length_append, List.length_cons, List.length_nil]; omega, fun t ht => h2 t (List.mem_append_left _ ht), fun Y hY => ?_⟩
            rcases List.mem_cons.1 hY with rfl | hY
            · exact ⟨m, hm, Decidable.not_not.1 hv, h2 _ (List.mem_append_right _ (List.mem_singleton.2 rfl))⟩
            · exact h3 Y hY
/-- no choice leaves the next slot free where one who told binds it, and nobody who told knows a later slot -/
theorem fol_mem {l : List To} {t : To} (h : t ∈ l) : t.b.l ≤ (folC l).l ∧ (t.b.l = (folC l).l → t.b.h = true → (folC l).h = true) := by
  match l, h with
  | s :: l, h =>
    have hge := (las_ge (s :: l) s.b.l).2 t h
    obtain ⟨i, hi⟩ := List.getElem?_of_mem h
    have hil : i < (s :: l).length := by
      rcases Nat.lt_or_ge i (s :: l).length with h | h
      · exact h
      · rw [List.getElem?_eq_none h] at hi; cases hi
    have e : folC (s :: l) = match besC (s :: l) (lasC s.b.l (s :: l)) (s :: l).length with
        | none => ⟨lasC s.b.l (s :: l), false, z32, []⟩
        | some j => match (s :: l)[j]? with
          | none => zCi
          | some x => ⟨lasC s.b.l (s :: l), true, x.b.d, x.b.b⟩ := rfl
    rw [e]
    cases hb : besC (s :: l) (lasC s.b.l (s :: l)) (s :: l).length with
    | none =>
      refine ⟨hge, fun h1 h2 => ?_⟩
      have := bes_none hb i hil t hi
      unfold wanC at this
      have h1 : t.b.l = lasC s.b.l (s :: l) := h1
      rw [h2, decide_eq_true h1] at this
      cases this
    | some j =>
      obtain ⟨_, x, hx, _⟩ := bes_lt hb
      dsimp only
      rw [hx]
      exact ⟨hge, fun _ _ => rfl⟩
theorem cho_bad {ks : List (List UInt8)} {R : List Hx} {V : Vc} {first reg : Int} {P : List (List UInt8)} (h : (choC ks R V first reg P).2 ≠ 0) : (choC ks R V first reg P).1 = zCi := by
  revert h
  unfold choC
  split
  · intro _; rfl
  · split
    · intro _; rfl
    · intro h; exact absurd rfl h
end Go.Proofs.YtnhhbbjkeekneaaGreatDoor
/- Xh: layer 19, pure: what follows, told by the members in their order. No project text. -/
namespace Go.Proofs.YtnhhbbjkeekneaaGreatDoor
open Go.RowKit Go.V
def regI : Option Nat → Int
  | none => -1
  | some r => (r : Int)
theorem reg_gr {ks : List (List UInt8)} {V : Vc} {m : Mg} {f : Nat → Bool} : ∀ (n : Nat), (∀ r, r < n → f r = decide (wriC ks V (r : Int) (m.s + 1) (shaF m.b) m.ps = 0)) → grF (-1) m.r f n = regI (regC ks V m (min m.r.toNat n))
  | 0, _ => by rw [Nat.min_zero]; rfl
  | n + 1, h => by
    have ih := reg_gr (ks := ks) (V := V) (m := m) (f := f) n (fun r hr => h r (by omega))
    by_cases hn : (n : Int) < m.r
    · have e1 : min m.r.toNat (n + 1) = n + 1 := by omega
      have e2 : min m.r.toNat n = n := by omega
      rw [e2] at ih
      rw [e1]
      unfold grF regC
      rw [h n (by omega), ih]
      by_cases hw : wriC ks V (n : Int) (m.s + 1) (shaF m.b) m.ps = 0
      · rw [if_pos hw, if_pos (by rw [decide_eq_true hw, decide_eq_true ⟨by omega, hn⟩]; rfl)]; rfl
      · rw [if_neg hw, if_neg (by rw [decide_eq_false hw, Bool.and_false]; exact Bool.false_ne_true)]
    · have e1 : min m.r.toNat (n + 1) = min m.r.toNat n := by omega
      rw [e1, ← ih]
      exact grF_skip (by rw [decide_eq_false (fun h : (-1 : Int) < _ ∧ _ => hn h.2)]; exact Bool.false_ne_true)
/-- the regency in which it binds -/
def bndI (b : Bd) : Int := if b.h = true then b.r else -1
/-- is x before y? -/
def gtB (x y : Bd) : Bool := decide (x.l > y.l ∨ (x.l = y.l ∧ bndI x > bndI y))
/-- the first of the greatest -/
def mxT (m : To) (l : List To) : To := l.foldl (fun m x => if gtB x.b m.b = true then x else m) m
def ciB (b : Bd) : Ci := ⟨b.l, b.h, b.d, b.b⟩
/-- what was told, in the members' order -/
def srtN (a : List To) (n : Nat) : List To := (List.range n).filterMap (fun (i : Nat) => a.find? (fun t => decide (t.f = (i : Int))))
def srtT (a : List To) : List To := srtN a 16
/-- what is told: if it doesn't bind, nothing else -/
def okB (b : Bd) : Prop := (b.h = true → 0 ≤ b.r) ∧ (b.h = false → b.d = z32 ∧ b.b = [])
structure TosIn (a : List To) : Prop where
  u : (a.map (fun t => t.f)).Nodup
  f : ∀ t ∈ a, 0 ≤ t.f ∧ t.f < 16
  ok : ∀ t ∈ a, okB t.b
theorem okB_z : okB zBd := ⟨fun h => Bool.noConfusion h, fun _ => ⟨rfl, rfl⟩⟩
theorem okB_f (l : Int) : okB ⟨l, false, 0, z32, []⟩ := ⟨fun h => Bool.noConfusion h, fun _ => ⟨rfl, rfl⟩⟩
theorem okB_t (l : Int) (r : Nat) (d b : List UInt8) : okB ⟨l, true, (r : Int), d, b⟩ := ⟨fun _ => Int.natCast_nonneg _, fun h => Bool.noConfusion h⟩
theorem val_ok (ks : List (List UInt8)) (R : List Hx) (V : Vc) (first : Int) (m : Mg) : okB (valC ks R V first m).2 := by
  unfold valC
  repeat (first | exact okB_z | exact okB_f _ | exact okB_t _ _ _ _ | split)
theorem tos_nil : TosIn [] := ⟨by simp, fun t h => (by cases h), fun t h => (by cases h)⟩
theorem TosIn.snoc {a : List To} (h : TosIn a) {t : To} (h1 : ¬ a.any (fun s => decide (s.f = t.f)) = true) (h2 : 0 ≤ t.f ∧ t.f < 16) (h3 : okB t.b) : TosIn (a ++ [t]) := by
  refine ⟨?_, fun s hs => ?_, fun s hs => ?_⟩
  · rw [List.map_append, List.nodup_append]
    refine ⟨h.u, by simp, fun x hx y hy e => h1 ?_⟩
    obtain ⟨s, hs, rfl⟩ := List.mem_map.1 hx
    have hy : y = t.f := by simpa using hy
    exact List.any_eq_true.2 ⟨s, hs, decide_eq_true (by rw [← hy]; exact e)⟩
  · rcases List.mem_append.1 hs with hs | hs
    · exact h.f s hs
    · rw [List.mem_singleton.1 hs]; exact h2
  · rcases List.mem_append.1 hs with hs | hs
    · exact h.ok s hs
    · rw [List.mem_singleton.1 hs]; exact h3
theorem TosIn.eq {a : List To} (h : TosIn a) {s t : To} (hs : s ∈ a) (ht : t ∈ a) (hf : s.f = t.f) : s = t := by
  obtain ⟨i, hi⟩ := List.getElem?_of_mem hs
  obtain ⟨j, hj⟩ := List.getElem?_of_mem ht
  have hu := h.u
  obtain ⟨hil, e1⟩ := List.getElem?_eq_some_iff.1 hi
  obtain ⟨hjl, e2⟩ := List.getElem?_eq_some_iff.1 hj
  have hij : i = j := by
    have h0 : i < (a.map (fun t => t.f)).length := by rw [List.length_map]; exact hil
    have h1 : j < (a.map (fun t => t.f)).length := by rw [List.length_map]; exact hjl
    refine (List.getElem_inj (h₀ := h0) (h₁ := h1) hu).1 ?_
    rw [List.getElem_map, List.getElem_map, e1, e2]
    exact hf
  subst hij
  rw [hi] at hj
  injection hj
/-- t is better than s -/
def betT (t s : To) : Prop := s.b.l < t.b.l ∨ (s.b.l = t.b.l ∧ (bndI s.b < bndI t.b ∨ (bndI s.b = bndI t.b ∧ t.f < s.f)))
theorem betT.trans {a b c : To} (h1 : betT a b) (h2 : betT b c) : betT a c := by
  unfold betT at *
  omega
def TopT (a : List To) (t : To) : Prop := t ∈ a ∧ ∀ s ∈ a, s ≠ t → betT t s
theorem srt_mem {a : List To} (h : TosIn a) (t : To) : t ∈ srtT a ↔ t ∈ a := by
  unfold srtT srtN
  rw [List.mem_filterMap]
  constructor
  · rintro ⟨i, _, hi⟩
    exact List.mem_of_find?_eq_some hi
  · intro ht
    have hf := h.f t ht
    refine ⟨t.f.toNat, by rw [List.mem_range]; omega, ?_⟩
    cases hx : a.find? (fun s => decide (s.f = ((t.f.toNat : Nat) : Int))) with
    | none =>
      have := List.find?_eq_none.1 hx t ht
      exact absurd (decide_eq_true (by omega)) this
    | some s =>
      have h1 := List.find?_some hx
      have h2 := List.mem_of_find?_eq_some hx
      have h1 := of_decide_eq_true h1
      rw [h.eq h2 ht (by omega)]
theorem srt_sorted (a : List To) : ∀ n, (srtN a n).Pairwise (fun s t => s.f < t.f) ∧ ∀ s ∈ srtN a n, s.f < (n : Int)
  | 0 => ⟨by unfold srtN; simp, fun s hs => by unfold srtN at hs; simp at hs⟩
  | n + 1 => by
    obtain ⟨h1, h2⟩ := srt_sorted a n
    have e : srtN a (n + 1) = srtN a n ++ (a.find? (fun t => decide (t.f = (n : Int)))).toList := by
      unfold srtN
      rw [List.range_succ, List.filterMap_append]
      cases hx : a.find? (fun t => decide (t.f = (n : Int))) <;> simp [hx]
    rw [e]
    cases hx : a.find? (fun t => decide (t.f = (n : Int))) with
    | none =>
      rw [Option.toList_none, List.append_nil]
      exact ⟨h1, fun s hs => by have := h2 s hs; omega⟩
    | some t =>
      have ht := List.find?_some hx
      have ht : t.f = (n : Int) := of_decide_eq_true ht
      have hnt : (n : Int) < ((n + 1 : Nat) : Int) := by omega
      refine ⟨List.pairwise_append.2 ⟨h1, by simp, fun s hs u hu => ?_⟩, fun s hs => ?_⟩
      · have hu : u = t := by simpa using hu
        subst hu
        have := h2 s hs
        omega
      · rcases List.mem_append.1 hs with hs | hs
        · have := h2 s hs
          omega
        · have hs : s = t := by simpa using hs
          subst hs
          omega
theorem mx_top : ∀ (l pre : List To) (m : To), m ∈ pre → (∀ s ∈ pre, s ≠ m → betT m s) → (∀ s ∈ pre, ∀ t ∈ l, s.f < t.f) → l.Pairwise (fun s t => s.f < t.f) → TopT (pre ++ l) (mxT m l)
  | [], pre, m, hm, hb, _, _ => by
    rw [List.append_nil]
    exact ⟨hm, hb⟩
  | x :: l, pre, m, hm, hb, hl, hp => by
    have hx := hl m hm x (by simp)
    obtain ⟨hp1, hp2⟩ := List.pairwise_cons.1 hp
    have e : pre ++ x :: l = (pre ++ [x]) ++ l := by simp
    have hpl : ∀ s ∈ pre ++ [x], ∀ t ∈ l, s.f < t.f := by
      intro s hs t ht
      rcases List.mem_append.1 hs with hs | hs
      · exact hl s hs t (List.mem_cons_of_mem _ ht)
      · rw [List.mem_singleton.1 hs]; exact hp1 t ht
    rw [e]
    show TopT _ (mxT (if gtB x.b m.b = true then x else m) l)
    by_cases hg : gtB x.b m.b = true
    · rw [if_pos hg]
      unfold gtB at hg
      have hg := of_decide_eq_true hg
      have hxm : betT x m := by unfold betT; omega
      refine mx_top l (pre ++ [x]) x (by simp) (fun s hs hne => ?_) hpl hp2
      rcases List.mem_append.1 hs with hs | hs
      · by_cases hsm : s = m
        · rw [hsm]; exact hxm
        · exact hxm.trans (hb s hs hsm)
      · exact absurd (List.mem_singleton.1 hs) hne
    · rw [if_neg hg]
      unfold gtB at hg
      rw [decide_eq_true_eq] at hg
      refine mx_top l (pre ++ [x]) m (List.mem_append_left _ hm) (fun s hs hne => ?_) hpl hp2
      rcases List.mem_append.1 hs with hs | hs
      · exact hb s hs hne
      · rw [List.mem_singleton.1 hs]
        unfold betT
        omega
theorem top_fol {a : List To} (h : TosIn a) {t : To} (ht : TopT a t) : folC a = ciB t.b := by
  obtain ⟨hm, hb⟩ := ht
  match a, hm with
  | s :: l, hm =>
    have hge := las_ge (s :: l) s.b.l
    obtain ⟨c, hc⟩ : ∃ c, c = lasC s.b.l (s :: l) := ⟨_, rfl⟩
    have hmem : ∃ u ∈ s :: l, u.b.l = c := by
      rw [hc]
      have : ∀ (l : List To) (c : Int), lasC c l = c ∨ ∃ u ∈ l, u.b.l = lasC c l := by
        intro l
        induction l with
        | nil => intro c; exact .inl rfl
        | cons x l ih =>
          intro c
          have e : lasC c (x :: l) = lasC (if x.b.l > c then x.b.l else c) l := rfl
          rw [e]
          rcases ih (if x.b.l > c then x.b.l else c) with h | ⟨u, hu, h⟩
          · by_cases hx : x.b.l > c
            · rw [if_pos hx] at h ⊢
              exact .inr ⟨x, by simp, h.symm⟩
            · rw [if_neg hx] at h ⊢
              exact .inl h
          · exact .inr ⟨u, List.mem_cons_of_mem _ hu, h⟩
      rcases this (s :: l) s.b.l with h | h
      · exact ⟨s, by simp, h.symm⟩
      · exact h
    rw [← hc] at hge
    have htl : t.b.l = c := by
      obtain ⟨u, hu, e⟩ := hmem
      have h1 := hge.2 t hm
      by_cases hut : u = t
      · rw [← hut]; exact e
      · have := hb u hu hut
        unfold betT at this
        omega
    have hf : folC (s :: l) = match besC (s :: l) c (s :: l).length with
        | none => ⟨c, false, z32, []⟩
        | some j => match (s :: l)[j]? with
          | none => zCi
          | some x => ⟨c, true, x.b.d, x.b.b⟩ := by rw [hc]; rfl
    rw [hf]
    obtain ⟨i, hi⟩ := List.getElem?_of_mem hm
    have hil := (List.getElem?_eq_some_iff.1 hi).1
    have hok := h.ok t hm
    cases hth : t.b.h with
    | false =>
      have hn : besC (s :: l) c (s :: l).length = none := by
        cases hx : besC (s :: l) c (s :: l).length with
        | none => rfl
        | some j =>
          exfalso
          obtain ⟨_, x, hj, hw⟩ := bes_lt hx
          unfold wanC at hw
          rw [Bool.and_eq_true, decide_eq_true_eq] at hw
          have hxm := List.mem_of_getElem? hj
          have hxo := (h.ok x hxm).1 hw.2
          by_cases hxt : x = t
          · rw [hxt] at hw; rw [hw.2] at hth; cases hth
          · have := hb x hxm hxt
            unfold betT at this
            have e1 : bndI x.b = x.b.r := if_pos hw.2
            have e2 : bndI t.b = -1 := by unfold bndI; rw [hth]; rfl
            omega
      rw [hn]
      dsimp only
      unfold ciB
      rw [(hok.2 hth).1, (hok.2 hth).2, htl, hth]
    | true =>
      have hwt : wanC c t = true := by unfold wanC; rw [hth, decide_eq_true htl]; rfl
      cases hx : besC (s :: l) c (s :: l).length with
      | none =>
        have := bes_none hx i hil t hi
        rw [hwt] at this
        cases this
      | some j =>
        have key : ∀ (n j : Nat), besC (s :: l) c n = some j → n ≤ (s :: l).length → ∀ k, k < n → k ≠ j → ∀ x y, (s :: l)[j]? = some x → (s :: l)[k]? = some y → wanC c y = true → y.b.r < x.b.r ∨ (y.b.r = x.b.r ∧ x.f ≤ y.f) := by
          intro n
          induction n with
          | zero => intro j h; cases h
          | succ n ih =>
            intro j hj hn k hk hkj x y hx hy hw
            obtain ⟨z, hz⟩ : ∃ z, (s :: l)[n]? = some z := ⟨_, List.getElem?_eq_getElem (by omega)⟩
            rw [bes_next hz] at hj
            split at hj
            · rename_i hwz
              injection hj with hj
              subst hj
              rw [hz] at hx
              injection hx with hx
              subst hx
              rw [Bool.and_eq_true] at hwz
              have hkn : k < n := by omega
              cases hb : besC (s :: l) c n with
              | none =>
                have := bes_none hb k hkn y hy
                rw [hw] at this
                cases this
              | some q =>
                obtain ⟨_, v, hv, hwv⟩ := bes_lt hb
                have h2 := hwz.2
                rw [hb] at h2
                unfold betC at h2
                dsimp only at h2
                rw [hv] at h2
                dsimp only at h2
                rw [Bool.or_eq_true, Bool.and_eq_true, decide_eq_true_eq, decide_eq_true_eq, decide_eq_true_eq] at h2
                by_cases hkq : k = q
                · subst hkq
                  rw [hv] at hy
                  injection hy with hy
                  subst hy
                  omega
                · have := ih q hb (by omega) k hkn hkq v y hv hy hw
                  omega
            · rename_i hwz
              by_cases hkn : k = n
              · subst hkn
                rw [hz] at hy
                injection hy with hy
                subst hy
                rw [hw, hj] at hwz
                unfold betC at hwz
                dsimp only at hwz
                rw [hx] at hwz
                dsimp only at hwz
                rw [Bool.true_and, Bool.or_eq_true, Bool.and_eq_true, decide_eq_true_eq, decide_eq_true_eq, decide_eq_true_eq] at hwz
                omega
              · exact ih j hj (by omega) k (by omega) hkj x y hx hy hw
        obtain ⟨hjl, x, hj, hwx⟩ := bes_lt hx
        dsimp only
        rw [hj]
        dsimp only
        have hxt : x = t := by
          by_cases hij : i = j
          · subst hij
            rw [hi] at hj
            injection hj with hj
            exact hj.symm
          · have h1 := key _ j hx (Nat.le_refl _) i hil hij x t hj hi hwt
            by_cases hne : x = t
            · exact hne
            · have h2 := hb x (List.mem_of_getElem? hj) hne
              unfold wanC at hwx
              rw [Bool.and_eq_true, decide_eq_true_eq] at hwx
              unfold betT at h2
              have e1 : bndI x.b = x.b.r := if_pos hwx.2
              have e2 : bndI t.b = t.b.r := if_pos hth
              omega
        subst hxt
        unfold ciB
        rw [hth, htl]
theorem fol_mx {a : List To} (h : TosIn a) {m : To} {l : List To} (hs : srtT a = m :: l) : folC a = ciB (mxT m l).b := by
  obtain ⟨hp, _⟩ := srt_sorted a 16
  have hp : (srtT a).Pairwise (fun s t => s.f < t.f) := hp
  rw [hs] at hp
  obtain ⟨hp1, hp2⟩ := List.pairwise_cons.1 hp
  have ht := mx_top l [m] m (by simp) (fun s hs hne => absurd (List.mem_singleton.1 hs) hne) (fun s hs t ht => by rw [List.mem_singleton.1 hs]; exact hp1 t ht) hp2
  refine top_fol h ⟨(srt_mem h _).1 (by rw [hs]; exact ht.1), fun s hs2 hne => ht.2 s (by have := (srt_mem h s).2 hs2; rw [hs] at this; exact this) hne⟩
end Go.Proofs.YtnhhbbjkeekneaaGreatDoor
/- I5: layer 1: the document's reading of a text. -/
namespace Go.Proofs.YtnhhbbjkeekneaaGreatDoor
open Go.RowKit Go.V
end Go.Proofs.YtnhhbbjkeekneaaGreatDoor
/- Cr: layer 17, the document's side: what ref08.Get and ref09.Open answer (a message and an error, in one struct). -/
namespace Go.Proofs.YtnhhbbjkeekneaaGreatDoor
open Go.RowKit Go.V
end Go.Proofs.YtnhhbbjkeekneaaGreatDoor
