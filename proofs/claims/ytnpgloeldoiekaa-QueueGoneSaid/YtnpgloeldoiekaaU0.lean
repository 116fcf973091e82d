/- U0: layer 14, pure: the service's values as lists, what an op comes to, their text. No project text. -/
import Derived.Test.YtnpgloeldoiekaaVA
import Derived.Test.YtnpgloeldoiekaaM1
namespace Go.V
open Go.RowKit
structure Cl where
  t : Bool
  n : Int
structure Ok where
  k : Int
  y : Int
  a : Int
  b : Int
def Cl.l (c : Cl) : List Value := [.bool c.t, .int .i64 c.n]
def Ok.l (o : Ok) : List Value := [.int .i64 o.k, .int .i64 o.y, .int .i64 o.a, .int .i64 o.b]
def cvs (c : List Cl) : List Value := c.flatMap Cl.l
def i64s (x : Int) : Prop := -9223372036854775808 ≤ x ∧ x ≤ 9223372036854775807
structure OkIn (o : Ok) : Prop where
  k : i64s o.k
  y : i64s o.y
  a : i64s o.a
  b : i64s o.b
/-- values that fit -/
structure ClIn (c : List Cl) : Prop where
  len : c.length = 16
  n : ∀ x ∈ c, i64s x.n
def zC : Cl := ⟨false, 0⟩
def nmC (c : Cl) : Option Int := if c.t = true then some c.n else none
/-- what counts of values -/
def nmF (c : List Cl) : List (Option Int) := c.map nmC
theorem len_cvs : ∀ (c : List Cl), (cvs c).length = 2 * c.length
  | [] => rfl
  | x :: c => by
    have := len_cvs c
    unfold cvs at this ⊢
    rw [List.flatMap_cons, List.length_append, this, List.length_cons]
    show 2 + 2 * c.length = _
    omega
theorem cvs_at : ∀ (c : List Cl) (i : Nat) (x : Cl), c[i]? = some x → (cvs c)[2 * i]? = some (.bool x.t) ∧ (cvs c)[2 * i + 1]? = some (.int .i64 x.n)
  | [], i, x, h => by simp at h
  | y :: c, 0, x, h => by simp at h; subst h; exact ⟨rfl, rfl⟩
  | y :: c, i + 1, x, h => by
    have h : c[i]? = some x := by simpa using h
    have := cvs_at c i x h
    exact this
theorem one_cvs (c : List Cl) : ∀ v ∈ cvs c, v.oneCell' = true := by
  intro v hv
  unfold cvs at hv
  obtain ⟨x, _, hx⟩ := List.mem_flatMap.1 hv
  simp only [Cl.l, List.mem_cons, List.not_mem_nil, or_false] at hx
  rcases hx with rfl | rfl <;> rfl
theorem cvs_set : ∀ (c : List Cl) (i : Nat) (x : Cl), i < c.length → cvs (c.set i x) = (cvs c).take (2 * i) ++ x.l ++ (cvs c).drop (2 * i + 2)
  | [], i, x, h => by simp at h
  | y :: c, 0, x, _ => rfl
  | y :: c, i + 1, x, h => by
    have ih := cvs_set c i x (by simpa using h)
    show y.l ++ cvs (c.set i x) = _
    rw [ih]
    rfl
theorem nm_set (c : List Cl) (i : Nat) (x : Cl) : nmF (c.set i x) = (nmF c).set i (nmC x) := by unfold nmF; rw [List.map_set]
theorem in_set {c : List Cl} (h : ClIn c) (i : Nat) {x : Cl} (hx : i64s x.n) : ClIn (c.set i x) := by
  refine ⟨by rw [List.length_set]; exact h.len, fun y hy => ?_⟩
  rcases List.mem_or_eq_of_mem_set hy with hy | rfl
  · exact h.n y hy
  · exact hx
def w64 (x : Int) : Int := IntKind.i64.wrap x
theorem w64_in (x : Int) : i64s (w64 x) := by
  unfold w64 i64s
  rw [IntKind.wrap_i64]
  omega
def goodK (o : Ok) : Prop := (0 ≤ o.y ∧ o.y ≤ 15) ∧ 1 ≤ o.k ∧ o.k ≤ 5
instance (o : Ok) : Decidable (goodK o) := by unfold goodK; exact inferInstance
/-- what an op comes to, of what its key has -/
def resK (o : Ok) (x : Option Int) : Bool × Int :=
  if o.k = 1 then (x.isSome, x.getD 0) else if o.k = 2 then (true, x.getD 0) else if o.k = 3 then (true, w64 (x.getD 0 + o.a))
  else if o.k = 4 then (if x = some o.a then (true, o.b) else (false, x.getD 0)) else (x.isSome, x.getD 0)
/-- what the key has behind it -/
def newK (o : Ok) (x : Option Int) : Option Int :=
  if o.k = 1 then x else if o.k = 2 then some o.a else if o.k = 3 then some (w64 (x.getD 0 + o.a))
  else if o.k = 4 then (if x = some o.a then some o.b else x) else none
def doK (s : List (Option Int)) (o : Ok) : List (Option Int) × (Bool × Int) :=
  if goodK o then (s.set o.y.toNat (newK o (s.getD o.y.toNat none)), resK o (s.getD o.y.toNat none)) else (s, (false, 0))
/-! the text -/
def cntK (s : List (Option Int)) : Nat := s.countP Option.isSome
def txtK : Nat → List (Option Int) → List UInt8
  | _, [] => []
  | k, none :: s => txtK (k + 1) s
  | k, some n :: s => (UInt8.ofNat k :: packed (foldN n)) ++ txtK (k + 1) s
def putK (s : List (Option Int)) : List UInt8 := packed (cntK s) ++ txtK 0 s
theorem packed_inj {x y : Nat} {p q : List UInt8} (hx : x < 18446744073709551616) (hy : y < 18446744073709551616) (h : packed x ++ p = packed y ++ q) : x = y ∧ p = q := by
  have h1 := readPk_packed x p hx
  have h2 := readPk_packed y q hy
  rw [h, h2] at h1
  injection h1 with h1
  injection h1 with h1 _
  subst h1
  exact ⟨rfl, List.append_cancel_left h⟩
theorem txtK_head : ∀ (s : List (Option Int)) (k : Nat) (c : UInt8) (r : List UInt8), k + s.length ≤ 256 → txtK k s = c :: r → k ≤ c.toNat
  | [], k, c, r, _, h => by cases h
  | none :: s, k, c, r, hk, h => by
    have := txtK_head s (k + 1) c r (by simp at hk; omega) h
    omega
  | some n :: s, k, c, r, hk, h => by
    injection h with h _
    rw [← h]
    simp at hk
    rw [UInt8.toNat_ofNat_of_lt' (by show k < 256; omega)]
    exact Nat.le_refl _
theorem txtK_inj : ∀ (s t : List (Option Int)) (k : Nat), s.length = t.length → k + s.length ≤ 256 → (∀ n, some n ∈ s → i64s n) → (∀ n, some n ∈ t → i64s n) → txtK k s = txtK k t → s = t
  | [], [], _, _, _, _, _, _ => rfl
  | [], _ :: _, _, h, _, _, _, _ => by simp at h
  | _ :: _, [], _, h, _, _, _, _ => by simp at h
  | none :: s, none :: t, k, hl, hk, hs, ht, h => by
    rw [txtK_inj s t (k + 1) (by simpa using hl) (by simp at hk; omega) (fun n hn => hs n (by simp [hn])) (fun n hn => ht n (by simp [hn])) h]
  | some n :: s, some m :: t, k, hl, hk, hs, ht, h => by
    have h : (UInt8.ofNat k :: packed (foldN n)) ++ txtK (k + 1) s = (UInt8.ofNat k :: packed (foldN m)) ++ txtK (k + 1) t := h
    injection h with _ h
    have hn := hs n (by simp)
    have hm := ht m (by simp)
    obtain ⟨h1, h2⟩ := packed_inj (foldN_lt n hn.1 hn.2) (foldN_lt m hm.1 hm.2) h
    have h3 : n = m := by rw [← unfoldZ_foldN n, ← unfoldZ_foldN m, h1]
    subst h3
    rw [txtK_inj s t (k + 1) (by simpa using hl) (by simp at hk; omega) (fun n hn => hs n (by simp [hn])) (fun n hn => ht n (by simp [hn])) h2]
  | none :: s, some m :: t, k, hl, hk, hs, ht, h => by
    have h : txtK (k + 1) s = UInt8.ofNat k :: (packed (foldN m) ++ txtK (k + 1) t) := h
    have := txtK_head s (k + 1) _ _ (by simp at hk; omega) h
    simp at hk
    rw [UInt8.toNat_ofNat_of_lt' (by show k < 256; omega)] at this
    omega
  | some n :: s, none :: t, k, hl, hk, hs, ht, h => by
    have h : UInt8.ofNat k :: (packed (foldN n) ++ txtK (k + 1) s) = txtK (k + 1) t := h
    have := txtK_head t (k + 1) _ _ (by simp at hk hl; omega) h.symm
    simp at hk
    rw [UInt8.toNat_ofNat_of_lt' (by show k < 256; omega)] at this
    omega
theorem putK_inj {s t : List (Option Int)} (hs : s.length = 16) (ht : t.length = 16) (h1 : ∀ n, some n ∈ s → i64s n) (h2 : ∀ n, some n ∈ t → i64s n) (h : putK s = putK t) : s = t := by
  have c1 : cntK s ≤ s.length := List.countP_le_length
  have c2 : cntK t ≤ t.length := List.countP_le_length
  exact txtK_inj s t 0 (by omega) (by omega) h1 h2 (packed_inj (by omega) (by omega) h).2
theorem nmF_in {c : List Cl} (h : ClIn c) : (nmF c).length = 16 ∧ ∀ n, some n ∈ nmF c → i64s n := by
  refine ⟨by unfold nmF; rw [List.length_map]; exact h.len, fun n hn => ?_⟩
  unfold nmF at hn
  obtain ⟨x, hx, he⟩ := List.mem_map.1 hn
  unfold nmC at he
  split at he
  · injection he with he; rw [← he]; exact h.n x hx
  · cases he
theorem nmF_at {c : List Cl} {i : Nat} {x : Cl} (h : c[i]? = some x) : (nmF c).getD i none = nmC x := by
  unfold nmF
  rw [List.getD_eq_getElem?_getD, List.getElem?_map, h]
  rfl
theorem txtK_snoc : ∀ (s : List (Option Int)) (k : Nat) (x : Option Int), txtK k (s ++ [x]) = txtK k s ++ txtK (k + s.length) [x]
  | [], k, x => by simp [txtK]
  | none :: s, k, x => by
    show txtK (k + 1) (s ++ [x]) = txtK (k + 1) s ++ txtK (k + (s.length + 1)) [x]
    rw [txtK_snoc s (k + 1) x, show k + 1 + s.length = k + (s.length + 1) by omega]
  | some n :: s, k, x => by
    show (UInt8.ofNat k :: packed (foldN n)) ++ txtK (k + 1) (s ++ [x]) = (UInt8.ofNat k :: packed (foldN n)) ++ txtK (k + 1) s ++ txtK (k + (s.length + 1)) [x]
    rw [txtK_snoc s (k + 1) x, show k + 1 + s.length = k + (s.length + 1) by omega, List.append_assoc]
theorem cntK_snoc (s : List (Option Int)) (x : Option Int) : cntK (s ++ [x]) = cntK s + (if x.isSome then 1 else 0) := by
  unfold cntK
  rw [List.countP_append]
  cases x <;> simp
theorem cntK_le (s : List (Option Int)) : cntK s ≤ s.length := List.countP_le_length
theorem nm_take (c : List Cl) (i : Nat) (x : Cl) (h : c[i]? = some x) : (nmF c).take (i + 1) = (nmF c).take i ++ [nmC x] := by
  unfold nmF
  rw [List.take_add_one, List.getElem?_map, h]
  rfl
theorem len_txtK : ∀ (s : List (Option Int)) (k : Nat), (txtK k s).length ≤ 11 * s.length
  | [], _ => Nat.zero_le _
  | none :: s, k => by have := len_txtK s (k + 1); show (txtK (k + 1) s).length ≤ _; simp only [List.length_cons]; omega
  | some n :: s, k => by
    have h1 := len_txtK s (k + 1)
    have h2 := psz_bd (foldN n)
    show ((UInt8.ofNat k :: packed (foldN n)) ++ txtK (k + 1) s).length ≤ _
    rw [List.length_append, List.length_cons, length_packed]
    simp only [List.length_cons]
    omega
theorem nm_len (c : List Cl) : (nmF c).length = c.length := List.length_map _
end Go.V
