/- Y0: layer 8: messages as lists, in memory. No project text. -/
import Derived.Test.YthejallmkcohpaaVA
import Derived.Test.YthejallmkcohpaaVH
import Derived.Test.YthejallmkcohpaaR2
import Derived.Stop.BytesEq
namespace Go.V
open Go.RowKit
structure Mg where
  k : Int
  f : Int
  v : Int
  r : Int
  s : Int
  h : List UInt8
  b : List UInt8
  ps : List (List UInt8)
/-- its cells: body and parts are slices -/
def Mg.l (m : Mg) (ub up : Value) : List Value := .int .i64 m.k :: .int .i64 m.f :: .int .i64 m.v :: .int .i64 m.r :: .int .i64 m.s :: (bvs m.h ++ [ub, up])
def Mg.val (m : Mg) (ub up : Value) : Value := .agg (m.l ub up).toArray
def un (x : Int) : Nat := (x % 18446744073709551616).toNat
theorem un_lt (x : Int) : un x < 18446744073709551616 := by unfold un; omega
theorem un_wrap (x : Int) : IntKind.u64.wrap x = (un x : Int) := by rw [IntKind.wrap_u64]; unfold un; omega
theorem un_nat (n : Nat) (h : n < 18446744073709551616) : un (n : Int) = n := by unfold un; omega
def tb1 (t : List UInt8) : List UInt8 := packed t.length ++ t
def numB (m : Mg) : Bool := decide (1 ≤ m.k ∧ m.k ≤ 12 ∧ 0 ≤ m.f ∧ m.f ≤ 15 ∧ 0 ≤ m.v ∧ m.v ≤ 60 ∧ 0 ≤ m.r ∧ m.r ≤ 40 ∧ 0 ≤ m.s ∧ m.s ≤ 60)
def longB (m : Mg) : Bool := decide (3000 < m.b.length ∨ 20 < m.ps.length ∨ ∃ t ∈ m.ps, 3000 < t.length)
theorem len_mg {m : Mg} (hh : m.h.length = 32) (ub up : Value) : (m.l ub up).length = 39 := by simp [Mg.l, bvs, hh]
theorem mg_body {m : Mg} (hh : m.h.length = 32) (ub up : Value) : (m.l ub up)[37]? = some ub := by
  have : (bvs m.h ++ [ub, up])[32]? = some ub := by rw [List.getElem?_append_right (by simp [bvs, hh])]; simp [bvs, hh]
  simpa [Mg.l] using this
theorem mg_parts {m : Mg} (hh : m.h.length = 32) (ub up : Value) : (m.l ub up)[38]? = some up := by
  have : (bvs m.h ++ [ub, up])[33]? = some up := by rw [List.getElem?_append_right (by simp [bvs, hh])]; simp [bvs, hh]
  simpa [Mg.l] using this
theorem mg_hash {m : Mg} (_hh : m.h.length = 32) (ub up : Value) (j : Nat) (v : Value) (hv : (bvs m.h)[j]? = some v) : (m.l ub up)[5 + j]? = some v := by
  have hj := (List.getElem?_eq_some_iff.1 hv).1
  have : (bvs m.h ++ [ub, up])[j]? = some v := by rw [List.getElem?_append_left hj]; exact hv
  rw [show 5 + j = j + 5 from by omega]
  simpa [Mg.l] using this
theorem one_mg {m : Mg} {A B : Option Addr} {n c k d : Nat} : ∀ v ∈ m.l (.slice A n c) (.slice B k d), v.oneCell' = true := by
  intro v hv
  simp only [Mg.l, List.mem_cons, List.mem_append] at hv
  rcases hv with rfl | rfl | rfl | rfl | rfl | hv | rfl | rfl | hv
  · rfl
  · rfl
  · rfl
  · rfl
  · rfl
  · exact oneCell_bvs _ v hv
  · rfl
  · rfl
  · cases hv
/-- a message's parts in a block: what the walk asks for -/
structure MgAt (w : World) (g : Nat) (t : TypeId) (m : Mg) (ub up : Value) : Prop where
  blk : Blk w g t (m.l ub up)
  len : m.h.length = 32
theorem own_join {w : World} {b : Nat} {e : TypeId} {v : Value} {p q : List UInt8} (h : w.ownsRow b e 1 v (p.length + q.length) (bvs p ++ bvs q)) : w.ownsRow b e 1 v (p ++ q).length (bvs (p ++ q)) := by
  rw [List.length_append, show bvs (p ++ q) = bvs p ++ bvs q from by simp [bvs]]
  exact h
theorem long_bd {m : Mg} (h : longB m = false) : m.b.length ≤ 3000 ∧ m.ps.length ≤ 20 ∧ ∀ t ∈ m.ps, t.length ≤ 3000 := by
  unfold longB at h
  rw [decide_eq_false_iff_not] at h
  refine ⟨by omega, by omega, fun t ht => ?_⟩
  rcases Nat.lt_or_ge 3000 t.length with h3 | h3
  · exact absurd (.inr (.inr ⟨t, ht, h3⟩)) h
  · exact h3
theorem len_tb1 {t : List UInt8} (h : t.length ≤ 3000) : (tb1 t).length ≤ 3010 := by
  have := psz_bd t.length
  unfold tb1
  rw [List.length_append, length_packed]
  omega
theorem len_parts : ∀ (ps : List (List UInt8)), (∀ t ∈ ps, t.length ≤ 3000) → (ps.flatMap tb1).length ≤ 3010 * ps.length
  | [], _ => by simp
  | t :: ps, h => by
    rw [List.flatMap_cons, List.length_append, List.length_cons]
    have h1 := len_tb1 (h t (by simp))
    have h2 := len_parts ps (fun x hx => h x (by simp [hx]))
    omega
theorem take_snocT {l : List (List UInt8)} {i : Nat} {r : List UInt8} (h : l[i]? = some r) : l.take (i + 1) = l.take i ++ [r] := by
  rw [List.take_add_one, h]; rfl
def in64w (x : Int) : Prop := -9223372036854775808 ≤ x ∧ x ≤ 9223372036854775807
structure MgIn (m : Mg) : Prop where
  k : in64w m.k
  f : in64w m.f
  v : in64w m.v
  r : in64w m.r
  s : in64w m.s
  h : m.h.length = 32
end Go.V
namespace Go.Proofs.Ythejallmkcohpaa
open Go.RowKit Go.V
def Mg.hd (m : Mg) : List UInt8 := ((((fixR 1 (un m.k) ++ fixR 1 (un m.f)) ++ fixR 2 (un m.v)) ++ fixR 2 (un m.r)) ++ fixR 2 (un m.s)) ++ m.h
def Mg.by (m : Mg) : List UInt8 := (((Mg.hd m) ++ (packed m.b.length ++ m.b)) ++ packed m.ps.length) ++ m.ps.flatMap tb1
theorem len_fixR1 (x : Nat) : (fixR 1 x).length = 1 := by unfold fixR; rw [if_pos (by unfold okN; omega)]; simp [fixB]
theorem len_fixR2 (x : Nat) : (fixR 2 x).length = 2 := by unfold fixR; rw [if_pos (by unfold okN; omega)]; simp [fixB]
theorem len_hd {m : Mg} (hh : m.h.length = 32) : (Mg.hd m).length = 40 := by
  unfold Mg.hd
  simp only [List.length_append, len_fixR1, len_fixR2, hh]
theorem eqH8 (p : List UInt8) (hp : p.length = 32) : ∀ W : World, (Op.equalIn 10000 23 (.agg (bvs p).toArray) (.agg (bvs p).toArray)).run Try.prog W = .ok true W := fun W => by
  have := run_equalIn_bytes (P := Try.prog) W 9998 23 5 32 Try.underlying23 Try.underlying5 Try.sizeOf5 p p hp hp
  rw [beq_self_eq_true] at this
  exact this
theorem sizeM : (Try.prog.info? 27).map (·.size) = some 39 := by kernel_rfl
end Go.Proofs.Ythejallmkcohpaa
