/- AV: several texts in one (U0 Q1 W5 W8 A0 Q2 Q3 QA AV). -/
import Derived.Test.YtmjpkdehkdpdpaaDoorVA
import Derived.Test.YtmjpkdehkdpdpaaDoorM1
import Derived.Test.YtmjpkdehkdpdpaaDoorW4
import Derived.Test.YtmjpkdehkdpdpaaDoorR2
import Derived.Test.YtmjpkdehkdpdpaaDoorLW
/- U0: layer 14, pure: the service's values as lists, what an op comes to, their text. No project text. -/
namespace Go.V
open Go.RowKit
structure Cl where
  t : Bool
  n : Int
structure Ok where
  k : Int
  y : Int
  a : Int
  b : Int
def Cl.l (c : Cl) : List Value := [.bool c.t, .int .i64 c.n]
def Ok.l (o : Ok) : List Value := [.int .i64 o.k, .int .i64 o.y, .int .i64 o.a, .int .i64 o.b]
def cvs (c : List Cl) : List Value := c.flatMap Cl.l
def i64s (x : Int) : Prop := -9223372036854775808 ≤ x ∧ x ≤ 9223372036854775807
structure OkIn (o : Ok) : Prop where
  k : i64s o.k
  y : i64s o.y
  a : i64s o.a
  b : i64s o.b
/-- values that fit -/
structure ClIn (c : List Cl) : Prop where
  len : c.length = 16
  n : ∀ x ∈ c, i64s x.n
def zC : Cl := ⟨false, 0⟩
def nmC (c : Cl) : Option Int := if c.t = true then some c.n else none
/-- what counts of values -/
def nmF (c : List Cl) : List (Option Int) := c.map nmC
theorem len_cvs : ∀ (c : List Cl), (cvs c).length = 2 * c.length
  | [] => rfl
  | x :: c => by
    have := len_cvs c
    unfold cvs at this ⊢
    rw [List.flatMap_cons, List.length_append, this, List.length_cons]
    show 2 + 2 * c.length = _
    omega
theorem cvs_at : ∀ (c : List Cl) (i : Nat) (x : Cl), c[i]? = some x → (cvs c)[2 * i]? = some (.bool x.t) ∧ (cvs c)[2 * i + 1]? = some (.int .i64 x.n)
  | [], i, x, h => by simp at h
  | y :: c, 0, x, h => by simp at h; subst h; exact ⟨rfl, rfl⟩
  | y :: c, i + 1, x, h => by
    have h : c[i]? = some x := by simpa using h
    have := cvs_at c i x h
    exact this
theorem one_cvs (c : List Cl) : ∀ v ∈ cvs c, v.oneCell' = true := by
  intro v hv
  unfold cvs at hv
  obtain ⟨x, _, hx⟩ := List.mem_flatMap.1 hv
  simp only [Cl.l, List.mem_cons, List.not_mem_nil, or_false] at hx
  rcases hx with rfl | rfl <;> rfl
theorem cvs_set : ∀ (c : List Cl) (i : Nat) (x : Cl), i < c.length → cvs (c.set i x) = (cvs c).take (2 * i) ++ x.l ++ (cvs c).drop (2 * i + 2)
  | [], i, x, h => by simp at h
  | y :: c, 0, x, _ => rfl
  | y :: c, i + 1, x, h => by
    have ih := cvs_set c i x (by simpa using h)
    show y.l ++ cvs (c.set i x) = _
    rw [ih]
    rfl
theorem nm_set (c : List Cl) (i : Nat) (x : Cl) : nmF (c.set i x) = (nmF c).set i (nmC x) := by unfold nmF; rw [List.map_set]
theorem in_set {c : List Cl} (h : ClIn c) (i : Nat) {x : Cl} (hx : i64s x.n) : ClIn (c.set i x) := by
  refine ⟨by rw [List.length_set]; exact h.len, fun y hy => ?_⟩
  rcases List.mem_or_eq_of_mem_set hy with hy | rfl
  · exact h.n y hy
  · exact hx
def w64 (x : Int) : Int := IntKind.i64.wrap x
theorem w64_in (x : Int) : i64s (w64 x) := by
  unfold w64 i64s
  rw [IntKind.wrap_i64]
  omega
def goodK (o : Ok) : Prop := (0 ≤ o.y ∧ o.y ≤ 15) ∧ 1 ≤ o.k ∧ o.k ≤ 5
instance (o : Ok) : Decidable (goodK o) := by unfold goodK; exact inferInstance
/-- what an op comes to, of what its key has -/
def resK (o : Ok) (x : Option Int) : Bool × Int :=
  if o.k = 1 then (x.isSome, x.getD 0) else if o.k = 2 then (true, x.getD 0) else if o.k = 3 then (true, w64 (x.getD 0 + o.a))
  else if o.k = 4 then (if x = some o.a then (true, o.b) else (false, x.getD 0)) else (x.isSome, x.getD 0)
/-- what the key has behind it -/
def newK (o : Ok) (x : Option Int) : Option Int :=
  if o.k = 1 then x else if o.k = 2 then some o.a else if o.k = 3 then some (w64 (x.getD 0 + o.a))
  else if o.k = 4 then (if x = some o.a then some o.b else x) else none
def doK (s : List (Option Int)) (o : Ok) : List (Option Int) × (Bool × Int) :=
  if goodK o then (s.set o.y.toNat (newK o (s.getD o.y.toNat none)), resK o (s.getD o.y.toNat none)) else (s, (false, 0))
/-! the text -/
def cntK (s : List (Option Int)) : Nat := s.countP Option.isSome
def txtK : Nat → List (Option Int) → List UInt8
  | _, [] => []
  | k, none :: s => txtK (k + 1) s
  | k, some n :: s => (UInt8.ofNat k :: packed (foldN n)) ++ txtK (k + 1) s
def putK (s : List (Option Int)) : List UInt8 := packed (cntK s) ++ txtK 0 s
theorem packed_inj {x y : Nat} {p q : List UInt8} (hx : x < 18446744073709551616) (hy : y < 18446744073709551616) (h : packed x ++ p = packed y ++ q) : x = y ∧ p = q := by
  have h1 := readPk_packed x p hx
  have h2 := readPk_packed y q hy
  rw [h, h2] at h1
  injection h1 with h1
  injection h1 with h1 _
  subst h1
  exact ⟨rfl, List.append_cancel_left h⟩
theorem txtK_head : ∀ (s : List (Option Int)) (k : Nat) (c : UInt8) (r : List UInt8), k + s.length ≤ 256 → txtK k s = c :: r → k ≤ c.toNat
  | [], k, c, r, _, h => by cases h
  | none :: s, k, c, r, hk, h => by
    have := txtK_head s (k + 1) c r (by simp at hk; omega) h
    omega
  | some n :: s, k, c, r, hk, h => by
    injection h with h _
    rw [← h]
    simp at hk
    rw [UInt8.toNat_ofNat_of_lt' (by show k < 256; omega)]
    exact Nat.le_refl _
theorem txtK_inj : ∀ (s t : List (Option Int)) (k : Nat), s.length = t.length → k + s.length ≤ 256 → (∀ n, some n ∈ s → i64s n) → (∀ n, some n ∈ t → i64s n) → txtK k s = txtK k t → s = t
  | [], [], _, _, _, _, _, _ => rfl
  | [], _ :: _, _, h, _, _, _, _ => by simp at h
  | _ :: _, [], _, h, _, _, _, _ => by simp at h
  | none :: s, none :: t, k, hl, hk, hs, ht, h => by
    rw [txtK_inj s t (k + 1) (by simpa using hl) (by simp at hk; omega) (fun n hn => hs n (by simp [hn])) (fun n hn => ht n (by simp [hn])) h]
  | some n :: s, some m :: t, k, hl, hk, hs, ht, h => by
    have h : (UInt8.ofNat k :: packed (foldN n)) ++ txtK (k + 1) s = (UInt8.ofNat k :: packed (foldN m)) ++ txtK (k + 1) t := h
    injection h with _ h
    have hn := hs n (by simp)
    have hm := ht m (by simp)
    obtain ⟨h1, h2⟩ := packed_inj (foldN_lt n hn.1 hn.2) (foldN_lt m hm.1 hm.2) h
    have h3 : n = m := by rw [← unfoldZ_foldN n, ← unfoldZ_foldN m, h1]
    subst h3
    rw [txtK_inj s t (k + 1) (by simpa using hl) (by simp at hk; omega) (fun n hn => hs n (by simp [hn])) (fun n hn => ht n (by simp [hn])) h2]
  | none :: s, some m :: t, k, hl, hk, hs, ht, h => by
    have h : txtK (k + 1) s = UInt8.ofNat k :: (packed (foldN m) ++ txtK (k + 1) t) := h
    have := txtK_head s (k + 1) _ _ (by simp at hk; omega) h
    simp at hk
    rw [UInt8.toNat_ofNat_of_lt' (by show k < 256; omega)] at this
    omega
  | some n :: s, none :: t, k, hl, hk, hs, ht, h => by
    have h : UInt8.ofNat k :: (packed (foldN n) ++ txtK (k + 1) s) = txtK (k + 1) t := h
    have := txtK_head t (k + 1) _ _ (by simp at hk hl; omega) h.symm
    simp at hk
    rw [UInt8.toNat_ofNat_of_lt' (by show k < 256; omega)] at this
    omega
theorem putK_inj {s t : List (Option Int)} (hs : s.length = 16) (ht : t.length = 16) (h1 : ∀ n, some n ∈ s → i64s n) (h2 : ∀ n, some n ∈ t → i64s n) (h : putK s = putK t) : s = t := by
  have c1 : cntK s ≤ s.length := List.countP_le_length
  have c2 : cntK t ≤ t.length := List.countP_le_length
  exact txtK_inj s t 0 (by omega) (by omega) h1 h2 (packed_inj (by omega) (by omega) h).2
theorem nmF_in {c : List Cl} (h : ClIn c) : (nmF c).length = 16 ∧ ∀ n, some n ∈ nmF c → i64s n := by
  refine ⟨by unfold nmF; rw [List.length_map]; exact h.len, fun n hn => ?_⟩
  unfold nmF at hn
  obtain ⟨x, hx, he⟩ := List.mem_map.1 hn
  unfold nmC at he
  split at he
  · injection he with he; rw [← he]; exact h.n x hx
  · cases he
theorem nmF_at {c : List Cl} {i : Nat} {x : Cl} (h : c[i]? = some x) : (nmF c).getD i none = nmC x := by
  unfold nmF
  rw [List.getD_eq_getElem?_getD, List.getElem?_map, h]
  rfl
theorem txtK_snoc : ∀ (s : List (Option Int)) (k : Nat) (x : Option Int), txtK k (s ++ [x]) = txtK k s ++ txtK (k + s.length) [x]
  | [], k, x => by simp [txtK]
  | none :: s, k, x => by
    show txtK (k + 1) (s ++ [x]) = txtK (k + 1) s ++ txtK (k + (s.length + 1)) [x]
    rw [txtK_snoc s (k + 1) x, show k + 1 + s.length = k + (s.length + 1) by omega]
  | some n :: s, k, x => by
    show (UInt8.ofNat k :: packed (foldN n)) ++ txtK (k + 1) (s ++ [x]) = (UInt8.ofNat k :: packed (foldN n)) ++ txtK (k + 1) s ++ txtK (k + (s.length + 1)) [x]
    rw [txtK_snoc s (k + 1) x, show k + 1 + s.length = k + (s.length + 1) by omega, List.append_assoc]
theorem cntK_snoc (s : List (Option Int)) (x : Option Int) : cntK (s ++ [x]) = cntK s + (if x.isSome then 1 else 0) := by
  unfold cntK
  rw [List.countP_append]
  cases x <;> simp
theorem cntK_le (s : List (Option Int)) : cntK s ≤ s.length := List.countP_le_length
theorem nm_take (c : List Cl) (i : Nat) (x : Cl) (h : c[i]? = some x) : (nmF c).take (i + 1) = (nmF c).take i ++ [nmC x] := by
  unfold nmF
  rw [List.take_add_one, List.getElem?_map, h]
  rfl
theorem len_txtK : ∀ (s : List (Option Int)) (k : Nat), (txtK k s).length ≤ 11 * s.length
  | [], _ => Nat.zero_le _
  | none :: s, k => by have := len_txtK s (k + 1); show (txtK (k + 1) s).length ≤ _; simp only [List.length_cons]; omega
  | some n :: s, k => by
    have h1 := len_txtK s (k + 1)
    have h2 := psz_bd (foldN n)
    show ((UInt8.ofNat k :: packed (foldN n)) ++ txtK (k + 1) s).length ≤ _
    rw [List.length_append, List.length_cons, length_packed]
    simp only [List.length_cons]
    omega
theorem nm_len (c : List Cl) : (nmF c).length = c.length := List.length_map _
/-- no number where there is no value -/
def ZC (c : List Cl) : Prop := ∀ x ∈ c, x.t = false → x.n = 0
theorem zc_set {c : List Cl} (h : ZC c) (i : Nat) (x : Cl) (hx : x.t = false → x.n = 0) : ZC (c.set i x) := by
  intro y hy
  rcases List.mem_or_eq_of_mem_set hy with h1 | rfl
  · exact h y h1
  · exact hx
end Go.V
/- Q1: layer 7: requests; contracts of Right, formed, by the program and by the document. -/
namespace Go.V
open Go.RowKit
/-- a request: whose, its number, kind, key, A, B, its signature -/
structure Rq where
  c : Int
  s : Int
  k : Int
  y : Int
  a : Int
  b : Int
  g : List UInt8
def opV (k y a b : Int) : Value := .agg #[.int .i64 k, .int .i64 y, .int .i64 a, .int .i64 b]
def Rq.l (r : Rq) (u : Value) : List Value := [.int .i64 r.c, .int .i64 r.s, .int .i64 r.k, .int .i64 r.y, .int .i64 r.a, .int .i64 r.b, u]
def Rq.v (r : Rq) (u : Value) : Value := .agg #[.int .i64 r.c, .int .i64 r.s, .int .i64 r.k, .int .i64 r.y, .int .i64 r.a, .int .i64 r.b, u]
def rgtO (c k y a b : Int) : Bool := if c = 0 then decide (k = 6 ∧ y = 0 ∧ b = 0 ∧ 0 ≤ a ∧ a ≤ 65535) else decide (1 ≤ k ∧ k ≤ 5 ∧ 0 ≤ y ∧ y ≤ 15 ∧ ((k = 1 ∨ k = 5) → a = 0) ∧ (k = 4 ∨ b = 0))
def Rq.fm (r : Rq) : Bool := decide (0 ≤ r.c ∧ r.c ≤ 5 ∧ 1 ≤ r.s ∧ r.s ≤ 8 ∧ rgtO r.c r.k r.y r.a r.b = true ∧ r.g.length ≤ 1000)
end Go.V
namespace Go.Proofs.YtmjpkdehkdpdpaaDoor
open Go.RowKit Go.V
end Go.Proofs.YtmjpkdehkdpdpaaDoor
/- W5: layer 6: wakes, same, the law ViewsCounts. -/
namespace Go.Proofs.YtmjpkdehkdpdpaaDoor
open Go.RowKit Go.V
theorem leadZ_bd (n : Int) (M : Nat) (r : Int) : -1 ≤ leadZ n M r ∧ leadZ n M r < 16 := by
  unfold leadZ
  split
  · rename_i h
    have hz := rgt_sz h.1
    have hlt : r.toNat % szM M < szM M := Nat.mod_lt _ (by omega)
    obtain ⟨x, hx, hx16, _⟩ := mem_at M _ hlt
    rw [List.getD, hx]
    simp
    omega
  · omega
end Go.Proofs.YtmjpkdehkdpdpaaDoor
/- W8: layer 6: contracts of Next, by the program and by the document; the law ViewsNext. -/
namespace Go.Proofs.YtmjpkdehkdpdpaaDoor
open Go.RowKit Go.V
theorem zeroV : (Tryd.prog.info? 24).map (·.zero) = some (some (.agg [.int .i64 0, .int .u16 0].toArray)) := by kernel_rfl
theorem szM_0 : szM 0 = 0 := by decide
theorem rgt_ne {n : Int} {M : Nat} (h : rgt n M = true) : M ≠ 0 := by
  intro e
  subst e
  have := (rgt_sz h).2.2.1
  rw [szM_0] at this
  omega
/-- two views' cells -/
def vcs (n : Int) (M : Nat) : List Value := [.int .i64 n, .int .u16 (M : Int)]
/-- may the next view be that one? -/
def nxB (n : Int) (M : Nat) (k : Int) : Bool := rgt n M && decide (0 ≤ k ∧ k ≤ 65535) && rgt (n + 1) k.toNat
def nxR (n : Int) (M : Nat) (k : Int) : Value := if nxB n M k then .tuple #[vw (n + 1) k.toNat, .int .i64 0] else .tuple #[vw 0 0, .int .i64 3]
theorem nxR_no {n : Int} {M : Nat} {k : Int} (h : nxB n M k = false) : nxR n M k = .tuple #[.agg #[.int .i64 0, .int .u16 0], .int .i64 3] := by unfold nxR; rw [h]; rfl
/-- the parts of what Next answers -/
def nxN (n : Int) (M : Nat) (k : Int) : Int := if nxB n M k then n + 1 else 0
def nxM (n : Int) (M : Nat) (k : Int) : Nat := if nxB n M k then k.toNat else 0
theorem nxR_eq (n : Int) (M : Nat) (k : Int) : nxR n M k = .tuple #[vw (nxN n M k) (nxM n M k), .int .i64 (if nxB n M k then 0 else 3)] := by
  unfold nxR nxN nxM
  cases nxB n M k <;> rfl
theorem nxB_spec {n : Int} {M : Nat} {k : Int} (h : nxB n M k = true) : rgt n M = true ∧ 0 ≤ k ∧ k ≤ 65535 ∧ rgt (n + 1) k.toNat = true := by
  unfold nxB at h
  rw [Bool.and_eq_true, Bool.and_eq_true, decide_eq_true_iff] at h
  exact ⟨h.1.1, h.1.2.1, h.1.2.2, h.2⟩
end Go.Proofs.YtmjpkdehkdpdpaaDoor
/- A0: layer 15, pure: worlds, what a batch does. No project text. -/
namespace Go.Proofs.YtmjpkdehkdpdpaaDoor
open Go.RowKit Go.V
/-- a reply -/
structure Rp where
  c : Int
  s : Int
  k : Int
  o : Bool
  n : Int
structure Vw where
  n : Int
  m : Nat
deriving DecidableEq
/-- a world -/
structure Wo where
  s : Int
  f : Int
  v : Vw
  u : Vw
  c : List Cl
  a : List Rp
def Rp.l (r : Rp) : List Value := [.int .i64 r.c, .int .i64 r.s, .int .i64 r.k, .bool r.o, .int .i64 r.n]
def Vw.l (x : Vw) : List Value := [.int .i64 x.n, .int .u16 (x.m : Int)]
def Wo.l (W : Wo) : List Value := [.int .i64 W.s, .int .i64 W.f, .int .i64 W.v.n, .int .u16 (W.v.m : Int), .int .i64 W.u.n, .int .u16 (W.u.m : Int)] ++ (cvs W.c ++ W.a.flatMap Rp.l)
def ras (a : List Rp) : List Value := a.flatMap Rp.l
structure RpIn (r : Rp) : Prop where
  n : i64s r.n
structure WoIn (W : Wo) : Prop where
  s : i64s W.s
  f : i64s W.f
  v : i64s W.v.n ∧ W.v.m < 65536
  u : i64s W.u.n ∧ W.u.m < 65536
  c : ClIn W.c
  a : W.a.length = 6 ∧ ∀ r ∈ W.a, RpIn r
/-- what counts of it -/
structure We where
  s : Int
  f : Int
  v : Vw
  u : Vw
  c : List (Option Int)
  a : List Rp
def Wo.e (W : Wo) : We := ⟨W.s, W.f, W.v, W.u, nmF W.c, W.a⟩
def okR (r : Rq) : Ok := ⟨r.k, r.y, r.a, r.b⟩
/-- within a batch: the values, the last replies, the next view, the replies -/
structure Bt where
  c : List (Option Int)
  a : List Rp
  x : Vw
  o : List Rp
def lastS (a : List Rp) (c : Int) : Int := ((a[c.toNat]?).map Rp.s).getD 0
def dueR (a : List Rp) (r : Rq) : Bool := decide (0 ≤ r.c ∧ r.c ≤ 5) && rgtO r.c r.k r.y r.a r.b && decide (lastS a r.c < r.s)
def isNx (v x : Vw) (k : Int) : Bool := nxB v.n v.m k && decide (x = v)
def opW (v x : Vw) (c : List (Option Int)) (r : Rq) : List (Option Int) × Vw × Bool × Int :=
  if r.k = 6 then (if isNx v x r.a = true then (c, ⟨v.n + 1, r.a.toNat⟩, true, v.n + 1) else (c, x, false, 0))
  else ((doK c (okR r)).1, x, (doK c (okR r)).2.1, (doK c (okR r)).2.2)
def repW (v : Vw) (t : Int) (d : Bt) (r : Rq) : Rp := ⟨r.c, r.s, t, (opW v d.x d.c r).2.2.1, (opW v d.x d.c r).2.2.2⟩
def stepW (v : Vw) (t : Int) (d : Bt) (r : Rq) : Bt :=
  if dueR d.a r = true then ⟨(opW v d.x d.c r).1, d.a.set r.c.toNat (repW v t d r), (opW v d.x d.c r).2.1, d.o ++ [repW v t d r]⟩ else d
def batW (v : Vw) (t : Int) (d : Bt) (l : List Rq) : Bt := l.foldl (stepW v t) d
def begW (E : We) : Bt := ⟨E.c, E.a, E.v, []⟩
def endW (E : We) (d : Bt) : We := ⟨E.s + 1, if d.x = E.v then E.f else E.s + 2, d.x, E.v, d.c, d.a⟩
def doW (E : We) (l : List Rq) : We × List Rp := (endW E (batW E.v (E.s + 1) (begW E) l), (batW E.v (E.s + 1) (begW E) l).o)
def zRp (c : Nat) : Rp := ⟨(c : Int), 0, 0, false, 0⟩
def firstW (v : Vw) : Wo := ⟨0, 1, v, v, List.replicate 16 zC, (List.range 6).map zRp⟩
/-! sizes -/
theorem len_ras : ∀ (a : List Rp), (ras a).length = 5 * a.length
  | [] => rfl
  | x :: a => by
    have := len_ras a
    unfold ras at this ⊢
    rw [List.flatMap_cons, List.length_append, this, List.length_cons]
    show 5 + 5 * a.length = _
    omega
theorem len_wo {W : Wo} (h : WoIn W) : W.l.length = 68 := by
  have h1 := len_cvs W.c
  have h2 := len_ras W.a
  rw [h.c.len] at h1
  rw [h.a.1] at h2
  unfold ras at h2
  simp only [Wo.l, List.length_append, List.length_cons, List.length_nil, h1, h2]
theorem one_ras (a : List Rp) : ∀ v ∈ ras a, v.oneCell' = true := by
  intro v hv
  obtain ⟨x, _, hx⟩ := List.mem_flatMap.1 hv
  simp only [Rp.l, List.mem_cons, List.not_mem_nil, or_false] at hx
  rcases hx with rfl | rfl | rfl | rfl | rfl <;> rfl
theorem one_wo (W : Wo) : ∀ v ∈ W.l, v.oneCell' = true := by
  intro v hv
  unfold Wo.l at hv
  rcases List.mem_append.1 hv with hv | hv
  · simp only [List.mem_cons, List.not_mem_nil, or_false] at hv
    rcases hv with rfl | rfl | rfl | rfl | rfl | rfl <;> rfl
  · rcases List.mem_append.1 hv with hv | hv
    · exact one_cvs _ v hv
    · exact one_ras _ v hv
theorem ras_at : ∀ (a : List Rp) (i : Nat) (x : Rp), a[i]? = some x → ∀ j < 5, (ras a)[5 * i + j]? = x.l[j]?
  | [], i, x, h => by simp at h
  | y :: a, 0, x, h => by
    simp at h; subst h
    intro j hj
    show (y.l ++ ras a)[5 * 0 + j]? = _
    rw [Nat.mul_zero, Nat.zero_add]
    exact List.getElem?_append_left (by simpa [Rp.l] using hj)
  | y :: a, i + 1, x, h => by
    have h : a[i]? = some x := by simpa using h
    intro j hj
    have := ras_at a i x h j hj
    show (y.l ++ ras a)[5 * (i + 1) + j]? = _
    rw [List.getElem?_append_right (by simp [Rp.l]; omega), ← this]
    simp only [Rp.l, List.length_cons, List.length_nil]
    congr 1
    omega
theorem wo_at5 (W : Wo) (h : W.c.length = 16) {i : Nat} {x : Rp} (hx : W.a[i]? = some x) {j : Nat} (hj : j < 5) : W.l[38 + (5 * i + j)]? = x.l[j]? := by
  unfold Wo.l
  rw [List.getElem?_append_right (by simp; omega), List.getElem?_append_right (by rw [len_cvs, h]; simp; omega)]
  rw [len_cvs, h, ← ras_at _ _ _ hx _ hj]
  unfold ras
  congr 1
  simp
  omega
theorem wo_take (W : Wo) (h : WoIn W) : (W.l.drop 6).take 32 = cvs W.c ∧ W.l.drop 38 = ras W.a := by
  have h1 := len_cvs W.c
  rw [h.c.len] at h1
  unfold Wo.l
  refine ⟨?_, ?_⟩
  · show (cvs W.c ++ W.a.flatMap Rp.l).take 32 = _
    rw [show (32 : Nat) = (cvs W.c).length from h1.symm, List.take_left]
  · show (cvs W.c ++ W.a.flatMap Rp.l).drop 32 = _
    rw [show (32 : Nat) = (cvs W.c).length from h1.symm, List.drop_left]
    rfl
/-- how a world stands in cells -/
structure WoL (W : Wo) (l : List Value) : Prop where
  len : l.length = 68
  s : l[0]? = some (.int .i64 W.s)
  f : l[1]? = some (.int .i64 W.f)
  v : ∀ j x, (W.v.l)[j]? = some x → l[2 + j]? = some x
  u : ∀ j x, (W.u.l)[j]? = some x → l[4 + j]? = some x
  c : ∀ j x, (cvs W.c)[j]? = some x → l[6 + j]? = some x
  a : ∀ i r, W.a[i]? = some r → ∀ j x, r.l[j]? = some x → l[38 + i * 5 + j]? = some x
  one : ∀ x ∈ l, x.oneCell' = true
/-- the last replies, in one piece -/
theorem WoL.as {W : Wo} {l : List Value} (h : WoL W l) (h6 : W.a.length = 6) (q : Nat) (v : Value) (hv : (ras W.a)[q]? = some v) : l[38 + q]? = some v := by
  have hq : q < 30 := by
    rcases Nat.lt_or_ge q 30 with h | h'
    · exact h
    · rw [List.getElem?_eq_none (by rw [len_ras, h6]; omega)] at hv; cases hv
  obtain ⟨r, hr⟩ : ∃ r, W.a[q / 5]? = some r := ⟨_, List.getElem?_eq_getElem (by omega)⟩
  have := ras_at W.a (q / 5) r hr (q % 5) (Nat.mod_lt _ (by omega))
  rw [Nat.div_add_mod] at this
  have h2 := h.a _ r hr (q % 5) v (by rw [← this]; exact hv)
  rw [← h2]
  congr 1
  omega
theorem wol {W : Wo} (h : WoIn W) : WoL W W.l := by
  refine ⟨len_wo h, rfl, rfl, ?_, ?_, ?_, ?_, one_wo W⟩
  · intro j x hx
    match j with
    | 0 => exact hx
    | 1 => exact hx
    | j + 2 => simp [Vw.l] at hx
  · intro j x hx
    match j with
    | 0 => exact hx
    | 1 => exact hx
    | j + 2 => simp [Vw.l] at hx
  · intro j x hx
    have hj : j < (cvs W.c).length := by
      rcases Nat.lt_or_ge j (cvs W.c).length with h | h
      · exact h
      · rw [List.getElem?_eq_none h] at hx; cases hx
    unfold Wo.l
    rw [List.getElem?_append_right (by simp), List.getElem?_append_left (by simpa using hj)]
    rw [← hx]
    congr 1
    simp
  · intro i r hr j x hx
    have hj : j < 5 := by
      rcases Nat.lt_or_ge j 5 with h | h
      · exact h
      · rw [List.getElem?_eq_none (by simpa [Rp.l] using h)] at hx; cases hx
    rw [← hx, ← wo_at5 W h.c.len hr hj]
    congr 1
    omega
/-! what was done isn't done again -/
theorem due_rgt {a : List Rp} {r : Rq} (h : dueR a r = true) : 0 ≤ r.c ∧ r.c ≤ 5 ∧ lastS a r.c < r.s := by
  unfold dueR at h
  simp only [Bool.and_eq_true, decide_eq_true_eq] at h
  exact ⟨h.1.1.1, h.1.1.2, h.2⟩
theorem last_set {a : List Rp} {c : Nat} (hc : c < a.length) (p : Rp) (x : Int) (hx : 0 ≤ x) : lastS (a.set c p) x = if x = (c : Int) then p.s else lastS a x := by
  unfold lastS
  by_cases h : x = (c : Int)
  · subst h
    rw [if_pos rfl, Int.toNat_natCast, List.getElem?_set_self hc]
    rfl
  · rw [if_neg h, List.getElem?_set_ne (by omega)]
theorem step_len (v : Vw) (t : Int) (d : Bt) (r : Rq) : (stepW v t d r).a.length = d.a.length := by
  unfold stepW
  split
  · exact List.length_set
  · rfl
theorem step_last (v : Vw) (t : Int) (d : Bt) (r : Rq) (h : d.a.length = 6) (x : Int) (hx : 0 ≤ x) : lastS d.a x ≤ lastS (stepW v t d r).a x := by
  unfold stepW
  split
  · rename_i hd
    obtain ⟨h0, h5, hs⟩ := due_rgt hd
    show _ ≤ lastS (d.a.set r.c.toNat _) x
    rw [last_set (by omega) _ _ hx]
    split
    · rename_i he
      rw [show x = r.c by omega]
      exact Int.le_of_lt hs
    · exact Int.le_refl _
  · exact Int.le_refl _
theorem bat_len (v : Vw) (t : Int) : ∀ (l : List Rq) (d : Bt), (batW v t d l).a.length = d.a.length
  | [], _ => rfl
  | r :: l, d => (bat_len v t l (stepW v t d r)).trans (step_len v t d r)
theorem bat_last (v : Vw) (t : Int) (x : Int) (hx : 0 ≤ x) : ∀ (l : List Rq) (d : Bt), d.a.length = 6 → lastS d.a x ≤ lastS (batW v t d l).a x
  | [], _, _ => Int.le_refl _
  | r :: l, d, h => Int.le_trans (step_last v t d r h x hx) (bat_last v t x hx l _ ((step_len v t d r).trans h))
/-- behind it, nothing of a batch is due -/
theorem step_done (v : Vw) (t : Int) (d : Bt) (r : Rq) (h : d.a.length = 6) : dueR (stepW v t d r).a r = false := by
  cases hd : dueR d.a r with
  | false => unfold stepW; rw [hd]; exact hd
  | true =>
    obtain ⟨h0, h5, hs⟩ := due_rgt hd
    have e : lastS (stepW v t d r).a r.c = r.s := by
      unfold stepW
      rw [if_pos hd]
      show lastS (d.a.set r.c.toNat _) r.c = _
      rw [last_set (by omega) _ _ h0, if_pos (by omega)]
      rfl
    unfold dueR
    rw [e, decide_eq_false (Int.lt_irrefl _)]
    simp
theorem due_mono {a b : List Rp} {r : Rq} (h : ∀ x, 0 ≤ x → lastS a x ≤ lastS b x) (hd : dueR a r = false) : dueR b r = false := by
  cases hb : dueR b r with
  | false => rfl
  | true =>
    obtain ⟨h0, h5, hs⟩ := due_rgt hb
    have := h r.c h0
    unfold dueR at hd hb
    simp only [Bool.and_eq_true, decide_eq_true_eq] at hb
    rw [decide_eq_true hb.1.1, hb.1.2, decide_eq_true (by omega)] at hd
    cases hd
theorem bat_done (v : Vw) (t : Int) : ∀ (l : List Rq) (d : Bt), d.a.length = 6 → ∀ r ∈ l, dueR (batW v t d l).a r = false
  | [], _, _, r, hr => by simp at hr
  | q :: l, d, h, r, hr => by
    have h' := (step_len v t d q).trans h
    rcases List.mem_cons.1 hr with rfl | hr
    · exact due_mono (fun x hx => bat_last v t x hx l _ h') (step_done v t d r h)
    · exact bat_done v t l _ h' r hr
theorem bat_idle (v : Vw) (t : Int) : ∀ (l : List Rq) (d : Bt), (∀ r ∈ l, dueR d.a r = false) → batW v t d l = d
  | [], _, _ => rfl
  | r :: l, d, h => by
    have e : stepW v t d r = d := by unfold stepW; rw [h r (by simp)]; rfl
    show batW v t (stepW v t d r) l = d
    rw [e]
    exact bat_idle v t l d (fun q hq => h q (by simp [hq]))
/-- is nothing of a batch due? -/
def idle (E : We) (l : List Rq) : Prop := ∀ r ∈ l, dueR E.a r = false
theorem do_idle {E : We} {l : List Rq} (h : idle E l) : doW E l = (⟨E.s + 1, E.f, E.v, E.v, E.c, E.a⟩, []) := by
  have e := bat_idle E.v (E.s + 1) l (begW E) h
  unfold doW
  rw [e]
  unfold endW begW
  rw [if_pos rfl]
theorem do_len (E : We) (l : List Rq) : (doW E l).1.a.length = E.a.length := bat_len _ _ l (begW E)
theorem do_last (E : We) (l : List Rq) (h : E.a.length = 6) (x : Int) (hx : 0 ≤ x) : lastS E.a x ≤ lastS (doW E l).1.a x := bat_last _ _ x hx l (begW E) h
theorem do_done (E : We) (l : List Rq) (h : E.a.length = 6) : idle (doW E l).1 l := bat_done _ _ l (begW E) h
theorem idle_do {E : We} {l m : List Rq} (h : E.a.length = 6) (hi : idle E l) : idle (doW E m).1 l := fun r hr => due_mono (fun x hx => do_last E m h x hx) (hi r hr)
/-! the view -/
theorem bat_x (v : Vw) (t : Int) : ∀ (l : List Rq) (d : Bt), (d.x = v ∨ d.x.n = v.n + 1) → (batW v t d l).x = v ∨ (batW v t d l).x.n = v.n + 1
  | [], _, h => h
  | r :: l, d, h => by
    refine bat_x v t l (stepW v t d r) ?_
    unfold stepW
    split
    · unfold opW
      split
      · split
        · exact .inr rfl
        · exact h
      · exact h
    · exact h
theorem do_view (E : We) (l : List Rq) : (doW E l).1.v = E.v ∧ (doW E l).1.f = E.f ∨ (doW E l).1.v.n = E.v.n + 1 ∧ (doW E l).1.v ≠ E.v ∧ (doW E l).1.f = (doW E l).1.s + 1 := by
  have h := bat_x E.v (E.s + 1) l (begW E) (.inl rfl)
  unfold doW endW
  dsimp only
  rcases h with h | h
  · exact .inl ⟨h, if_pos h⟩
  · have hne : (batW E.v (E.s + 1) (begW E) l).x ≠ E.v := fun e => by rw [e] at h; omega
    refine .inr ⟨h, hne, ?_⟩
    rw [if_neg hne]
    omega
end Go.Proofs.YtmjpkdehkdpdpaaDoor
/- Q2: layer 7: contracts of formed, by the program and by the document. -/
namespace Go.Proofs.YtmjpkdehkdpdpaaDoor
open Go.RowKit Go.V
theorem fm_false {r : Rq} (h : r.c < 0 ∨ 6 ≤ r.c ∨ r.s < 1 ∨ 9 ≤ r.s) : r.fm = false := by
  unfold Rq.fm
  rw [decide_eq_false_iff_not]
  omega
end Go.Proofs.YtmjpkdehkdpdpaaDoor
/- Q3: layer 7: a request's text: contracts of Text, by the program and by the document. -/
namespace Go.V
open Go.RowKit
def in64 (x : Int) : Prop := -9223372036854775808 ≤ x ∧ x ≤ 9223372036854775807
def Rq.four (r : Rq) : List UInt8 := [UInt8.ofNat r.c.toNat, UInt8.ofNat r.s.toNat, UInt8.ofNat r.k.toNat, UInt8.ofNat r.y.toNat]
def Rq.text (r : Rq) : List UInt8 := (r.four ++ packed (foldN r.a)) ++ packed (foldN r.b)
def Rq.txt (r : Rq) : List UInt8 := if r.fm then r.text else []
theorem fm_bd {r : Rq} (h : r.fm = true) : ∃ c s k y : Nat, r.c = c ∧ r.s = s ∧ r.k = k ∧ r.y = y ∧ c ≤ 5 ∧ 1 ≤ s ∧ s ≤ 8 ∧ k ≤ 6 ∧ y ≤ 15 ∧ r.g.length ≤ 1000 := by
  unfold Rq.fm at h
  rw [decide_eq_true_iff] at h
  obtain ⟨h1, h2, h3, h4, h5, h6⟩ := h
  have hk : 0 ≤ r.k ∧ r.k ≤ 6 ∧ 0 ≤ r.y ∧ r.y ≤ 15 := by
    unfold rgtO at h5
    split at h5
    · rw [decide_eq_true_iff] at h5; omega
    · rw [decide_eq_true_iff] at h5; omega
  exact ⟨r.c.toNat, r.s.toNat, r.k.toNat, r.y.toNat, by omega, by omega, by omega, by omega, by omega, by omega, by omega, by omega, by omega, h6⟩
theorem len_four (r : Rq) : r.four.length = 4 := rfl
theorem len_text (r : Rq) : r.text.length ≤ 24 ∧ 6 ≤ r.text.length := by
  unfold Rq.text
  have h1 := psz_bd (foldN r.a)
  have h2 := psz_bd (foldN r.b)
  rw [List.length_append, List.length_append, length_packed, length_packed, len_four]
  omega
end Go.V
namespace Go.Proofs.YtmjpkdehkdpdpaaDoor
open Go.RowKit Go.V
theorem fix1_eq (n : Nat) (h : n < 256) : fixR 1 n = [UInt8.ofNat n] := by
  unfold fixR
  rw [if_pos (by unfold okN; omega)]
  simp [fixB, List.range_succ, Nat.mod_eq_of_lt h]
theorem four_at (c s k y : Nat) (hc : c < 256) (hs : s < 256) (hk : k < 256) (hy : y < 256) (i : Nat) (hi : i < 4) : ∃ n : Nat, n < 256 ∧ ([.int .i64 (c : Int), .int .i64 (s : Int), .int .i64 (k : Int), .int .i64 (y : Int)] : List Value)[i]? = some (.int .i64 (n : Int)) ∧
    [UInt8.ofNat c, UInt8.ofNat s, UInt8.ofNat k, UInt8.ofNat y].take (i + 1) = [UInt8.ofNat c, UInt8.ofNat s, UInt8.ofNat k, UInt8.ofNat y].take i ++ [UInt8.ofNat n] := by
  match i, hi with
  | 0, _ => exact ⟨c, hc, rfl, rfl⟩
  | 1, _ => exact ⟨s, hs, rfl, rfl⟩
  | 2, _ => exact ⟨k, hk, rfl, rfl⟩
  | 3, _ => exact ⟨y, hy, rfl, rfl⟩
end Go.Proofs.YtmjpkdehkdpdpaaDoor
/- QA: layer 7: lists of requests in memory, rising lists. No project text. -/
namespace Go.V
open Go.RowKit
section
variable {P : Program} {w : World} {ops : Array Oper} {rest : List Oper} {o : Oper} {a : Act} {Q : Exit → Act → World → Prop}
/-- 'make([]T, 0, c)', T a struct or an array -/
theorem wp_mk0W {t e : TypeId} {z : List Value} {sz by_ : Nat} (ht : SlW P t e z sz by_) (x y : Operand) (hgd : o.guard = none) (ho : o.op = .makeSlice t x y) (c : Nat)
    (hx : a.eval x = .int .i64 0) (hy : a.eval y = .int .i64 (c : Int)) (hb : by_ * c ≤ 281474976710656) (hm : c ≤ maxLen)
    (h : ∀ w', w'.ownsRow w.heap.size e sz (.slice (some ⟨w.heap.size, 0, none⟩) 0 c) 0 [] → Below w.heap.size w w' → wpList P ops Q rest (a.put o.dst (.slice (some ⟨w.heap.size, 0, none⟩) 0 c)) w') : wpList P ops Q (o :: rest) a w := by
  refine wpList_plain hgd fun K hK => ?_
  obtain ⟨i, hi, hzz, hsz, hby⟩ := ht.inf
  have h63 : (c : Int) ≤ 9223372036854775807 := by simp [maxLen] at hm; omega
  have hb' : (i.bytes : Int) * (c : Int) ≤ 281474976710656 := by
    have : ((i.bytes * c : Nat) : Int) ≤ 281474976710656 := by rw [hby]; omega
    rwa [Int.natCast_mul] at this
  have hr := run_make (P := P) (w := w) t e i (.agg z.toArray) ht.sl hi hzz .i64 .i64 0 c (by omega) (by omega) hb' h63
  unfold Oper.wp execOp
  simp only [ho, hx, hy, Sem.run_bind, Sem.run_pure, hr, Result.andThen_ok]
  refine hK _ _ ?_
  have e0 : (0 : Int).toNat = 0 := rfl
  simp only [Int.toNat_natCast, e0]
  exact h _ (World.ownsRow_made w _ c (Nat.le_refl _) hm (by simp [madeCells, hsz])) ((Below.refl _ _).alloc (Nat.le_refl _) _)
end
/-- a list of requests as data -/
def rqD (r : Rq) : List Dat := [.atom (.int .i64 r.c), .atom (.int .i64 r.s), .atom (.int .i64 r.k), .atom (.int .i64 r.y), .atom (.int .i64 r.a), .atom (.int .i64 r.b), bys r.g]
def rqs (l : List Rq) : Dat := .sl l.length (l.flatMap rqD)
theorem rdC_cons {w : World} {F : Nat → Prop} {g : Nat} (d : Dat) (ds : List Dat) (off : Nat) : RdC w F g off (d :: ds) ↔ (∃ u, w.cell? ⟨g, off, none⟩ = some u ∧ Rd w F u d) ∧ RdC w F g (off + 1) ds := by
  rw [RdC]
theorem rdC_app {w : World} {F : Nat → Prop} {g : Nat} : ∀ (x y : List Dat) (off : Nat), RdC w F g off (x ++ y) ↔ RdC w F g off x ∧ RdC w F g (off + x.length) y
  | [], y, off => by simp [RdC]
  | d :: x, y, off => by
    rw [List.cons_append, rdC_cons, rdC_cons, rdC_app x y (off + 1), List.length_cons, show off + 1 + x.length = off + (x.length + 1) from by omega, and_assoc]
theorem rdC_rq {w : World} {F : Nat → Prop} {g off : Nat} {r : Rq} : RdC w F g off (rqD r) ↔ ∃ u, w.rangeAt g off (r.l u) ∧ Rd w F u (bys r.g) := by
  unfold rqD
  constructor
  · intro h
    simp only [RdC, Rd, and_true] at h
    obtain ⟨⟨_, h0, rfl⟩, ⟨_, h1, rfl⟩, ⟨_, h2, rfl⟩, ⟨_, h3, rfl⟩, ⟨_, h4, rfl⟩, ⟨_, h5, rfl⟩, ⟨u, h6, hu⟩⟩ := h
    refine ⟨u, fun j v hv => ?_, hu⟩
    match j, hv with
    | 0, hv => simp [Rq.l] at hv; subst hv; exact h0
    | 1, hv => simp [Rq.l] at hv; subst hv; exact h1
    | 2, hv => simp [Rq.l] at hv; subst hv; exact h2
    | 3, hv => simp [Rq.l] at hv; subst hv; exact h3
    | 4, hv => simp [Rq.l] at hv; subst hv; exact h4
    | 5, hv => simp [Rq.l] at hv; subst hv; exact h5
    | 6, hv => simp [Rq.l] at hv; subst hv; exact h6
    | _ + 7, hv => simp [Rq.l] at hv
  · rintro ⟨u, h, hu⟩
    simp only [RdC, Rd, and_true]
    exact ⟨⟨_, h 0 _ rfl, rfl⟩, ⟨_, h 1 _ rfl, rfl⟩, ⟨_, h 2 _ rfl, rfl⟩, ⟨_, h 3 _ rfl, rfl⟩, ⟨_, h 4 _ rfl, rfl⟩, ⟨_, h 5 _ rfl, rfl⟩, ⟨u, h 6 _ rfl, hu⟩⟩
theorem len_rqD (r : Rq) : (rqD r).length = 7 := rfl
theorem rdC_el {w : World} {F : Nat → Prop} {g : Nat} : ∀ (l : List Rq) (off i : Nat) (r : Rq), RdC w F g off (l.flatMap rqD) → l[i]? = some r → RdC w F g (off + i * 7) (rqD r)
  | [], _, i, r, _, h => by simp at h
  | x :: l, off, 0, r, hc, h => by
    simp at h
    subst h
    rw [List.flatMap_cons, rdC_app] at hc
    rw [Nat.zero_mul, Nat.add_zero]
    exact hc.1
  | x :: l, off, i + 1, r, hc, h => by
    rw [List.flatMap_cons, rdC_app, len_rqD] at hc
    rw [show off + (i + 1) * 7 = off + 7 + i * 7 from by omega]
    exact rdC_el l (off + 7) i r hc.2 (by simpa using h)
theorem rdC_of {w : World} {F : Nat → Prop} {g : Nat} : ∀ (l : List Rq) (off : Nat), (∀ i r, l[i]? = some r → RdC w F g (off + i * 7) (rqD r)) → RdC w F g off (l.flatMap rqD)
  | [], _, _ => by simp [RdC]
  | x :: l, off, h => by
    rw [List.flatMap_cons, rdC_app, len_rqD]
    refine ⟨by simpa using h 0 x rfl, rdC_of l (off + 7) (fun i r hi => ?_)⟩
    rw [show off + 7 + i * 7 = off + (i + 1) * 7 from by omega]
    exact h (i + 1) r (by simpa using hi)
theorem rqs_shape {w : World} {F : Nat → Prop} {v : Value} {l : List Rq} (h : Rd w F v (rqs l)) : ∃ A c, v = .slice A l.length c := by
  unfold rqs Rd at h
  obtain ⟨A, c, hv, _⟩ := h
  exact ⟨A, c, hv⟩
theorem rqs_spot {w : World} {F : Nat → Prop} {v : Value} {l : List Rq} (h : Rd w F v (rqs l)) (hl : 0 < l.length) : ∃ g off c, v = .slice (some ⟨g, off, none⟩) l.length c := by
  unfold rqs Rd at h
  obtain ⟨A, c, hv, _, _, _, h4⟩ := h
  have hne : l.flatMap rqD ≠ [] := by
    match l, hl with
    | x :: l, _ => simp [rqD]
  obtain ⟨g, off, hA, _⟩ := h4 hne
  exact ⟨g, off, c, by rw [hv, hA]⟩
/-- one of them -/
theorem rqs_el {w : World} {F : Nat → Prop} {l : List Rq} {g off n c : Nat} (h : Rd w F (.slice (some ⟨g, off, none⟩) n c) (rqs l)) {i : Nat} {r : Rq} (hr : l[i]? = some r) : ∃ u, w.rangeAt g (off + i * 7) (r.l u) ∧ Rd w F u (bys r.g) := by
  unfold rqs Rd at h
  obtain ⟨A, k, hv, _, _, _, h4⟩ := h
  have hne : l.flatMap rqD ≠ [] := by
    match l, hr with
    | x :: l, _ => simp [rqD]
  obtain ⟨g', off', hA, _, hc⟩ := h4 hne
  injection hv with hv
  rw [hA] at hv
  injection hv with hv
  injection hv with h1 h2
  subst h1 h2
  exact rdC_rq.1 (rdC_el l _ i r hc hr)
/-- what a row of requests holds, their signatures in blocks of F -/
def RqX (w : World) (F : Nat → Prop) : List Rq → List Value → Prop
  | [], xs => xs = []
  | r :: l, xs => ∃ u ys, xs = r.l u ++ ys ∧ Rd w F u (bys r.g) ∧ RqX w F l ys
theorem RqX.keep {w w' : World} {F F' : Nat → Prop} (hF : ∀ b, b < w.heap.size → F b → F' b ∧ w'.heap[b]? = w.heap[b]?) : ∀ {l : List Rq} {xs : List Value}, RqX w F l xs → RqX w' F' l xs
  | [], _, h => h
  | _ :: _, _, ⟨u, ys, h1, h2, h3⟩ => ⟨u, ys, h1, h2.keep hF, h3.keep hF⟩
theorem RqX.snoc {w : World} {F : Nat → Prop} {r : Rq} {u : Value} (hu : Rd w F u (bys r.g)) : ∀ {l : List Rq} {xs : List Value}, RqX w F l xs → RqX w F (l ++ [r]) (xs ++ r.l u)
  | [], _, h => by
    have h : _ = [] := h
    subst h
    exact ⟨u, [], by simp, hu, rfl⟩
  | x :: l, _, ⟨u', ys, h1, h2, h3⟩ => ⟨u', ys ++ r.l u, by rw [h1, List.append_assoc], h2, RqX.snoc hu h3⟩
theorem len_l (r : Rq) (u : Value) : (r.l u).length = 7 := rfl
theorem RqX.el {w : World} {F : Nat → Prop} {g : Nat} : ∀ {l : List Rq} {xs : List Value} (off : Nat), RqX w F l xs → w.rangeAt g off xs → ∀ i r, l[i]? = some r → RdC w F g (off + i * 7) (rqD r)
  | [], _, _, _, _, i, r, hi => by simp at hi
  | x :: l, xs, off, ⟨u, ys, h1, h2, _⟩, hg, 0, r, hi => by
    simp at hi
    subst hi h1
    rw [Nat.zero_mul, Nat.add_zero]
    refine rdC_rq.2 ⟨u, fun j v hv => hg j v ?_, h2⟩
    rw [List.getElem?_append_left (List.getElem?_eq_some_iff.1 hv).1]
    exact hv
  | x :: l, xs, off, ⟨u, ys, h1, _, h3⟩, hg, i + 1, r, hi => by
    subst h1
    have hg' : w.rangeAt g (off + 7) ys := fun j v hv => by
      have := hg (7 + j) v (by rw [List.getElem?_append_right (by rw [len_l]; omega), len_l, show 7 + j - 7 = j from by omega]; exact hv)
      rwa [← Nat.add_assoc] at this
    have := RqX.el (off + 7) h3 hg' i r (by simpa using hi)
    rwa [show off + 7 + i * 7 = off + (i + 1) * 7 from by omega] at this
/-- an own row of requests, read -/
theorem rqs_own {w : World} {base : Nat} {e : TypeId} {F : Nat → Prop} {v : Value} {l : List Rq} {xs : List Value} (ho : w.ownsRow base e 7 v l.length xs) (hx : RqX w F l xs) (hF : ∀ b, F b → base ≤ b) : Rd w (fun b => base ≤ b) v (rqs l) := by
  unfold rqs Rd
  have hx := hx.keep (F' := fun b => base ≤ b) (fun b _ h => ⟨hF b h, rfl⟩)
  rcases ho.2 with ⟨rfl, h0⟩ | ⟨g, cap, cur, rfl, hg, hh, h1, h2, h3, h4⟩
  · have : l = [] := List.eq_nil_of_length_eq_zero h0
    subst this
    exact ⟨none, 0, rfl, Nat.le_refl _, by simp [maxLen], fun _ => rfl, fun h => absurd rfl h⟩
  · refine ⟨_, cap, rfl, h1, h2, fun h => by rw [List.eq_nil_of_length_eq_zero h]; rfl, fun _ => ⟨g, 0, rfl, hg, rdC_of l 0 (fun i r hi => ?_)⟩⟩
    have hr : w.rangeAt g 0 xs := fun j u hu => by
      have := ho.cells (g := g) rfl j u hu
      rwa [add_mk] at this
    exact hx.el 0 hr i r hi
/-- rising numbers: of two of one client the later one has the greater -/
def ris (l : List Rq) : Prop := l.Pairwise (fun x y => x.c = y.c → x.s < y.s)
instance (l : List Rq) : Decidable (ris l) := by unfold ris; infer_instance
def fmB (l : List Rq) : Bool := decide (1 ≤ l.length ∧ l.length ≤ 4 ∧ (∀ r ∈ l, r.fm = true) ∧ ris l)
/-- the last number of each client -/
def good (A : Nat → Int) (p : List Rq) : Prop := (∀ x ∈ p, ∀ c : Nat, x.c = (c : Int) → x.s ≤ A c) ∧ ∀ c, A c = 0 ∨ ∃ x ∈ p, x.c = (c : Int) ∧ x.s = A c
def upd (A : Nat → Int) (C : Nat) (s : Int) (c : Nat) : Int := if c = C then s else A c
theorem good_nil : good (fun _ => 0) [] := ⟨fun x h => by simp at h, fun _ => .inl rfl⟩
theorem good_snoc {A : Nat → Int} {p : List Rq} {r : Rq} {C : Nat} (h : good A p) (hc : r.c = (C : Int)) (hs : A C < r.s) : good (upd A C r.s) (p ++ [r]) := by
  refine ⟨fun x hx c hxc => ?_, fun c => ?_⟩
  · unfold upd
    rw [List.mem_append] at hx
    rcases hx with hx | hx
    · have := h.1 x hx c hxc
      split
      · rename_i e; subst e; omega
      · exact this
    · simp at hx
      subst hx
      rw [if_pos (by omega)]
      exact Int.le_refl _
  · unfold upd
    split
    · rename_i e
      subst e
      exact .inr ⟨r, by simp, hc, rfl⟩
    · rcases h.2 c with h0 | ⟨x, hx, hxc, hxs⟩
      · exact .inl h0
      · exact .inr ⟨x, by simp [hx], hxc, hxs⟩
theorem ris_snoc {p : List Rq} {r : Rq} : ris (p ++ [r]) ↔ ris p ∧ ∀ x ∈ p, x.c = r.c → x.s < r.s := by
  unfold ris
  rw [List.pairwise_append]
  simp
theorem ris_good {A : Nat → Int} {p : List Rq} {r : Rq} {C : Nat} (h : good A p) (hp : ris p) (hc : r.c = (C : Int)) (hs : A C < r.s) : ris (p ++ [r]) :=
  ris_snoc.2 ⟨hp, fun x hx he => by have := h.1 x hx C (by omega); omega⟩
theorem ris_bad {A : Nat → Int} {p : List Rq} {r : Rq} {C : Nat} (h : good A p) (hc : r.c = (C : Int)) (h1 : 1 ≤ r.s) (hs : r.s ≤ A C) : ¬ ris (p ++ [r]) := by
  intro hr
  rcases h.2 C with h0 | ⟨x, hx, hxc, hxs⟩
  · omega
  · have := (ris_snoc.1 hr).2 x hx (by omega)
    omega
theorem take_snoc' {l : List Rq} {i : Nat} {r : Rq} (h : l[i]? = some r) : l.take (i + 1) = l.take i ++ [r] := by
  rw [List.take_add_one, h]; rfl
theorem ris_take {l : List Rq} (h : ris l) (i : Nat) : ris (l.take i) := List.Pairwise.sublist (List.take_sublist _ _) h
theorem fmB_true {l : List Rq} (h1 : 1 ≤ l.length) (h2 : l.length ≤ 4) (h3 : ∀ r ∈ l, r.fm = true) (h4 : ris l) : fmB l = true := by
  unfold fmB; rw [decide_eq_true_iff]; exact ⟨h1, h2, h3, h4⟩
theorem fmB_len {l : List Rq} (h : l.length < 1 ∨ 4 < l.length) : fmB l = false := by
  unfold fmB; rw [decide_eq_false_iff_not]; omega
theorem fmB_fm {l : List Rq} {i : Nat} {r : Rq} (h : l[i]? = some r) (hf : r.fm = false) : fmB l = false := by
  unfold fmB; rw [decide_eq_false_iff_not]
  rintro ⟨_, _, h3, _⟩
  rw [h3 r (List.mem_of_getElem? h)] at hf
  cases hf
theorem fmB_ris {l : List Rq} (i : Nat) (h : ¬ ris (l.take i)) : fmB l = false := by
  unfold fmB; rw [decide_eq_false_iff_not]
  rintro ⟨_, _, _, h4⟩
  exact h (ris_take h4 i)
theorem fmB_all {l : List Rq} (h : fmB l = true) : 1 ≤ l.length ∧ l.length ≤ 4 ∧ (∀ r ∈ l, r.fm = true) ∧ ris l := by
  unfold fmB at h; rwa [decide_eq_true_iff] at h
end Go.V
/- AV: lists of one struct, guarded struct literals, lists of replies. No project text. -/
namespace Go.V
open Go.RowKit
/-- '[]T{x}', x a struct -/
theorem wp_bs1W {P : Program} {w : World} {ops : Array Oper} {rest : List Oper} {o : Oper} {a : Act} {Q : Exit → Act → World → Prop} (x : Operand) {t e : TypeId} {z : List Value} {sz by_ : Nat} (ht : SlW P t e z sz by_) (hgd : o.guard = none) (ho : o.op = .buildSlice t 1 #[(0, x)]) {us : List Value} (hx : a.eval x = .agg us.toArray) (hu : us.length = sz)
    (h : wpList P ops Q rest (a.put o.dst (.slice (some ⟨w.heap.size, 0, none⟩) 1 1)) (w.alloc (.cells us.toArray e))) : wpList P ops Q (o :: rest) a w := by
  refine wpList_plain hgd fun K hK => ?_
  unfold Oper.wp execOp
  have e1 : (Array.map (fun (x : Nat × Operand) => (x.1, a.eval x.2)) #[(0, x)]) = #[(0, .agg us.toArray)] := by simp [hx]
  simp only [ho, e1, Sem.run_bind, Sem.run_pure, run_bsW ht us hu, Result.andThen_ok]
  exact hK _ _ h
/-- a struct literal, guarded or not -/
theorem wp_bldw {P : Program} {w : World} {ops : Array Oper} {rest : List Oper} {o : Oper} {a : Act} {Q : Exit → Act → World → Prop} (t : TypeId) (parts : List (Nat × Operand)) (hw : Region.wanted o (yielded ops a.tmps) = true) (ho : o.op = .build t parts.toArray) (vs : List (Nat × Value)) (hp : (parts.map fun x => (x.1, a.eval x.2)) = vs) {cells : Array Value} (hr : ∀ W : World, (Instr.build t vs.toArray).run P W = .ok (.agg cells) W)
    (h : wpList P ops Q rest (a.put o.dst (.agg cells)) w) : wpList P ops Q (o :: rest) a w := by
  refine wpList_step fun K hK => ?_
  rw [if_pos hw]
  have e : (parts.toArray.map fun (i, x) => (i, a.eval x)) = vs.toArray := by rw [List.map_toArray, ← hp]
  unfold Oper.wp execOp
  simp only [ho, e, Sem.run_bind, Sem.run_pure, hr, Result.andThen_ok]
  exact hK _ _ h
end Go.V
namespace Go.Proofs.YtmjpkdehkdpdpaaDoor
open Go.RowKit Go.V
theorem rqs_one {w : World} {F : Nat → Prop} {g : Nat} {t : TypeId} {r : Rq} {u : Value} (hb : Blk w g t (r.l u)) (hu : Rd w F u (bys r.g)) (hg : F g) : Rd w F (.slice (some ⟨g, 0, none⟩) 1 1) (rqs [r]) := by
  unfold rqs Rd
  refine ⟨_, 1, rfl, Nat.le_refl _, by simp [maxLen], fun h => by simp at h, fun _ => ⟨g, 0, rfl, hg, ?_⟩⟩
  rw [List.flatMap_singleton]
  exact rdC_rq.2 ⟨u, hb.whole, hu⟩
def rpD : WD Rp 5 := ⟨fun r => [.atom (.int .i64 r.c), .atom (.int .i64 r.s), .atom (.int .i64 r.k), .atom (.bool r.o), .atom (.int .i64 r.n)], fun _ => rfl, by omega⟩
theorem rp_open {w : World} {F : Nat → Prop} {r : Rp} {cs : List Value} (h : WdEl w F rpD r cs) : cs = r.l := by
  obtain ⟨hl, ha⟩ := h
  match cs, hl with
  | [c0, c1, c2, c3, c4], _ =>
    have h0 := ha 0 c0 _ rfl rfl
    have h1 := ha 1 c1 _ rfl rfl
    have h2 := ha 2 c2 _ rfl rfl
    have h3 := ha 3 c3 _ rfl rfl
    have h4 := ha 4 c4 _ rfl rfl
    unfold Rd at h0 h1 h2 h3 h4
    subst h0 h1 h2 h3 h4
    rfl
theorem rp_mk {w : World} {F : Nat → Prop} {r : Rp} : WdEl w F rpD r r.l :=
  ⟨rfl, fun j v d hv hd => by
    match j with
    | 0 => simp [Rp.l, rpD] at hv hd; subst hv hd; unfold Rd; rfl
    | 1 => simp [Rp.l, rpD] at hv hd; subst hv hd; unfold Rd; rfl
    | 2 => simp [Rp.l, rpD] at hv hd; subst hv hd; unfold Rd; rfl
    | 3 => simp [Rp.l, rpD] at hv hd; subst hv hd; unfold Rd; rfl
    | 4 => simp [Rp.l, rpD] at hv hd; subst hv hd; unfold Rd; rfl
    | j + 5 => simp [Rp.l] at hv⟩
end Go.Proofs.YtmjpkdehkdpdpaaDoor
