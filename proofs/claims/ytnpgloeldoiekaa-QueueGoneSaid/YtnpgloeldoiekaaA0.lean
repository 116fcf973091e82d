/- A0: layer 15, pure: worlds, what a batch does. No project text. -/
import Derived.Test.YtnpgloeldoiekaaU0
import Derived.Test.YtnpgloeldoiekaaQ1
import Derived.Test.YtnpgloeldoiekaaW8
namespace Go.Proofs.Ytnpgloeldoiekaa
open Go.RowKit Go.V
/-- a reply -/
structure Rp where
  c : Int
  s : Int
  k : Int
  o : Bool
  n : Int
structure Vw where
  n : Int
  m : Nat
deriving DecidableEq
/-- a world -/
structure Wo where
  s : Int
  f : Int
  v : Vw
  u : Vw
  c : List Cl
  a : List Rp
def Rp.l (r : Rp) : List Value := [.int .i64 r.c, .int .i64 r.s, .int .i64 r.k, .bool r.o, .int .i64 r.n]
def Vw.l (x : Vw) : List Value := [.int .i64 x.n, .int .u16 (x.m : Int)]
def Wo.l (W : Wo) : List Value := [.int .i64 W.s, .int .i64 W.f, .int .i64 W.v.n, .int .u16 (W.v.m : Int), .int .i64 W.u.n, .int .u16 (W.u.m : Int)] ++ (cvs W.c ++ W.a.flatMap Rp.l)
def ras (a : List Rp) : List Value := a.flatMap Rp.l
structure RpIn (r : Rp) : Prop where
  n : i64s r.n
structure WoIn (W : Wo) : Prop where
  s : i64s W.s
  f : i64s W.f
  v : i64s W.v.n ∧ W.v.m < 65536
  u : i64s W.u.n ∧ W.u.m < 65536
  c : ClIn W.c
  a : W.a.length = 6 ∧ ∀ r ∈ W.a, RpIn r
/-- what counts of it -/
structure We where
  s : Int
  f : Int
  v : Vw
  u : Vw
  c : List (Option Int)
  a : List Rp
def Wo.e (W : Wo) : We := ⟨W.s, W.f, W.v, W.u, nmF W.c, W.a⟩
def okR (r : Rq) : Ok := ⟨r.k, r.y, r.a, r.b⟩
/-- within a batch: the values, the last replies, the next view, the replies -/
structure Bt where
  c : List (Option Int)
  a : List Rp
  x : Vw
  o : List Rp
def lastS (a : List Rp) (c : Int) : Int := ((a[c.toNat]?).map Rp.s).getD 0
def dueR (a : List Rp) (r : Rq) : Bool := decide (0 ≤ r.c ∧ r.c ≤ 5) && rgtO r.c r.k r.y r.a r.b && decide (lastS a r.c < r.s)
def isNx (v x : Vw) (k : Int) : Bool := nxB v.n v.m k && decide (x = v)
def opW (v x : Vw) (c : List (Option Int)) (r : Rq) : List (Option Int) × Vw × Bool × Int :=
  if r.k = 6 then (if isNx v x r.a = true then (c, ⟨v.n + 1, r.a.toNat⟩, true, v.n + 1) else (c, x, false, 0))
  else ((doK c (okR r)).1, x, (doK c (okR r)).2.1, (doK c (okR r)).2.2)
def repW (v : Vw) (t : Int) (d : Bt) (r : Rq) : Rp := ⟨r.c, r.s, t, (opW v d.x d.c r).2.2.1, (opW v d.x d.c r).2.2.2⟩
def stepW (v : Vw) (t : Int) (d : Bt) (r : Rq) : Bt :=
  if dueR d.a r = true then ⟨(opW v d.x d.c r).1, d.a.set r.c.toNat (repW v t d r), (opW v d.x d.c r).2.1, d.o ++ [repW v t d r]⟩ else d
def batW (v : Vw) (t : Int) (d : Bt) (l : List Rq) : Bt := l.foldl (stepW v t) d
def begW (E : We) : Bt := ⟨E.c, E.a, E.v, []⟩
def endW (E : We) (d : Bt) : We := ⟨E.s + 1, if d.x = E.v then E.f else E.s + 2, d.x, E.v, d.c, d.a⟩
def doW (E : We) (l : List Rq) : We × List Rp := (endW E (batW E.v (E.s + 1) (begW E) l), (batW E.v (E.s + 1) (begW E) l).o)
def zRp (c : Nat) : Rp := ⟨(c : Int), 0, 0, false, 0⟩
def firstW (v : Vw) : Wo := ⟨0, 1, v, v, List.replicate 16 zC, (List.range 6).map zRp⟩
/-! sizes -/
theorem len_ras : ∀ (a : List Rp), (ras a).length = 5 * a.length
  | [] => rfl
  | x :: a => by
    have := len_ras a
    unfold ras at this ⊢
    rw [List.flatMap_cons, List.length_append, this, List.length_cons]
    show 5 + 5 * a.length = _
    omega
theorem len_wo {W : Wo} (h : WoIn W) : W.l.length = 68 := by
  have h1 := len_cvs W.c
  have h2 := len_ras W.a
  rw [h.c.len] at h1
  rw [h.a.1] at h2
  unfold ras at h2
  simp only [Wo.l, List.length_append, List.length_cons, List.length_nil, h1, h2]
theorem one_ras (a : List Rp) : ∀ v ∈ ras a, v.oneCell' = true := by
  intro v hv
  obtain ⟨x, _, hx⟩ := List.mem_flatMap.1 hv
  simp only [Rp.l, List.mem_cons, List.not_mem_nil, or_false] at hx
  rcases hx with rfl | rfl | rfl | rfl | rfl <;> rfl
theorem one_wo (W : Wo) : ∀ v ∈ W.l, v.oneCell' = true := by
  intro v hv
  unfold Wo.l at hv
  rcases List.mem_append.1 hv with hv | hv
  · simp only [List.mem_cons, List.not_mem_nil, or_false] at hv
    rcases hv with rfl | rfl | rfl | rfl | rfl | rfl <;> rfl
  · rcases List.mem_append.1 hv with hv | hv
    · exact one_cvs _ v hv
    · exact one_ras _ v hv
theorem ras_at : ∀ (a : List Rp) (i : Nat) (x : Rp), a[i]? = some x → ∀ j < 5, (ras a)[5 * i + j]? = x.l[j]?
  | [], i, x, h => by simp at h
  | y :: a, 0, x, h => by
    simp at h; subst h
    intro j hj
    show (y.l ++ ras a)[5 * 0 + j]? = _
    rw [Nat.mul_zero, Nat.zero_add]
    exact List.getElem?_append_left (by simpa [Rp.l] using hj)
  | y :: a, i + 1, x, h => by
    have h : a[i]? = some x := by simpa using h
    intro j hj
    have := ras_at a i x h j hj
    show (y.l ++ ras a)[5 * (i + 1) + j]? = _
    rw [List.getElem?_append_right (by simp [Rp.l]; omega), ← this]
    simp only [Rp.l, List.length_cons, List.length_nil]
    congr 1
    omega
theorem wo_at5 (W : Wo) (h : W.c.length = 16) {i : Nat} {x : Rp} (hx : W.a[i]? = some x) {j : Nat} (hj : j < 5) : W.l[38 + (5 * i + j)]? = x.l[j]? := by
  unfold Wo.l
  rw [List.getElem?_append_right (by simp; omega), List.getElem?_append_right (by rw [len_cvs, h]; simp; omega)]
  rw [len_cvs, h, ← ras_at _ _ _ hx _ hj]
  unfold ras
  congr 1
  simp
  omega
theorem wo_take (W : Wo) (h : WoIn W) : (W.l.drop 6).take 32 = cvs W.c ∧ W.l.drop 38 = ras W.a := by
  have h1 := len_cvs W.c
  rw [h.c.len] at h1
  unfold Wo.l
  refine ⟨?_, ?_⟩
  · show (cvs W.c ++ W.a.flatMap Rp.l).take 32 = _
    rw [show (32 : Nat) = (cvs W.c).length from h1.symm, List.take_left]
  · show (cvs W.c ++ W.a.flatMap Rp.l).drop 32 = _
    rw [show (32 : Nat) = (cvs W.c).length from h1.symm, List.drop_left]
    rfl
/-- how a world stands in cells -/
structure WoL (W : Wo) (l : List Value) : Prop where
  len : l.length = 68
  s : l[0]? = some (.int .i64 W.s)
  f : l[1]? = some (.int .i64 W.f)
  v : ∀ j x, (W.v.l)[j]? = some x → l[2 + j]? = some x
  u : ∀ j x, (W.u.l)[j]? = some x → l[4 + j]? = some x
  c : ∀ j x, (cvs W.c)[j]? = some x → l[6 + j]? = some x
  a : ∀ i r, W.a[i]? = some r → ∀ j x, r.l[j]? = some x → l[38 + i * 5 + j]? = some x
  one : ∀ x ∈ l, x.oneCell' = true
/-- the last replies, in one piece -/
theorem WoL.as {W : Wo} {l : List Value} (h : WoL W l) (h6 : W.a.length = 6) (q : Nat) (v : Value) (hv : (ras W.a)[q]? = some v) : l[38 + q]? = some v := by
  have hq : q < 30 := by
    rcases Nat.lt_or_ge q 30 with h | h'
    · exact h
    · rw [List.getElem?_eq_none (by rw [len_ras, h6]; omega)] at hv; cases hv
  obtain ⟨r, hr⟩ : ∃ r, W.a[q / 5]? = some r := ⟨_, List.getElem?_eq_getElem (by omega)⟩
  have := ras_at W.a (q / 5) r hr (q % 5) (Nat.mod_lt _ (by omega))
  rw [Nat.div_add_mod] at this
  have h2 := h.a _ r hr (q % 5) v (by rw [← this]; exact hv)
  rw [← h2]
  congr 1
  omega
theorem wol {W : Wo} (h : WoIn W) : WoL W W.l := by
  refine ⟨len_wo h, rfl, rfl, ?_, ?_, ?_, ?_, one_wo W⟩
  · intro j x hx
    match j with
    | 0 => exact hx
    | 1 => exact hx
    | j + 2 => simp [Vw.l] at hx
  · intro j x hx
    match j with
    | 0 => exact hx
    | 1 => exact hx
    | j + 2 => simp [Vw.l] at hx
  · intro j x hx
    have hj : j < (cvs W.c).length := by
      rcases Nat.lt_or_ge j (cvs W.c).length with h | h
      · exact h
      · rw [List.getElem?_eq_none h] at hx; cases hx
    unfold Wo.l
    rw [List.getElem?_append_right (by simp), List.getElem?_append_left (by simpa using hj)]
    rw [← hx]
    congr 1
    simp
  · intro i r hr j x hx
    have hj : j < 5 := by
      rcases Nat.lt_or_ge j 5 with h | h
      · exact h
      · rw [List.getElem?_eq_none (by simpa [Rp.l] using h)] at hx; cases hx
    rw [← hx, ← wo_at5 W h.c.len hr hj]
    congr 1
    omega
/-! what was done isn't done again -/
theorem due_rgt {a : List Rp} {r : Rq} (h : dueR a r = true) : 0 ≤ r.c ∧ r.c ≤ 5 ∧ lastS a r.c < r.s := by
  unfold dueR at h
  simp only [Bool.and_eq_true, decide_eq_true_eq] at h
  exact ⟨h.1.1.1, h.1.1.2, h.2⟩
theorem last_set {a : List Rp} {c : Nat} (hc : c < a.length) (p : Rp) (x : Int) (hx : 0 ≤ x) : lastS (a.set c p) x = if x = (c : Int) then p.s else lastS a x := by
  unfold lastS
  by_cases h : x = (c : Int)
  · subst h
    rw [if_pos rfl, Int.toNat_natCast, List.getElem?_set_self hc]
    rfl
  · rw [if_neg h, List.getElem?_set_ne (by omega)]
theorem step_len (v : Vw) (t : Int) (d : Bt) (r : Rq) : (stepW v t d r).a.length = d.a.length := by
  unfold stepW
  split
  · exact List.length_set
  · rfl
theorem step_last (v : Vw) (t : Int) (d : Bt) (r : Rq) (h : d.a.length = 6) (x : Int) (hx : 0 ≤ x) : lastS d.a x ≤ lastS (stepW v t d r).a x := by
  unfold stepW
  split
  · rename_i hd
    obtain ⟨h0, h5, hs⟩ := due_rgt hd
    show _ ≤ lastS (d.a.set r.c.toNat _) x
    rw [last_set (by omega) _ _ hx]
    split
    · rename_i he
      rw [show x = r.c by omega]
      exact Int.le_of_lt hs
    · exact Int.le_refl _
  · exact Int.le_refl _
theorem bat_len (v : Vw) (t : Int) : ∀ (l : List Rq) (d : Bt), (batW v t d l).a.length = d.a.length
  | [], _ => rfl
  | r :: l, d => (bat_len v t l (stepW v t d r)).trans (step_len v t d r)
theorem bat_last (v : Vw) (t : Int) (x : Int) (hx : 0 ≤ x) : ∀ (l : List Rq) (d : Bt), d.a.length = 6 → lastS d.a x ≤ lastS (batW v t d l).a x
  | [], _, _ => Int.le_refl _
  | r :: l, d, h => Int.le_trans (step_last v t d r h x hx) (bat_last v t x hx l _ ((step_len v t d r).trans h))
/-- behind it, nothing of a batch is due -/
theorem step_done (v : Vw) (t : Int) (d : Bt) (r : Rq) (h : d.a.length = 6) : dueR (stepW v t d r).a r = false := by
  cases hd : dueR d.a r with
  | false => unfold stepW; rw [hd]; exact hd
  | true =>
    obtain ⟨h0, h5, hs⟩ := due_rgt hd
    have e : lastS (stepW v t d r).a r.c = r.s := by
      unfold stepW
      rw [if_pos hd]
      show lastS (d.a.set r.c.toNat _) r.c = _
      rw [last_set (by omega) _ _ h0, if_pos (by omega)]
      rfl
    unfold dueR
    rw [e, decide_eq_false (Int.lt_irrefl _)]
    simp
theorem due_mono {a b : List Rp} {r : Rq} (h : ∀ x, 0 ≤ x → lastS a x ≤ lastS b x) (hd : dueR a r = false) : dueR b r = false := by
  cases hb : dueR b r with
  | false => rfl
  | true =>
    obtain ⟨h0, h5, hs⟩ := due_rgt hb
    have := h r.c h0
    unfold dueR at hd hb
    simp only [Bool.and_eq_true, decide_eq_true_eq] at hb
    rw [decide_eq_true hb.1.1, hb.1.2, decide_eq_true (by omega)] at hd
    cases hd
theorem bat_done (v : Vw) (t : Int) : ∀ (l : List Rq) (d : Bt), d.a.length = 6 → ∀ r ∈ l, dueR (batW v t d l).a r = false
  | [], _, _, r, hr => by simp at hr
  | q :: l, d, h, r, hr => by
    have h' := (step_len v t d q).trans h
    rcases List.mem_cons.1 hr with rfl | hr
    · exact due_mono (fun x hx => bat_last v t x hx l _ h') (step_done v t d r h)
    · exact bat_done v t l _ h' r hr
theorem bat_idle (v : Vw) (t : Int) : ∀ (l : List Rq) (d : Bt), (∀ r ∈ l, dueR d.a r = false) → batW v t d l = d
  | [], _, _ => rfl
  | r :: l, d, h => by
    have e : stepW v t d r = d := by unfold stepW; rw [h r (by simp)]; rfl
    show batW v t (stepW v t d r) l = d
    rw [e]
    exact bat_idle v t l d (fun q hq => h q (by simp [hq]))
/-- is nothing of a batch due? -/
def idle (E : We) (l : List Rq) : Prop := ∀ r ∈ l, dueR E.a r = false
theorem do_idle {E : We} {l : List Rq} (h : idle E l) : doW E l = (⟨E.s + 1, E.f, E.v, E.v, E.c, E.a⟩, []) := by
  have e := bat_idle E.v (E.s + 1) l (begW E) h
  unfold doW
  rw [e]
  unfold endW begW
  rw [if_pos rfl]
theorem do_len (E : We) (l : List Rq) : (doW E l).1.a.length = E.a.length := bat_len _ _ l (begW E)
theorem do_last (E : We) (l : List Rq) (h : E.a.length = 6) (x : Int) (hx : 0 ≤ x) : lastS E.a x ≤ lastS (doW E l).1.a x := bat_last _ _ x hx l (begW E) h
theorem do_done (E : We) (l : List Rq) (h : E.a.length = 6) : idle (doW E l).1 l := bat_done _ _ l (begW E) h
theorem idle_do {E : We} {l m : List Rq} (h : E.a.length = 6) (hi : idle E l) : idle (doW E m).1 l := fun r hr => due_mono (fun x hx => do_last E m h x hx) (hi r hr)
/-! the view -/
theorem bat_x (v : Vw) (t : Int) : ∀ (l : List Rq) (d : Bt), (d.x = v ∨ d.x.n = v.n + 1) → (batW v t d l).x = v ∨ (batW v t d l).x.n = v.n + 1
  | [], _, h => h
  | r :: l, d, h => by
    refine bat_x v t l (stepW v t d r) ?_
    unfold stepW
    split
    · unfold opW
      split
      · split
        · exact .inr rfl
        · exact h
      · exact h
    · exact h
theorem do_view (E : We) (l : List Rq) : (doW E l).1.v = E.v ∧ (doW E l).1.f = E.f ∨ (doW E l).1.v.n = E.v.n + 1 ∧ (doW E l).1.v ≠ E.v ∧ (doW E l).1.f = (doW E l).1.s + 1 := by
  have h := bat_x E.v (E.s + 1) l (begW E) (.inl rfl)
  unfold doW endW
  dsimp only
  rcases h with h | h
  · exact .inl ⟨h, if_pos h⟩
  · have hne : (batW E.v (E.s + 1) (begW E) l).x ≠ E.v := fun e => by rw [e] at h; omega
    refine .inr ⟨h, hne, ?_⟩
    rw [if_neg hne]
    omega
end Go.Proofs.Ytnpgloeldoiekaa
