/- AD: layer 15, pure: a world within a batch. No project text. -/
import Derived.Test.YtfjgfaccfjdklaaA0
import Derived.Test.YtfjgfaccfjdklaaUD
namespace Go.Proofs.Ytfjgfaccfjdklaa
open Go.RowKit Go.V
/-- no number where there is no value -/
def ZC (c : List Cl) : Prop := ∀ x ∈ c, x.t = false → x.n = 0
theorem zc_eq : ∀ {a b : List Cl}, ZC a → ZC b → nmF a = nmF b → a = b
  | [], [], _, _, _ => rfl
  | [], _ :: _, _, _, h => by cases h
  | _ :: _, [], _, _, h => by cases h
  | x :: a, y :: b, ha, hb, h => by
    have h : nmC x :: nmF a = nmC y :: nmF b := h
    injection h with h1 h2
    rw [zc_eq (fun z hz => ha z (List.mem_cons_of_mem _ hz)) (fun z hz => hb z (List.mem_cons_of_mem _ hz)) h2]
    have hx := ha x (by simp)
    have hy := hb y (by simp)
    obtain ⟨xt, xn⟩ := x
    obtain ⟨yt, yn⟩ := y
    cases xt <;> cases yt
    · have := hx rfl
      have := hy rfl
      dsimp only at *
      subst xn yn
      rfl
    · cases h1
    · cases h1
    · injection h1 with h1
      have h1 : xn = yn := h1
      rw [h1]
theorem zc_zero : ZC (List.replicate 16 zC) := by
  intro x hx
  rw [List.eq_of_mem_replicate hx]
  intro _
  rfl
def begC (W : Wo) (c : List Cl) : Wo := ⟨W.s + 1, W.f, W.v, W.v, c, W.a⟩
def moveC (W : Wo) (k : Int) : Wo := ⟨W.s, W.s + 1, ⟨W.v.n + 1, k.toNat⟩, W.u, W.c, W.a⟩
def mvB (W : Wo) (k : Int) : Bool := decide (W.v = W.u) && nxB W.v.n W.v.m k
def movF (W : Wo) (k : Int) : Wo × (Bool × Int) := if mvB W k = true then (moveC W k, (true, W.v.n + 1)) else (W, (false, 0))
def cellC (W : Wo) (c : List Cl) : Wo := ⟨W.s, W.f, W.v, W.u, c, W.a⟩
def lastC (W : Wo) (r : Rq) (q : Bool × Int) : Wo := ⟨W.s, W.f, W.v, W.u, W.c, W.a.set r.c.toNat ⟨r.c, r.s, W.s, q.1, q.2⟩⟩
structure DoneP (W : Wo) (o : Ok) (V : Wo) (q : Bool × Int) : Prop where
  inn : WoIn V
  qn : i64s q.2
  mov : o.k = 6 → (V, q) = movF W o.a
  op : o.k ≠ 6 → V = cellC W V.c ∧ nmF V.c = (doK (nmF W.c) o).1 ∧ q = (doK (nmF W.c) o).2 ∧ ZC V.c
structure BtI (E : We) (W : Wo) (d : Bt) : Prop where
  inn : WoIn W
  s : W.s = E.s + 1
  u : W.u = E.v
  v : W.v = d.x
  f : W.f = if d.x = E.v then E.f else E.s + 2
  c : nmF W.c = d.c
  z : ZC W.c
  a : W.a = d.a
theorem bt_beg {W : Wo} {c : List Cl} (hW : WoIn W) (hs : i64s (W.s + 1)) (hc : ClIn c) (hn : nmF c = nmF W.c) (hz : ZC c) : BtI W.e (begC W c) (begW W.e) :=
  ⟨⟨hs, hW.f, hW.v, hW.v, hc, hW.a⟩, rfl, rfl, rfl, (if_pos rfl).symm, hn, hz, rfl⟩
theorem isNx_eq {E : We} {W : Wo} {d : Bt} (h : BtI E W d) (k : Int) : mvB W k = isNx E.v d.x k := by
  unfold mvB isNx
  rw [h.u, h.v, Bool.and_comm]
  by_cases e : d.x = E.v
  · rw [e]
  · rw [decide_eq_false e, Bool.and_false, Bool.and_false]
theorem last_in {W : Wo} (h : WoIn W) (r : Rq) (q : Bool × Int) (hq : i64s q.2) : WoIn (lastC W r q) :=
  ⟨h.s, h.f, h.v, h.u, h.c, by show (W.a.set _ _).length = 6; rw [List.length_set]; exact h.a.1, fun p hp => by
    rcases List.mem_or_eq_of_mem_set hp with hp | rfl
    · exact h.a.2 p hp
    · exact ⟨hq⟩⟩
theorem bt_due {E : We} {W : Wo} {d : Bt} (h : BtI E W d) {r : Rq} (hd : dueR W.a r = true) {V : Wo} {q : Bool × Int} (hD : DoneP W (okR r) V q) :
    BtI E (lastC V r q) (stepW E.v (E.s + 1) d r) ∧ (stepW E.v (E.s + 1) d r).o = d.o ++ [⟨r.c, r.s, W.s, q.1, q.2⟩] ∧ V.s = W.s ∧ V.a = W.a := by
  rw [h.a] at hd
  have e0 : stepW E.v (E.s + 1) d r = ⟨(opW E.v d.x d.c r).1, d.a.set r.c.toNat (repW E.v (E.s + 1) d r), (opW E.v d.x d.c r).2.1, d.o ++ [repW E.v (E.s + 1) d r]⟩ := if_pos hd
  rw [e0]
  have key : ∀ (V : Wo) (q : Bool × Int), WoIn V → i64s q.2 → V.s = W.s → V.u = W.u → V.a = W.a → V.v = (opW E.v d.x d.c r).2.1 → V.f = (if (opW E.v d.x d.c r).2.1 = E.v then E.f else E.s + 2) → nmF V.c = (opW E.v d.x d.c r).1 → ZC V.c → q = (opW E.v d.x d.c r).2.2 →
      BtI E (lastC V r q) ⟨(opW E.v d.x d.c r).1, d.a.set r.c.toNat (repW E.v (E.s + 1) d r), (opW E.v d.x d.c r).2.1, d.o ++ [repW E.v (E.s + 1) d r]⟩ ∧ (d.o ++ [repW E.v (E.s + 1) d r] = d.o ++ [⟨r.c, r.s, W.s, q.1, q.2⟩]) ∧ V.s = W.s ∧ V.a = W.a := by
    intro V q hV hq h1 h2 h3 h4 h5 h6 h7 h8
    have hr : (⟨r.c, r.s, V.s, q.1, q.2⟩ : Rp) = repW E.v (E.s + 1) d r := by
      unfold repW
      rw [h1, h.s, h8]
    refine ⟨⟨last_in hV r q hq, h1.trans h.s, h2.trans h.u, h4, h5, h6, h7, ?_⟩, ?_, h1, h3⟩
    · show V.a.set _ _ = _
      rw [hr, h3, h.a]
    · rw [← h1, hr]
  by_cases hk : r.k = 6
  · have hm := hD.mov hk
    have e1 : opW E.v d.x d.c r = if isNx E.v d.x r.a = true then (d.c, ⟨E.v.n + 1, r.a.toNat⟩, true, E.v.n + 1) else (d.c, d.x, false, 0) := if_pos hk
    unfold movF at hm
    have hm : (V, q) = if mvB W r.a = true then (moveC W r.a, (true, W.v.n + 1)) else (W, (false, 0)) := hm
    rw [isNx_eq h] at hm
    by_cases hx : isNx E.v d.x r.a = true
    · rw [if_pos hx] at hm e1
      injection hm with hm1 hm2
      have hxe : d.x = E.v := by
        unfold isNx at hx
        simp only [Bool.and_eq_true, decide_eq_true_eq] at hx
        exact hx.2
      have hn : W.v.n = E.v.n := by rw [h.v, hxe]
      have hne : (⟨E.v.n + 1, r.a.toNat⟩ : Vw) ≠ E.v := fun e => by
        have := congrArg Vw.n e
        dsimp only at this
        omega
      refine key V q hD.inn hD.qn ?_ ?_ ?_ ?_ ?_ ?_ ?_ ?_
      · rw [hm1]; rfl
      · rw [hm1]; rfl
      · rw [hm1]; rfl
      · rw [hm1, e1]; show (⟨W.v.n + 1, _⟩ : Vw) = _; rw [hn]
      · rw [e1, if_neg hne, hm1]; show W.s + 1 = _; rw [h.s]; omega
      · rw [hm1, e1]; exact h.c
      · rw [hm1]; exact h.z
      · rw [hm2, e1, hn]
    · rw [if_neg hx] at hm e1
      injection hm with hm1 hm2
      refine key V q hD.inn hD.qn ?_ ?_ ?_ ?_ ?_ ?_ ?_ ?_
      · rw [hm1]
      · rw [hm1]
      · rw [hm1]
      · rw [hm1, e1]; exact h.v
      · rw [e1, hm1]; exact h.f
      · rw [hm1, e1]; exact h.c
      · rw [hm1]; exact h.z
      · rw [hm2, e1]
  · obtain ⟨m1, m2, m3, m4⟩ := hD.op hk
    have e1 : opW E.v d.x d.c r = ((doK d.c (okR r)).1, d.x, (doK d.c (okR r)).2.1, (doK d.c (okR r)).2.2) := if_neg hk
    rw [h.c] at m2 m3
    refine key V q hD.inn hD.qn ?_ ?_ ?_ ?_ ?_ ?_ m4 ?_
    · rw [m1]; rfl
    · rw [m1]; rfl
    · rw [m1]; rfl
    · rw [e1, m1]; exact h.v
    · rw [e1, m1]; exact h.f
    · rw [e1]; exact m2
    · rw [e1]; exact m3
theorem bt_not {E : We} {W : Wo} {d : Bt} (h : BtI E W d) {r : Rq} (hd : dueR W.a r = false) : stepW E.v (E.s + 1) d r = d := by
  rw [h.a] at hd
  unfold stepW
  rw [hd]
  rfl
theorem bt_end {W V : Wo} {l : List Rq} (h : BtI W.e V (batW W.v (W.s + 1) (begW W.e) l)) (hz : ZC W.c) : V.e = (doW W.e l).1 ∧ (idle W.e l → V.c = W.c) := by
  have h1 : V.e = (doW W.e l).1 := by
    show V.e = endW W.e (batW W.v (W.s + 1) (begW W.e) l)
    unfold endW
    show (⟨V.s, V.f, V.v, V.u, nmF V.c, V.a⟩ : We) = _
    rw [h.s, h.f, h.v, h.u, h.c, h.a]
  refine ⟨h1, fun hi => zc_eq h.z hz ?_⟩
  have := congrArg We.c h1
  rw [do_idle hi] at this
  exact this
/-! cells of a changed world -/
theorem wl_s (W : Wo) (x : Int) : W.l.take 0 ++ [.int .i64 x] ++ W.l.drop 1 = (⟨x, W.f, W.v, W.u, W.c, W.a⟩ : Wo).l := rfl
theorem wl_f (W : Wo) (x : Int) : W.l.take 1 ++ [.int .i64 x] ++ W.l.drop 2 = (⟨W.s, x, W.v, W.u, W.c, W.a⟩ : Wo).l := rfl
theorem wl_v (W : Wo) (x : Vw) : W.l.take 2 ++ x.l ++ W.l.drop 4 = (⟨W.s, W.f, x, W.u, W.c, W.a⟩ : Wo).l := rfl
theorem wl_u (W : Wo) (x : Vw) : W.l.take 4 ++ x.l ++ W.l.drop 6 = (⟨W.s, W.f, W.v, x, W.c, W.a⟩ : Wo).l := rfl
theorem wl_c (W : Wo) (c : List Cl) (h : W.c.length = 16) : W.l.take 6 ++ cvs c ++ W.l.drop 38 = (cellC W c).l := by
  have e : W.l.drop 38 = ras W.a := by
    unfold Wo.l
    show (cvs W.c ++ W.a.flatMap Rp.l).drop 32 = _
    rw [show (32 : Nat) = (cvs W.c).length from by rw [len_cvs, h], List.drop_left]
    rfl
  rw [e]
  show [_, _, _, _, _, _] ++ cvs c ++ ras W.a = _
  rw [List.append_assoc]
  rfl
theorem ras_set : ∀ (a : List Rp) (i : Nat) (x : Rp), i < a.length → (ras a).take (i * 5) ++ x.l ++ (ras a).drop (i * 5 + 5) = ras (a.set i x)
  | [], i, x, h => by simp at h
  | y :: a, 0, x, _ => rfl
  | y :: a, i + 1, x, h => by
    have := ras_set a i x (by simpa using h)
    show (y.l ++ ras a).take ((i + 1) * 5) ++ x.l ++ (y.l ++ ras a).drop ((i + 1) * 5 + 5) = y.l ++ ras (a.set i x)
    rw [← this, show (i + 1) * 5 = y.l.length + i * 5 from by simp [Rp.l]; omega, List.take_length_add_append, show y.l.length + i * 5 + 5 = y.l.length + (i * 5 + 5) from by omega, List.drop_length_add_append]
    simp only [List.append_assoc]
theorem wl_a (W : Wo) (i : Nat) (x : Rp) (h : W.c.length = 16) (hi : i < W.a.length) : W.l.take (38 + i * 5) ++ x.l ++ W.l.drop (38 + i * 5 + 5) = (⟨W.s, W.f, W.v, W.u, W.c, W.a.set i x⟩ : Wo).l := by
  have hp : ([.int .i64 W.s, .int .i64 W.f, .int .i64 W.v.n, .int .u16 (W.v.m : Int), .int .i64 W.u.n, .int .u16 (W.u.m : Int)] ++ cvs W.c : List Value).length = 38 := by
    rw [List.length_append, len_cvs, h]
    rfl
  have e : W.l = ([.int .i64 W.s, .int .i64 W.f, .int .i64 W.v.n, .int .u16 (W.v.m : Int), .int .i64 W.u.n, .int .u16 (W.u.m : Int)] ++ cvs W.c) ++ ras W.a := by
    rw [List.append_assoc]
    rfl
  have e2 : (⟨W.s, W.f, W.v, W.u, W.c, W.a.set i x⟩ : Wo).l = ([.int .i64 W.s, .int .i64 W.f, .int .i64 W.v.n, .int .u16 (W.v.m : Int), .int .i64 W.u.n, .int .u16 (W.u.m : Int)] ++ cvs W.c) ++ ras (W.a.set i x) := by
    rw [List.append_assoc]
    rfl
  rw [e, e2]
  obtain ⟨p, hpp⟩ : ∃ p, p = ([.int .i64 W.s, .int .i64 W.f, .int .i64 W.v.n, .int .u16 (W.v.m : Int), .int .i64 W.u.n, .int .u16 (W.u.m : Int)] ++ cvs W.c : List Value) := ⟨_, rfl⟩
  rw [← hpp] at hp ⊢
  rw [← hp, List.take_length_add_append, show p.length + i * 5 + 5 = p.length + (i * 5 + 5) from by omega, List.drop_length_add_append, ← ras_set W.a i x hi]
  simp only [List.append_assoc]
end Go.Proofs.Ytfjgfaccfjdklaa
