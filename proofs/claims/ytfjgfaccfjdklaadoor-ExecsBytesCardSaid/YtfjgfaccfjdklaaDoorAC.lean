/- AC: several texts in one (AD AG AJ AK AH AN AC). -/
import Derived.Test.YtfjgfaccfjdklaaDoorA0
import Derived.Test.YtfjgfaccfjdklaaDoorUC
import Derived.Test.YtfjgfaccfjdklaaDoorUV
import Derived.Test.YtfjgfaccfjdklaaDoorAV
/- AD: layer 15, pure: a world within a batch. No project text. -/
namespace Go.Proofs.YtfjgfaccfjdklaaDoor
open Go.RowKit Go.V
/-- no number where there is no value -/
def ZC (c : List Cl) : Prop := ∀ x ∈ c, x.t = false → x.n = 0
theorem zc_eq : ∀ {a b : List Cl}, ZC a → ZC b → nmF a = nmF b → a = b
  | [], [], _, _, _ => rfl
  | [], _ :: _, _, _, h => by cases h
  | _ :: _, [], _, _, h => by cases h
  | x :: a, y :: b, ha, hb, h => by
    have h : nmC x :: nmF a = nmC y :: nmF b := h
    injection h with h1 h2
    rw [zc_eq (fun z hz => ha z (List.mem_cons_of_mem _ hz)) (fun z hz => hb z (List.mem_cons_of_mem _ hz)) h2]
    have hx := ha x (by simp)
    have hy := hb y (by simp)
    obtain ⟨xt, xn⟩ := x
    obtain ⟨yt, yn⟩ := y
    cases xt <;> cases yt
    · have := hx rfl
      have := hy rfl
      dsimp only at *
      subst xn yn
      rfl
    · cases h1
    · cases h1
    · injection h1 with h1
      have h1 : xn = yn := h1
      rw [h1]
theorem zc_zero : ZC (List.replicate 16 zC) := by
  intro x hx
  rw [List.eq_of_mem_replicate hx]
  intro _
  rfl
def begC (W : Wo) (c : List Cl) : Wo := ⟨W.s + 1, W.f, W.v, W.v, c, W.a⟩
def moveC (W : Wo) (k : Int) : Wo := ⟨W.s, W.s + 1, ⟨W.v.n + 1, k.toNat⟩, W.u, W.c, W.a⟩
def mvB (W : Wo) (k : Int) : Bool := decide (W.v = W.u) && nxB W.v.n W.v.m k
def movF (W : Wo) (k : Int) : Wo × (Bool × Int) := if mvB W k = true then (moveC W k, (true, W.v.n + 1)) else (W, (false, 0))
def cellC (W : Wo) (c : List Cl) : Wo := ⟨W.s, W.f, W.v, W.u, c, W.a⟩
def lastC (W : Wo) (r : Rq) (q : Bool × Int) : Wo := ⟨W.s, W.f, W.v, W.u, W.c, W.a.set r.c.toNat ⟨r.c, r.s, W.s, q.1, q.2⟩⟩
structure DoneP (W : Wo) (o : Ok) (V : Wo) (q : Bool × Int) : Prop where
  inn : WoIn V
  qn : i64s q.2
  mov : o.k = 6 → (V, q) = movF W o.a
  op : o.k ≠ 6 → V = cellC W V.c ∧ nmF V.c = (doK (nmF W.c) o).1 ∧ q = (doK (nmF W.c) o).2 ∧ ZC V.c
structure BtI (E : We) (W : Wo) (d : Bt) : Prop where
  inn : WoIn W
  s : W.s = E.s + 1
  u : W.u = E.v
  v : W.v = d.x
  f : W.f = if d.x = E.v then E.f else E.s + 2
  c : nmF W.c = d.c
  z : ZC W.c
  a : W.a = d.a
theorem bt_beg {W : Wo} {c : List Cl} (hW : WoIn W) (hs : i64s (W.s + 1)) (hc : ClIn c) (hn : nmF c = nmF W.c) (hz : ZC c) : BtI W.e (begC W c) (begW W.e) :=
  ⟨⟨hs, hW.f, hW.v, hW.v, hc, hW.a⟩, rfl, rfl, rfl, (if_pos rfl).symm, hn, hz, rfl⟩
theorem isNx_eq {E : We} {W : Wo} {d : Bt} (h : BtI E W d) (k : Int) : mvB W k = isNx E.v d.x k := by
  unfold mvB isNx
  rw [h.u, h.v, Bool.and_comm]
  by_cases e : d.x = E.v
  · rw [e]
  · rw [decide_eq_false e, Bool.and_false, Bool.and_false]
theorem last_in {W : Wo} (h : WoIn W) (r : Rq) (q : Bool × Int) (hq : i64s q.2) : WoIn (lastC W r q) :=
  ⟨h.s, h.f, h.v, h.u, h.c, by show (W.a.set _ _).length = 6; rw [List.length_set]; exact h.a.1, fun p hp => by
    rcases List.mem_or_eq_of_mem_set hp with hp | rfl
    · exact h.a.2 p hp
    · exact ⟨hq⟩⟩
theorem bt_due {E : We} {W : Wo} {d : Bt} (h : BtI E W d) {r : Rq} (hd : dueR W.a r = true) {V : Wo} {q : Bool × Int} (hD : DoneP W (okR r) V q) :
    BtI E (lastC V r q) (stepW E.v (E.s + 1) d r) ∧ (stepW E.v (E.s + 1) d r).o = d.o ++ [⟨r.c, r.s, W.s, q.1, q.2⟩] ∧ V.s = W.s ∧ V.a = W.a := by
  rw [h.a] at hd
  have e0 : stepW E.v (E.s + 1) d r = ⟨(opW E.v d.x d.c r).1, d.a.set r.c.toNat (repW E.v (E.s + 1) d r), (opW E.v d.x d.c r).2.1, d.o ++ [repW E.v (E.s + 1) d r]⟩ := if_pos hd
  rw [e0]
  have key : ∀ (V : Wo) (q : Bool × Int), WoIn V → i64s q.2 → V.s = W.s → V.u = W.u → V.a = W.a → V.v = (opW E.v d.x d.c r).2.1 → V.f = (if (opW E.v d.x d.c r).2.1 = E.v then E.f else E.s + 2) → nmF V.c = (opW E.v d.x d.c r).1 → ZC V.c → q = (opW E.v d.x d.c r).2.2 →
      BtI E (lastC V r q) ⟨(opW E.v d.x d.c r).1, d.a.set r.c.toNat (repW E.v (E.s + 1) d r), (opW E.v d.x d.c r).2.1, d.o ++ [repW E.v (E.s + 1) d r]⟩ ∧ (d.o ++ [repW E.v (E.s + 1) d r] = d.o ++ [⟨r.c, r.s, W.s, q.1, q.2⟩]) ∧ V.s = W.s ∧ V.a = W.a := by
    intro V q hV hq h1 h2 h3 h4 h5 h6 h7 h8
    have hr : (⟨r.c, r.s, V.s, q.1, q.2⟩ : Rp) = repW E.v (E.s + 1) d r := by
      unfold repW
      rw [h1, h.s, h8]
    refine ⟨⟨last_in hV r q hq, h1.trans h.s, h2.trans h.u, h4, h5, h6, h7, ?_⟩, ?_, h1, h3⟩
    · show V.a.set _ _ = _
      rw [hr, h3, h.a]
    · rw [← h1, hr]
  by_cases hk : r.k = 6
  · have hm := hD.mov hk
    have e1 : opW E.v d.x d.c r = if isNx E.v d.x r.a = true then (d.c, ⟨E.v.n + 1, r.a.toNat⟩, true, E.v.n + 1) else (d.c, d.x, false, 0) := if_pos hk
    unfold movF at hm
    have hm : (V, q) = if mvB W r.a = true then (moveC W r.a, (true, W.v.n + 1)) else (W, (false, 0)) := hm
    rw [isNx_eq h] at hm
    by_cases hx : isNx E.v d.x r.a = true
    · rw [if_pos hx] at hm e1
      injection hm with hm1 hm2
      have hxe : d.x = E.v := by
        unfold isNx at hx
        simp only [Bool.and_eq_true, decide_eq_true_eq] at hx
        exact hx.2
      have hn : W.v.n = E.v.n := by rw [h.v, hxe]
      have hne : (⟨E.v.n + 1, r.a.toNat⟩ : Vw) ≠ E.v := fun e => by
        have := congrArg Vw.n e
        dsimp only at this
        omega
      refine key V q hD.inn hD.qn ?_ ?_ ?_ ?_ ?_ ?_ ?_ ?_
      · rw [hm1]; rfl
      · rw [hm1]; rfl
      · rw [hm1]; rfl
      · rw [hm1, e1]; show (⟨W.v.n + 1, _⟩ : Vw) = _; rw [hn]
      · rw [e1, if_neg hne, hm1]; show W.s + 1 = _; rw [h.s]; omega
      · rw [hm1, e1]; exact h.c
      · rw [hm1]; exact h.z
      · rw [hm2, e1, hn]
    · rw [if_neg hx] at hm e1
      injection hm with hm1 hm2
      refine key V q hD.inn hD.qn ?_ ?_ ?_ ?_ ?_ ?_ ?_ ?_
      · rw [hm1]
      · rw [hm1]
      · rw [hm1]
      · rw [hm1, e1]; exact h.v
      · rw [e1, hm1]; exact h.f
      · rw [hm1, e1]; exact h.c
      · rw [hm1]; exact h.z
      · rw [hm2, e1]
  · obtain ⟨m1, m2, m3, m4⟩ := hD.op hk
    have e1 : opW E.v d.x d.c r = ((doK d.c (okR r)).1, d.x, (doK d.c (okR r)).2.1, (doK d.c (okR r)).2.2) := if_neg hk
    rw [h.c] at m2 m3
    refine key V q hD.inn hD.qn ?_ ?_ ?_ ?_ ?_ ?_ m4 ?_
    · rw [m1]; rfl
    · rw [m1]; rfl
    · rw [m1]; rfl
    · rw [e1, m1]; exact h.v
    · rw [e1, m1]; exact h.f
    · rw [e1]; exact m2
    · rw [e1]; exact m3
theorem bt_not {E : We} {W : Wo} {d : Bt} (h : BtI E W d) {r : Rq} (hd : dueR W.a r = false) : stepW E.v (E.s + 1) d r = d := by
  rw [h.a] at hd
  unfold stepW
  rw [hd]
  rfl
theorem bt_end {W V : Wo} {l : List Rq} (h : BtI W.e V (batW W.v (W.s + 1) (begW W.e) l)) (hz : ZC W.c) : V.e = (doW W.e l).1 ∧ (idle W.e l → V.c = W.c) := by
  have h1 : V.e = (doW W.e l).1 := by
    show V.e = endW W.e (batW W.v (W.s + 1) (begW W.e) l)
    unfold endW
    show (⟨V.s, V.f, V.v, V.u, nmF V.c, V.a⟩ : We) = _
    rw [h.s, h.f, h.v, h.u, h.c, h.a]
  refine ⟨h1, fun hi => zc_eq h.z hz ?_⟩
  have := congrArg We.c h1
  rw [do_idle hi] at this
  exact this
/-! cells of a changed world -/
theorem wlo_s (W : Wo) (x : Int) : W.l.take 0 ++ [.int .i64 x] ++ W.l.drop 1 = (⟨x, W.f, W.v, W.u, W.c, W.a⟩ : Wo).l := rfl
theorem wlo_f (W : Wo) (x : Int) : W.l.take 1 ++ [.int .i64 x] ++ W.l.drop 2 = (⟨W.s, x, W.v, W.u, W.c, W.a⟩ : Wo).l := rfl
theorem wlo_v (W : Wo) (x : Vw) : W.l.take 2 ++ x.l ++ W.l.drop 4 = (⟨W.s, W.f, x, W.u, W.c, W.a⟩ : Wo).l := rfl
theorem wlo_u (W : Wo) (x : Vw) : W.l.take 4 ++ x.l ++ W.l.drop 6 = (⟨W.s, W.f, W.v, x, W.c, W.a⟩ : Wo).l := rfl
theorem wlo_c (W : Wo) (c : List Cl) (h : W.c.length = 16) : W.l.take 6 ++ cvs c ++ W.l.drop 38 = (cellC W c).l := by
  have e : W.l.drop 38 = ras W.a := by
    unfold Wo.l
    show (cvs W.c ++ W.a.flatMap Rp.l).drop 32 = _
    rw [show (32 : Nat) = (cvs W.c).length from by rw [len_cvs, h], List.drop_left]
    rfl
  rw [e]
  show [_, _, _, _, _, _] ++ cvs c ++ ras W.a = _
  rw [List.append_assoc]
  rfl
theorem ras_set : ∀ (a : List Rp) (i : Nat) (x : Rp), i < a.length → (ras a).take (i * 5) ++ x.l ++ (ras a).drop (i * 5 + 5) = ras (a.set i x)
  | [], i, x, h => by simp at h
  | y :: a, 0, x, _ => rfl
  | y :: a, i + 1, x, h => by
    have := ras_set a i x (by simpa using h)
    show (y.l ++ ras a).take ((i + 1) * 5) ++ x.l ++ (y.l ++ ras a).drop ((i + 1) * 5 + 5) = y.l ++ ras (a.set i x)
    rw [← this, show (i + 1) * 5 = y.l.length + i * 5 from by simp [Rp.l]; omega, List.take_length_add_append, show y.l.length + i * 5 + 5 = y.l.length + (i * 5 + 5) from by omega, List.drop_length_add_append]
    simp only [List.append_assoc]
theorem wlo_a (W : Wo) (i : Nat) (x : Rp) (h : W.c.length = 16) (hi : i < W.a.length) : W.l.take (38 + i * 5) ++ x.l ++ W.l.drop (38 + i * 5 + 5) = (⟨W.s, W.f, W.v, W.u, W.c, W.a.set i x⟩ : Wo).l := by
  have hp : ([.int .i64 W.s, .int .i64 W.f, .int .i64 W.v.n, .int .u16 (W.v.m : Int), .int .i64 W.u.n, .int .u16 (W.u.m : Int)] ++ cvs W.c : List Value).length = 38 := by
    rw [List.length_append, len_cvs, h]
    rfl
  have e : W.l = ([.int .i64 W.s, .int .i64 W.f, .int .i64 W.v.n, .int .u16 (W.v.m : Int), .int .i64 W.u.n, .int .u16 (W.u.m : Int)] ++ cvs W.c) ++ ras W.a := by
    rw [List.append_assoc]
    rfl
  have e2 : (⟨W.s, W.f, W.v, W.u, W.c, W.a.set i x⟩ : Wo).l = ([.int .i64 W.s, .int .i64 W.f, .int .i64 W.v.n, .int .u16 (W.v.m : Int), .int .i64 W.u.n, .int .u16 (W.u.m : Int)] ++ cvs W.c) ++ ras (W.a.set i x) := by
    rw [List.append_assoc]
    rfl
  rw [e, e2]
  obtain ⟨p, hpp⟩ : ∃ p, p = ([.int .i64 W.s, .int .i64 W.f, .int .i64 W.v.n, .int .u16 (W.v.m : Int), .int .i64 W.u.n, .int .u16 (W.u.m : Int)] ++ cvs W.c : List Value) := ⟨_, rfl⟩
  rw [← hpp] at hp ⊢
  rw [← hp, List.take_length_add_append, show p.length + i * 5 + 5 = p.length + (i * 5 + 5) from by omega, List.drop_length_add_append, ← ras_set W.a i x hi]
  simp only [List.append_assoc]
end Go.Proofs.YtfjgfaccfjdklaaDoor
/- AG: layer 15: contracts of execs over the landed code: begun, due, moved, done. -/
namespace Go.Proofs.YtfjgfaccfjdklaaDoor
open Go.RowKit Go.V
def zWo : Wo := ⟨0, 0, ⟨0, 0⟩, ⟨0, 0⟩, List.replicate 16 zC, List.replicate 6 ⟨0, 0, 0, false, 0⟩⟩
theorem zeroWo : (Tryd.prog.info? 34).map (·.zero) = some (some (.agg zWo.l.toArray)) := by kernel_rfl
theorem len_zWo : zWo.l.length = 68 := by decide
theorem sizeW15 : (Tryd.prog.info? 34).map (·.size) = some 68 := by kernel_rfl
theorem sizeR15 : (Tryd.prog.info? 31).map (·.size) = some 5 := by kernel_rfl
theorem one_vw (v : Vw) : ∀ x ∈ v.l, x.oneCell' = true := by
  intro x hx
  simp only [Vw.l, List.mem_cons, List.not_mem_nil, or_false] at hx
  rcases hx with rfl | rfl <;> rfl
theorem sizeIk15 : (Tryd.prog.info? 3).map (·.size) = some 1 := by kernel_rfl
theorem bldOp0 : ∀ W : World, (Instr.build 51 #[]).run Tryd.prog W = .ok (.agg (Ok.l ⟨0, 0, 0, 0⟩).toArray) W := fun _ => by kernel_rfl
theorem beg_in {W : Wo} {c : List Cl} (hW : WoIn W) (hs : i64s (W.s + 1)) (hc : ClIn c) : WoIn (begC W c) := ⟨hs, hW.f, hW.v, hW.v, hc, hW.a⟩
theorem z64 : i64s 0 := by unfold i64s; omega
set_option maxRecDepth 100000 in
set_option maxHeartbeats 8000000 in
theorem begun15_any (W : Wo) (w : World) (hW : WoIn W) (hs : i64s (W.s + 1)) :
    Calls Tryd.prog 31 #[.agg W.l.toArray] w fun e w' => ∃ c', e = .returned (.agg (begC W c').l.toArray) ∧ ClIn c' ∧ nmF c' = nmF W.c ∧ ZC c' ∧ Below w.heap.size w w' := by
  have hdo := fun X => kvdo15_any W.c ⟨0, 0, 0, 0⟩ X hW.c ⟨z64, z64, z64, z64⟩
  have e0 : doK (nmF W.c) ⟨0, 0, 0, 0⟩ = (nmF W.c, (false, 0)) := if_neg (fun h => absurd h.2.1 (by decide))
  rw [e0] at hdo
  clear e0
  have Hdo := hid hdo
  have hwr : IntKind.i64.wrap (W.s + 1) = W.s + 1 := IntWalk.i64_in _ (by unfold i64s at hs; omega)
  obtain ⟨W0, hW0, b1, b2, hB⟩ := alloc2 w 34 34 W.l zWo.l
  have HW := hid (wol hW)
  have HI := hid hW
  have Lc := hid (show (cvs W.c).length = 32 by rw [len_cvs, hW.c.len])
  have HL := hid (len_wo hW)
  have HLc := hid hW.c.len
  have HI1 := hid (beg_in hW hs hW.c)
  have HIc := hid (fun c => beg_in (c := c) hW hs)
  clear hdo hW hs
  go_enter Tryd.func31, Tryd.ntmps31
  go_wp2_with (first | (refine wp_new 34 rfl rfl zeroWo ?_; refine wp_stop ?_))
  rw [← hW0]
  clear hW0
  obtain ⟨g2, hg2⟩ : ∃ g, g = w.heap.size + 1 := ⟨_, rfl⟩
  rw [← hg2] at b2 ⊢
  obtain ⟨g1, hg1⟩ : ∃ g, g = w.heap.size := ⟨_, rfl⟩
  rw [← hg1] at b1 ⊢
  have hw1 : w.heap.size ≤ g1 := by omega
  have h12 : g1 < g2 := by omega
  clear hg1 hg2
  refine wp_go ?_
  go_wp2_with (first | refine wp_ld 24 (.tmp 3) rfl rfl rfl (b1.range 2 W.v.l HW.out.v) Tryd.underlying24 rfl sizeV ?_ | (refine wp_st 24 (.tmp 5) (.tmp 4) rfl rfl rfl (f := 4) rfl (l := W.v.l) rfl b1 (by rw [HL.out]; show 4 + 2 ≤ 68; omega) sizeV (one_vw _) ?_; intro w2 k1 G1; refine wp_stop ?_))
  obtain ⟨W1, hW1⟩ : ∃ V : Wo, V = ⟨W.s, W.f, W.v, W.v, W.c, W.a⟩ := ⟨_, rfl⟩
  have k1 : Blk w2 g1 34 W1.l := by rw [hW1, ← wlo_u W W.v]; exact k1
  have b2 := b2.keep (G1.block _ b2.lt (by intro e; injection e with e; omega))
  have hB := hB.grown G1 hB.size (by intro k hk; injection hk with hk; omega)
  have c0 : w2.cell? ⟨g1, 0, none⟩ = some (.int .i64 W.s) := k1.cellAt 0 _ (by rw [hW1]; rfl)
  have HL1 : Hid (W1.l.length = 68) := by show _ = _; rw [hW1]; exact len_wo (⟨HI.out.s, HI.out.f, HI.out.v, HI.out.v, HI.out.c, HI.out.a⟩ : WoIn ⟨W.s, W.f, W.v, W.v, W.c, W.a⟩)
  have E1 := hid hW1
  clear hW1 G1 b1
  refine wp_go ?_
  go_wp2_with (first | (refine wp_st1 3 (.tmp 9) (.tmp 8) rfl rfl rfl (f := 0) rfl (v := .int .i64 (W.s + 1)) rfl k1 (by rw [HL1.out]; omega) sizeIk15 rfl rfl ?_; intro w3 k2 G2; refine wp_stop ?_))
  obtain ⟨W2, hW2⟩ : ∃ V : Wo, V = begC W W.c := ⟨_, rfl⟩
  have k2 : Blk w3 g1 34 W2.l := by
    have e : W1.l.set 0 (.int .i64 (W.s + 1)) = W2.l := by rw [hW2, E1.out]; rfl
    rw [← e]; exact k2
  have b2 := b2.keep (G2.block _ b2.lt (by intro e; injection e with e; omega))
  have hB := hB.grown G2 hB.size (by intro k hk; injection hk with hk; omega)
  have hr : w3.rangeAt g1 6 (cvs W.c) := k2.range 6 _ (by rw [hW2]; exact fun j x hx => (wol HI1.out).c j x hx)
  have HL2 : Hid (W2.l.length = 68) := by show _ = _; rw [hW2]; exact len_wo HI1.out
  have E2 := hid hW2
  clear hW2 G2 c0 HL1 E1 k1
  refine wp_go ?_
  go_wp2_with (first | refine wp_ld 27 (.tmp 11) rfl rfl rfl hr Tryd.underlying27 rfl (by rw [Lc.out]; exact sizeCs) ?_ | refine wp_bld 51 [] rfl rfl [] rfl bldOp0 ?_)
  refine (Hdo.out _).mono ?_
  rintro e w4 ⟨c', rfl, hc, hn, hz, hB4⟩
  have k2 := k2.below hB4
  have b2 := b2.below hB4
  have hB := hB.trans (hB4.mono hB.size)
  have Hc := hid hc
  have Hn := hid hn
  have Hz := hid hz
  have Lc' := hid (show (cvs c').length = 32 by rw [len_cvs, hc.len])
  have Ho := hid (one_cvs c')
  obtain ⟨cc, hcc⟩ : ∃ q, q = cvs c' := ⟨_, rfl⟩
  rw [← hcc] at Lc' Ho ⊢
  have Hcc := hid hcc
  clear hc hn hz hB4 hcc hr
  go_wp2_with (first | (refine wp_st 27 (.tmp 17) (.tmp 15) rfl rfl rfl (f := 6) rfl (l := cc) rfl k2 (by rw [HL2.out, Lc'.out]; omega) (by rw [Lc'.out]; exact sizeCs) Ho.out ?_; intro w5 k3 G3; refine wp_stop ?_))
  obtain ⟨W3, hW3⟩ : ∃ V : Wo, V = begC W c' := ⟨_, rfl⟩
  have k3 : Blk w5 g1 34 W3.l := by
    have e : W2.l.take 6 ++ cc ++ W2.l.drop (6 + cc.length) = W3.l := by
      rw [Lc'.out, hW3, Hcc.out, wlo_c W2 c' (by rw [E2.out]; exact HLc.out), E2.out]
      rfl
    rw [← e]; exact k3
  have b2 := b2.keep (G3.block _ b2.lt (by intro e; injection e with e; omega))
  have hB := hB.grown G3 hB.size (by intro k hk; injection hk with hk; omega)
  have HL3 : Hid (W3.l.length = 68) := by show _ = _; rw [hW3]; exact len_wo (HIc.out c' Hc.out)
  have Ho3 : Hid (∀ v ∈ W3.l, v.oneCell' = true) := one_wo _
  have E3 := hid hW3
  clear hW3 G3 k2
  refine wp_go ?_
  go_wp2_with (first | refine wp_ld 34 (.tmp 1) rfl rfl rfl k3.whole Tryd.underlying34 rfl (by rw [HL3.out]; exact sizeW15) ?_ | (refine wp_st 34 (.tmp 2) (.tmp 18) rfl rfl rfl (f := 0) rfl (l := W3.l) rfl b2 (by rw [HL3.out, len_zWo]; omega) (by rw [HL3.out]; exact sizeW15) Ho3.out ?_; intro w6 k4 G4))
  have k4 := blk_all k4 (by rw [HL3.out, len_zWo]; omega)
  have hB := hB.grown G4 hB.size (by intro k hk; injection hk with hk; omega)
  refine ret_cell rfl rfl k4.whole Tryd.underlying34 rfl (by rw [HL3.out]; exact sizeW15) rfl ?_
  exact ⟨c', by rw [E3.out], Hc.out, Hn.out, Hz.out, hB⟩
end Go.Proofs.YtfjgfaccfjdklaaDoor
/- AJ: layer 15: contracts of execs over the landed code: moved. -/
namespace Go.Proofs.YtfjgfaccfjdklaaDoor
open Go.RowKit Go.V
set_option maxRecDepth 100000 in
set_option maxHeartbeats 8000000 in
theorem moved15_any (W : Wo) (k : Int) (w : World) (hW : WoIn W) (hk : i64s k) (hs : i64s (W.s + 1)) :
    Calls Tryd.prog 57 #[.agg W.l.toArray, .int .i64 k] w fun e w' => e = .returned (.tuple #[.agg (movF W k).1.l.toArray, .agg (rvs (movF W k).2).toArray]) ∧ Below w.heap.size w w' := by
  obtain ⟨W0, hW0, b2, b4, b5, hB⟩ := alloc3 w 34 34 29 W.l zWo.l (rvs (false, 0))
  have HW := hid (wol hW)
  have HL := hid (len_wo hW)
  have Hone := hid (one_wo W)
  have hnx := hid (fun X => next_any W.v.n W.v.m k X hW.v.2 hk.1 hk.2)
  obtain ⟨D, hD⟩ : ∃ D, D = movF W k := ⟨_, rfl⟩
  rw [← hD]
  unfold movF mvB at hD
  have HI := hid hW
  clear hW
  go_enter Tryd.func57, Tryd.ntmps57
  go_wp2_with (first | (refine wp_new 34 rfl rfl zeroWo ?_; refine wp_new 29 rfl rfl zeroRs ?_; refine wp_stop ?_))
  rw [← hW0]
  clear hW0
  obtain ⟨g5, hg5⟩ : ∃ g, g = w.heap.size + 1 + 1 := ⟨_, rfl⟩
  rw [← hg5] at b5 ⊢
  obtain ⟨g4, hg4⟩ : ∃ g, g = w.heap.size + 1 := ⟨_, rfl⟩
  rw [← hg4] at b4 ⊢
  obtain ⟨g2, hg2⟩ : ∃ g, g = w.heap.size := ⟨_, rfl⟩
  rw [← hg2] at b2 ⊢
  have hw2 : w.heap.size ≤ g2 := by omega
  have h24 : g2 < g4 := by omega
  have h45 : g4 < g5 := by omega
  clear hg2 hg4 hg5
  have v0 : W0.cell? ⟨g2, 2, none⟩ = some (.int .i64 W.v.n) := b2.cellAt 2 _ (HW.out.v 0 _ rfl)
  have v1 : W0.cell? ⟨g2, 2 + 1, none⟩ = some (.int .u16 (W.v.m : Int)) := b2.cellAt 3 _ (HW.out.v 1 _ rfl)
  have u0 : W0.cell? ⟨g2, 4, none⟩ = some (.int .i64 W.u.n) := b2.cellAt 4 _ (HW.out.u 0 _ rfl)
  have u1 : W0.cell? ⟨g2, 4 + 1, none⟩ = some (.int .u16 (W.u.m : Int)) := b2.cellAt 5 _ (HW.out.u 1 _ rfl)
  have s0 : W0.cell? ⟨g2, 0, none⟩ = some (.int .i64 W.s) := b2.cellAt 0 _ HW.out.s
  refine wp_go ?_
  by_cases he : W.v = W.u
  · rw [← he] at u0 u1
    have hmw : (⟨W.s, W.s + 1, ⟨W.v.n + 1, k.toNat⟩, W.u, W.c, W.a⟩ : Wo) = moveC W k := rfl
    cases hx : nxB W.v.n W.v.m k with
    | false =>
      have Hd : Hid (D = (W, (false, 0))) := by
        show _ = _
        rw [hD, hx, Bool.and_false]
        rfl
      have Hn := hid (nxR_no hx)
      clear hD hx he
      go_wp2_with (fail)
      refine (hnx.out _).mono ?_
      rintro e w1 ⟨rfl, hB1⟩
      rw [Hn.out]
      have b2 := b2.below hB1
      have b4 := b4.below hB1
      have b5 := b5.below hB1
      have hB := hB.trans (hB1.mono hB.size)
      clear hB1 v0 v1 u0 u1 s0
      go_wp2_with (first | (refine wp_newst 24 6 (.tmp 20) rfl rfl rfl rfl rfl rfl zeroV (l := [.int .i64 0, .int .u16 0]) rfl rfl sizeV (one_vw ⟨0, 0⟩) (by simp) ?_; intro w2 b6 hB2 hs2; refine wp_stop ?_))
      have b2 := b2.below hB2
      have b4 := b4.below hB2
      have b5 := b5.below hB2
      have hB := hB.trans (hB2.mono hB.size)
      clear hB2 hs2 b6
      refine wp_go ?_
      go_wp2_with (first | refine wp_ld 34 (.tmp 2) rfl rfl rfl b2.whole Tryd.underlying34 rfl (by rw [HL.out]; exact sizeW15) ?_ | refine wp_bld 29 [] rfl rfl [] rfl bldRs ?_ | (refine wp_st 34 (.tmp 4) (.tmp 24) rfl rfl rfl (f := 0) rfl (l := W.l) rfl b4 (by rw [HL.out, len_zWo]; omega) (by rw [HL.out]; exact sizeW15) Hone.out ?_; intro x1 k4 G4; refine wp_st 29 (.tmp 5) (.tmp 25) rfl rfl rfl (f := 0) rfl (l := rvs (false, 0)) rfl (b5.keep (G4.block _ b5.lt (by intro e; injection e with e; omega))) (by show 0 + 2 ≤ 2; omega) sizeRs (one_rvs _) ?_; intro x2 k5 G5))
      have h4 := (blk_all k4 (by rw [HL.out, len_zWo]; omega)).keep (G5.block _ k4.lt (by intro e; injection e with e; omega))
      have h5 := blk_all k5 (by show 2 ≤ 2; omega)
      have hB := (hB.grown G4 hB.size (by intro k hk; injection hk with hk; omega)).grown G5 (Nat.le_trans hB.size G4.size) (by intro k hk; injection hk with hk; omega)
      refine ret_cell2 rfl rfl rfl h4.whole h5.whole Tryd.underlying34 rfl (by rw [HL.out]; exact sizeW15) Tryd.underlying29 rfl sizeRs rfl ?_
      exact ⟨by rw [Hd.out], hB⟩
    | true =>
      obtain ⟨m, hm⟩ : ∃ m, m = k.toNat := ⟨_, rfl⟩
      have Hd : Hid (D = (moveC W k, (true, W.v.n + 1))) := by
        show _ = _
        rw [hD, hx, decide_eq_true he]
        rfl
      have Hn : Hid (nxR W.v.n W.v.m k = .tuple #[.agg #[.int .i64 (W.v.n + 1), .int .u16 (m : Int)], .int .i64 0]) := by
        show _ = _
        unfold nxR
        rw [if_pos hx, hm]
        rfl
      have hwr : IntKind.i64.wrap (W.s + 1) = W.s + 1 := IntWalk.i64_in _ (by unfold i64s at hs; omega)
      obtain ⟨hr1, hk0, hk1, hr2⟩ := nxB_spec hx
      have HI2 : Hid (WoIn (moveC W k)) := ⟨HI.out.s, hs, ⟨(by have := rgt_sz hr2; show i64s (W.v.n + 1); unfold i64s; omega), (by show k.toNat < 65536; omega)⟩, HI.out.u, HI.out.c, HI.out.a⟩
      have Hm := hid hm
      clear hD hx he hr1 hr2 hk0 hk1 hm
      go_wp2_with (fail)
      refine (hnx.out _).mono ?_
      rintro e w1 ⟨rfl, hB1⟩
      rw [Hn.out]
      have b2 := b2.below hB1
      have b4 := b4.below hB1
      have b5 := b5.below hB1
      have hB := hB.trans (hB1.mono hB.size)
      clear hB1 v0 v1 u0 u1 s0
      have h56 : g5 < w1.heap.size := b5.lt
      go_wp2_with (first | (refine wp_newst 24 6 (.tmp 20) rfl rfl rfl rfl rfl rfl zeroV (l := [.int .i64 (W.v.n + 1), .int .u16 (m : Int)]) rfl rfl sizeV (one_vw ⟨W.v.n + 1, m⟩) (by simp) ?_; intro w2 b6 hB2 hs2; refine wp_stop ?_))
      have b2 := b2.below hB2
      have b4 := b4.below hB2
      have b5 := b5.below hB2
      have hB := hB.trans (hB2.mono hB.size)
      obtain ⟨g6, hg6⟩ : ∃ g, g = w1.heap.size := ⟨_, rfl⟩
      rw [← hg6] at b6 h56 ⊢
      have b6 : Blk w2 g6 24 (Vw.l ⟨W.v.n + 1, m⟩) := b6
      clear hB2 hs2 hg6
      have s0 : w2.cell? ⟨g2, 0, none⟩ = some (.int .i64 W.s) := b2.cellAt 0 _ HW.out.s
      refine wp_go ?_
      go_wp2_with (first | refine wp_ld 24 (.tmp 6) rfl rfl rfl b6.whole Tryd.underlying24 rfl sizeV ?_ | (refine wp_st 24 (.tmp 30) (.tmp 26) rfl rfl rfl (f := 2) rfl (l := Vw.l ⟨W.v.n + 1, m⟩) rfl b2 (by rw [HL.out]; show 2 + 2 ≤ 68; omega) sizeV (one_vw _) ?_; intro w3 k2 G2; refine wp_stop ?_))
      obtain ⟨W1, hW1⟩ : ∃ V : Wo, V = ⟨W.s, W.f, ⟨W.v.n + 1, m⟩, W.u, W.c, W.a⟩ := ⟨_, rfl⟩
      have k2 : Blk w3 g2 34 W1.l := by rw [hW1, ← wlo_v W]; exact k2
      have HL1 : Hid (W1.l.length = 68) := by
        show _ = _
        rw [hW1, ← wlo_v W]
        simp only [List.length_append, List.length_take, List.length_drop, HL.out]
        rfl
      have b4 := b4.keep (G2.block _ b4.lt (by intro e; injection e with e; omega))
      have b5 := b5.keep (G2.block _ b5.lt (by intro e; injection e with e; omega))
      have b6 := b6.keep (G2.block _ b6.lt (by intro e; injection e with e; omega))
      have hB := hB.grown G2 hB.size (by intro k hk; injection hk with hk; omega)
      have E1 := hid hW1
      clear hW1 G2 s0 b2
      refine wp_go ?_
      go_wp2_with (first | (refine wp_st1 3 (.tmp 31) (.tmp 29) rfl rfl rfl (f := 1) rfl (v := .int .i64 (W.s + 1)) rfl k2 (by rw [HL1.out]; omega) sizeIk15 rfl rfl ?_; intro w4 k3 G3; refine wp_stop ?_))
      obtain ⟨W2, hW2⟩ : ∃ V : Wo, V = moveC W k := ⟨_, rfl⟩
      have k3 : Blk w4 g2 34 W2.l := by
        have e : W1.l.set 1 (.int .i64 (W.s + 1)) = W2.l := by rw [hW2, E1.out, Hm.out]; rfl
        rw [← e]; exact k3
      have b4 := b4.keep (G3.block _ b4.lt (by intro e; injection e with e; omega))
      have b5 := b5.keep (G3.block _ b5.lt (by intro e; injection e with e; omega))
      have b6 := b6.keep (G3.block _ b6.lt (by intro e; injection e with e; omega))
      have hB := hB.grown G3 hB.size (by intro k hk; injection hk with hk; omega)
      have HL2 : Hid (W2.l.length = 68) := by show _ = _; rw [hW2]; exact len_wo HI2.out
      have Ho2 : Hid (∀ v ∈ W2.l, v.oneCell' = true) := one_wo _
      rw [← hW2] at Hd
      clear hW2 G3 k2 E1 HL1
      refine wp_go ?_
      go_upto_region 7 with (fail)
      have h4 := b4.drew
      have h5 := b5.drew
      have X2 : Hid (∀ Z, Ch (fun y => y = g4 ∨ y = g5) w4 Z → Blk Z g2 34 W2.l) := fun Z h => k3.ch h (by rintro (h | h) <;> omega)
      have X6 : Hid (∀ Z, Ch (fun y => y = g4 ∨ y = g5) w4 Z → Z.cell? ⟨g6, 0, none⟩ = some (.int .i64 (W.v.n + 1))) := fun Z h => (b6.ch h (by rintro (h | h) <;> omega)).cellAt 0 _ rfl
      refine wp_region_noPanic ?_
      refine wp_region_held_drew (S := Ch (fun y => y = g4 ∨ y = g5) w4) (by kernel_rfl) ((Ch.refl _ _).drew) (fun hHeld => ?_)
      refine wpAnyH_take (i := 0) (oi := ⟨some 32, .load 34 (.tmp 2), _, _, _, none⟩) (v := _) rfl (by kernel_rfl) (by kernel_rfl) (by kernel_rfl) (fun _ _ _ h => h) (yieldsIf_load_mid (by rfl) 34 (.tmp 2) (by rfl) _ (0) (by rfl) _ _ (fun _ hs => (X2.out _ hs).whole) Tryd.underlying34 rfl (by rw [HL2.out]; exact sizeW15)) (by assumption) ?_
      try simp only [Act.put, List.setIfInBounds_toArray, List.set_cons_zero, List.set_cons_succ]
      refine wpAnyH_take (i := 1) (oi := ⟨some 33, _, _, _, _, none⟩) (v := ?_) rfl (by kernel_rfl) (by kernel_rfl) (by kernel_rfl) (fun _ _ _ h => h) (Or.inl ⟨by rfl, ?_⟩) (by assumption) ?_
      rotate_left
      · intro w hSw; go_simp; try with_reducible rfl
      try simp only [Act.put, List.setIfInBounds_toArray, List.set_cons_zero, List.set_cons_succ]
      refine wpAnyH_take (i := 2) (oi := ⟨some 34, _, _, _, _, none⟩) (v := ?_) rfl (by kernel_rfl) (by kernel_rfl) (by kernel_rfl) (fun _ _ _ h => h) (Or.inl ⟨by rfl, ?_⟩) (by assumption) ?_
      rotate_left
      · intro w hSw; have hcw := X6.out w hSw; go_simp; try with_reducible rfl
      try simp only [Act.put, List.setIfInBounds_toArray, List.set_cons_zero, List.set_cons_succ]
      refine wpAnyH_take (i := 3) (oi := ⟨some 35, _, _, _, _, none⟩) (v := _) rfl (by kernel_rfl) (by kernel_rfl) (by kernel_rfl) (fun _ _ _ h => h) (y_bld (by rfl) 29 [(0, .const (.bool true)), (1, .tmp 34)] (by rfl) [(0, .bool true), (1, .int .i64 (W.v.n + 1))] (by rfl) (bldRv true (W.v.n + 1))) (by assumption) ?_
      try simp only [Act.put, List.setIfInBounds_toArray, List.set_cons_zero, List.set_cons_succ]
      refine wpAnyH_ready (rs := [4]) (by kernel_rfl) (by simp) ?_
      refine AllReadyH.cons (o := ⟨none, _, _, _, _, none⟩) rfl (fun K hK => ?_) AllReadyH.nil
      refine step_st 34 (.tmp 4) (.tmp 32) (by rfl) (by rfl) (by rfl) (f := 0) (by rfl) (l := W2.l) (by rfl) h4 (by rw [HL2.out, len_zWo]; omega) (by rw [HL2.out]; exact sizeW15) Ho2.out ?_
      intro x1 k4 G4
      have h4 := blk_all k4 (by rw [HL2.out, len_zWo]; omega)
      have h5 := h5.keep (G4.block _ h5.lt (by intro e; injection e with e; omega))
      refine hK.out _ _ (hHeld.grow G4 (fun k hk => .inl (.inl (by injection hk with hk; exact hk.symm)))) (fun hHeld => ?_)
      clear hK K
      try simp only [Act.put, List.setIfInBounds_toArray, List.set_cons_zero, List.set_cons_succ]
      refine wpAnyH_ready (rs := [5]) (by kernel_rfl) (by simp) ?_
      refine AllReadyH.cons (o := ⟨none, _, _, _, _, none⟩) rfl (fun K hK => ?_) AllReadyH.nil
      refine step_st 29 (.tmp 5) (.tmp 35) (by rfl) (by rfl) (by rfl) (f := 0) (by rfl) (l := rvs (true, W.v.n + 1)) (by rfl) h5 (by show 0 + 2 ≤ 2; omega) sizeRs (one_rvs _) ?_
      intro x2 k5 G5
      have h5 := blk_all k5 (by show 2 ≤ 2; omega)
      have h4 := h4.keep (G5.block _ h4.lt (by intro e; injection e with e; omega))
      refine hK.out _ _ (hHeld.grow G5 (fun k hk => .inl (.inr (by injection hk with hk; exact hk.symm)))) (fun hHeld => ?_)
      clear hK K
      try simp only [Act.put, List.setIfInBounds_toArray, List.set_cons_zero, List.set_cons_succ]
      refine wpAnyH_done (by kernel_rfl) ?_ _
      refine NoPanic.normal ?_
      have hB := Ch.below_of hB hHeld (fun k hk => by rcases hk with rfl | rfl <;> omega) hB.size
      go_wp2
      refine ret_cell2 rfl rfl rfl h4.whole h5.whole Tryd.underlying34 rfl (by rw [HL2.out]; exact sizeW15) Tryd.underlying29 rfl sizeRs rfl ?_
      exact ⟨by rw [Hd.out], hB⟩
  · have Hd : Hid (D = (W, (false, 0))) := by
      show _ = _
      rw [hD, decide_eq_false he]
      rfl
    have hne : ¬ (W.v.n = W.u.n ∧ W.v.m = W.u.m) := fun h => he (by
      obtain ⟨a, b⟩ := h
      obtain ⟨s, f, ⟨n1, m1⟩, ⟨n2, m2⟩, c, a'⟩ := W
      dsimp only at a b ⊢
      rw [a, b])
    clear hD he
    go_upto_region 2 with (fail)
    all_goals clear v0 v1 u0 u1 s0
    all_goals go_wp2_with (first | refine wp_ld 34 (.tmp 2) rfl rfl rfl b2.whole Tryd.underlying34 rfl (by rw [HL.out]; exact sizeW15) ?_ | refine wp_bld 29 [] rfl rfl [] rfl bldRs ?_ | (refine wp_st 34 (.tmp 4) (.tmp 13) rfl rfl rfl (f := 0) rfl (l := W.l) rfl b4 (by rw [HL.out, len_zWo]; omega) (by rw [HL.out]; exact sizeW15) Hone.out ?_; intro x1 k4 G4; refine wp_st 29 (.tmp 5) (.tmp 14) rfl rfl rfl (f := 0) rfl (l := rvs (false, 0)) rfl (b5.keep (G4.block _ b5.lt (by intro e; injection e with e; omega))) (by show 0 + 2 ≤ 2; omega) sizeRs (one_rvs _) ?_; intro x2 k5 G5))
    all_goals have h4 := (blk_all k4 (by rw [HL.out, len_zWo]; omega)).keep (G5.block _ k4.lt (by intro e; injection e with e; omega))
    all_goals have h5 := blk_all k5 (by show 2 ≤ 2; omega)
    all_goals have hB := (hB.grown G4 hB.size (by intro k hk; injection hk with hk; omega)).grown G5 (Nat.le_trans hB.size G4.size) (by intro k hk; injection hk with hk; omega)
    all_goals refine ret_cell2 rfl rfl rfl h4.whole h5.whole Tryd.underlying34 rfl (by rw [HL.out]; exact sizeW15) Tryd.underlying29 rfl sizeRs rfl ?_
    all_goals exact ⟨by rw [Hd.out], hB⟩
end Go.Proofs.YtfjgfaccfjdklaaDoor
/- AK: layer 15: contracts of execs over the landed code: done. -/
namespace Go.Proofs.YtfjgfaccfjdklaaDoor
open Go.RowKit Go.V
theorem mov_in {W : Wo} {k : Int} (hW : WoIn W) (hs : i64s (W.s + 1)) : WoIn (movF W k).1 ∧ i64s (movF W k).2.2 := by
  unfold movF
  split
  · rename_i h
    unfold mvB at h
    simp only [Bool.and_eq_true] at h
    obtain ⟨_, h0, h1, h2⟩ := nxB_spec h.2
    have h3 : i64s (W.v.n + 1) := by have := rgt_sz h2; unfold i64s; omega
    exact ⟨⟨hW.s, hs, ⟨h3, by show k.toNat < 65536; omega⟩, hW.u, hW.c, hW.a⟩, h3⟩
  · exact ⟨hW, z64⟩
set_option maxRecDepth 100000 in
set_option maxHeartbeats 8000000 in
theorem done15_any (W : Wo) (o : Ok) (w : World) (hW : WoIn W) (ho : OkIn o) (hs : i64s (W.s + 1)) (hq : i64s (doK (nmF W.c) o).2.2) :
    Calls Tryd.prog 33 #[.agg W.l.toArray, .agg o.l.toArray] w fun e w' => ∃ V q, e = .returned (.tuple #[.agg V.l.toArray, .agg (rvs q).toArray]) ∧ DoneP W o V q ∧ Below w.heap.size w w' := by
  obtain ⟨W0, hW0, b2, b3, b4, b5, hB⟩ := alloc4 w 34 51 34 29 W.l o.l zWo.l (rvs (false, 0))
  have b4 : Blk W0 (w.heap.size + 1 + 1) 34 zWo.l := b4
  have b5 : Blk W0 (w.heap.size + 1 + 1 + 1) 29 (rvs (false, 0)) := b5
  have HW := hid (wol hW)
  have HL := hid (len_wo hW)
  have Hone := hid (one_wo W)
  have Hmv := hid (fun X => moved15_any W o.a X hW ho.a hs)
  have Hmi := hid (mov_in (k := o.a) hW hs)
  have Hdo := hid (fun X => kvdo15_any W.c o X hW.c ho)
  have Lc := hid (show (cvs W.c).length = 32 by rw [len_cvs, hW.c.len])
  have HI := hid hW
  have Hq := hid hq
  clear hW hs hq
  go_enter Tryd.func33, Tryd.ntmps33
  go_wp2_with (first | (refine wp_new 34 rfl rfl zeroWo ?_; refine wp_new 29 rfl rfl zeroRs ?_; refine wp_stop ?_))
  rw [← hW0]
  clear hW0
  obtain ⟨g5, hg5⟩ : ∃ g, g = w.heap.size + 1 + 1 + 1 := ⟨_, rfl⟩
  rw [← hg5] at b5 ⊢
  obtain ⟨g4, hg4⟩ : ∃ g, g = w.heap.size + 1 + 1 := ⟨_, rfl⟩
  rw [← hg4] at b4 ⊢
  obtain ⟨g3, hg3⟩ : ∃ g, g = w.heap.size + 1 := ⟨_, rfl⟩
  rw [← hg3] at b3 ⊢
  obtain ⟨g2, hg2⟩ : ∃ g, g = w.heap.size := ⟨_, rfl⟩
  rw [← hg2] at b2 ⊢
  have hw2 : w.heap.size ≤ g2 := by omega
  have h23 : g2 < g3 := by omega
  have h34 : g3 < g4 := by omega
  have h45 : g4 < g5 := by omega
  clear hg2 hg3 hg4 hg5
  obtain ⟨k, y, a, b⟩ := o
  have d0 := b3.cellAt 0 _ rfl
  have d2 := b3.cellAt 2 _ rfl
  dsimp only at Hmv Hmi d0 d2
  refine wp_go ?_
  by_cases hk : k = 6
  · subst hk
    obtain ⟨⟨V, q⟩, hM⟩ : ∃ M, M = movF W a := ⟨_, rfl⟩
    rw [← hM] at Hmv Hmi
    have HM := hid hM
    have HLV := hid (len_wo Hmi.out.1)
    have HoV := hid (one_wo V)
    clear hM
    dsimp only at Hmv Hmi HLV
    go_wp2_with (refine wp_ld 34 (.tmp 2) rfl rfl rfl b2.whole Tryd.underlying34 rfl (by rw [HL.out]; exact sizeW15) ?_)
    refine (Hmv.out _).mono ?_
    rintro e w1 ⟨rfl, hB1⟩
    have b4 := b4.below hB1
    have b5 := b5.below hB1
    have hB := hB.trans (hB1.mono hB.size)
    go_wp2_with (first | (refine wp_st 34 (.tmp 4) (.tmp 14) rfl rfl rfl (f := 0) rfl (l := V.l) rfl b4 (by rw [HLV.out, len_zWo]; omega) (by rw [HLV.out]; exact sizeW15) HoV.out ?_; intro x1 k4 G4; refine wp_st 29 (.tmp 5) (.tmp 15) rfl rfl rfl (f := 0) rfl (l := rvs q) rfl (b5.keep (G4.block _ b5.lt (by intro e; injection e with e; omega))) (by show 0 + 2 ≤ 2; omega) sizeRs (one_rvs _) ?_; intro x2 k5 G5))
    have h4 := (blk_all k4 (by rw [HLV.out, len_zWo]; omega)).keep (G5.block _ k4.lt (by intro e; injection e with e; omega))
    have h5 := blk_all k5 (by show 2 ≤ 2; omega)
    have hB := (hB.grown G4 hB.size (by intro k hk; injection hk with hk; omega)).grown G5 (Nat.le_trans hB.size G4.size) (by intro k hk; injection hk with hk; omega)
    refine ret_cell2 rfl rfl rfl h4.whole h5.whole Tryd.underlying34 rfl (by rw [HLV.out]; exact sizeW15) Tryd.underlying29 rfl sizeRs rfl ?_
    exact ⟨V, q, rfl, ⟨Hmi.out.1, Hmi.out.2, fun _ => HM.out, fun h => absurd rfl h⟩, hB⟩
  · obtain ⟨D, hD⟩ : ∃ D, D = doK (nmF W.c) ⟨k, y, a, b⟩ := ⟨_, rfl⟩
    rw [← hD] at Hdo Hq
    have HD := hid hD
    clear hD Hmv Hmi
    have hcr := b2.range 6 (cvs W.c) HW.out.c
    go_wp2_with (first | (refine wp_new 29 rfl rfl zeroRs ?_; refine wp_stop ?_))
    have b6 := Blk.new' W0 29 (rvs (false, 0))
    have hB6 : Below W0.heap.size W0 (W0.alloc (.cells (rvs (false, 0)).toArray 29)) := (Below.refl _ _).alloc (Nat.le_refl _) _
    have b56 := b5.lt
    obtain ⟨w1, hw1⟩ : ∃ x, x = W0.alloc (.cells (rvs (false, 0)).toArray 29) := ⟨_, rfl⟩
    rw [← hw1] at b6 hB6 ⊢
    obtain ⟨g6, hg6⟩ : ∃ g, g = W0.heap.size := ⟨_, rfl⟩
    have hB := hB.trans (hB6.mono hB.size)
    have b2 := b2.below hB6
    have b3 := b3.below hB6
    have b4 := b4.below hB6
    have b5 := b5.below hB6
    rw [← hg6] at b6 b56 ⊢
    clear hw1 hB6 hg6 d0 d2 hcr
    have hcr := b2.range 6 (cvs W.c) HW.out.c
    refine wp_go ?_
    go_wp2_with (first | refine wp_ld 27 (.tmp 17) rfl rfl rfl hcr Tryd.underlying27 rfl (by rw [Lc.out]; exact sizeCs) ?_ | refine wp_ld 51 (.tmp 3) rfl rfl rfl b3.whole Tryd.underlying51 rfl sizeOk ?_)
    refine (Hdo.out _).mono ?_
    rintro e w2 ⟨c', rfl, hc, hn, hz, hB2⟩
    have b2 := b2.below hB2
    have b4 := b4.below hB2
    have b5 := b5.below hB2
    have b6 := b6.below hB2
    have hB := hB.trans (hB2.mono hB.size)
    have Hc := hid hc
    have Hn := hid hn
    have Hz : Hid (ZC c') := hid hz
    have Lc' := hid (show (cvs c').length = 32 by rw [len_cvs, hc.len])
    have Ho := hid (one_cvs c')
    obtain ⟨q, hq⟩ : ∃ q, q = D.2 := ⟨_, rfl⟩
    rw [← hq]
    have HqD := hid hq
    obtain ⟨cc, hcc⟩ : ∃ q, q = cvs c' := ⟨_, rfl⟩
    rw [← hcc] at Lc' Ho ⊢
    have Hcc := hid hcc
    clear hc hn hz hB2 hcc hcr hq
    go_wp2_with (first | (refine wp_st 27 (.tmp 23) (.tmp 21) rfl rfl rfl (f := 6) rfl (l := cc) rfl b2 (by rw [HL.out, Lc'.out]; omega) (by rw [Lc'.out]; exact sizeCs) Ho.out ?_; intro x1 k2 G2; refine wp_st 29 (.tmp 6) (.tmp 22) rfl rfl rfl (f := 0) rfl (l := rvs q) rfl (b6.keep (G2.block _ b6.lt (by intro e; injection e with e; omega))) (by show 0 + 2 ≤ 2; omega) sizeRs (one_rvs _) ?_; intro x2 k6 G6; refine wp_stop ?_))
    have k6 := blk_all k6 (by show 2 ≤ 2; omega)
    obtain ⟨V, hV⟩ : ∃ V : Wo, V = cellC W c' := ⟨_, rfl⟩
    have k2 : Blk x2 g2 34 V.l := by
      have e : W.l.take 6 ++ cc ++ W.l.drop (6 + cc.length) = V.l := by
        rw [Lc'.out, hV, Hcc.out, wlo_c W c' HI.out.c.len]
      rw [← e]; exact k2.keep (G6.block _ k2.lt (by intro e; injection e with e; omega))
    have b4 := (b4.keep (G2.block _ b4.lt (by intro e; injection e with e; omega)))
    have b5 := (b5.keep (G2.block _ b5.lt (by intro e; injection e with e; omega)))
    have b4 := (b4.keep (G6.block _ b4.lt (by intro e; injection e with e; omega)))
    have b5 := (b5.keep (G6.block _ b5.lt (by intro e; injection e with e; omega)))
    have hB := (hB.grown G2 hB.size (by intro k hk; injection hk with hk; omega)).grown G6 (Nat.le_trans hB.size G2.size) (by intro k hk; injection hk with hk; omega)
    have HV := hid hV
    have HVI : Hid (WoIn V) := by show WoIn V; rw [hV]; exact ⟨HI.out.s, HI.out.f, HI.out.v, HI.out.u, Hc.out, HI.out.a⟩
    have HLV := hid (len_wo HVI.out)
    have HoV := hid (one_wo V)
    clear hV G2 G6 b6
    refine wp_go ?_
    go_upto_region 5 with (fail)
    have h4 := b4.drew
    have h5 := b5.drew
    have X2 : Hid (∀ Z, Ch (fun y => y = g4 ∨ y = g5) x2 Z → Blk Z g2 34 V.l) := fun Z h => k2.ch h (by rintro (h | h) <;> omega)
    have X6 : Hid (∀ Z, Ch (fun y => y = g4 ∨ y = g5) x2 Z → Blk Z g6 29 (rvs q)) := fun Z h => k6.ch h (by rintro (h | h) <;> omega)
    refine wp_region_noPanic ?_
    refine wp_region_held_drew (S := Ch (fun y => y = g4 ∨ y = g5) x2) (by kernel_rfl) ((Ch.refl _ _).drew) (fun hHeld => ?_)
    refine wpAnyH_take (i := 0) (oi := ⟨some 24, .load 34 (.tmp 2), _, _, _, none⟩) (v := _) rfl (by kernel_rfl) (by kernel_rfl) (by kernel_rfl) (fun _ _ _ h => h) (yieldsIf_load_mid (by rfl) 34 (.tmp 2) (by rfl) _ (0) (by rfl) _ _ (fun _ hs => (X2.out _ hs).whole) Tryd.underlying34 rfl (by rw [HLV.out]; exact sizeW15)) (by assumption) ?_
    try simp only [Act.put, List.setIfInBounds_toArray, List.set_cons_zero, List.set_cons_succ]
    refine wpAnyH_take (i := 1) (oi := ⟨some 25, .load 29 (.tmp 6), _, _, _, none⟩) (v := _) rfl (by kernel_rfl) (by kernel_rfl) (by kernel_rfl) (fun _ _ _ h => h) (yieldsIf_load_mid (by rfl) 29 (.tmp 6) (by rfl) _ (0) (by rfl) _ _ (fun _ hs => (X6.out _ hs).whole) Tryd.underlying29 rfl (sizeRs)) (by assumption) ?_
    try simp only [Act.put, List.setIfInBounds_toArray, List.set_cons_zero, List.set_cons_succ]
    refine wpAnyH_ready (rs := [2]) (by kernel_rfl) (by simp) ?_
    refine AllReadyH.cons (o := ⟨none, _, _, _, _, none⟩) rfl (fun K hK => ?_) AllReadyH.nil
    refine step_st 34 (.tmp 4) (.tmp 24) (by rfl) (by rfl) (by rfl) (f := 0) (by rfl) (l := V.l) (by rfl) h4 (by rw [HLV.out, len_zWo]; omega) (by rw [HLV.out]; exact sizeW15) HoV.out ?_
    intro y1 k4 G4
    have h4 := blk_all k4 (by rw [HLV.out, len_zWo]; omega)
    have h5 := h5.keep (G4.block _ h5.lt (by intro e; injection e with e; omega))
    refine hK.out _ _ (hHeld.grow G4 (fun k hk => .inl (.inl (by injection hk with hk; exact hk.symm)))) (fun hHeld => ?_)
    clear hK K
    try simp only [Act.put, List.setIfInBounds_toArray, List.set_cons_zero, List.set_cons_succ]
    refine wpAnyH_ready (rs := [3]) (by kernel_rfl) (by simp) ?_
    refine AllReadyH.cons (o := ⟨none, _, _, _, _, none⟩) rfl (fun K hK => ?_) AllReadyH.nil
    refine step_st 29 (.tmp 5) (.tmp 25) (by rfl) (by rfl) (by rfl) (f := 0) (by rfl) (l := rvs q) (by rfl) h5 (by show 0 + 2 ≤ 2; omega) sizeRs (one_rvs _) ?_
    intro y2 k5 G5
    have h5 := blk_all k5 (by show 2 ≤ 2; omega)
    have h4 := h4.keep (G5.block _ h4.lt (by intro e; injection e with e; omega))
    refine hK.out _ _ (hHeld.grow G5 (fun k hk => .inl (.inr (by injection hk with hk; exact hk.symm)))) (fun hHeld => ?_)
    clear hK K
    try simp only [Act.put, List.setIfInBounds_toArray, List.set_cons_zero, List.set_cons_succ]
    refine wpAnyH_done (by kernel_rfl) ?_ _
    refine NoPanic.normal ?_
    have hB := Ch.below_of hB hHeld (fun k hk => by rcases hk with rfl | rfl <;> omega) hB.size
    go_wp2
    refine ret_cell2 rfl rfl rfl h4.whole h5.whole Tryd.underlying34 rfl (by rw [HLV.out]; exact sizeW15) Tryd.underlying29 rfl sizeRs rfl ?_
    refine ⟨V, q, rfl, ⟨HVI.out, by rw [HqD.out]; exact Hq.out, fun h => absurd h hk, fun _ => ⟨by rw [HV.out]; rfl, ?_, by rw [HqD.out, HD.out], ?_⟩⟩, hB⟩
    · rw [HV.out]
      show nmF c' = _
      rw [Hn.out, HD.out]
    · rw [HV.out]
      exact Hz.out
end Go.Proofs.YtfjgfaccfjdklaaDoor
/- AH: layer 15: contracts of execs over the landed code: due. -/
namespace Go.Proofs.YtfjgfaccfjdklaaDoor
open Go.RowKit Go.V
theorem due_no {a : List Rp} {c s k y p q : Int} {g : List UInt8} (h : ¬ (0 ≤ c ∧ c ≤ 5)) : dueR a ⟨c, s, k, y, p, q, g⟩ = false := by
  unfold dueR
  dsimp only
  rw [decide_eq_false h]
  rfl
theorem due_wr {a : List Rp} {c s k y p q : Int} {g : List UInt8} (h : rgtO c k y p q = false) : dueR a ⟨c, s, k, y, p, q, g⟩ = false := by
  unfold dueR
  dsimp only
  rw [h, Bool.and_false, Bool.false_and]
theorem due_ok {a : List Rp} {i : Nat} {s k y p q : Int} {g : List UInt8} (hi : i < 6) (h : rgtO (i : Int) k y p q = true) {x : Rp} (hx : a[i]? = some x) : dueR a ⟨(i : Int), s, k, y, p, q, g⟩ = decide (x.s < s) := by
  unfold dueR lastS
  dsimp only
  rw [h, decide_eq_true (by omega), Int.toNat_natCast, hx]
  rfl
set_option maxRecDepth 100000 in
set_option maxHeartbeats 8000000 in
theorem due15_any (W : Wo) (r : Rq) (A : Option Addr) (n m : Nat) (w : World) (hW : WoIn W) :
    Calls Tryd.prog 32 #[.agg W.l.toArray, r.v (.slice A n m)] w fun e w' => e = .returned (.bool (dueR W.a r)) ∧ Below w.heap.size w w' := by
  obtain ⟨c, s, k, y, p, q, g⟩ := r
  obtain ⟨W0, hW0, b2, b3, hB⟩ := alloc2 w 34 53 W.l [.int .i64 c, .int .i64 s, .int .i64 k, .int .i64 y, .int .i64 p, .int .i64 q, .slice A n m]
  have HW := hid (wol hW)
  have hal := hW.a.1
  obtain ⟨D, hD⟩ : ∃ D, D = dueR W.a ⟨c, s, k, y, p, q, g⟩ := ⟨_, rfl⟩
  rw [← hD]
  have HD := hid hD
  clear hW hD
  unfold Rq.v
  dsimp only
  go_enter Tryd.func32, Tryd.ntmps32
  go_upto_region 1 with (fail)
  rw [← hW0]
  clear hW0
  obtain ⟨g3, hg3⟩ : ∃ g, g = w.heap.size + 1 := ⟨_, rfl⟩
  rw [← hg3] at b3 ⊢
  obtain ⟨g2, hg2⟩ : ∃ g, g = w.heap.size := ⟨_, rfl⟩
  rw [← hg2] at b2 ⊢
  have hw2 : w.heap.size ≤ g2 := by omega
  have h23 : g2 < g3 := by omega
  clear hg2 hg3
  have c0 := b3.cellAt 0 _ rfl
  by_cases hc : 0 ≤ c ∧ c ≤ 5
  · obtain ⟨hc0, hc5⟩ := hc
    obtain ⟨i, rfl⟩ : ∃ i : Nat, c = (i : Int) := ⟨c.toNat, by omega⟩
    have hi : i < 6 := by omega
    have hc6 : (i : Int) < 6 := by omega
    clear hc5
    obtain ⟨x, hx⟩ : ∃ x, W.a[i]? = some x := ⟨_, List.getElem?_eq_getElem (by omega)⟩
    have Hx := hid hx
    clear hx
    go_upto_region 2 with (fail)
    have R2 : Hid (∀ Z, Ch nob W0 Z → Z.cell? ⟨g3, 0, none⟩ = some (.int .i64 (i : Int))) := fun Z h => (b3.below h.below).cellAt 0 _ rfl
    have R1 : Hid (∀ Z, Ch nob W0 Z → Z.cell? ⟨g3, 1, none⟩ = some (.int .i64 s)) := fun Z h => (b3.below h.below).cellAt 1 _ rfl
    have RO : Hid (∀ Z, Ch nob W0 Z → Z.rangeAt g3 2 [.int .i64 k, .int .i64 y, .int .i64 p, .int .i64 q]) := fun Z h => (b3.below h.below).range 2 _ (fun j v hv => by
      match j with
      | 0 => exact hv
      | 1 => exact hv
      | 2 => exact hv
      | 3 => exact hv
      | j + 4 => simp at hv)
    have RL : Hid (∀ Z, Ch nob W0 Z → Z.cell? ⟨g2, 38 + i * 5 + 1, none⟩ = some (.int .i64 x.s)) := fun Z h => (b2.below h.below).cellAt _ _ (HW.out.a i x Hx.out 1 _ rfl)
    have hB2 := hB
    cases hr : rgtO (i : Int) k y p q with
    | false =>
      have Hd : Hid (D = false) := by show _ = _; rw [HD.out]; exact due_wr hr
      have Hr := hid hr
      clear hr
      refine wp_region_noPanic ?_
      refine wp_region_held_drew (S := Ch nob W0) (by kernel_rfl) ((Ch.refl _ _).drew) (fun hHeld => ?_)
      refine wpAnyH_take (i := 0) (oi := ⟨some 14, _, _, _, _, none⟩) (v := ?_) rfl (by kernel_rfl) (by kernel_rfl) (by kernel_rfl) (fun _ _ _ h => h) (Or.inl ⟨by rfl, ?_⟩) (by assumption) ?_
      rotate_left
      · intro w hSw; go_simp; try with_reducible rfl
      try simp only [Act.put, List.setIfInBounds_toArray, List.set_cons_zero, List.set_cons_succ]
      refine wpAnyH_take (i := 1) (oi := ⟨some 15, _, _, _, _, none⟩) (v := ?_) rfl (by kernel_rfl) (by kernel_rfl) (by kernel_rfl) (fun _ _ _ h => h) (Or.inl ⟨by rfl, ?_⟩) (by assumption) ?_
      rotate_left
      · intro w hSw; go_simp; try with_reducible rfl
      try simp only [Act.put, List.setIfInBounds_toArray, List.set_cons_zero, List.set_cons_succ]
      refine wpAnyH_take (i := 2) (oi := ⟨some 16, _, _, _, _, some (1, true)⟩) (v := ?_) rfl (by kernel_rfl) (by kernel_rfl) (by kernel_rfl) (fun _ _ _ h => h) (Or.inl ⟨by rfl, ?_⟩) (by assumption) ?_
      rotate_left
      · intro w hSw; go_simp; try with_reducible rfl
      try simp only [Act.put, List.setIfInBounds_toArray, List.set_cons_zero, List.set_cons_succ]
      refine wpAnyH_take (i := 3) (oi := ⟨some 17, _, _, _, _, some (1, true)⟩) (v := ?_) rfl (by kernel_rfl) (by kernel_rfl) (by kernel_rfl) (fun _ _ _ h => h) (Or.inl ⟨by rfl, ?_⟩) (by assumption) ?_
      rotate_left
      · intro w hSw; have hcw := R2.out w hSw; go_simp; try with_reducible rfl
      try simp only [Act.put, List.setIfInBounds_toArray, List.set_cons_zero, List.set_cons_succ]
      refine wpAnyH_take (i := 4) (oi := ⟨some 18, _, _, _, _, some (1, true)⟩) (v := ?_) rfl (by kernel_rfl) (by kernel_rfl) (by kernel_rfl) (fun _ _ _ h => h) (Or.inl ⟨by rfl, ?_⟩) (by assumption) ?_
      rotate_left
      · intro w hSw; go_simp; try with_reducible rfl
      try simp only [Act.put, List.setIfInBounds_toArray, List.set_cons_zero, List.set_cons_succ]
      refine wpAnyH_take (i := 5) (oi := ⟨some 19, .load 51 (.tmp 18), _, _, _, some (1, true)⟩) (v := _) rfl (by kernel_rfl) (by kernel_rfl) (by kernel_rfl) (fun _ _ _ h => h) (yieldsIf_load_mid (by rfl) 51 (.tmp 18) (by rfl) _ (2) (by rfl) _ _ (fun _ hs => RO.out _ hs) Tryd.underlying51 rfl (sizeOk)) (by assumption) ?_
      try simp only [Act.put, List.setIfInBounds_toArray, List.set_cons_zero, List.set_cons_succ]
      refine wpAnyH_ready (rs := [6]) (by kernel_rfl) (by simp) ?_
      refine AllReadyH.cons (o := ⟨some 20, _, _, _, _, some (1, true)⟩) rfl (fun K hK => ?_) AllReadyH.nil
      go_simp
      refine (right7_any _ _ _ _ _ _).mono ?_
      rintro e' w7 ⟨rfl, hB7⟩
      rw [Hr.out]
      refine hK.out _ _ (hHeld.belowR hB7) (fun hHeld => ?_)
      clear hK K
      try simp only [Act.put, List.setIfInBounds_toArray, List.set_cons_zero, List.set_cons_succ]
      refine wpAnyH_take (i := 7) (oi := ⟨some 21, _, _, _, _, none⟩) (v := ?_) rfl (by kernel_rfl) (by kernel_rfl) (by kernel_rfl) (fun _ _ _ h => h) (Or.inl ⟨by rfl, ?_⟩) (by assumption) ?_
      rotate_left
      · intro w hSw; go_simp; try with_reducible rfl
      try simp only [Act.put, List.setIfInBounds_toArray, List.set_cons_zero, List.set_cons_succ]
      refine wpAnyH_take (i := 8) (oi := ⟨some 22, _, _, _, _, none⟩) (v := ?_) rfl (by kernel_rfl) (by kernel_rfl) (by kernel_rfl) (fun _ _ _ h => h) (Or.inl ⟨by rfl, ?_⟩) (by assumption) ?_
      rotate_left
      · intro w hSw; go_simp; try with_reducible rfl
      try simp only [Act.put, List.setIfInBounds_toArray, List.set_cons_zero, List.set_cons_succ]
      refine wpAnyH_take (i := 9) (oi := ⟨some 23, _, _, _, _, some (8, true)⟩) (v := undef) rfl (by kernel_rfl) (by kernel_rfl) (by kernel_rfl) (fun _ _ _ h => h) (Or.inr ⟨by rfl, rfl⟩) (by assumption) ?_
      try simp only [Act.put, List.setIfInBounds_toArray, List.set_cons_zero, List.set_cons_succ]
      refine wpAnyH_take (i := 10) (oi := ⟨some 24, _, _, _, _, some (8, true)⟩) (v := undef) rfl (by kernel_rfl) (by kernel_rfl) (by kernel_rfl) (fun _ _ _ h => h) (Or.inr ⟨by rfl, rfl⟩) (by assumption) ?_
      try simp only [Act.put, List.setIfInBounds_toArray, List.set_cons_zero, List.set_cons_succ]
      refine wpAnyH_take (i := 11) (oi := ⟨some 25, _, _, _, _, some (8, true)⟩) (v := undef) rfl (by kernel_rfl) (by kernel_rfl) (by kernel_rfl) (fun _ _ _ h => h) (Or.inr ⟨by rfl, rfl⟩) (by assumption) ?_
      try simp only [Act.put, List.setIfInBounds_toArray, List.set_cons_zero, List.set_cons_succ]
      refine wpAnyH_take (i := 12) (oi := ⟨some 26, _, _, _, _, some (8, true)⟩) (v := undef) rfl (by kernel_rfl) (by kernel_rfl) (by kernel_rfl) (fun _ _ _ h => h) (Or.inr ⟨by rfl, rfl⟩) (by assumption) ?_
      try simp only [Act.put, List.setIfInBounds_toArray, List.set_cons_zero, List.set_cons_succ]
      refine wpAnyH_take (i := 13) (oi := ⟨some 27, _, _, _, _, some (8, true)⟩) (v := undef) rfl (by kernel_rfl) (by kernel_rfl) (by kernel_rfl) (fun _ _ _ h => h) (Or.inr ⟨by rfl, rfl⟩) (by assumption) ?_
      try simp only [Act.put, List.setIfInBounds_toArray, List.set_cons_zero, List.set_cons_succ]
      refine wpAnyH_take (i := 14) (oi := ⟨some 28, _, _, _, _, some (8, true)⟩) (v := undef) rfl (by kernel_rfl) (by kernel_rfl) (by kernel_rfl) (fun _ _ _ h => h) (Or.inr ⟨by rfl, rfl⟩) (by assumption) ?_
      try simp only [Act.put, List.setIfInBounds_toArray, List.set_cons_zero, List.set_cons_succ]
      refine wpAnyH_take (i := 15) (oi := ⟨some 29, _, _, _, _, some (8, true)⟩) (v := undef) rfl (by kernel_rfl) (by kernel_rfl) (by kernel_rfl) (fun _ _ _ h => h) (Or.inr ⟨by rfl, rfl⟩) (by assumption) ?_
      try simp only [Act.put, List.setIfInBounds_toArray, List.set_cons_zero, List.set_cons_succ]
      refine wpAnyH_take (i := 16) (oi := ⟨some 30, _, _, _, _, some (8, true)⟩) (v := undef) rfl (by kernel_rfl) (by kernel_rfl) (by kernel_rfl) (fun _ _ _ h => h) (Or.inr ⟨by rfl, rfl⟩) (by assumption) ?_
      try simp only [Act.put, List.setIfInBounds_toArray, List.set_cons_zero, List.set_cons_succ]
      refine wpAnyH_take (i := 17) (oi := ⟨some 31, _, _, _, _, some (8, true)⟩) (v := undef) rfl (by kernel_rfl) (by kernel_rfl) (by kernel_rfl) (fun _ _ _ h => h) (Or.inr ⟨by rfl, rfl⟩) (by assumption) ?_
      try simp only [Act.put, List.setIfInBounds_toArray, List.set_cons_zero, List.set_cons_succ]
      refine wpAnyH_take (i := 18) (oi := ⟨some 32, _, _, _, _, none⟩) (v := ?_) rfl (by kernel_rfl) (by kernel_rfl) (by kernel_rfl) (fun _ _ _ h => h) (Or.inl ⟨by rfl, ?_⟩) (by assumption) ?_
      rotate_left
      · intro w hSw; go_simp; try with_reducible rfl
      try simp only [Act.put, List.setIfInBounds_toArray, List.set_cons_zero, List.set_cons_succ]
      refine wpAnyH_take (i := 19) (oi := ⟨some 4, _, _, _, _, none⟩) (v := ?_) rfl (by kernel_rfl) (by kernel_rfl) (by kernel_rfl) (fun _ _ _ h => h) (Or.inl ⟨by rfl, ?_⟩) (by assumption) ?_
      rotate_left
      · intro w hSw; go_simp; try with_reducible rfl
      try simp only [Act.put, List.setIfInBounds_toArray, List.set_cons_zero, List.set_cons_succ]
      refine wpAnyH_done (by kernel_rfl) ?_ _
      refine NoPanic.normal ?_
      go_wp2
      go_ret
      exact ⟨by rw [Hd.out]; rfl, Ch.below_of hB hHeld (fun k hk => hk.elim) hB.size⟩
    | true =>
      have Hd : Hid (D = decide (x.s < s)) := by show _ = _; rw [HD.out]; exact due_ok hi hr Hx.out
      have Hr := hid hr
      clear hr
      refine wp_region_noPanic ?_
      refine wp_region_held_drew (S := Ch nob W0) (by kernel_rfl) ((Ch.refl _ _).drew) (fun hHeld => ?_)
      refine wpAnyH_take (i := 0) (oi := ⟨some 14, _, _, _, _, none⟩) (v := ?_) rfl (by kernel_rfl) (by kernel_rfl) (by kernel_rfl) (fun _ _ _ h => h) (Or.inl ⟨by rfl, ?_⟩) (by assumption) ?_
      rotate_left
      · intro w hSw; go_simp; try with_reducible rfl
      try simp only [Act.put, List.setIfInBounds_toArray, List.set_cons_zero, List.set_cons_succ]
      refine wpAnyH_take (i := 1) (oi := ⟨some 15, _, _, _, _, none⟩) (v := ?_) rfl (by kernel_rfl) (by kernel_rfl) (by kernel_rfl) (fun _ _ _ h => h) (Or.inl ⟨by rfl, ?_⟩) (by assumption) ?_
      rotate_left
      · intro w hSw; go_simp; try with_reducible rfl
      try simp only [Act.put, List.setIfInBounds_toArray, List.set_cons_zero, List.set_cons_succ]
      refine wpAnyH_take (i := 2) (oi := ⟨some 16, _, _, _, _, some (1, true)⟩) (v := ?_) rfl (by kernel_rfl) (by kernel_rfl) (by kernel_rfl) (fun _ _ _ h => h) (Or.inl ⟨by rfl, ?_⟩) (by assumption) ?_
      rotate_left
      · intro w hSw; go_simp; try with_reducible rfl
      try simp only [Act.put, List.setIfInBounds_toArray, List.set_cons_zero, List.set_cons_succ]
      refine wpAnyH_take (i := 3) (oi := ⟨some 17, _, _, _, _, some (1, true)⟩) (v := ?_) rfl (by kernel_rfl) (by kernel_rfl) (by kernel_rfl) (fun _ _ _ h => h) (Or.inl ⟨by rfl, ?_⟩) (by assumption) ?_
      rotate_left
      · intro w hSw; have hcw := R2.out w hSw; go_simp; try with_reducible rfl
      try simp only [Act.put, List.setIfInBounds_toArray, List.set_cons_zero, List.set_cons_succ]
      refine wpAnyH_take (i := 4) (oi := ⟨some 18, _, _, _, _, some (1, true)⟩) (v := ?_) rfl (by kernel_rfl) (by kernel_rfl) (by kernel_rfl) (fun _ _ _ h => h) (Or.inl ⟨by rfl, ?_⟩) (by assumption) ?_
      rotate_left
      · intro w hSw; go_simp; try with_reducible rfl
      try simp only [Act.put, List.setIfInBounds_toArray, List.set_cons_zero, List.set_cons_succ]
      refine wpAnyH_take (i := 5) (oi := ⟨some 19, .load 51 (.tmp 18), _, _, _, some (1, true)⟩) (v := _) rfl (by kernel_rfl) (by kernel_rfl) (by kernel_rfl) (fun _ _ _ h => h) (yieldsIf_load_mid (by rfl) 51 (.tmp 18) (by rfl) _ (2) (by rfl) _ _ (fun _ hs => RO.out _ hs) Tryd.underlying51 rfl (sizeOk)) (by assumption) ?_
      try simp only [Act.put, List.setIfInBounds_toArray, List.set_cons_zero, List.set_cons_succ]
      refine wpAnyH_ready (rs := [6]) (by kernel_rfl) (by simp) ?_
      refine AllReadyH.cons (o := ⟨some 20, _, _, _, _, some (1, true)⟩) rfl (fun K hK => ?_) AllReadyH.nil
      go_simp
      refine (right7_any _ _ _ _ _ _).mono ?_
      rintro e' w7 ⟨rfl, hB7⟩
      rw [Hr.out]
      refine hK.out _ _ (hHeld.belowR hB7) (fun hHeld => ?_)
      clear hK K
      try simp only [Act.put, List.setIfInBounds_toArray, List.set_cons_zero, List.set_cons_succ]
      refine wpAnyH_take (i := 7) (oi := ⟨some 21, _, _, _, _, none⟩) (v := ?_) rfl (by kernel_rfl) (by kernel_rfl) (by kernel_rfl) (fun _ _ _ h => h) (Or.inl ⟨by rfl, ?_⟩) (by assumption) ?_
      rotate_left
      · intro w hSw; go_simp; try with_reducible rfl
      try simp only [Act.put, List.setIfInBounds_toArray, List.set_cons_zero, List.set_cons_succ]
      refine wpAnyH_take (i := 8) (oi := ⟨some 22, _, _, _, _, none⟩) (v := ?_) rfl (by kernel_rfl) (by kernel_rfl) (by kernel_rfl) (fun _ _ _ h => h) (Or.inl ⟨by rfl, ?_⟩) (by assumption) ?_
      rotate_left
      · intro w hSw; go_simp; try with_reducible rfl
      try simp only [Act.put, List.setIfInBounds_toArray, List.set_cons_zero, List.set_cons_succ]
      refine wpAnyH_take (i := 9) (oi := ⟨some 23, _, _, _, _, some (8, true)⟩) (v := ?_) rfl (by kernel_rfl) (by kernel_rfl) (by kernel_rfl) (fun _ _ _ h => h) (Or.inl ⟨by rfl, ?_⟩) (by assumption) ?_
      rotate_left
      · intro w hSw; go_simp; try with_reducible rfl
      try simp only [Act.put, List.setIfInBounds_toArray, List.set_cons_zero, List.set_cons_succ]
      refine wpAnyH_take (i := 10) (oi := ⟨some 24, _, _, _, _, some (8, true)⟩) (v := ?_) rfl (by kernel_rfl) (by kernel_rfl) (by kernel_rfl) (fun _ _ _ h => h) (Or.inl ⟨by rfl, ?_⟩) (by assumption) ?_
      rotate_left
      · intro w hSw; have hcw := R1.out w hSw; go_simp; try with_reducible rfl
      try simp only [Act.put, List.setIfInBounds_toArray, List.set_cons_zero, List.set_cons_succ]
      refine wpAnyH_take (i := 11) (oi := ⟨some 25, _, _, _, _, some (8, true)⟩) (v := ?_) rfl (by kernel_rfl) (by kernel_rfl) (by kernel_rfl) (fun _ _ _ h => h) (Or.inl ⟨by rfl, ?_⟩) (by assumption) ?_
      rotate_left
      · intro w hSw; go_simp; try with_reducible rfl
      try simp only [Act.put, List.setIfInBounds_toArray, List.set_cons_zero, List.set_cons_succ]
      refine wpAnyH_take (i := 12) (oi := ⟨some 26, _, _, _, _, some (8, true)⟩) (v := ?_) rfl (by kernel_rfl) (by kernel_rfl) (by kernel_rfl) (fun _ _ _ h => h) (Or.inl ⟨by rfl, ?_⟩) (by assumption) ?_
      rotate_left
      · intro w hSw; have hcw := R2.out w hSw; go_simp; try with_reducible rfl
      try simp only [Act.put, List.setIfInBounds_toArray, List.set_cons_zero, List.set_cons_succ]
      refine wpAnyH_take (i := 13) (oi := ⟨some 27, _, _, _, _, some (8, true)⟩) (v := ?_) rfl (by kernel_rfl) (by kernel_rfl) (by kernel_rfl) (fun _ _ _ h => h) (Or.inl ⟨by rfl, ?_⟩) (by assumption) ?_
      rotate_left
      · intro w hSw; go_simp; try with_reducible rfl
      try simp only [Act.put, List.setIfInBounds_toArray, List.set_cons_zero, List.set_cons_succ]
      refine wpAnyH_take (i := 14) (oi := ⟨some 28, _, _, _, _, some (8, true)⟩) (v := _) rfl (by kernel_rfl) (by kernel_rfl) (by kernel_rfl) (fun _ _ _ h => h) (yi_ixp (by rfl) 32 (.tmp 27) (.tmp 26) (by rfl) (by rfl) (i := i) (by rfl) Tryd.underlying32 hi sizeR15) (by assumption) ?_
      try simp only [Act.put, List.setIfInBounds_toArray, List.set_cons_zero, List.set_cons_succ]
      refine wpAnyH_take (i := 15) (oi := ⟨some 29, _, _, _, _, some (8, true)⟩) (v := ?_) rfl (by kernel_rfl) (by kernel_rfl) (by kernel_rfl) (fun _ _ _ h => h) (Or.inl ⟨by rfl, ?_⟩) (by assumption) ?_
      rotate_left
      · intro w hSw; go_simp; try with_reducible rfl
      try simp only [Act.put, List.setIfInBounds_toArray, List.set_cons_zero, List.set_cons_succ]
      refine wpAnyH_take (i := 16) (oi := ⟨some 30, _, _, _, _, some (8, true)⟩) (v := ?_) rfl (by kernel_rfl) (by kernel_rfl) (by kernel_rfl) (fun _ _ _ h => h) (Or.inl ⟨by rfl, ?_⟩) (by assumption) ?_
      rotate_left
      · intro w hSw; have hcw := RL.out w hSw; go_simp; try with_reducible rfl
      try simp only [Act.put, List.setIfInBounds_toArray, List.set_cons_zero, List.set_cons_succ]
      refine wpAnyH_take (i := 17) (oi := ⟨some 31, _, _, _, _, some (8, true)⟩) (v := ?_) rfl (by kernel_rfl) (by kernel_rfl) (by kernel_rfl) (fun _ _ _ h => h) (Or.inl ⟨by rfl, ?_⟩) (by assumption) ?_
      rotate_left
      · intro w hSw; go_simp; try with_reducible rfl
      try simp only [Act.put, List.setIfInBounds_toArray, List.set_cons_zero, List.set_cons_succ]
      refine wpAnyH_take (i := 18) (oi := ⟨some 32, _, _, _, _, none⟩) (v := ?_) rfl (by kernel_rfl) (by kernel_rfl) (by kernel_rfl) (fun _ _ _ h => h) (Or.inl ⟨by rfl, ?_⟩) (by assumption) ?_
      rotate_left
      · intro w hSw; go_simp; try with_reducible rfl
      try simp only [Act.put, List.setIfInBounds_toArray, List.set_cons_zero, List.set_cons_succ]
      refine wpAnyH_take (i := 19) (oi := ⟨some 4, _, _, _, _, none⟩) (v := ?_) rfl (by kernel_rfl) (by kernel_rfl) (by kernel_rfl) (fun _ _ _ h => h) (Or.inl ⟨by rfl, ?_⟩) (by assumption) ?_
      rotate_left
      · intro w hSw; go_simp; try with_reducible rfl
      try simp only [Act.put, List.setIfInBounds_toArray, List.set_cons_zero, List.set_cons_succ]
      refine wpAnyH_done (by kernel_rfl) ?_ _
      refine NoPanic.normal ?_
      go_wp2
      go_ret
      exact ⟨by rw [Hd.out]; rfl, Ch.below_of hB hHeld (fun k hk => hk.elim) hB.size⟩
  · have Hd : Hid (D = false) := by show _ = _; rw [HD.out]; exact due_no hc
    by_cases hc0 : 0 ≤ c
    · have hc6 : ¬ c < 6 := by omega
      clear hc
      go_upto_region 2 with (fail)
      refine wp_region_noPanic ?_
      refine wp_region_held_drew (S := Ch nob W0) (by kernel_rfl) ((Ch.refl _ _).drew) (fun hHeld => ?_)
      refine wpAnyH_take (i := 0) (oi := ⟨some 14, _, _, _, _, none⟩) (v := ?_) rfl (by kernel_rfl) (by kernel_rfl) (by kernel_rfl) (fun _ _ _ h => h) (Or.inl ⟨by rfl, ?_⟩) (by assumption) ?_
      rotate_left
      · intro w hSw; go_simp; try with_reducible rfl
      try simp only [Act.put, List.setIfInBounds_toArray, List.set_cons_zero, List.set_cons_succ]
      refine wpAnyH_take (i := 1) (oi := ⟨some 15, _, _, _, _, none⟩) (v := ?_) rfl (by kernel_rfl) (by kernel_rfl) (by kernel_rfl) (fun _ _ _ h => h) (Or.inl ⟨by rfl, ?_⟩) (by assumption) ?_
      rotate_left
      · intro w hSw; go_simp; try with_reducible rfl
      try simp only [Act.put, List.setIfInBounds_toArray, List.set_cons_zero, List.set_cons_succ]
      refine wpAnyH_take (i := 2) (oi := ⟨some 16, _, _, _, _, some (1, true)⟩) (v := undef) rfl (by kernel_rfl) (by kernel_rfl) (by kernel_rfl) (fun _ _ _ h => h) (Or.inr ⟨by rfl, rfl⟩) (by assumption) ?_
      try simp only [Act.put, List.setIfInBounds_toArray, List.set_cons_zero, List.set_cons_succ]
      refine wpAnyH_take (i := 3) (oi := ⟨some 17, _, _, _, _, some (1, true)⟩) (v := undef) rfl (by kernel_rfl) (by kernel_rfl) (by kernel_rfl) (fun _ _ _ h => h) (Or.inr ⟨by rfl, rfl⟩) (by assumption) ?_
      try simp only [Act.put, List.setIfInBounds_toArray, List.set_cons_zero, List.set_cons_succ]
      refine wpAnyH_take (i := 4) (oi := ⟨some 18, _, _, _, _, some (1, true)⟩) (v := undef) rfl (by kernel_rfl) (by kernel_rfl) (by kernel_rfl) (fun _ _ _ h => h) (Or.inr ⟨by rfl, rfl⟩) (by assumption) ?_
      try simp only [Act.put, List.setIfInBounds_toArray, List.set_cons_zero, List.set_cons_succ]
      refine wpAnyH_take (i := 5) (oi := ⟨some 19, _, _, _, _, some (1, true)⟩) (v := undef) rfl (by kernel_rfl) (by kernel_rfl) (by kernel_rfl) (fun _ _ _ h => h) (Or.inr ⟨by rfl, rfl⟩) (by assumption) ?_
      try simp only [Act.put, List.setIfInBounds_toArray, List.set_cons_zero, List.set_cons_succ]
      refine wpAnyH_take (i := 6) (oi := ⟨some 20, _, _, _, _, some (1, true)⟩) (v := undef) rfl (by kernel_rfl) (by kernel_rfl) (by kernel_rfl) (fun _ _ _ h => h) (Or.inr ⟨by rfl, rfl⟩) (by assumption) ?_
      try simp only [Act.put, List.setIfInBounds_toArray, List.set_cons_zero, List.set_cons_succ]
      refine wpAnyH_take (i := 7) (oi := ⟨some 21, _, _, _, _, none⟩) (v := ?_) rfl (by kernel_rfl) (by kernel_rfl) (by kernel_rfl) (fun _ _ _ h => h) (Or.inl ⟨by rfl, ?_⟩) (by assumption) ?_
      rotate_left
      · intro w hSw; go_simp; try with_reducible rfl
      try simp only [Act.put, List.setIfInBounds_toArray, List.set_cons_zero, List.set_cons_succ]
      refine wpAnyH_take (i := 8) (oi := ⟨some 22, _, _, _, _, none⟩) (v := ?_) rfl (by kernel_rfl) (by kernel_rfl) (by kernel_rfl) (fun _ _ _ h => h) (Or.inl ⟨by rfl, ?_⟩) (by assumption) ?_
      rotate_left
      · intro w hSw; go_simp; try with_reducible rfl
      try simp only [Act.put, List.setIfInBounds_toArray, List.set_cons_zero, List.set_cons_succ]
      refine wpAnyH_take (i := 9) (oi := ⟨some 23, _, _, _, _, some (8, true)⟩) (v := undef) rfl (by kernel_rfl) (by kernel_rfl) (by kernel_rfl) (fun _ _ _ h => h) (Or.inr ⟨by rfl, rfl⟩) (by assumption) ?_
      try simp only [Act.put, List.setIfInBounds_toArray, List.set_cons_zero, List.set_cons_succ]
      refine wpAnyH_take (i := 10) (oi := ⟨some 24, _, _, _, _, some (8, true)⟩) (v := undef) rfl (by kernel_rfl) (by kernel_rfl) (by kernel_rfl) (fun _ _ _ h => h) (Or.inr ⟨by rfl, rfl⟩) (by assumption) ?_
      try simp only [Act.put, List.setIfInBounds_toArray, List.set_cons_zero, List.set_cons_succ]
      refine wpAnyH_take (i := 11) (oi := ⟨some 25, _, _, _, _, some (8, true)⟩) (v := undef) rfl (by kernel_rfl) (by kernel_rfl) (by kernel_rfl) (fun _ _ _ h => h) (Or.inr ⟨by rfl, rfl⟩) (by assumption) ?_
      try simp only [Act.put, List.setIfInBounds_toArray, List.set_cons_zero, List.set_cons_succ]
      refine wpAnyH_take (i := 12) (oi := ⟨some 26, _, _, _, _, some (8, true)⟩) (v := undef) rfl (by kernel_rfl) (by kernel_rfl) (by kernel_rfl) (fun _ _ _ h => h) (Or.inr ⟨by rfl, rfl⟩) (by assumption) ?_
      try simp only [Act.put, List.setIfInBounds_toArray, List.set_cons_zero, List.set_cons_succ]
      refine wpAnyH_take (i := 13) (oi := ⟨some 27, _, _, _, _, some (8, true)⟩) (v := undef) rfl (by kernel_rfl) (by kernel_rfl) (by kernel_rfl) (fun _ _ _ h => h) (Or.inr ⟨by rfl, rfl⟩) (by assumption) ?_
      try simp only [Act.put, List.setIfInBounds_toArray, List.set_cons_zero, List.set_cons_succ]
      refine wpAnyH_take (i := 14) (oi := ⟨some 28, _, _, _, _, some (8, true)⟩) (v := undef) rfl (by kernel_rfl) (by kernel_rfl) (by kernel_rfl) (fun _ _ _ h => h) (Or.inr ⟨by rfl, rfl⟩) (by assumption) ?_
      try simp only [Act.put, List.setIfInBounds_toArray, List.set_cons_zero, List.set_cons_succ]
      refine wpAnyH_take (i := 15) (oi := ⟨some 29, _, _, _, _, some (8, true)⟩) (v := undef) rfl (by kernel_rfl) (by kernel_rfl) (by kernel_rfl) (fun _ _ _ h => h) (Or.inr ⟨by rfl, rfl⟩) (by assumption) ?_
      try simp only [Act.put, List.setIfInBounds_toArray, List.set_cons_zero, List.set_cons_succ]
      refine wpAnyH_take (i := 16) (oi := ⟨some 30, _, _, _, _, some (8, true)⟩) (v := undef) rfl (by kernel_rfl) (by kernel_rfl) (by kernel_rfl) (fun _ _ _ h => h) (Or.inr ⟨by rfl, rfl⟩) (by assumption) ?_
      try simp only [Act.put, List.setIfInBounds_toArray, List.set_cons_zero, List.set_cons_succ]
      refine wpAnyH_take (i := 17) (oi := ⟨some 31, _, _, _, _, some (8, true)⟩) (v := undef) rfl (by kernel_rfl) (by kernel_rfl) (by kernel_rfl) (fun _ _ _ h => h) (Or.inr ⟨by rfl, rfl⟩) (by assumption) ?_
      try simp only [Act.put, List.setIfInBounds_toArray, List.set_cons_zero, List.set_cons_succ]
      refine wpAnyH_take (i := 18) (oi := ⟨some 32, _, _, _, _, none⟩) (v := ?_) rfl (by kernel_rfl) (by kernel_rfl) (by kernel_rfl) (fun _ _ _ h => h) (Or.inl ⟨by rfl, ?_⟩) (by assumption) ?_
      rotate_left
      · intro w hSw; go_simp; try with_reducible rfl
      try simp only [Act.put, List.setIfInBounds_toArray, List.set_cons_zero, List.set_cons_succ]
      refine wpAnyH_take (i := 19) (oi := ⟨some 4, _, _, _, _, none⟩) (v := ?_) rfl (by kernel_rfl) (by kernel_rfl) (by kernel_rfl) (fun _ _ _ h => h) (Or.inl ⟨by rfl, ?_⟩) (by assumption) ?_
      rotate_left
      · intro w hSw; go_simp; try with_reducible rfl
      try simp only [Act.put, List.setIfInBounds_toArray, List.set_cons_zero, List.set_cons_succ]
      refine wpAnyH_done (by kernel_rfl) ?_ _
      refine NoPanic.normal ?_
      go_wp2
      go_ret
      exact ⟨by rw [Hd.out]; rfl, Ch.below_of hB hHeld (fun k hk => hk.elim) hB.size⟩
    · clear hc
      go_upto_region 2 with (fail)
      refine wp_region_noPanic ?_
      refine wp_region_held_drew (S := Ch nob W0) (by kernel_rfl) ((Ch.refl _ _).drew) (fun hHeld => ?_)
      refine wpAnyH_take (i := 0) (oi := ⟨some 14, _, _, _, _, none⟩) (v := ?_) rfl (by kernel_rfl) (by kernel_rfl) (by kernel_rfl) (fun _ _ _ h => h) (Or.inl ⟨by rfl, ?_⟩) (by assumption) ?_
      rotate_left
      · intro w hSw; go_simp; try with_reducible rfl
      try simp only [Act.put, List.setIfInBounds_toArray, List.set_cons_zero, List.set_cons_succ]
      refine wpAnyH_take (i := 1) (oi := ⟨some 15, _, _, _, _, none⟩) (v := ?_) rfl (by kernel_rfl) (by kernel_rfl) (by kernel_rfl) (fun _ _ _ h => h) (Or.inl ⟨by rfl, ?_⟩) (by assumption) ?_
      rotate_left
      · intro w hSw; go_simp; try with_reducible rfl
      try simp only [Act.put, List.setIfInBounds_toArray, List.set_cons_zero, List.set_cons_succ]
      refine wpAnyH_take (i := 2) (oi := ⟨some 16, _, _, _, _, some (1, true)⟩) (v := undef) rfl (by kernel_rfl) (by kernel_rfl) (by kernel_rfl) (fun _ _ _ h => h) (Or.inr ⟨by rfl, rfl⟩) (by assumption) ?_
      try simp only [Act.put, List.setIfInBounds_toArray, List.set_cons_zero, List.set_cons_succ]
      refine wpAnyH_take (i := 3) (oi := ⟨some 17, _, _, _, _, some (1, true)⟩) (v := undef) rfl (by kernel_rfl) (by kernel_rfl) (by kernel_rfl) (fun _ _ _ h => h) (Or.inr ⟨by rfl, rfl⟩) (by assumption) ?_
      try simp only [Act.put, List.setIfInBounds_toArray, List.set_cons_zero, List.set_cons_succ]
      refine wpAnyH_take (i := 4) (oi := ⟨some 18, _, _, _, _, some (1, true)⟩) (v := undef) rfl (by kernel_rfl) (by kernel_rfl) (by kernel_rfl) (fun _ _ _ h => h) (Or.inr ⟨by rfl, rfl⟩) (by assumption) ?_
      try simp only [Act.put, List.setIfInBounds_toArray, List.set_cons_zero, List.set_cons_succ]
      refine wpAnyH_take (i := 5) (oi := ⟨some 19, _, _, _, _, some (1, true)⟩) (v := undef) rfl (by kernel_rfl) (by kernel_rfl) (by kernel_rfl) (fun _ _ _ h => h) (Or.inr ⟨by rfl, rfl⟩) (by assumption) ?_
      try simp only [Act.put, List.setIfInBounds_toArray, List.set_cons_zero, List.set_cons_succ]
      refine wpAnyH_take (i := 6) (oi := ⟨some 20, _, _, _, _, some (1, true)⟩) (v := undef) rfl (by kernel_rfl) (by kernel_rfl) (by kernel_rfl) (fun _ _ _ h => h) (Or.inr ⟨by rfl, rfl⟩) (by assumption) ?_
      try simp only [Act.put, List.setIfInBounds_toArray, List.set_cons_zero, List.set_cons_succ]
      refine wpAnyH_take (i := 7) (oi := ⟨some 21, _, _, _, _, none⟩) (v := ?_) rfl (by kernel_rfl) (by kernel_rfl) (by kernel_rfl) (fun _ _ _ h => h) (Or.inl ⟨by rfl, ?_⟩) (by assumption) ?_
      rotate_left
      · intro w hSw; go_simp; try with_reducible rfl
      try simp only [Act.put, List.setIfInBounds_toArray, List.set_cons_zero, List.set_cons_succ]
      refine wpAnyH_take (i := 8) (oi := ⟨some 22, _, _, _, _, none⟩) (v := ?_) rfl (by kernel_rfl) (by kernel_rfl) (by kernel_rfl) (fun _ _ _ h => h) (Or.inl ⟨by rfl, ?_⟩) (by assumption) ?_
      rotate_left
      · intro w hSw; go_simp; try with_reducible rfl
      try simp only [Act.put, List.setIfInBounds_toArray, List.set_cons_zero, List.set_cons_succ]
      refine wpAnyH_take (i := 9) (oi := ⟨some 23, _, _, _, _, some (8, true)⟩) (v := undef) rfl (by kernel_rfl) (by kernel_rfl) (by kernel_rfl) (fun _ _ _ h => h) (Or.inr ⟨by rfl, rfl⟩) (by assumption) ?_
      try simp only [Act.put, List.setIfInBounds_toArray, List.set_cons_zero, List.set_cons_succ]
      refine wpAnyH_take (i := 10) (oi := ⟨some 24, _, _, _, _, some (8, true)⟩) (v := undef) rfl (by kernel_rfl) (by kernel_rfl) (by kernel_rfl) (fun _ _ _ h => h) (Or.inr ⟨by rfl, rfl⟩) (by assumption) ?_
      try simp only [Act.put, List.setIfInBounds_toArray, List.set_cons_zero, List.set_cons_succ]
      refine wpAnyH_take (i := 11) (oi := ⟨some 25, _, _, _, _, some (8, true)⟩) (v := undef) rfl (by kernel_rfl) (by kernel_rfl) (by kernel_rfl) (fun _ _ _ h => h) (Or.inr ⟨by rfl, rfl⟩) (by assumption) ?_
      try simp only [Act.put, List.setIfInBounds_toArray, List.set_cons_zero, List.set_cons_succ]
      refine wpAnyH_take (i := 12) (oi := ⟨some 26, _, _, _, _, some (8, true)⟩) (v := undef) rfl (by kernel_rfl) (by kernel_rfl) (by kernel_rfl) (fun _ _ _ h => h) (Or.inr ⟨by rfl, rfl⟩) (by assumption) ?_
      try simp only [Act.put, List.setIfInBounds_toArray, List.set_cons_zero, List.set_cons_succ]
      refine wpAnyH_take (i := 13) (oi := ⟨some 27, _, _, _, _, some (8, true)⟩) (v := undef) rfl (by kernel_rfl) (by kernel_rfl) (by kernel_rfl) (fun _ _ _ h => h) (Or.inr ⟨by rfl, rfl⟩) (by assumption) ?_
      try simp only [Act.put, List.setIfInBounds_toArray, List.set_cons_zero, List.set_cons_succ]
      refine wpAnyH_take (i := 14) (oi := ⟨some 28, _, _, _, _, some (8, true)⟩) (v := undef) rfl (by kernel_rfl) (by kernel_rfl) (by kernel_rfl) (fun _ _ _ h => h) (Or.inr ⟨by rfl, rfl⟩) (by assumption) ?_
      try simp only [Act.put, List.setIfInBounds_toArray, List.set_cons_zero, List.set_cons_succ]
      refine wpAnyH_take (i := 15) (oi := ⟨some 29, _, _, _, _, some (8, true)⟩) (v := undef) rfl (by kernel_rfl) (by kernel_rfl) (by kernel_rfl) (fun _ _ _ h => h) (Or.inr ⟨by rfl, rfl⟩) (by assumption) ?_
      try simp only [Act.put, List.setIfInBounds_toArray, List.set_cons_zero, List.set_cons_succ]
      refine wpAnyH_take (i := 16) (oi := ⟨some 30, _, _, _, _, some (8, true)⟩) (v := undef) rfl (by kernel_rfl) (by kernel_rfl) (by kernel_rfl) (fun _ _ _ h => h) (Or.inr ⟨by rfl, rfl⟩) (by assumption) ?_
      try simp only [Act.put, List.setIfInBounds_toArray, List.set_cons_zero, List.set_cons_succ]
      refine wpAnyH_take (i := 17) (oi := ⟨some 31, _, _, _, _, some (8, true)⟩) (v := undef) rfl (by kernel_rfl) (by kernel_rfl) (by kernel_rfl) (fun _ _ _ h => h) (Or.inr ⟨by rfl, rfl⟩) (by assumption) ?_
      try simp only [Act.put, List.setIfInBounds_toArray, List.set_cons_zero, List.set_cons_succ]
      refine wpAnyH_take (i := 18) (oi := ⟨some 32, _, _, _, _, none⟩) (v := ?_) rfl (by kernel_rfl) (by kernel_rfl) (by kernel_rfl) (fun _ _ _ h => h) (Or.inl ⟨by rfl, ?_⟩) (by assumption) ?_
      rotate_left
      · intro w hSw; go_simp; try with_reducible rfl
      try simp only [Act.put, List.setIfInBounds_toArray, List.set_cons_zero, List.set_cons_succ]
      refine wpAnyH_take (i := 19) (oi := ⟨some 4, _, _, _, _, none⟩) (v := ?_) rfl (by kernel_rfl) (by kernel_rfl) (by kernel_rfl) (fun _ _ _ h => h) (Or.inl ⟨by rfl, ?_⟩) (by assumption) ?_
      rotate_left
      · intro w hSw; go_simp; try with_reducible rfl
      try simp only [Act.put, List.setIfInBounds_toArray, List.set_cons_zero, List.set_cons_succ]
      refine wpAnyH_done (by kernel_rfl) ?_ _
      refine NoPanic.normal ?_
      go_wp2
      go_ret
      exact ⟨by rw [Hd.out]; rfl, Ch.below_of hB hHeld (fun k hk => hk.elim) hB.size⟩
end Go.Proofs.YtfjgfaccfjdklaaDoor
/- AN: layer 15: contracts of execs over the landed code: First; what Do's walk wants. -/
namespace Go.Proofs.YtfjgfaccfjdklaaDoor
open Go.RowKit Go.V
/-- what the code keeps of the values' cells: no number where there is no value -/
def OKC (c : List Cl) : Prop := ZC c
theorem okc_zero : OKC (List.replicate 16 zC) := zc_zero
def zRq : List Value := [.int .i64 0, .int .i64 0, .int .i64 0, .int .i64 0, .int .i64 0, .int .i64 0, .slice none 0 0]
theorem zeroQd15 : (Tryd.prog.info? 53).map (·.zero) = some (some (.agg zRq.toArray)) := by kernel_rfl
theorem sizeQd15 : (Tryd.prog.info? 53).map (·.size) = some 7 := by kernel_rfl
def zRpv : List Value := [.int .i64 0, .int .i64 0, .int .i64 0, .bool false, .int .i64 0]
theorem slRpd15 : SlW Tryd.prog 47 31 zRpv 5 40 := .of Tryd.underlying47 (by kernel_rfl) rfl (by omega) (by omega)
theorem bldRp15 (c s k : Int) (o : Bool) (n : Int) : ∀ W : World, (Instr.build 31 #[(0, .int .i64 c), (1, .int .i64 s), (2, .int .i64 k), (3, .agg #[.bool o, .int .i64 n])]).run Tryd.prog W = .ok (.agg #[.int .i64 c, .int .i64 s, .int .i64 k, .bool o, .int .i64 n]) W := fun _ => by kernel_rfl
theorem one_rp (r : Rp) : ∀ v ∈ r.l, v.oneCell' = true := by
  intro v hv
  simp only [Rp.l, List.mem_cons, List.not_mem_nil, or_false] at hv
  rcases hv with rfl | rfl | rfl | rfl | rfl <;> rfl
theorem one_rqd (r : Rq) (A : Option Addr) (n c : Nat) : ∀ v ∈ r.l (.slice A n c), v.oneCell' = true := by
  intro v hv
  simp only [Rq.l, List.mem_cons, List.not_mem_nil, or_false] at hv
  rcases hv with rfl | rfl | rfl | rfl | rfl | rfl | rfl <;> rfl
def fW (v : Vw) (i : Nat) : Wo := ⟨0, 1, v, v, List.replicate 16 zC, (List.range 6).map (fun c => if c < i then zRp c else zRp 0)⟩
theorem fW_next (v : Vw) (i : Nat) (h : i < 6) : (fW v i).l.set (38 + i * 5) (.int .i64 (i : Int)) = (fW v (i + 1)).l := by
  match i, h with
  | 0, _ => rfl
  | 1, _ => rfl
  | 2, _ => rfl
  | 3, _ => rfl
  | 4, _ => rfl
  | 5, _ => rfl
  | i + 6, h => exact absurd h (by omega)
theorem fW_len (v : Vw) (i : Nat) : (fW v i).l.length = 68 := by
  have h1 : (cvs (fW v i).c).length = 32 := by rw [len_cvs]; rfl
  have h2 := len_ras (fW v i).a
  have h3 : (fW v i).a.length = 6 := by show ((List.range 6).map _).length = 6; simp
  rw [h3] at h2
  unfold ras at h2
  simp only [Wo.l, List.length_append, List.length_cons, List.length_nil, h1, h2]
theorem bldW1 (n : Int) (m : Int) : ∀ W : World, (Instr.build 34 #[(1, .int .i64 1), (2, .agg #[.int .i64 n, .int .u16 m]), (3, .agg #[.int .i64 n, .int .u16 m])]).run Tryd.prog W = .ok (.agg (([.int .i64 0, .int .i64 1, .int .i64 n, .int .u16 m, .int .i64 n, .int .u16 m] ++ (cvs (List.replicate 16 zC) ++ ras ((List.range 6).map (fun _ => zRp 0))) : List Value)).toArray) W := fun _ => by kernel_rfl
set_option maxRecDepth 100000 in
set_option maxHeartbeats 8000000 in
theorem efirst15_any (v : Vw) (w : World) (hv : i64s v.n ∧ v.m < 65536) :
    Calls Tryd.prog 12 #[.agg v.l.toArray] w fun e w' => e = .returned (.agg (firstW v).l.toArray) ∧ Below w.heap.size w w' := by
  obtain ⟨W0, hW0, b1, b2, hB⟩ := alloc2 w 24 34 v.l zWo.l
  obtain ⟨n, m⟩ := v
  have HF : Hid (firstW ⟨n, m⟩ = fW ⟨n, m⟩ 6) := by show _ = _; rfl
  clear hv
  go_enter Tryd.func12, Tryd.ntmps12
  go_wp2_with (first | (refine wp_new 34 rfl rfl zeroWo ?_; refine wp_stop ?_))
  rw [← hW0]
  clear hW0
  obtain ⟨g2, hg2⟩ : ∃ g, g = w.heap.size + 1 := ⟨_, rfl⟩
  rw [← hg2] at b2 ⊢
  obtain ⟨g1, hg1⟩ : ∃ g, g = w.heap.size := ⟨_, rfl⟩
  rw [← hg1] at b1 ⊢
  have hw1 : w.heap.size ≤ g1 := by omega
  have h12 : g1 < g2 := by omega
  clear hg1 hg2
  refine wp_go ?_
  go_wp2_with (first | refine wp_ld 24 (.tmp 1) rfl rfl rfl b1.whole Tryd.underlying24 rfl sizeV ?_ | refine wp_bld 34 [(1, .const (.int .i64 1)), (2, .tmp 5), (3, .tmp 6)] rfl rfl [(1, .int .i64 1), (2, .agg #[.int .i64 n, .int .u16 (m : Int)]), (3, .agg #[.int .i64 n, .int .u16 (m : Int)])] rfl (bldW1 n m) ?_ | (refine wp_newst 34 3 (.tmp 7) rfl rfl rfl rfl rfl rfl zeroWo (l := (fW ⟨n, m⟩ 0).l) rfl (by rw [len_zWo, fW_len]) (by rw [fW_len]; exact sizeW15) (one_wo _) (by simp [Act.put]) ?_; intro w1 b3 hB1 hs1; refine wp_stop ?_))
  have b2' := b2.lt
  have b2 := b2.below hB1
  have hB := hB.trans (hB1.mono hB.size)
  obtain ⟨g3, hg3⟩ : ∃ g, g = W0.heap.size := ⟨_, rfl⟩
  rw [← hg3] at b3 b2' ⊢
  clear hB1 hs1 hg3 b1
  refine wp_go ?_
  go_wp2
  go_loopw [8] (fun iv wr => ∃ i : Nat, i ≤ 6 ∧ iv = .int .i64 i ∧ Blk wr g3 34 (fW ⟨n, m⟩ i).l ∧ Blk wr g2 34 zWo.l ∧ Below w.heap.size w wr) (fun i _ => 6 - (intOf i).toNat)
  case atStart => exact ⟨0, by omega, rfl, b3, b2, hB⟩
  case round =>
    clear b3 b2 hB
    obtain ⟨i, hi, rfl, b3, b2, hB⟩ := hrel
    by_cases hlt : i < 6
    · have hI : (i : Int) < 6 := by omega
      have Hnx := hid (fW_next ⟨n, m⟩ i hlt)
      have Hln := hid (fW_len ⟨n, m⟩ i)
      obtain ⟨Wi, hWi⟩ : ∃ q, q = fW ⟨n, m⟩ i := ⟨_, rfl⟩
      rw [← hWi] at b3 Hnx Hln
      clear hWi
      go_wp2_with (first | refine wp_ixp 32 (.tmp 13) (.tmp 11) rfl rfl rfl rfl Tryd.underlying32 hlt sizeR15 ?_ | (refine wp_st1 3 (.tmp 15) (.tmp 12) rfl rfl rfl (f := 38 + i * 5) rfl (v := .int .i64 (i : Int)) rfl b3 (by rw [Hln.out]; omega) sizeIk15 rfl rfl ?_; intro w2 k3 G2; refine wp_stop ?_))
      rw [Hnx.out] at k3
      have b2 := b2.keep (G2.block _ b2.lt (by intro e; injection e with e; omega))
      have hB := hB.grown G2 hB.size (by intro k hk; injection hk with hk; omega)
      refine wp_go ?_
      go_wp2
      go_roundw
      case rel => exact ⟨i + 1, by omega, by go_num, k3, b2, hB⟩
      case measure => simp [intOf]; omega
    · have hi' : i = 6 := by omega
      subst hi'
      have hI : ¬ (6 : Int) < 6 := by omega
      rw [← HF.out] at b3
      have HL : Hid ((firstW ⟨n, m⟩).l.length = 68) := by show _ = _; rw [HF.out]; exact fW_len _ _
      have Ho : Hid (∀ v ∈ (firstW ⟨n, m⟩).l, v.oneCell' = true) := one_wo _
      obtain ⟨V, hV⟩ : ∃ q, q = firstW ⟨n, m⟩ := ⟨_, rfl⟩
      rw [← hV] at b3 HL Ho
      have HV := hid hV
      clear hV HF
      go_wp2_with (first | refine wp_ld 34 (.tmp 3) rfl rfl rfl b3.whole Tryd.underlying34 rfl (by rw [HL.out]; exact sizeW15) ?_ | (refine wp_st 34 (.tmp 2) (.tmp 17) rfl rfl rfl (f := 0) rfl (l := V.l) rfl b2 (by rw [HL.out, len_zWo]; omega) (by rw [HL.out]; exact sizeW15) Ho.out ?_; intro w6 k4 G4))
      have k4 := blk_all k4 (by rw [HL.out, len_zWo]; omega)
      have hB := hB.grown G4 hB.size (by intro k hk; injection hk with hk; omega)
      refine ret_cell rfl rfl k4.whole Tryd.underlying34 rfl (by rw [HL.out]; exact sizeW15) rfl ?_
      exact ⟨by rw [HV.out], hB⟩
theorem do_q {c : List Cl} {o : Ok} (hc : ClIn c) (ho : OkIn o) : i64s (doK (nmF c) o).2.2 := by
  have hx : ∀ i, i64s (((nmF c).getD i none).getD 0) := by
    intro i
    rcases Nat.lt_or_ge i (nmF c).length with h | h
    · have e : (nmF c)[i]? = some (nmF c)[i] := List.getElem?_eq_getElem h
      rw [List.getD_eq_getElem?_getD, e]
      obtain ⟨x, hx, hy⟩ := List.mem_map.1 (List.getElem_mem h)
      show i64s ((nmF c)[i].getD 0)
      rw [show (nmF c)[i] = nmC x from hy.symm]
      unfold nmC
      split
      · exact hc.n x hx
      · exact z64
    · rw [List.getD_eq_getElem?_getD, List.getElem?_eq_none h]
      exact z64
  unfold doK
  split
  · unfold resK
    dsimp only
    split
    · exact hx _
    · split
      · exact hx _
      · split
        · exact w64_in _
        · split
          · split
            · exact ho.b
            · exact hx _
          · exact hx _
  · exact z64
theorem ok_in {a : List Rp} {r : Rq} (hd : dueR a r = true) (h : in64 r.a ∧ in64 r.b) : OkIn (okR r) := by
  unfold dueR rgtO at hd
  simp only [Bool.and_eq_true] at hd
  have hr := hd.1.2
  have hk : 1 ≤ r.k ∧ r.k ≤ 6 ∧ 0 ≤ r.y ∧ r.y ≤ 15 := by
    by_cases e : r.c = 0
    · rw [if_pos e] at hr
      have := of_decide_eq_true hr
      omega
    · rw [if_neg e] at hr
      have := of_decide_eq_true hr
      omega
  refine ⟨?_, ?_, h.1, h.2⟩
  · show i64s r.k
    unfold i64s
    omega
  · show i64s r.y
    unfold i64s
    omega
theorem bat_next {v : Vw} {t : Int} {d : Bt} {l : List Rq} {i : Nat} {r : Rq} (h : l[i]? = some r) : batW v t d (l.take (i + 1)) = stepW v t (batW v t d (l.take i)) r := by
  unfold batW
  rw [List.take_add_one, h, List.foldl_append]
  rfl
theorem own_keep15 {w w' : World} {base : Nat} {e : TypeId} {s : Nat} {v : Value} {n : Nat} {xs : List Value} (h : w.ownsRow base e s v n xs) (hk : ∀ k, k < w.heap.size → v.ownBlock = some k → w'.heap[k]? = w.heap[k]?) : w'.ownsRow base e s v n xs := by
  rcases h.2 with ⟨rfl, h0⟩ | ⟨g, cap, cur, rfl, hg, hh, h1, h2, h3, h4⟩
  · exact ⟨h.1, .inl ⟨rfl, h0⟩⟩
  · exact ⟨h.1, .inr ⟨g, cap, cur, rfl, hg, by rw [hk g (lt_of_block hh) rfl]; exact hh, h1, h2, h3, h4⟩⟩
theorem wdX_any {w w' : World} {l : List Rp} {xs : List Value} (h : WdX w nob rpD l xs) : WdX w' nob rpD l xs := h.keep (fun _ _ h => h.elim)
end Go.Proofs.YtfjgfaccfjdklaaDoor
/- AC: layer 15: contracts of execs over the landed code: Do. -/
namespace Go.Proofs.YtfjgfaccfjdklaaDoor
open Go.RowKit Go.V
set_option maxRecDepth 100000 in
set_option maxHeartbeats 16000000 in
theorem edo15_any (W : Wo) (l : List Rq) (lv : Value) (F : Nat → Prop) (w : World) (hW : WoIn W) (hc : OKC W.c) (hs : -4611686018427387904 ≤ W.s ∧ W.s ≤ 4611686018427387904) (hl : Rd w F lv (rqs l)) (ho : ∀ r ∈ l, in64 r.a ∧ in64 r.b) (hll : l.length ≤ 1000) :
    Calls Tryd.prog 13 #[.agg W.l.toArray, lv] w fun e w' => ∃ W' rv, e = .returned (.tuple #[.agg W'.l.toArray, rv]) ∧ WoIn W' ∧ OKC W'.c ∧ W'.e = (doW W.e l).1 ∧ (idle W.e l → W'.c = W.c) ∧ Rd w' (fun b => w.heap.size ≤ b) rv (wds rpD (doW W.e l).2) ∧ Below w.heap.size w w' := by
  obtain ⟨A, cp, rfl⟩ := rqs_shape hl
  have hl := hl.weak (F' := fun b => F b ∧ b < w.heap.size) (fun b hb hF => ⟨hF, hb⟩)
  obtain ⟨W0, hW0, b2, b4, hB⟩ := alloc2 w 34 34 W.l zWo.l
  have hs1 : i64s (W.s + 1) := by unfold i64s; omega
  have hs2 : i64s (W.s + 1 + 1) := by unfold i64s; omega
  have HL := hid (len_wo hW)
  have Hbeg := hid (fun X => begun15_any W X hW hs1)
  have Hbt := hid (fun c h1 h2 h3 => bt_beg (c := c) hW hs1 h1 h2 h3)
  have Hend := hid (fun V h => bt_end (V := V) (l := l) h hc)
  have Ho := hid ho
  have Hs2 := hid hs2
  obtain ⟨E, hE⟩ : ∃ E, E = W.e := ⟨_, rfl⟩
  obtain ⟨T, hT⟩ : ∃ T, T = batW E.v (E.s + 1) (begW E) := ⟨_, rfl⟩
  have HT : Hid (∀ i r, l[i]? = some r → T (l.take (i + 1)) = stepW E.v (E.s + 1) (T (l.take i)) r) := by
    intro i r h
    rw [hT]
    exact bat_next h
  have HTl : Hid (T (l.take 0) = begW E) := by show _ = _; rw [hT]; rfl
  have HTe : Hid ((doW W.e l).2 = (T l).o) := by show _ = _; rw [hT, hE]; rfl
  have Hend : Hid (∀ V, BtI E V (T l) → V.e = (doW W.e l).1 ∧ (idle W.e l → V.c = W.c)) := by
    intro V h
    rw [hT, hE] at h
    exact Hend.out V h
  have Hbt : Hid (∀ c, ClIn c → nmF c = nmF W.c → ZC c → BtI E (begC W c) (begW E)) := by
    intro c h1 h2 h3
    rw [hE]
    exact Hbt.out c h1 h2 h3
  have HEs : Hid (E.s = W.s) := by show _ = _; rw [hE]; rfl
  have hol : ∀ i, (T (l.take i)).o.length ≤ i := by
    intro i
    induction i with
    | zero => rw [HTl.out]; exact Nat.le_refl _
    | succ i ih =>
      rcases Nat.lt_or_ge i l.length with h | h
      · rw [HT.out i _ (List.getElem?_eq_getElem h)]
        unfold stepW
        split
        · show (_ ++ [_]).length ≤ _
          rw [List.length_append]
          show _ + 1 ≤ _
          omega
        · omega
      · rw [List.take_of_length_le (by omega)]
        rw [List.take_of_length_le (by omega)] at ih
        omega
  have Hol := hid hol
  clear hol hT hE hW hs hs1 hs2 ho
  go_enter Tryd.func13, Tryd.ntmps13
  go_wp2_with (first | (refine wp_new 34 rfl rfl zeroWo ?_; refine wp_stop ?_))
  rw [← hW0]
  clear hW0
  obtain ⟨g4, hg4⟩ : ∃ g, g = w.heap.size + 1 := ⟨_, rfl⟩
  rw [← hg4] at b4 ⊢
  obtain ⟨g2, hg2⟩ : ∃ g, g = w.heap.size := ⟨_, rfl⟩
  rw [← hg2] at b2 ⊢
  have hw2 : w.heap.size ≤ g2 := by omega
  have h24 : g2 < g4 := by omega
  clear hg2 hg4
  refine wp_go ?_
  go_wp2_with (refine wp_ld 34 (.tmp 2) rfl rfl rfl b2.whole Tryd.underlying34 rfl (by rw [HL.out]; exact sizeW15) ?_)
  refine (Hbeg.out _).mono ?_
  rintro e w1 ⟨c', rfl, hc1, hn1, hz1, hB1⟩
  have b2 := b2.below hB1
  have b4 := b4.below hB1
  have hB := hB.trans (hB1.mono hB.size)
  have hbi := Hbt.out c' hc1 hn1 hz1
  obtain ⟨V0, hV0⟩ : ∃ V, V = begC W c' := ⟨_, rfl⟩
  rw [← hV0] at hbi ⊢
  clear hV0 hc1 hn1 hz1 hB1 Hbt Hbeg
  have HLV := hid (len_wo hbi.inn)
  have HoV := hid (one_wo V0)
  rw [← HTl.out] at hbi
  have Hbi := hid hbi
  clear hbi
  go_wp2_with (first | (refine wp_st 34 (.tmp 2) (.tmp 11) rfl rfl rfl (f := 0) rfl (l := V0.l) rfl b2 (by rw [HLV.out, HL.out]; omega) (by rw [HLV.out]; exact sizeW15) HoV.out ?_; intro w2 k2 G2; refine wp_stop ?_))
  have k2 := blk_all k2 (by rw [HLV.out, HL.out]; omega)
  have b4 := b4.keep (G2.block _ b4.lt (by intro e; injection e with e; omega))
  have hB := hB.grown G2 hB.size (by intro k hk; injection hk with hk; omega)
  have hl2 := hl.below hB
  have h42 := b4.lt
  clear G2 b2
  have hnil := World.ownsRow_nil w2 w2.heap.size 31 5
  have Ho0 : Hid ((T (l.take 0)).o = []) := by show _ = _; rw [HTl.out]; rfl
  refine wp_go ?_
  go_wp2
  go_loopw [6, 14] (fun rv iv wr => ∃ (i : Nat) (V : Wo) (xs : List Value), i ≤ l.length ∧ iv = .int .i64 i ∧ Blk wr g2 34 V.l ∧ Hid (BtI E V (T (l.take i))) ∧ wr.ownsRow w2.heap.size 31 5 rv (T (l.take i)).o.length xs ∧ WdX wr nob rpD (T (l.take i)).o xs ∧ Ch (fun y => y = g2) w2 wr) (fun _ i _ => l.length - (intOf i).toNat)
  case atStart => exact ⟨0, V0, [], by omega, rfl, k2, Hbi, by rw [Ho0.out]; exact hnil, by rw [Ho0.out]; rfl, Ch.refl _ _⟩
  case round =>
    clear k2 hnil Ho0 Hbi HLV HoV
    obtain ⟨i, V, xs, hi, rfl, k2, Hbi, hown, hX, hC⟩ := hrel
    have hBw := Ch.below_of hB hC (fun k hk => by omega) hB.size
    have HLV := hid (len_wo Hbi.out.inn)
    have HoV := hid (one_wo V)
    have b4r := b4.ch hC (by omega)
    have hoi := Hol.out i
    by_cases hlt : i < l.length
    · have hI : (i : Int) < (l.length : Int) := by omega
      obtain ⟨r, hr⟩ : ∃ r, l[i]? = some r := ⟨_, List.getElem?_eq_getElem hlt⟩
      have hlr := hl.below hBw
      obtain ⟨gl, offl, hAl⟩ : ∃ gl offl, A = some ⟨gl, offl, none⟩ := by
        obtain ⟨gl, offl, c', h⟩ := rqs_spot hlr (by omega)
        injection h with h _ _
        exact ⟨gl, offl, h⟩
      subst hAl
      obtain ⟨u, hru, hu⟩ := rqs_el hlr hr
      obtain ⟨Au, cu, rfl⟩ := Rd.shape hu
      have hinr := Ho.out r (List.mem_of_getElem? hr)
      have HT1 := hid (HT.out i r hr)
      have hor := one_rqd r Au r.g.length cu
      have Hdue := hid (fun X => (show Calls Tryd.prog 32 #[.agg V.l.toArray, .agg (r.l (.slice Au r.g.length cu)).toArray] X (fun e w' => e = .returned (.bool (dueR V.a r)) ∧ Below X.heap.size X w') from due15_any V r Au r.g.length cu X Hbi.out.inn))
      have hc0 : (r.l (.slice Au r.g.length cu))[0]? = some (.int .i64 r.c) := rfl
      have hc1 : (r.l (.slice Au r.g.length cu))[1]? = some (.int .i64 r.s) := rfl
      have hc2 : ∀ j v, ((okR r).l)[j]? = some v → (r.l (.slice Au r.g.length cu))[2 + j]? = some v := fun j v hv => by
        match j with
        | 0 => exact hv
        | 1 => exact hv
        | 2 => exact hv
        | 3 => exact hv
        | j + 4 => simp [Ok.l] at hv
      have hrl : (r.l (.slice Au r.g.length cu)).length = 7 := rfl
      obtain ⟨lr, hlr'⟩ : ∃ q, q = r.l (.slice Au r.g.length cu) := ⟨_, rfl⟩
      rw [← hlr'] at hru hor Hdue hc0 hc1 hc2 hrl
      have Hor := hid hor
      have Hc0 := hid hc0
      have Hc1 := hid hc1
      have Hc2 := hid hc2
      have Hrl := hid hrl
      have Hin := hid hinr
      clear hlr' hor hc0 hc1 hc2 hrl hu hr hinr hlr
      go_wp2_with (first | refine wp_ixa 54 _ _ rfl rfl rfl (i := i) rfl Tryd.underlying54 hlt sizeQd15 ?_ | refine wp_ld 53 (.tmp 16) rfl rfl rfl hru Tryd.underlying53 rfl (by rw [Hrl.out]; exact sizeQd15) ?_ | (refine wp_newst 53 8 (.tmp 17) rfl rfl rfl rfl rfl rfl zeroQd15 (l := lr) rfl (by rw [Hrl.out]; rfl) (by rw [Hrl.out]; exact sizeQd15) Hor.out (by simp [Act.put]) ?_; intro w3 b8 hB3 hs3; refine wp_stop ?_))
      have k2 := k2.below hB3
      have b4r := b4r.below hB3
      have hrow := hown.lt
      have hown := own_bel hown hB3
      have hX := wdX_any (w' := w3) hX
      have hC3 := hC.belowR hB3
      have hw28 : w2.heap.size ≤ wr.heap.size := hC.size
      obtain ⟨g8, hg8⟩ : ∃ g, g = wr.heap.size := ⟨_, rfl⟩
      rw [← hg8] at b8 hw28 hs3 hrow ⊢
      have Hrow := hid hrow
      clear hrow
      clear hB3 hg8 hC hBw
      refine wp_go ?_
      go_wp2_with (first | refine wp_ld 34 (.tmp 2) rfl rfl rfl k2.whole Tryd.underlying34 rfl (by rw [HLV.out]; exact sizeW15) ?_ | refine wp_ld 53 (.tmp 8) rfl rfl rfl b8.whole Tryd.underlying53 rfl (by rw [Hrl.out]; exact sizeQd15) ?_)
      refine (Hdue.out _).mono ?_
      rintro e w4 ⟨rfl, hB4⟩
      have k2 := k2.below hB4
      have b4r := b4r.below hB4
      have b8 := b8.below hB4
      have hown := own_bel hown hB4
      have hX := wdX_any (w' := w4) hX
      have hC4 := hC3.belowR hB4
      have hs4 := hB4.size
      clear hB4 hC3 Hdue
      cases hd : dueR V.a r with
      | false =>
        have Hn := hid (show T (l.take (i + 1)) = T (l.take i) by rw [HT1.out]; exact bt_not Hbi.out hd)
        clear hd
        go_wp2
        go_roundw
        case rel => exact ⟨i + 1, V, xs, by omega, by go_num, k2, by rw [Hn.out]; exact Hbi, by rw [Hn.out]; exact hown, by rw [Hn.out]; exact hX, hC4⟩
        case measure => simp [intOf]; omega
      | true =>
        have hdr := due_rgt hd
        have hok := ok_in hd Hin.out
        have Hdn := hid (fun X => done15_any V (okR r) X Hbi.out.inn hok (by have := Hbi.out.s; rw [this, HEs.out]; exact Hs2.out) (do_q Hbi.out.inn.c hok))
        have Hst := hid (fun V' q h => bt_due Hbi.out hd (V := V') (q := q) h)
        obtain ⟨j, hj⟩ : ∃ j : Nat, r.c = (j : Int) := ⟨r.c.toNat, by omega⟩
        have hj6 : j < 6 := by omega
        have Hj := hid hj
        clear hd hok hdr hj
        have hor := b8.range 2 (okR r).l Hc2.out
        go_wp2_with (first | (refine wp_new 29 rfl rfl zeroRs ?_; refine wp_stop ?_))
        have b9 := Blk.new' w4 29 (rvs (false, 0))
        have hB5 : Below w4.heap.size w4 (w4.alloc (.cells (rvs (false, 0)).toArray 29)) := (Below.refl _ _).alloc (Nat.le_refl _) _
        have h89 : g8 < w4.heap.size := b8.lt
        obtain ⟨w5, hw5⟩ : ∃ x, x = w4.alloc (.cells (rvs (false, 0)).toArray 29) := ⟨_, rfl⟩
        rw [← hw5] at b9 hB5 ⊢
        have k2 := k2.below hB5
        have b4r := b4r.below hB5
        have b8 := b8.below hB5
        have hown := own_bel hown hB5
        have hX := wdX_any (w' := w5) hX
        have hC5 := hC4.belowR hB5
        obtain ⟨g9, hg9⟩ : ∃ g, g = w4.heap.size := ⟨_, rfl⟩
        rw [← hg9] at b9 h89 ⊢
        clear hw5 hB5 hC4 hg9 hor
        have hor := b8.range 2 (okR r).l Hc2.out
        refine wp_go ?_
        go_wp2_with (first | refine wp_ld 34 (.tmp 2) rfl rfl rfl k2.whole Tryd.underlying34 rfl (by rw [HLV.out]; exact sizeW15) ?_ | refine wp_ld 51 (.tmp 24) rfl rfl rfl hor Tryd.underlying51 rfl sizeOk ?_)
        refine (Hdn.out _).mono ?_
        rintro e w6 ⟨V1, q, rfl, hD, hB6⟩
        have k2 := k2.below hB6
        have b4r := b4r.below hB6
        have b8 := b8.below hB6
        have b9 := b9.below hB6
        have hown := own_bel hown hB6
        have hX := wdX_any (w' := w6) hX
        have hC6 := hC5.belowR hB6
        have HL1 := hid (len_wo hD.inn)
        have Ho1 := hid (one_wo V1)
        have HI1 := hid hD.inn
        have Hst1 := hid (Hst.out V1 q hD)
        clear hB6 hC5 hor hD Hst
        have h29 : g2 < g9 := by omega
        go_wp2_with (first | (refine wp_st 34 (.tmp 2) (.tmp 27) rfl rfl rfl (f := 0) rfl (l := V1.l) rfl k2 (by rw [HL1.out, HLV.out]; omega) (by rw [HL1.out]; exact sizeW15) Ho1.out ?_; intro x1 h2 G2; refine wp_st 29 (.tmp 9) (.tmp 28) rfl rfl rfl (f := 0) rfl (l := rvs q) rfl (b9.keep (G2.block _ b9.lt (by intro e; injection e with e; omega))) (by show 0 + 2 ≤ 2; omega) sizeRs (one_rvs _) ?_; intro x2 k9 G9; refine wp_stop ?_))
        have k9 := blk_all k9 (by show 2 ≤ 2; omega)
        have k2 := (blk_all h2 (by rw [HL1.out, HLV.out]; omega)).keep (G9.block _ h2.lt (by intro e; injection e with e; omega))
        have b4r := b4r.keep (G2.block _ b4r.lt (by intro e; injection e with e; omega))
        have b4r := b4r.keep (G9.block _ b4r.lt (by intro e; injection e with e; omega))
        have b8 := b8.keep (G2.block _ b8.lt (by intro e; injection e with e; omega))
        have b8 := b8.keep (G9.block _ b8.lt (by intro e; injection e with e; omega))
        have hown := own_keep15 hown (fun k hk hb => G2.block k hk (by have := Hrow.out k hb; intro e; injection e with e; omega))
        have hown := own_keep15 hown (fun k hk hb => G9.block k hk (by have := Hrow.out k hb; intro e; injection e with e; omega))
        have hX := wdX_any (w' := x2) hX
        have hC := (hC6.grow G2 (fun k hk => by injection hk with hk; exact .inl hk.symm)).grow G9 (fun k hk => by injection hk with hk; exact .inr (by omega))
        clear G2 G9 b9 h2 hC6 HLV HoV
        obtain ⟨qo, qn⟩ := q
        obtain ⟨rp, hrp⟩ : ∃ rp : Rp, rp = ⟨(j : Int), r.s, V1.s, qo, qn⟩ := ⟨_, rfl⟩
        have hrl : rp.l = [.int .i64 (j : Int), .int .i64 r.s, .int .i64 V1.s, .bool qo, .int .i64 qn] := by rw [hrp]; rfl
        obtain ⟨V2, hV2⟩ : ∃ V2, V2 = lastC V1 r (qo, qn) := ⟨_, rfl⟩
        have hV2s : V2 = ⟨V1.s, V1.f, V1.v, V1.u, V1.c, V1.a.set j rp⟩ := by
          rw [hV2, hrp]
          unfold lastC
          rw [Hj.out, Int.toNat_natCast]
        have h2a := Hst1.out.1
        rw [← hV2, ← HT1.out] at h2a
        have H2a := hid h2a
        have H2o : Hid ((T (l.take (i + 1))).o = (T (l.take i)).o ++ [rp]) := by
          show _ = _
          rw [HT1.out, Hst1.out.2.1, hrp, Hj.out, Hst1.out.2.2.1]
        have H2l := hid (len_wo h2a.inn)
        have H2s : Hid (V1.l.take (38 + j * 5) ++ rp.l ++ V1.l.drop (38 + j * 5 + 5) = V2.l) := by
          show _ = _
          rw [hV2s]
          exact wlo_a V1 j rp HI1.out.c.len (by rw [HI1.out.a.1]; exact hj6)
        have H2r : Hid (V2.a[j]? = some rp) := by
          show _ = _
          rw [hV2s]
          exact List.getElem?_set_self (by rw [HI1.out.a.1]; exact hj6)
        have Hrp := hid (one_rp rp)
        have Hrl := hid hrl
        have r0 : x2.cell? ⟨g8, 0, none⟩ = some (.int .i64 (j : Int)) := by rw [← Hj.out]; exact b8.cellAt 0 _ Hc0.out
        have r1 := b8.cellAt 1 _ Hc1.out
        have s0 := k2.cellAt 0 _ (wol HI1.out).s
        clear hrp hV2 hV2s h2a Hst1 hrl
        refine wp_go ?_
        go_wp2_with (first | refine wp_ld 29 (.tmp 9) rfl rfl rfl k9.whole Tryd.underlying29 rfl sizeRs ?_ | refine wp_bld 31 [(0, .tmp 32), (1, .tmp 34), (2, .tmp 36), (3, .tmp 37)] rfl rfl [(0, .int .i64 (j : Int)), (1, .int .i64 r.s), (2, .int .i64 V1.s), (3, .agg #[.bool qo, .int .i64 qn])] rfl (bldRp15 _ _ _ _ _) ?_ | refine wp_ixp 32 (.tmp 39) (.tmp 30) rfl rfl rfl rfl Tryd.underlying32 hj6 sizeR15 ?_ | (refine wp_st 31 (.tmp 40) (.tmp 38) rfl rfl rfl (f := 38 + j * 5) rfl (l := rp.l) (by rw [Hrl.out]; rfl) k2 (by rw [Hrl.out, HL1.out]; show 38 + j * 5 + 5 ≤ 68; omega) (by rw [Hrl.out]; exact sizeR15) Hrp.out ?_; intro x3 h2 G3; refine wp_stop ?_))
        have k2 : Blk x3 g2 34 V2.l := by rw [← H2s.out]; rw [Hrl.out] at h2 ⊢; exact h2
        have b4r := b4r.keep (G3.block _ b4r.lt (by intro e; injection e with e; omega))
        have b8 := b8.keep (G3.block _ b8.lt (by intro e; injection e with e; omega))
        have hown := own_keep15 hown (fun k hk hb => G3.block k hk (by have := Hrow.out k hb; intro e; injection e with e; omega))
        have hX := wdX_any (w' := x3) hX
        have hC := hC.grow G3 (fun k hk => by injection hk with hk; exact .inl hk.symm)
        have r0 : x3.cell? ⟨g8, 0, none⟩ = some (.int .i64 (j : Int)) := by rw [← Hj.out]; exact b8.cellAt 0 _ Hc0.out
        have hrr := k2.range (38 + j * 5) rp.l ((wol H2a.out.inn).a j rp H2r.out)
        clear G3 h2 r1 s0 k9 HL1 Ho1
        refine wp_go ?_
        go_wp2_with (first | refine wp_ixp 32 (.tmp 44) (.tmp 43) rfl rfl rfl rfl Tryd.underlying32 hj6 sizeR15 ?_ | refine wp_ld 31 (.tmp 45) rfl rfl rfl hrr Tryd.underlying31 rfl (by rw [Hrl.out]; exact sizeR15) ?_ | (refine wp_pushW (.tmp 41) (.tmp 46) 47 slRpd15 rfl rfl rfl rfl rfl (us := rp.l) rfl (by rw [Hrl.out]; rfl) Hrp.out (by simp [Act.put]) rfl hown (by simp only [maxLen]; omega) (by omega) hC.size ?_; intro v4 w7 ho7 hG7 hd7; refine wp_stop ?_))
        have k2 := k2.keep (hG7.block _ k2.lt (by intro e; have := hown.lt _ e.symm; omega))
        have hC := hC.grow hG7 (fun k hk => .inr (hown.lt k hk).1)
        have hX : WdX w7 nob rpD (T (l.take i) ).o xs := wdX_any (w' := w7) hX
        have hX := hX.snoc (rp_mk (r := rp))
        rw [← H2o.out] at hX
        have ho7 : w7.ownsRow w2.heap.size 31 5 v4 (T (l.take (i + 1))).o.length (xs ++ rp.l) := by rw [H2o.out, List.length_append]; exact ho7
        refine wp_go ?_
        go_wp2
        go_roundw
        case rel => exact ⟨i + 1, V2, _, by omega, by go_num, k2, H2a, ho7, hX, hC⟩
        case measure => simp [intOf]; omega
    · have hi' : i = l.length := by omega
      subst hi'
      have hI : ¬ (l.length : Int) < (l.length : Int) := by omega
      rw [List.take_length] at Hbi hown hX
      go_wp2_with (first | refine wp_ld 34 (.tmp 2) rfl rfl rfl k2.whole Tryd.underlying34 rfl (by rw [HLV.out]; exact sizeW15) ?_ | (refine wp_st 34 (.tmp 4) (.tmp 50) rfl rfl rfl (f := 0) rfl (l := V.l) rfl b4r (by rw [HLV.out, len_zWo]; omega) (by rw [HLV.out]; exact sizeW15) HoV.out ?_; intro w6 k4 G4; refine wp_stop ?_))
      have k4 := blk_all k4 (by rw [HLV.out, len_zWo]; omega)
      have hB := hBw.grown G4 hBw.size (by intro k hk; injection hk with hk; omega)
      have hown := own_keep15 hown (fun k hk hb => G4.block k hk (by have := hown.lt k hb; intro e; injection e with e; omega))
      refine wp_go ?_
      go_wp2
      refine ret_cell1 rfl rfl rfl k4.whole Tryd.underlying34 rfl (by rw [HLV.out]; exact sizeW15) rfl ?_
      refine ⟨V, _, rfl, Hbi.out.inn, Hbi.out.z, (Hend.out V Hbi.out).1, (Hend.out V Hbi.out).2, ?_, hB⟩
      rw [HTe.out]
      exact wds_own hown (wdX_any (w' := w6) hX) (fun b h => h.elim) (fun b hb => by have := (hown.lt b hb).1; have := hB.size; omega)
end Go.Proofs.YtfjgfaccfjdklaaDoor
