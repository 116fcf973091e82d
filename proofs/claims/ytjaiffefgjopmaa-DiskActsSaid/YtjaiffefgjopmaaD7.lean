/- D7: layer 10: the document's Do: sizes, what is found, what is pending. -/
import Derived.Test.YtjaiffefgjopmaaD6
namespace Go.V
open Go.RowKit
def pushF (d : Dk) (a : Ac) : Dk × Int := if (burnF d).2 = true then ({ (burnF d).1 with pend := d.pend ++ [a] }, 0) else ((burnF d).1, 14)
def findR (d : Dk) (a : Ac) : Dk × Int := if (findF (nowF d) a.n).isNone = true then (d, 13) else pushF d a
def szA (a : Ac) (l : List Fl) : Nat := a.b.length + (l.map fun f => if a.k = 0 ∨ f.n ≠ a.n then f.b.length else 0).sum
def sizeR (d : Dk) (a : Ac) : Dk × Int := if d.room < (szA a (nowF d) : Int) then (d, 4) else pushF d a
theorem szA_snoc (a : Ac) (l : List Fl) (f : Fl) : szA a (l ++ [f]) = szA a l + (if a.k = 0 ∨ f.n ≠ a.n then f.b.length else 0) := by
  unfold szA
  rw [List.map_append, List.sum_append]
  simp
  omega
theorem szA_le (a : Ac) : ∀ l : List Fl, szA a l ≤ a.b.length + tot l
  | [] => by simp [szA, tot]
  | f :: l => by
    have h := szA_le a l
    unfold szA tot at h ⊢
    rw [List.map_cons, List.sum_cons, List.map_cons, List.sum_cons]
    split <;> omega
theorem tot_take (l : List Fl) (i : Nat) : tot (l.take i) ≤ tot l := by
  have : tot l = tot (l.take i) + tot (l.drop i) := by rw [← tot_app, List.take_append_drop]
  omega
theorem ch_cell {w W : World} {g o : Nat} {u : Value} (h : Ch nob w W) (hc : w.cell? ⟨g, o, none⟩ = some u) : W.cell? ⟨g, o, none⟩ = some u :=
  (World.cell?_of_block (a := ⟨g, o, none⟩) (h.block g (lt_of_cell hc) (fun h => h))).trans hc
theorem step_appW5 {P : Program} {w : World} {ops : Array Oper} {o : Oper} {a : Act} {Q : Exit → Act → World → Prop} {K : Act → World → Prop} {E : Prop} (s x : Operand) {t e : TypeId} {z : List Value} {sz by_ : Nat} (ht : SlW P t e z sz by_) (hgd : o.guard = none)
    (ho : o.op = .call { callee := .builtin .append, args := #[s, x], argTypes := #[t, t] }) {us : List Value} (hu : us.length = sz) (h1 : ∀ u ∈ us, u.oneCell' = true)
    {base : Nat} {v : Value} {n : Nat} {xs : List Value} (hs : a.eval s = v) (hown : w.ownsRow base e sz v n xs) (hx : a.eval x = .slice (some ⟨w.heap.size, 0, none⟩) 1 1)
    (h63 : n + 1 ≤ maxLen) (hb : (n + 1) * by_ ≤ 140737488355328) (hbase : base ≤ w.heap.size)
    (h : ∀ v' w', w'.ownsRow base e sz v' (n + 1) (xs ++ us) → w.grownBy w' v.ownBlock → (v'.ownBlock = v.ownBlock ∨ ∃ g, v'.ownBlock = some g ∧ w.heap.size ≤ g) → K (a.put o.dst v') w') : if Region.wanted o (yielded ops a.tmps) = true then Oper.wp P o a (w.alloc (.cells us.toArray e)) K Q else E := by
  have hw : Region.wanted o (yielded ops a.tmps) = true := by simp [Region.wanted, hgd]
  rw [if_pos hw]
  obtain ⟨v', w', r1, r2, r3, r4⟩ := run_append_wide (P := P) (w := w) base (ty := o.type) ht v n xs us hown hu h1 h63 hb hbase
  unfold Oper.wp execOp
  simp only [ho, resolve, invoke, builtin, Sem.run_bind, Sem.run_pure, Result.andThen_ok, List.map_toArray, List.map_cons, List.map_nil, hs, hx, r1]
  exact h v' w' r2 r3 r4
end Go.V
namespace Go.Proofs.Ytjaiffefgjopmaa
open Go.RowKit Go.V
theorem WdX.drew {w : World} {F : Nat → Prop} {k : Nat} {α : Type} {T : WD α k} {l : List α} {xs : List Value} (h : WdX w F T l xs) : WdX w.drew F T l xs := WdX.keep (w := w) (w' := w.drew) (fun _ _ hF => ⟨hF, rfl⟩) h
theorem own_drew10 {w : World} {base s : Nat} {e : TypeId} {v : Value} {n : Nat} {xs : List Value} (h : w.ownsRow base e s v n xs) : w.drew.ownsRow base e s v n xs := own_keep10 h (fun _ _ _ => rfl)
set_option maxRecDepth 100000 in
set_option maxHeartbeats 4000000 in
theorem do_act3 (p : Nat) (r : Option Nat) (N : Nat → Prop) (d : Dk) (a : Ac) (va : Value) (w : World) (h : RX w p r N d) (hs : DkSm d) (hN : ∀ b, N b → b < w.heap.size) (hva : Rd w (dkF p r N) va (bys a.b)) (hk : 2 < a.k ∧ a.k ≠ 4 ∧ a.k ≠ 5 ∧ a.k ≠ 6 ∧ a.k ≠ 7) (hd : d.down = false) (hn : namF a.n = true) :
    Calls Try.prog 15 #[.pointer (some ⟨p, 0, none⟩), .agg (a.l va).toArray] w (DoP w p r N (findR d a)) := by
  obtain ⟨Aa, ca, rfl⟩ := hva.shape
  have hab := Blk.new' w 34 (a.l (.slice Aa a.b.length ca))
  have hB : Below w.heap.size w (w.alloc (.cells (a.l (.slice Aa a.b.length ca)).toArray 34)) := (Below.refl _ _).alloc (Nat.le_refl _) _
  have hX := h.below hB
  have hva1 := hva.below hB
  have hpl := h.lt
  have hrl := h.row
  clear h hva
  go_enter Try.func15, Try.ntmps15
  go_wp2_with (fail)
  obtain ⟨w1, hw1⟩ : ∃ x, x = w.alloc (.cells (a.l (.slice Aa a.b.length ca)).toArray 34) := ⟨_, rfl⟩
  rw [← hw1] at hab hB hX hva1 ⊢
  clear hw1
  have hN1 : ∀ b, N b → b < w1.heap.size := fun b h => by have := hN b h; have := hB.size; omega
  obtain ⟨gb, hgb⟩ : ∃ g, g = w.heap.size := ⟨_, rfl⟩
  rw [← hgb] at hab ⊢
  have hgbp : gb ≠ p := by omega
  have hgw : w.heap.size ≤ gb := by omega
  clear hgb
  refine (now_any p r N d _ hX hs hN1).mono ?_
  rintro e w2 ⟨v2, rfl, hl2, hB2⟩
  obtain ⟨L, hL⟩ : ∃ L, L = nowF d := ⟨_, rfl⟩
  rw [← hL] at hl2
  have HL := hid hL
  clear hL
  obtain ⟨Al, cl, rfl, _, _⟩ := wds_shape hl2
  have hX2 := hX.below hB2
  have hab2 := hab.below hB2
  have hva2 := hva1.below hB2
  have hBB := hB.trans (hB2.mono hB.size)
  clear hX hab hva1 hB2 hB
  have k0 := hab2.cellAt 0 _ rfl
  have k1 := hab2.cellAt 1 _ rfl
  have k2 := hab2.cellAt 2 _ rfl
  have k3 := hab2.cellAt 3 _ rfl
  have k4 := hab2.cellAt 4 _ rfl
  have k5 := hab2.cellAt 5 _ rfl
  have k6 := hab2.cellAt 6 _ rfl
  have k7 := hab2.cellAt 7 _ rfl
  have e4 : (a.k == 4) = false := by rw [beq_eq_false_iff_ne]; omega
  have e5 : (a.k == 5) = false := by rw [beq_eq_false_iff_ne]; omega
  have e6 : (a.k == 6) = false := by rw [beq_eq_false_iff_ne]; omega
  have e7 : (a.k == 7) = false := by rw [beq_eq_false_iff_ne]; omega
  have e2 : (a.k == 2) = false := by rw [beq_eq_false_iff_ne]; omega
  have hX3 := hX2
  obtain ⟨vs, vp, xs, hb, hvs, ho, hx, hr, hrp⟩ := hX3
  have c4 := hb.cellAt 4 _ rfl
  rw [hd] at c4
  clear hb hvs ho hx hr hrp
  have e1 : decide (a.k ≤ 1) = false := decide_eq_false (by omega)
  have hh : ¬ a.k ≤ 1 := by omega
  go_wp2_with (fail)
  refine (named_any _ _).mono ?_
  rintro e w3 ⟨rfl, rfl⟩
  rw [hn]
  clear c4
  go_wp2_with (fail)
  refine (find_any L a.n _ (dkF p r N) _ hl2).mono ?_
  rintro e w3 ⟨vf, rfl, hvf, hw3⟩
  subst hw3
  obtain ⟨fo, hfo⟩ : ∃ fo, fo = findF L a.n := ⟨_, rfl⟩
  rw [← hfo] at hvf ⊢
  have Hfo : Hid (findF (nowF d) a.n = fo) := by show _ = _; rw [← HL.out, hfo]
  clear hfo
  cases fo with
  | none =>
    have Hre : Hid (findR d a = (d, 13)) := by show _ = _; unfold findR; rw [Hfo.out]; rfl
    clear Hfo
    go_wp2
    go_ret
    exact ⟨r, by rw [Hre.out]; rfl, by rw [Hre.out]; exact hX2, (Ch.refl _ _).belowR hBB, fun b h => .inl h⟩
  | some fb =>
    have Hre : Hid (findR d a = pushF d a) := by show _ = _; unfold findR; rw [Hfo.out]; rfl
    clear Hfo
    obtain ⟨Af, cf, rfl⟩ := hvf.shape
    clear hvf
    go_wp2_with (fail)
    refine (burn_any p r N d _ hX2 hs.f).mono ?_
    rintro e w3 ⟨rfl, hX3, hC3⟩
    obtain ⟨B, hBu⟩ : ∃ B, B = burnF d := ⟨_, rfl⟩
    have hpu : pushF d a = if B.2 = true then ({ B.1 with pend := d.pend ++ [a] }, 0) else (B.1, 14) := by rw [hBu]; rfl
    rw [← hBu] at hX3 ⊢
    have hBp : B.1.pend = d.pend := by rw [hBu]; rfl
    have Hpu := hid hpu
    clear hBu hpu
    have hC := ((Ch.refl (dkG p r) w).belowR hBB).trans (hC3.weaken (fun k _ h => .inl h))
    by_cases hbn : B.2 = true
    · have Hpu2 : Hid (findR d a = ({ B.1 with pend := d.pend ++ [a] }, 0)) := by show _ = _; rw [Hre.out, Hpu.out, if_pos hbn]
      rw [hbn]
      have hab3 := hab2.keep (hC3.block _ hab2.lt (fun h => hgbp h))
      have hva3 := hva2.keep (F' := dkF p r N) (fun b hb hF => ⟨hF, hC3.block b hb (fun h => hF.1 h)⟩)
      obtain ⟨vs, vp, xs, hb, hvs, ho, hx, hr, hrp⟩ := hX3
      rw [hBp] at ho hx
      obtain ⟨Ap, cp, rfl⟩ := own_shape8 ho
      have hb : Blk w3 p 42 (B.1.l vs (.slice Ap d.pend.length cp)) := hb
      clear Hpu hBp hbn hC3 hX2 hab2 hva2
      go_upto_region 35 with (fail)
      obtain ⟨wd, hwd⟩ : ∃ x, x = w3.drew := ⟨_, rfl⟩
      replace hb := hb.drew
      replace hvs := hvs.drew
      replace ho := own_drew10 ho
      replace hx := WdX.drew hx
      replace hab3 := hab3.drew
      replace hva3 := hva3.drew
      replace hC := hC.drew
      rw [← hwd] at hb hvs ho hx hab3 hva3 hC
      have hsd := hC.size
      have hsn := hs.n
      have hpd := hb.lt
      have d2 := hb.cellAt 2 _ rfl
      have d2' := (hb.below ((Below.refl _ _).alloc (Nat.le_refl _) (.cells (a.l (.slice Aa a.b.length ca)).toArray 34))).cellAt 2 _ rfl
      have hrg5 := hab3.whole
      refine wp_region_noPanic ?_
      refine wp_region_any (by kernel_rfl) ?_
      change wpAny _ _ _ _ _ _ _ (World.drew _)
      rw [← hwd]
      clear hwd
      refine wpAny_take (i := 0) (oi := ⟨some 115, _, _, _, _, none⟩) (v := ?_) rfl (by kernel_rfl) (by kernel_rfl) (by kernel_rfl) (fun _ _ _ h => h) (Or.inl ⟨by rfl, ?_⟩) ?_
      rotate_left
      · intro w; go_simp; try with_reducible rfl
      try simp only [Act.put, List.setIfInBounds_toArray, List.set_cons_zero, List.set_cons_succ]
      refine wpAny_take (i := 1) (oi := ⟨some 116, _, _, _, _, none⟩) (v := ?_) rfl (by kernel_rfl) (by kernel_rfl) (by kernel_rfl) (fun _ _ _ h => h) (Or.inl ⟨by rfl, ?_⟩) ?_
      rotate_left
      · intro w; go_simp; try with_reducible rfl
      try simp only [Act.put, List.setIfInBounds_toArray, List.set_cons_zero, List.set_cons_succ]
      refine wpAny_take (i := 2) (oi := ⟨some 117, _, _, _, _, none⟩) (v := ?_) rfl (by kernel_rfl) (by kernel_rfl) (by kernel_rfl) (fun _ _ _ h => h) (Or.inl ⟨by rfl, ?_⟩) ?_
      rotate_left
      · intro w; go_simp; try with_reducible rfl
      try simp only [Act.put, List.setIfInBounds_toArray, List.set_cons_zero, List.set_cons_succ]
      refine wpAny_take (i := 3) (oi := ⟨some 118, _, _, _, _, none⟩) (v := ?_) rfl (by kernel_rfl) (by kernel_rfl) (by kernel_rfl) (fun _ _ _ h => h) (Or.inl ⟨by rfl, ?_⟩) ?_
      rotate_left
      · intro w; go_simp; try with_reducible rfl
      try simp only [Act.put, List.setIfInBounds_toArray, List.set_cons_zero, List.set_cons_succ]
      refine wpAny_ready (rs := [4, 5]) (by kernel_rfl) (by simp) ?_
      refine AllReady.cons (o := ⟨some 119, .load 22 (.tmp 118), _, _, _, none⟩) rfl (fun K hK => ?_) ?_
      · refine step_ld1 22 (.tmp 118) (by rfl) (by rfl) (by rfl) d2 Try.isAgg22 ?_
        refine hK _ _ ?_
        clear hK K
        try simp only [Act.put, List.setIfInBounds_toArray, List.set_cons_zero, List.set_cons_succ]
        refine wpAny_ready (rs := [5]) (by kernel_rfl) (by simp) ?_
        refine AllReady.cons (o := ⟨some 120, .load 34 (.tmp 3), _, _, _, none⟩) rfl (fun K hK => ?_) AllReady.nil
        refine step_ld 34 (.tmp 3) (by rfl) (by rfl) (by rfl) hrg5 Try.underlying34 rfl sizeAc ?_
        refine hK _ _ ?_
        clear hK K
        try simp only [Act.put, List.setIfInBounds_toArray, List.set_cons_zero, List.set_cons_succ]
        refine wpAny_ready (rs := [6]) (by kernel_rfl) (by simp) ?_
        refine AllReady.cons (o := ⟨some 121, .buildSlice _ _ _, _, _, _, none⟩) rfl (fun K hK => ?_) AllReady.nil
        refine step_bsW (.tmp 120) slAc (by rfl) (by rfl) (us := a.l (.slice Aa a.b.length ca)) (by rfl) rfl ?_
        refine hK _ _ ?_
        clear hK K
        try simp only [Act.put, List.setIfInBounds_toArray, List.set_cons_zero, List.set_cons_succ]
        refine wpAny_ready (rs := [7]) (by kernel_rfl) (by simp) ?_
        refine AllReady.cons (o := ⟨some 122, _, _, _, _, none⟩) rfl (fun K hK => ?_) AllReady.nil
        refine step_appW5 (.tmp 119) (.tmp 121) slAc (by rfl) (by rfl) (us := a.l (.slice Aa a.b.length ca)) rfl (one_ac a _ _ _) (base := 0) (by rfl) ho (by rfl) (by simp only [maxLen]; omega) (by omega) (Nat.zero_le _) ?_
        intro v6 w6 ho6 hG6 hd6
        obtain ⟨A6, c6, rfl⟩ := own_shape8 ho6
        have b6 := hb.keep (hG6.block _ hb.lt (by rw [hr]; exact fun e => hrp e.symm))
        refine hK _ _ ?_
        clear hK K
        try simp only [Act.put, List.setIfInBounds_toArray, List.set_cons_zero, List.set_cons_succ]
        refine wpAny_take (i := 8) (oi := ⟨some 123, _, _, _, _, none⟩) (v := ?_) rfl (by kernel_rfl) (by kernel_rfl) (by kernel_rfl) (fun _ _ _ h => h) (Or.inl ⟨by rfl, ?_⟩) ?_
        rotate_left
        · intro w; go_simp; try with_reducible rfl
        try simp only [Act.put, List.setIfInBounds_toArray, List.set_cons_zero, List.set_cons_succ]
        refine wpAny_take (i := 9) (oi := ⟨some 124, _, _, _, _, none⟩) (v := ?_) rfl (by kernel_rfl) (by kernel_rfl) (by kernel_rfl) (fun _ _ _ h => h) (Or.inl ⟨by rfl, ?_⟩) ?_
        rotate_left
        · intro w; go_simp; try with_reducible rfl
        try simp only [Act.put, List.setIfInBounds_toArray, List.set_cons_zero, List.set_cons_succ]
        refine wpAny_ready (rs := [10]) (by kernel_rfl) (by simp) ?_
        refine AllReady.cons (o := ⟨none, .store _ _ _, _, _, _, none⟩) rfl (fun K hK => ?_) AllReady.nil
        refine step_st1 22 (.tmp 124) (.tmp 122) (by rfl) (by rfl) (by rfl) (f := 2) (by rfl) (v := .slice A6 (d.pend.length + 1) c6) (by rfl) b6 (by simp [Dk.l]) sizeAl10 rfl rfl ?_
        intro w7 b7 hG7
        refine hK _ _ ?_
        clear hK K
        try simp only [Act.put, List.setIfInBounds_toArray, List.set_cons_zero, List.set_cons_succ]
        refine wpAny_done (by kernel_rfl) ?_ _
        refine NoPanic.normal ?_
        obtain ⟨q, hq⟩ : ∃ q, q = (Value.slice A6 (d.pend.length + 1) c6).ownBlock := ⟨_, rfl⟩
        rw [← hq] at hd6
        have hqp : q ≠ some p := by
          rcases hd6 with h | ⟨g, h, hg⟩
          · rw [h, hr]; exact hrp
          · rw [h]; intro e; injection e with e; omega
        have hkk : ∀ b, b < wd.heap.size → dkF p r N b → dkF p q N b ∧ w7.heap[b]? = wd.heap[b]? := fun b hb2 hF => by
          have h6 := hG6.block b hb2 (by rw [hr]; exact fun e => hF.2.1 e.symm)
          have hs6 := hG6.size
          refine ⟨⟨hF.1, ?_, hF.2.2⟩, (hG7.block b (by omega) (by intro e; injection e with e; exact hF.1 e)).trans h6⟩
          rcases hd6 with h | ⟨g, h, hg⟩
          · rw [h, hr]; exact hF.2.1
          · rw [h]; intro e; injection e with e; omega
        have b7 : Blk w7 p 42 ({ B.1 with pend := d.pend ++ [a] }.l vs (.slice A6 (d.pend.length + 1) c6)) := b7
        have ho7 := own_keep10 ho6 (fun k hk he => hG7.block k hk (by intro e; rw [← hq] at he; exact hqp (he.trans e)))
        have hx7 := (hx.keep (F' := dkF p q N) hkk).snoc (ac_mk (hva3.keep hkk))
        have hX7 : RX w7 p q N { B.1 with pend := d.pend ++ [a] } := ⟨vs, .slice A6 (d.pend.length + 1) c6, _, b7, hvs.keep hkk, by rw [show ({ B.1 with pend := d.pend ++ [a] } : Dk).pend.length = d.pend.length + 1 from by simp]; exact ho7, hx7, hq.symm, hqp⟩
        have hC7 : Ch (dkG p r) w w7 := (hC.grow hG6 (fun k hk => .inl (.inr (by rw [← hk, hr])))).grow hG7 (fun k hk => .inl (.inl (by injection hk with hk; exact hk.symm)))
        have hl7 : ∀ b, q = some b → r = some b ∨ w.heap.size ≤ b := fun b h => by
          rcases hd6 with h2 | ⟨g, h2, hg⟩
          · exact .inl (by rw [← hr, ← h2]; exact h)
          · rw [h2] at h; injection h with h; exact .inr (by omega)
        clear hb hvs ho hx hva3 hab3 b6 b7 ho6 ho7 hx7 hG6 hG7 hkk hd6 hq hC d2 d2' hrg5
        go_wp2
        go_ret
        exact ⟨q, by rw [Hpu2.out]; rfl, by rw [Hpu2.out]; exact hX7, hC7, hl7⟩
      refine AllReady.cons (o := ⟨some 120, .load 34 (.tmp 3), _, _, _, none⟩) rfl (fun K hK => ?_) AllReady.nil
      refine step_ld 34 (.tmp 3) (by rfl) (by rfl) (by rfl) hrg5 Try.underlying34 rfl sizeAc ?_
      refine hK _ _ ?_
      clear hK K
      try simp only [Act.put, List.setIfInBounds_toArray, List.set_cons_zero, List.set_cons_succ]
      refine wpAny_ready (rs := [4, 6]) (by kernel_rfl) (by simp) ?_
      refine AllReady.cons (o := ⟨some 119, .load 22 (.tmp 118), _, _, _, none⟩) rfl (fun K hK => ?_) ?_
      · refine step_ld1 22 (.tmp 118) (by rfl) (by rfl) (by rfl) d2 Try.isAgg22 ?_
        refine hK _ _ ?_
        clear hK K
        try simp only [Act.put, List.setIfInBounds_toArray, List.set_cons_zero, List.set_cons_succ]
        refine wpAny_ready (rs := [6]) (by kernel_rfl) (by simp) ?_
        refine AllReady.cons (o := ⟨some 121, .buildSlice _ _ _, _, _, _, none⟩) rfl (fun K hK => ?_) AllReady.nil
        refine step_bsW (.tmp 120) slAc (by rfl) (by rfl) (us := a.l (.slice Aa a.b.length ca)) (by rfl) rfl ?_
        refine hK _ _ ?_
        clear hK K
        try simp only [Act.put, List.setIfInBounds_toArray, List.set_cons_zero, List.set_cons_succ]
        refine wpAny_ready (rs := [7]) (by kernel_rfl) (by simp) ?_
        refine AllReady.cons (o := ⟨some 122, _, _, _, _, none⟩) rfl (fun K hK => ?_) AllReady.nil
        refine step_appW5 (.tmp 119) (.tmp 121) slAc (by rfl) (by rfl) (us := a.l (.slice Aa a.b.length ca)) rfl (one_ac a _ _ _) (base := 0) (by rfl) ho (by rfl) (by simp only [maxLen]; omega) (by omega) (Nat.zero_le _) ?_
        intro v6 w6 ho6 hG6 hd6
        obtain ⟨A6, c6, rfl⟩ := own_shape8 ho6
        have b6 := hb.keep (hG6.block _ hb.lt (by rw [hr]; exact fun e => hrp e.symm))
        refine hK _ _ ?_
        clear hK K
        try simp only [Act.put, List.setIfInBounds_toArray, List.set_cons_zero, List.set_cons_succ]
        refine wpAny_take (i := 8) (oi := ⟨some 123, _, _, _, _, none⟩) (v := ?_) rfl (by kernel_rfl) (by kernel_rfl) (by kernel_rfl) (fun _ _ _ h => h) (Or.inl ⟨by rfl, ?_⟩) ?_
        rotate_left
        · intro w; go_simp; try with_reducible rfl
        try simp only [Act.put, List.setIfInBounds_toArray, List.set_cons_zero, List.set_cons_succ]
        refine wpAny_take (i := 9) (oi := ⟨some 124, _, _, _, _, none⟩) (v := ?_) rfl (by kernel_rfl) (by kernel_rfl) (by kernel_rfl) (fun _ _ _ h => h) (Or.inl ⟨by rfl, ?_⟩) ?_
        rotate_left
        · intro w; go_simp; try with_reducible rfl
        try simp only [Act.put, List.setIfInBounds_toArray, List.set_cons_zero, List.set_cons_succ]
        refine wpAny_ready (rs := [10]) (by kernel_rfl) (by simp) ?_
        refine AllReady.cons (o := ⟨none, .store _ _ _, _, _, _, none⟩) rfl (fun K hK => ?_) AllReady.nil
        refine step_st1 22 (.tmp 124) (.tmp 122) (by rfl) (by rfl) (by rfl) (f := 2) (by rfl) (v := .slice A6 (d.pend.length + 1) c6) (by rfl) b6 (by simp [Dk.l]) sizeAl10 rfl rfl ?_
        intro w7 b7 hG7
        refine hK _ _ ?_
        clear hK K
        try simp only [Act.put, List.setIfInBounds_toArray, List.set_cons_zero, List.set_cons_succ]
        refine wpAny_done (by kernel_rfl) ?_ _
        refine NoPanic.normal ?_
        obtain ⟨q, hq⟩ : ∃ q, q = (Value.slice A6 (d.pend.length + 1) c6).ownBlock := ⟨_, rfl⟩
        rw [← hq] at hd6
        have hqp : q ≠ some p := by
          rcases hd6 with h | ⟨g, h, hg⟩
          · rw [h, hr]; exact hrp
          · rw [h]; intro e; injection e with e; omega
        have hkk : ∀ b, b < wd.heap.size → dkF p r N b → dkF p q N b ∧ w7.heap[b]? = wd.heap[b]? := fun b hb2 hF => by
          have h6 := hG6.block b hb2 (by rw [hr]; exact fun e => hF.2.1 e.symm)
          have hs6 := hG6.size
          refine ⟨⟨hF.1, ?_, hF.2.2⟩, (hG7.block b (by omega) (by intro e; injection e with e; exact hF.1 e)).trans h6⟩
          rcases hd6 with h | ⟨g, h, hg⟩
          · rw [h, hr]; exact hF.2.1
          · rw [h]; intro e; injection e with e; omega
        have b7 : Blk w7 p 42 ({ B.1 with pend := d.pend ++ [a] }.l vs (.slice A6 (d.pend.length + 1) c6)) := b7
        have ho7 := own_keep10 ho6 (fun k hk he => hG7.block k hk (by intro e; rw [← hq] at he; exact hqp (he.trans e)))
        have hx7 := (hx.keep (F' := dkF p q N) hkk).snoc (ac_mk (hva3.keep hkk))
        have hX7 : RX w7 p q N { B.1 with pend := d.pend ++ [a] } := ⟨vs, .slice A6 (d.pend.length + 1) c6, _, b7, hvs.keep hkk, by rw [show ({ B.1 with pend := d.pend ++ [a] } : Dk).pend.length = d.pend.length + 1 from by simp]; exact ho7, hx7, hq.symm, hqp⟩
        have hC7 : Ch (dkG p r) w w7 := (hC.grow hG6 (fun k hk => .inl (.inr (by rw [← hk, hr])))).grow hG7 (fun k hk => .inl (.inl (by injection hk with hk; exact hk.symm)))
        have hl7 : ∀ b, q = some b → r = some b ∨ w.heap.size ≤ b := fun b h => by
          rcases hd6 with h2 | ⟨g, h2, hg⟩
          · exact .inl (by rw [← hr, ← h2]; exact h)
          · rw [h2] at h; injection h with h; exact .inr (by omega)
        clear hb hvs ho hx hva3 hab3 b6 b7 ho6 ho7 hx7 hG6 hG7 hkk hd6 hq hC d2 d2' hrg5
        go_wp2
        go_ret
        exact ⟨q, by rw [Hpu2.out]; rfl, by rw [Hpu2.out]; exact hX7, hC7, hl7⟩
      refine AllReady.cons (o := ⟨some 121, .buildSlice _ _ _, _, _, _, none⟩) rfl (fun K hK => ?_) AllReady.nil
      refine step_bsW (.tmp 120) slAc (by rfl) (by rfl) (us := a.l (.slice Aa a.b.length ca)) (by rfl) rfl ?_
      refine hK _ _ ?_
      clear hK K
      try simp only [Act.put, List.setIfInBounds_toArray, List.set_cons_zero, List.set_cons_succ]
      refine wpAny_ready (rs := [4]) (by kernel_rfl) (by simp) ?_
      refine AllReady.cons (o := ⟨some 119, .load 22 (.tmp 118), _, _, _, none⟩) rfl (fun K hK => ?_) AllReady.nil
      refine step_ld1 22 (.tmp 118) (by rfl) (by rfl) (by rfl) d2' Try.isAgg22 ?_
      refine hK _ _ ?_
      clear hK K
      try simp only [Act.put, List.setIfInBounds_toArray, List.set_cons_zero, List.set_cons_succ]
      refine wpAny_ready (rs := [7]) (by kernel_rfl) (by simp) ?_
      refine AllReady.cons (o := ⟨some 122, _, _, _, _, none⟩) rfl (fun K hK => ?_) AllReady.nil
      refine step_appW5 (.tmp 119) (.tmp 121) slAc (by rfl) (by rfl) (us := a.l (.slice Aa a.b.length ca)) rfl (one_ac a _ _ _) (base := 0) (by rfl) ho (by rfl) (by simp only [maxLen]; omega) (by omega) (Nat.zero_le _) ?_
      intro v6 w6 ho6 hG6 hd6
      obtain ⟨A6, c6, rfl⟩ := own_shape8 ho6
      have b6 := hb.keep (hG6.block _ hb.lt (by rw [hr]; exact fun e => hrp e.symm))
      refine hK _ _ ?_
      clear hK K
      try simp only [Act.put, List.setIfInBounds_toArray, List.set_cons_zero, List.set_cons_succ]
      refine wpAny_take (i := 8) (oi := ⟨some 123, _, _, _, _, none⟩) (v := ?_) rfl (by kernel_rfl) (by kernel_rfl) (by kernel_rfl) (fun _ _ _ h => h) (Or.inl ⟨by rfl, ?_⟩) ?_
      rotate_left
      · intro w; go_simp; try with_reducible rfl
      try simp only [Act.put, List.setIfInBounds_toArray, List.set_cons_zero, List.set_cons_succ]
      refine wpAny_take (i := 9) (oi := ⟨some 124, _, _, _, _, none⟩) (v := ?_) rfl (by kernel_rfl) (by kernel_rfl) (by kernel_rfl) (fun _ _ _ h => h) (Or.inl ⟨by rfl, ?_⟩) ?_
      rotate_left
      · intro w; go_simp; try with_reducible rfl
      try simp only [Act.put, List.setIfInBounds_toArray, List.set_cons_zero, List.set_cons_succ]
      refine wpAny_ready (rs := [10]) (by kernel_rfl) (by simp) ?_
      refine AllReady.cons (o := ⟨none, .store _ _ _, _, _, _, none⟩) rfl (fun K hK => ?_) AllReady.nil
      refine step_st1 22 (.tmp 124) (.tmp 122) (by rfl) (by rfl) (by rfl) (f := 2) (by rfl) (v := .slice A6 (d.pend.length + 1) c6) (by rfl) b6 (by simp [Dk.l]) sizeAl10 rfl rfl ?_
      intro w7 b7 hG7
      refine hK _ _ ?_
      clear hK K
      try simp only [Act.put, List.setIfInBounds_toArray, List.set_cons_zero, List.set_cons_succ]
      refine wpAny_done (by kernel_rfl) ?_ _
      refine NoPanic.normal ?_
      obtain ⟨q, hq⟩ : ∃ q, q = (Value.slice A6 (d.pend.length + 1) c6).ownBlock := ⟨_, rfl⟩
      rw [← hq] at hd6
      have hqp : q ≠ some p := by
        rcases hd6 with h | ⟨g, h, hg⟩
        · rw [h, hr]; exact hrp
        · rw [h]; intro e; injection e with e; omega
      have hkk : ∀ b, b < wd.heap.size → dkF p r N b → dkF p q N b ∧ w7.heap[b]? = wd.heap[b]? := fun b hb2 hF => by
        have h6 := hG6.block b hb2 (by rw [hr]; exact fun e => hF.2.1 e.symm)
        have hs6 := hG6.size
        refine ⟨⟨hF.1, ?_, hF.2.2⟩, (hG7.block b (by omega) (by intro e; injection e with e; exact hF.1 e)).trans h6⟩
        rcases hd6 with h | ⟨g, h, hg⟩
        · rw [h, hr]; exact hF.2.1
        · rw [h]; intro e; injection e with e; omega
      have b7 : Blk w7 p 42 ({ B.1 with pend := d.pend ++ [a] }.l vs (.slice A6 (d.pend.length + 1) c6)) := b7
      have ho7 := own_keep10 ho6 (fun k hk he => hG7.block k hk (by intro e; rw [← hq] at he; exact hqp (he.trans e)))
      have hx7 := (hx.keep (F' := dkF p q N) hkk).snoc (ac_mk (hva3.keep hkk))
      have hX7 : RX w7 p q N { B.1 with pend := d.pend ++ [a] } := ⟨vs, .slice A6 (d.pend.length + 1) c6, _, b7, hvs.keep hkk, by rw [show ({ B.1 with pend := d.pend ++ [a] } : Dk).pend.length = d.pend.length + 1 from by simp]; exact ho7, hx7, hq.symm, hqp⟩
      have hC7 : Ch (dkG p r) w w7 := (hC.grow hG6 (fun k hk => .inl (.inr (by rw [← hk, hr])))).grow hG7 (fun k hk => .inl (.inl (by injection hk with hk; exact hk.symm)))
      have hl7 : ∀ b, q = some b → r = some b ∨ w.heap.size ≤ b := fun b h => by
        rcases hd6 with h2 | ⟨g, h2, hg⟩
        · exact .inl (by rw [← hr, ← h2]; exact h)
        · rw [h2] at h; injection h with h; exact .inr (by omega)
      clear hb hvs ho hx hva3 hab3 b6 b7 ho6 ho7 hx7 hG6 hG7 hkk hd6 hq hC d2 d2' hrg5
      go_wp2
      go_ret
      exact ⟨q, by rw [Hpu2.out]; rfl, by rw [Hpu2.out]; exact hX7, hC7, hl7⟩
    · have hbn' : B.2 = false := by simpa using hbn
      have Hpu2 : Hid (findR d a = (B.1, 14)) := by show _ = _; rw [Hre.out, Hpu.out, if_neg hbn]
      rw [hbn']
      clear hab2 hva2 hX2 hC3 Hpu hBp
      go_wp2
      go_ret
      exact ⟨r, by rw [Hpu2.out]; rfl, by rw [Hpu2.out]; exact hX3, hC, fun b h => .inl h⟩
set_option maxRecDepth 100000 in
set_option maxHeartbeats 4000000 in
theorem do_act2 (p : Nat) (r : Option Nat) (N : Nat → Prop) (d : Dk) (a : Ac) (va : Value) (w : World) (h : RX w p r N d) (hs : DkSm d) (hN : ∀ b, N b → b < w.heap.size) (hva : Rd w (dkF p r N) va (bys a.b)) (hk : a.k = 2) (hd : d.down = false) (hn : namF a.n = true) (ht : namF a.t = true) :
    Calls Try.prog 15 #[.pointer (some ⟨p, 0, none⟩), .agg (a.l va).toArray] w (DoP w p r N (findR d a)) := by
  obtain ⟨Aa, ca, rfl⟩ := hva.shape
  have hab := Blk.new' w 34 (a.l (.slice Aa a.b.length ca))
  have hB : Below w.heap.size w (w.alloc (.cells (a.l (.slice Aa a.b.length ca)).toArray 34)) := (Below.refl _ _).alloc (Nat.le_refl _) _
  have hX := h.below hB
  have hva1 := hva.below hB
  have hpl := h.lt
  have hrl := h.row
  clear h hva
  go_enter Try.func15, Try.ntmps15
  go_wp2_with (fail)
  obtain ⟨w1, hw1⟩ : ∃ x, x = w.alloc (.cells (a.l (.slice Aa a.b.length ca)).toArray 34) := ⟨_, rfl⟩
  rw [← hw1] at hab hB hX hva1 ⊢
  clear hw1
  have hN1 : ∀ b, N b → b < w1.heap.size := fun b h => by have := hN b h; have := hB.size; omega
  obtain ⟨gb, hgb⟩ : ∃ g, g = w.heap.size := ⟨_, rfl⟩
  rw [← hgb] at hab ⊢
  have hgbp : gb ≠ p := by omega
  have hgw : w.heap.size ≤ gb := by omega
  clear hgb
  refine (now_any p r N d _ hX hs hN1).mono ?_
  rintro e w2 ⟨v2, rfl, hl2, hB2⟩
  obtain ⟨L, hL⟩ : ∃ L, L = nowF d := ⟨_, rfl⟩
  rw [← hL] at hl2
  have HL := hid hL
  clear hL
  obtain ⟨Al, cl, rfl, _, _⟩ := wds_shape hl2
  have hX2 := hX.below hB2
  have hab2 := hab.below hB2
  have hva2 := hva1.below hB2
  have hBB := hB.trans (hB2.mono hB.size)
  clear hX hab hva1 hB2 hB
  have k0 := hab2.cellAt 0 _ rfl
  have k1 := hab2.cellAt 1 _ rfl
  have k2 := hab2.cellAt 2 _ rfl
  have k3 := hab2.cellAt 3 _ rfl
  have k4 := hab2.cellAt 4 _ rfl
  have k5 := hab2.cellAt 5 _ rfl
  have k6 := hab2.cellAt 6 _ rfl
  have k7 := hab2.cellAt 7 _ rfl
  have e4 : (a.k == 4) = false := by rw [beq_eq_false_iff_ne]; omega
  have e5 : (a.k == 5) = false := by rw [beq_eq_false_iff_ne]; omega
  have e6 : (a.k == 6) = false := by rw [beq_eq_false_iff_ne]; omega
  have e7 : (a.k == 7) = false := by rw [beq_eq_false_iff_ne]; omega
  have e2 : (a.k == 2) = true := by rw [hk]; rfl
  have hX3 := hX2
  obtain ⟨vs, vp, xs, hb, hvs, ho, hx, hr, hrp⟩ := hX3
  have c4 := hb.cellAt 4 _ rfl
  rw [hd] at c4
  clear hb hvs ho hx hr hrp
  have e1 : decide (a.k ≤ 1) = false := decide_eq_false (by omega)
  have hh : ¬ a.k ≤ 1 := by omega
  go_wp2_with (fail)
  refine (named_any _ _).mono ?_
  rintro e w3 ⟨rfl, rfl⟩
  rw [hn]
  go_wp2_with (fail)
  refine (named_any _ _).mono ?_
  rintro e w3 ⟨rfl, rfl⟩
  rw [ht]
  clear c4
  go_wp2_with (fail)
  refine (find_any L a.n _ (dkF p r N) _ hl2).mono ?_
  rintro e w3 ⟨vf, rfl, hvf, hw3⟩
  subst hw3
  obtain ⟨fo, hfo⟩ : ∃ fo, fo = findF L a.n := ⟨_, rfl⟩
  rw [← hfo] at hvf ⊢
  have Hfo : Hid (findF (nowF d) a.n = fo) := by show _ = _; rw [← HL.out, hfo]
  clear hfo
  cases fo with
  | none =>
    have Hre : Hid (findR d a = (d, 13)) := by show _ = _; unfold findR; rw [Hfo.out]; rfl
    clear Hfo
    go_wp2
    go_ret
    exact ⟨r, by rw [Hre.out]; rfl, by rw [Hre.out]; exact hX2, (Ch.refl _ _).belowR hBB, fun b h => .inl h⟩
  | some fb =>
    have Hre : Hid (findR d a = pushF d a) := by show _ = _; unfold findR; rw [Hfo.out]; rfl
    clear Hfo
    obtain ⟨Af, cf, rfl⟩ := hvf.shape
    clear hvf
    go_wp2_with (fail)
    refine (burn_any p r N d _ hX2 hs.f).mono ?_
    rintro e w3 ⟨rfl, hX3, hC3⟩
    obtain ⟨B, hBu⟩ : ∃ B, B = burnF d := ⟨_, rfl⟩
    have hpu : pushF d a = if B.2 = true then ({ B.1 with pend := d.pend ++ [a] }, 0) else (B.1, 14) := by rw [hBu]; rfl
    rw [← hBu] at hX3 ⊢
    have hBp : B.1.pend = d.pend := by rw [hBu]; rfl
    have Hpu := hid hpu
    clear hBu hpu
    have hC := ((Ch.refl (dkG p r) w).belowR hBB).trans (hC3.weaken (fun k _ h => .inl h))
    by_cases hbn : B.2 = true
    · have Hpu2 : Hid (findR d a = ({ B.1 with pend := d.pend ++ [a] }, 0)) := by show _ = _; rw [Hre.out, Hpu.out, if_pos hbn]
      rw [hbn]
      have hab3 := hab2.keep (hC3.block _ hab2.lt (fun h => hgbp h))
      have hva3 := hva2.keep (F' := dkF p r N) (fun b hb hF => ⟨hF, hC3.block b hb (fun h => hF.1 h)⟩)
      obtain ⟨vs, vp, xs, hb, hvs, ho, hx, hr, hrp⟩ := hX3
      rw [hBp] at ho hx
      obtain ⟨Ap, cp, rfl⟩ := own_shape8 ho
      have hb : Blk w3 p 42 (B.1.l vs (.slice Ap d.pend.length cp)) := hb
      clear Hpu hBp hbn hC3 hX2 hab2 hva2
      go_upto_region 35 with (fail)
      obtain ⟨wd, hwd⟩ : ∃ x, x = w3.drew := ⟨_, rfl⟩
      replace hb := hb.drew
      replace hvs := hvs.drew
      replace ho := own_drew10 ho
      replace hx := WdX.drew hx
      replace hab3 := hab3.drew
      replace hva3 := hva3.drew
      replace hC := hC.drew
      rw [← hwd] at hb hvs ho hx hab3 hva3 hC
      have hsd := hC.size
      have hsn := hs.n
      have hpd := hb.lt
      have d2 := hb.cellAt 2 _ rfl
      have d2' := (hb.below ((Below.refl _ _).alloc (Nat.le_refl _) (.cells (a.l (.slice Aa a.b.length ca)).toArray 34))).cellAt 2 _ rfl
      have hrg5 := hab3.whole
      refine wp_region_noPanic ?_
      refine wp_region_any (by kernel_rfl) ?_
      change wpAny _ _ _ _ _ _ _ (World.drew _)
      rw [← hwd]
      clear hwd
      refine wpAny_take (i := 0) (oi := ⟨some 115, _, _, _, _, none⟩) (v := ?_) rfl (by kernel_rfl) (by kernel_rfl) (by kernel_rfl) (fun _ _ _ h => h) (Or.inl ⟨by rfl, ?_⟩) ?_
      rotate_left
      · intro w; go_simp; try with_reducible rfl
      try simp only [Act.put, List.setIfInBounds_toArray, List.set_cons_zero, List.set_cons_succ]
      refine wpAny_take (i := 1) (oi := ⟨some 116, _, _, _, _, none⟩) (v := ?_) rfl (by kernel_rfl) (by kernel_rfl) (by kernel_rfl) (fun _ _ _ h => h) (Or.inl ⟨by rfl, ?_⟩) ?_
      rotate_left
      · intro w; go_simp; try with_reducible rfl
      try simp only [Act.put, List.setIfInBounds_toArray, List.set_cons_zero, List.set_cons_succ]
      refine wpAny_take (i := 2) (oi := ⟨some 117, _, _, _, _, none⟩) (v := ?_) rfl (by kernel_rfl) (by kernel_rfl) (by kernel_rfl) (fun _ _ _ h => h) (Or.inl ⟨by rfl, ?_⟩) ?_
      rotate_left
      · intro w; go_simp; try with_reducible rfl
      try simp only [Act.put, List.setIfInBounds_toArray, List.set_cons_zero, List.set_cons_succ]
      refine wpAny_take (i := 3) (oi := ⟨some 118, _, _, _, _, none⟩) (v := ?_) rfl (by kernel_rfl) (by kernel_rfl) (by kernel_rfl) (fun _ _ _ h => h) (Or.inl ⟨by rfl, ?_⟩) ?_
      rotate_left
      · intro w; go_simp; try with_reducible rfl
      try simp only [Act.put, List.setIfInBounds_toArray, List.set_cons_zero, List.set_cons_succ]
      refine wpAny_ready (rs := [4, 5]) (by kernel_rfl) (by simp) ?_
      refine AllReady.cons (o := ⟨some 119, .load 22 (.tmp 118), _, _, _, none⟩) rfl (fun K hK => ?_) ?_
      · refine step_ld1 22 (.tmp 118) (by rfl) (by rfl) (by rfl) d2 Try.isAgg22 ?_
        refine hK _ _ ?_
        clear hK K
        try simp only [Act.put, List.setIfInBounds_toArray, List.set_cons_zero, List.set_cons_succ]
        refine wpAny_ready (rs := [5]) (by kernel_rfl) (by simp) ?_
        refine AllReady.cons (o := ⟨some 120, .load 34 (.tmp 3), _, _, _, none⟩) rfl (fun K hK => ?_) AllReady.nil
        refine step_ld 34 (.tmp 3) (by rfl) (by rfl) (by rfl) hrg5 Try.underlying34 rfl sizeAc ?_
        refine hK _ _ ?_
        clear hK K
        try simp only [Act.put, List.setIfInBounds_toArray, List.set_cons_zero, List.set_cons_succ]
        refine wpAny_ready (rs := [6]) (by kernel_rfl) (by simp) ?_
        refine AllReady.cons (o := ⟨some 121, .buildSlice _ _ _, _, _, _, none⟩) rfl (fun K hK => ?_) AllReady.nil
        refine step_bsW (.tmp 120) slAc (by rfl) (by rfl) (us := a.l (.slice Aa a.b.length ca)) (by rfl) rfl ?_
        refine hK _ _ ?_
        clear hK K
        try simp only [Act.put, List.setIfInBounds_toArray, List.set_cons_zero, List.set_cons_succ]
        refine wpAny_ready (rs := [7]) (by kernel_rfl) (by simp) ?_
        refine AllReady.cons (o := ⟨some 122, _, _, _, _, none⟩) rfl (fun K hK => ?_) AllReady.nil
        refine step_appW5 (.tmp 119) (.tmp 121) slAc (by rfl) (by rfl) (us := a.l (.slice Aa a.b.length ca)) rfl (one_ac a _ _ _) (base := 0) (by rfl) ho (by rfl) (by simp only [maxLen]; omega) (by omega) (Nat.zero_le _) ?_
        intro v6 w6 ho6 hG6 hd6
        obtain ⟨A6, c6, rfl⟩ := own_shape8 ho6
        have b6 := hb.keep (hG6.block _ hb.lt (by rw [hr]; exact fun e => hrp e.symm))
        refine hK _ _ ?_
        clear hK K
        try simp only [Act.put, List.setIfInBounds_toArray, List.set_cons_zero, List.set_cons_succ]
        refine wpAny_take (i := 8) (oi := ⟨some 123, _, _, _, _, none⟩) (v := ?_) rfl (by kernel_rfl) (by kernel_rfl) (by kernel_rfl) (fun _ _ _ h => h) (Or.inl ⟨by rfl, ?_⟩) ?_
        rotate_left
        · intro w; go_simp; try with_reducible rfl
        try simp only [Act.put, List.setIfInBounds_toArray, List.set_cons_zero, List.set_cons_succ]
        refine wpAny_take (i := 9) (oi := ⟨some 124, _, _, _, _, none⟩) (v := ?_) rfl (by kernel_rfl) (by kernel_rfl) (by kernel_rfl) (fun _ _ _ h => h) (Or.inl ⟨by rfl, ?_⟩) ?_
        rotate_left
        · intro w; go_simp; try with_reducible rfl
        try simp only [Act.put, List.setIfInBounds_toArray, List.set_cons_zero, List.set_cons_succ]
        refine wpAny_ready (rs := [10]) (by kernel_rfl) (by simp) ?_
        refine AllReady.cons (o := ⟨none, .store _ _ _, _, _, _, none⟩) rfl (fun K hK => ?_) AllReady.nil
        refine step_st1 22 (.tmp 124) (.tmp 122) (by rfl) (by rfl) (by rfl) (f := 2) (by rfl) (v := .slice A6 (d.pend.length + 1) c6) (by rfl) b6 (by simp [Dk.l]) sizeAl10 rfl rfl ?_
        intro w7 b7 hG7
        refine hK _ _ ?_
        clear hK K
        try simp only [Act.put, List.setIfInBounds_toArray, List.set_cons_zero, List.set_cons_succ]
        refine wpAny_done (by kernel_rfl) ?_ _
        refine NoPanic.normal ?_
        obtain ⟨q, hq⟩ : ∃ q, q = (Value.slice A6 (d.pend.length + 1) c6).ownBlock := ⟨_, rfl⟩
        rw [← hq] at hd6
        have hqp : q ≠ some p := by
          rcases hd6 with h | ⟨g, h, hg⟩
          · rw [h, hr]; exact hrp
          · rw [h]; intro e; injection e with e; omega
        have hkk : ∀ b, b < wd.heap.size → dkF p r N b → dkF p q N b ∧ w7.heap[b]? = wd.heap[b]? := fun b hb2 hF => by
          have h6 := hG6.block b hb2 (by rw [hr]; exact fun e => hF.2.1 e.symm)
          have hs6 := hG6.size
          refine ⟨⟨hF.1, ?_, hF.2.2⟩, (hG7.block b (by omega) (by intro e; injection e with e; exact hF.1 e)).trans h6⟩
          rcases hd6 with h | ⟨g, h, hg⟩
          · rw [h, hr]; exact hF.2.1
          · rw [h]; intro e; injection e with e; omega
        have b7 : Blk w7 p 42 ({ B.1 with pend := d.pend ++ [a] }.l vs (.slice A6 (d.pend.length + 1) c6)) := b7
        have ho7 := own_keep10 ho6 (fun k hk he => hG7.block k hk (by intro e; rw [← hq] at he; exact hqp (he.trans e)))
        have hx7 := (hx.keep (F' := dkF p q N) hkk).snoc (ac_mk (hva3.keep hkk))
        have hX7 : RX w7 p q N { B.1 with pend := d.pend ++ [a] } := ⟨vs, .slice A6 (d.pend.length + 1) c6, _, b7, hvs.keep hkk, by rw [show ({ B.1 with pend := d.pend ++ [a] } : Dk).pend.length = d.pend.length + 1 from by simp]; exact ho7, hx7, hq.symm, hqp⟩
        have hC7 : Ch (dkG p r) w w7 := (hC.grow hG6 (fun k hk => .inl (.inr (by rw [← hk, hr])))).grow hG7 (fun k hk => .inl (.inl (by injection hk with hk; exact hk.symm)))
        have hl7 : ∀ b, q = some b → r = some b ∨ w.heap.size ≤ b := fun b h => by
          rcases hd6 with h2 | ⟨g, h2, hg⟩
          · exact .inl (by rw [← hr, ← h2]; exact h)
          · rw [h2] at h; injection h with h; exact .inr (by omega)
        clear hb hvs ho hx hva3 hab3 b6 b7 ho6 ho7 hx7 hG6 hG7 hkk hd6 hq hC d2 d2' hrg5
        go_wp2
        go_ret
        exact ⟨q, by rw [Hpu2.out]; rfl, by rw [Hpu2.out]; exact hX7, hC7, hl7⟩
      refine AllReady.cons (o := ⟨some 120, .load 34 (.tmp 3), _, _, _, none⟩) rfl (fun K hK => ?_) AllReady.nil
      refine step_ld 34 (.tmp 3) (by rfl) (by rfl) (by rfl) hrg5 Try.underlying34 rfl sizeAc ?_
      refine hK _ _ ?_
      clear hK K
      try simp only [Act.put, List.setIfInBounds_toArray, List.set_cons_zero, List.set_cons_succ]
      refine wpAny_ready (rs := [4, 6]) (by kernel_rfl) (by simp) ?_
      refine AllReady.cons (o := ⟨some 119, .load 22 (.tmp 118), _, _, _, none⟩) rfl (fun K hK => ?_) ?_
      · refine step_ld1 22 (.tmp 118) (by rfl) (by rfl) (by rfl) d2 Try.isAgg22 ?_
        refine hK _ _ ?_
        clear hK K
        try simp only [Act.put, List.setIfInBounds_toArray, List.set_cons_zero, List.set_cons_succ]
        refine wpAny_ready (rs := [6]) (by kernel_rfl) (by simp) ?_
        refine AllReady.cons (o := ⟨some 121, .buildSlice _ _ _, _, _, _, none⟩) rfl (fun K hK => ?_) AllReady.nil
        refine step_bsW (.tmp 120) slAc (by rfl) (by rfl) (us := a.l (.slice Aa a.b.length ca)) (by rfl) rfl ?_
        refine hK _ _ ?_
        clear hK K
        try simp only [Act.put, List.setIfInBounds_toArray, List.set_cons_zero, List.set_cons_succ]
        refine wpAny_ready (rs := [7]) (by kernel_rfl) (by simp) ?_
        refine AllReady.cons (o := ⟨some 122, _, _, _, _, none⟩) rfl (fun K hK => ?_) AllReady.nil
        refine step_appW5 (.tmp 119) (.tmp 121) slAc (by rfl) (by rfl) (us := a.l (.slice Aa a.b.length ca)) rfl (one_ac a _ _ _) (base := 0) (by rfl) ho (by rfl) (by simp only [maxLen]; omega) (by omega) (Nat.zero_le _) ?_
        intro v6 w6 ho6 hG6 hd6
        obtain ⟨A6, c6, rfl⟩ := own_shape8 ho6
        have b6 := hb.keep (hG6.block _ hb.lt (by rw [hr]; exact fun e => hrp e.symm))
        refine hK _ _ ?_
        clear hK K
        try simp only [Act.put, List.setIfInBounds_toArray, List.set_cons_zero, List.set_cons_succ]
        refine wpAny_take (i := 8) (oi := ⟨some 123, _, _, _, _, none⟩) (v := ?_) rfl (by kernel_rfl) (by kernel_rfl) (by kernel_rfl) (fun _ _ _ h => h) (Or.inl ⟨by rfl, ?_⟩) ?_
        rotate_left
        · intro w; go_simp; try with_reducible rfl
        try simp only [Act.put, List.setIfInBounds_toArray, List.set_cons_zero, List.set_cons_succ]
        refine wpAny_take (i := 9) (oi := ⟨some 124, _, _, _, _, none⟩) (v := ?_) rfl (by kernel_rfl) (by kernel_rfl) (by kernel_rfl) (fun _ _ _ h => h) (Or.inl ⟨by rfl, ?_⟩) ?_
        rotate_left
        · intro w; go_simp; try with_reducible rfl
        try simp only [Act.put, List.setIfInBounds_toArray, List.set_cons_zero, List.set_cons_succ]
        refine wpAny_ready (rs := [10]) (by kernel_rfl) (by simp) ?_
        refine AllReady.cons (o := ⟨none, .store _ _ _, _, _, _, none⟩) rfl (fun K hK => ?_) AllReady.nil
        refine step_st1 22 (.tmp 124) (.tmp 122) (by rfl) (by rfl) (by rfl) (f := 2) (by rfl) (v := .slice A6 (d.pend.length + 1) c6) (by rfl) b6 (by simp [Dk.l]) sizeAl10 rfl rfl ?_
        intro w7 b7 hG7
        refine hK _ _ ?_
        clear hK K
        try simp only [Act.put, List.setIfInBounds_toArray, List.set_cons_zero, List.set_cons_succ]
        refine wpAny_done (by kernel_rfl) ?_ _
        refine NoPanic.normal ?_
        obtain ⟨q, hq⟩ : ∃ q, q = (Value.slice A6 (d.pend.length + 1) c6).ownBlock := ⟨_, rfl⟩
        rw [← hq] at hd6
        have hqp : q ≠ some p := by
          rcases hd6 with h | ⟨g, h, hg⟩
          · rw [h, hr]; exact hrp
          · rw [h]; intro e; injection e with e; omega
        have hkk : ∀ b, b < wd.heap.size → dkF p r N b → dkF p q N b ∧ w7.heap[b]? = wd.heap[b]? := fun b hb2 hF => by
          have h6 := hG6.block b hb2 (by rw [hr]; exact fun e => hF.2.1 e.symm)
          have hs6 := hG6.size
          refine ⟨⟨hF.1, ?_, hF.2.2⟩, (hG7.block b (by omega) (by intro e; injection e with e; exact hF.1 e)).trans h6⟩
          rcases hd6 with h | ⟨g, h, hg⟩
          · rw [h, hr]; exact hF.2.1
          · rw [h]; intro e; injection e with e; omega
        have b7 : Blk w7 p 42 ({ B.1 with pend := d.pend ++ [a] }.l vs (.slice A6 (d.pend.length + 1) c6)) := b7
        have ho7 := own_keep10 ho6 (fun k hk he => hG7.block k hk (by intro e; rw [← hq] at he; exact hqp (he.trans e)))
        have hx7 := (hx.keep (F' := dkF p q N) hkk).snoc (ac_mk (hva3.keep hkk))
        have hX7 : RX w7 p q N { B.1 with pend := d.pend ++ [a] } := ⟨vs, .slice A6 (d.pend.length + 1) c6, _, b7, hvs.keep hkk, by rw [show ({ B.1 with pend := d.pend ++ [a] } : Dk).pend.length = d.pend.length + 1 from by simp]; exact ho7, hx7, hq.symm, hqp⟩
        have hC7 : Ch (dkG p r) w w7 := (hC.grow hG6 (fun k hk => .inl (.inr (by rw [← hk, hr])))).grow hG7 (fun k hk => .inl (.inl (by injection hk with hk; exact hk.symm)))
        have hl7 : ∀ b, q = some b → r = some b ∨ w.heap.size ≤ b := fun b h => by
          rcases hd6 with h2 | ⟨g, h2, hg⟩
          · exact .inl (by rw [← hr, ← h2]; exact h)
          · rw [h2] at h; injection h with h; exact .inr (by omega)
        clear hb hvs ho hx hva3 hab3 b6 b7 ho6 ho7 hx7 hG6 hG7 hkk hd6 hq hC d2 d2' hrg5
        go_wp2
        go_ret
        exact ⟨q, by rw [Hpu2.out]; rfl, by rw [Hpu2.out]; exact hX7, hC7, hl7⟩
      refine AllReady.cons (o := ⟨some 121, .buildSlice _ _ _, _, _, _, none⟩) rfl (fun K hK => ?_) AllReady.nil
      refine step_bsW (.tmp 120) slAc (by rfl) (by rfl) (us := a.l (.slice Aa a.b.length ca)) (by rfl) rfl ?_
      refine hK _ _ ?_
      clear hK K
      try simp only [Act.put, List.setIfInBounds_toArray, List.set_cons_zero, List.set_cons_succ]
      refine wpAny_ready (rs := [4]) (by kernel_rfl) (by simp) ?_
      refine AllReady.cons (o := ⟨some 119, .load 22 (.tmp 118), _, _, _, none⟩) rfl (fun K hK => ?_) AllReady.nil
      refine step_ld1 22 (.tmp 118) (by rfl) (by rfl) (by rfl) d2' Try.isAgg22 ?_
      refine hK _ _ ?_
      clear hK K
      try simp only [Act.put, List.setIfInBounds_toArray, List.set_cons_zero, List.set_cons_succ]
      refine wpAny_ready (rs := [7]) (by kernel_rfl) (by simp) ?_
      refine AllReady.cons (o := ⟨some 122, _, _, _, _, none⟩) rfl (fun K hK => ?_) AllReady.nil
      refine step_appW5 (.tmp 119) (.tmp 121) slAc (by rfl) (by rfl) (us := a.l (.slice Aa a.b.length ca)) rfl (one_ac a _ _ _) (base := 0) (by rfl) ho (by rfl) (by simp only [maxLen]; omega) (by omega) (Nat.zero_le _) ?_
      intro v6 w6 ho6 hG6 hd6
      obtain ⟨A6, c6, rfl⟩ := own_shape8 ho6
      have b6 := hb.keep (hG6.block _ hb.lt (by rw [hr]; exact fun e => hrp e.symm))
      refine hK _ _ ?_
      clear hK K
      try simp only [Act.put, List.setIfInBounds_toArray, List.set_cons_zero, List.set_cons_succ]
      refine wpAny_take (i := 8) (oi := ⟨some 123, _, _, _, _, none⟩) (v := ?_) rfl (by kernel_rfl) (by kernel_rfl) (by kernel_rfl) (fun _ _ _ h => h) (Or.inl ⟨by rfl, ?_⟩) ?_
      rotate_left
      · intro w; go_simp; try with_reducible rfl
      try simp only [Act.put, List.setIfInBounds_toArray, List.set_cons_zero, List.set_cons_succ]
      refine wpAny_take (i := 9) (oi := ⟨some 124, _, _, _, _, none⟩) (v := ?_) rfl (by kernel_rfl) (by kernel_rfl) (by kernel_rfl) (fun _ _ _ h => h) (Or.inl ⟨by rfl, ?_⟩) ?_
      rotate_left
      · intro w; go_simp; try with_reducible rfl
      try simp only [Act.put, List.setIfInBounds_toArray, List.set_cons_zero, List.set_cons_succ]
      refine wpAny_ready (rs := [10]) (by kernel_rfl) (by simp) ?_
      refine AllReady.cons (o := ⟨none, .store _ _ _, _, _, _, none⟩) rfl (fun K hK => ?_) AllReady.nil
      refine step_st1 22 (.tmp 124) (.tmp 122) (by rfl) (by rfl) (by rfl) (f := 2) (by rfl) (v := .slice A6 (d.pend.length + 1) c6) (by rfl) b6 (by simp [Dk.l]) sizeAl10 rfl rfl ?_
      intro w7 b7 hG7
      refine hK _ _ ?_
      clear hK K
      try simp only [Act.put, List.setIfInBounds_toArray, List.set_cons_zero, List.set_cons_succ]
      refine wpAny_done (by kernel_rfl) ?_ _
      refine NoPanic.normal ?_
      obtain ⟨q, hq⟩ : ∃ q, q = (Value.slice A6 (d.pend.length + 1) c6).ownBlock := ⟨_, rfl⟩
      rw [← hq] at hd6
      have hqp : q ≠ some p := by
        rcases hd6 with h | ⟨g, h, hg⟩
        · rw [h, hr]; exact hrp
        · rw [h]; intro e; injection e with e; omega
      have hkk : ∀ b, b < wd.heap.size → dkF p r N b → dkF p q N b ∧ w7.heap[b]? = wd.heap[b]? := fun b hb2 hF => by
        have h6 := hG6.block b hb2 (by rw [hr]; exact fun e => hF.2.1 e.symm)
        have hs6 := hG6.size
        refine ⟨⟨hF.1, ?_, hF.2.2⟩, (hG7.block b (by omega) (by intro e; injection e with e; exact hF.1 e)).trans h6⟩
        rcases hd6 with h | ⟨g, h, hg⟩
        · rw [h, hr]; exact hF.2.1
        · rw [h]; intro e; injection e with e; omega
      have b7 : Blk w7 p 42 ({ B.1 with pend := d.pend ++ [a] }.l vs (.slice A6 (d.pend.length + 1) c6)) := b7
      have ho7 := own_keep10 ho6 (fun k hk he => hG7.block k hk (by intro e; rw [← hq] at he; exact hqp (he.trans e)))
      have hx7 := (hx.keep (F' := dkF p q N) hkk).snoc (ac_mk (hva3.keep hkk))
      have hX7 : RX w7 p q N { B.1 with pend := d.pend ++ [a] } := ⟨vs, .slice A6 (d.pend.length + 1) c6, _, b7, hvs.keep hkk, by rw [show ({ B.1 with pend := d.pend ++ [a] } : Dk).pend.length = d.pend.length + 1 from by simp]; exact ho7, hx7, hq.symm, hqp⟩
      have hC7 : Ch (dkG p r) w w7 := (hC.grow hG6 (fun k hk => .inl (.inr (by rw [← hk, hr])))).grow hG7 (fun k hk => .inl (.inl (by injection hk with hk; exact hk.symm)))
      have hl7 : ∀ b, q = some b → r = some b ∨ w.heap.size ≤ b := fun b h => by
        rcases hd6 with h2 | ⟨g, h2, hg⟩
        · exact .inl (by rw [← hr, ← h2]; exact h)
        · rw [h2] at h; injection h with h; exact .inr (by omega)
      clear hb hvs ho hx hva3 hab3 b6 b7 ho6 ho7 hx7 hG6 hG7 hkk hd6 hq hC d2 d2' hrg5
      go_wp2
      go_ret
      exact ⟨q, by rw [Hpu2.out]; rfl, by rw [Hpu2.out]; exact hX7, hC7, hl7⟩
    · have hbn' : B.2 = false := by simpa using hbn
      have Hpu2 : Hid (findR d a = (B.1, 14)) := by show _ = _; rw [Hre.out, Hpu.out, if_neg hbn]
      rw [hbn']
      clear hab2 hva2 hX2 hC3 Hpu hBp
      go_wp2
      go_ret
      exact ⟨r, by rw [Hpu2.out]; rfl, by rw [Hpu2.out]; exact hX3, hC, fun b h => .inl h⟩
set_option maxRecDepth 100000 in
set_option maxHeartbeats 4000000 in
theorem do_act01 (p : Nat) (r : Option Nat) (N : Nat → Prop) (d : Dk) (a : Ac) (va : Value) (w : World) (h : RX w p r N d) (hs : DkSm d) (hN : ∀ b, N b → b < w.heap.size) (hva : Rd w (dkF p r N) va (bys a.b)) (hk : a.k ≤ 1) (hd : d.down = false) (hn : namF a.n = true) (hab1 : a.b.length ≤ 1000000000) :
    Calls Try.prog 15 #[.pointer (some ⟨p, 0, none⟩), .agg (a.l va).toArray] w (DoP w p r N (sizeR d a)) := by
  obtain ⟨Aa, ca, rfl⟩ := hva.shape
  have hab := Blk.new' w 34 (a.l (.slice Aa a.b.length ca))
  have hB : Below w.heap.size w (w.alloc (.cells (a.l (.slice Aa a.b.length ca)).toArray 34)) := (Below.refl _ _).alloc (Nat.le_refl _) _
  have hX := h.below hB
  have hva1 := hva.below hB
  have hpl := h.lt
  have hrl := h.row
  clear h hva
  go_enter Try.func15, Try.ntmps15
  go_wp2_with (fail)
  obtain ⟨w1, hw1⟩ : ∃ x, x = w.alloc (.cells (a.l (.slice Aa a.b.length ca)).toArray 34) := ⟨_, rfl⟩
  rw [← hw1] at hab hB hX hva1 ⊢
  clear hw1
  have hN1 : ∀ b, N b → b < w1.heap.size := fun b h => by have := hN b h; have := hB.size; omega
  obtain ⟨gb, hgb⟩ : ∃ g, g = w.heap.size := ⟨_, rfl⟩
  rw [← hgb] at hab ⊢
  have hgbp : gb ≠ p := by omega
  have hgw : w.heap.size ≤ gb := by omega
  clear hgb
  refine (now_any p r N d _ hX hs hN1).mono ?_
  rintro e w2 ⟨v2, rfl, hl2, hB2⟩
  obtain ⟨L, hL⟩ : ∃ L, L = nowF d := ⟨_, rfl⟩
  rw [← hL] at hl2
  have HL := hid hL
  clear hL
  obtain ⟨Al, cl, rfl, _, _⟩ := wds_shape hl2
  have hX2 := hX.below hB2
  have hab2 := hab.below hB2
  have hva2 := hva1.below hB2
  have hBB := hB.trans (hB2.mono hB.size)
  clear hX hab hva1 hB2 hB
  have k0 := hab2.cellAt 0 _ rfl
  have k1 := hab2.cellAt 1 _ rfl
  have k2 := hab2.cellAt 2 _ rfl
  have k3 := hab2.cellAt 3 _ rfl
  have k4 := hab2.cellAt 4 _ rfl
  have k5 := hab2.cellAt 5 _ rfl
  have k6 := hab2.cellAt 6 _ rfl
  have k7 := hab2.cellAt 7 _ rfl
  have e4 : (a.k == 4) = false := by rw [beq_eq_false_iff_ne]; omega
  have e5 : (a.k == 5) = false := by rw [beq_eq_false_iff_ne]; omega
  have e6 : (a.k == 6) = false := by rw [beq_eq_false_iff_ne]; omega
  have e7 : (a.k == 7) = false := by rw [beq_eq_false_iff_ne]; omega
  have hX3 := hX2
  obtain ⟨vs, vp, xs, hb, hvs, ho, hx, hr, hrp⟩ := hX3
  have c4 := hb.cellAt 4 _ rfl
  rw [hd] at c4
  clear hb hvs ho hx hr hrp
  have e1 : decide (a.k ≤ 1) = true := decide_eq_true hk
  have e2 : (a.k == 2) = false := by rw [beq_eq_false_iff_ne]; omega
  go_wp2_with (fail)
  refine (named_any _ _).mono ?_
  rintro e w3 ⟨rfl, rfl⟩
  rw [hn]
  go_wp2
  have hnb : (nowF d).length ≤ 500000 ∧ tot (nowF d) ≤ 1000000000 := by have := now_bd d.pend d.syn; have := hs.n; have := hs.t; unfold nowF; omega
  rw [← HL.out] at hnb
  obtain ⟨hLn, hLt⟩ := hnb
  clear c4 k0 k1 k2 k3 k4 k5 k6 k7
  go_loopw [6, 7] (fun nv iv wr => ∃ i : Nat, i ≤ L.length ∧ nv = .int .i64 ((szA a (L.take i) : Nat) : Int) ∧ iv = .int .i64 (i : Int) ∧ Below w3.heap.size w3 wr) (fun _ i _ => L.length - (intOf i).toNat)
  case atStart => exact ⟨0, Nat.zero_le _, by simp [szA], rfl, Below.refl _ _⟩
  case round =>
    obtain ⟨i, hi, rfl, rfl, hB⟩ := hrel
    have hl := hl2.below hB
    have hab := hab2.below hB
    have HK0 : Hid (∀ W, Ch nob wr W → W.cell? ⟨gb, 0, none⟩ = some (.int .i64 a.k)) := fun W h => (hab.ch h (fun h => h)).cellAt 0 _ rfl
    have HK1 : Hid (∀ W, Ch nob wr W → W.cell? ⟨gb, 1, none⟩ = some (.string a.n)) := fun W h => (hab.ch h (fun h => h)).cellAt 1 _ rfl
    have hst : szA a (L.take i) ≤ 2000000000 := Nat.le_trans (szA_le a _) (by have := tot_take L i; omega)
    by_cases hlt : i < L.length
    · obtain ⟨f, hf⟩ : ∃ f, L[i]? = some f := ⟨_, List.getElem?_eq_getElem hlt⟩
      have hI : (i : Int) < (L.length : Int) := by omega
      have hfb := tot_mem (List.mem_of_getElem? hf)
      obtain ⟨g, off, cs, rfl, hg, hr, he⟩ := wd_el hl hf
      obtain ⟨u, rfl, hu⟩ := fl_open he
      obtain ⟨Au, cu, rfl⟩ := hu.shape
      have c0 : wr.cell? ⟨g, off + i * 2, none⟩ = some (.string f.n) := hr 0 _ rfl
      have c1 : wr.cell? ⟨g, off + i * 2 + 1, none⟩ = some (.slice Au f.b.length cu) := hr 1 _ rfl
      have HE : Hid (∀ W, Ch nob wr W → W.cell? ⟨g, off + i * 2, none⟩ = some (.string f.n)) := fun W h => ch_cell h c0
      have HE1 : Hid (∀ W, Ch nob wr W → W.cell? ⟨g, off + i * 2 + 1, none⟩ = some (.slice Au f.b.length cu)) := fun W h => ch_cell h c1
      have hsn2 := szA_snoc a (L.take i) f
      rw [← take_snocF hf] at hsn2
      have hin : IntKind.i64.wrap ((i : Int) + 1) = (i : Int) + 1 := IntWalk.i64_in _ (by omega)
      obtain ⟨s, hs0⟩ : ∃ s, s = szA a (L.take i) := ⟨_, rfl⟩
      rw [← hs0] at hst hsn2 ⊢
      have hwr : IntKind.i64.wrap ((s : Int) + (f.b.length : Int)) = (s : Int) + (f.b.length : Int) := IntWalk.i64_in _ (by omega)
      clear hs0 he hr c0 c1 hl hab hf
      by_cases hk0 : a.k = 0
      · rw [if_pos (.inl hk0)] at hsn2
        have Hsn := hid hsn2
        have e0 : (a.k == 0) = true := by rw [hk0]; rfl
        clear hsn2 hk0
        go_upto_region 26 with (fail)
        refine wp_region_noPanic ?_
        refine wp_region_held_drew (S := Ch nob wr) (by kernel_rfl) ((Ch.refl _ _).drew) (fun hHeld => ?_)
        refine wpAnyH_take (i := 0) (oi := ⟨some 76, _, _, _, _, none⟩) (v := ?_) rfl (by kernel_rfl) (by kernel_rfl) (by kernel_rfl) (fun _ _ _ h => h) (Or.inl ⟨by rfl, ?_⟩) (by assumption) ?_
        rotate_left
        · intro w hSw; go_simp; try with_reducible rfl
        try simp only [Act.put, List.setIfInBounds_toArray, List.set_cons_zero, List.set_cons_succ]
        refine wpAnyH_take (i := 1) (oi := ⟨some 77, _, _, _, _, none⟩) (v := ?_) rfl (by kernel_rfl) (by kernel_rfl) (by kernel_rfl) (fun _ _ _ h => h) (Or.inl ⟨by rfl, ?_⟩) (by assumption) ?_
        rotate_left
        · intro w hSw; have hcw := HK0.out w hSw; go_simp; try with_reducible rfl
        try simp only [Act.put, List.setIfInBounds_toArray, List.set_cons_zero, List.set_cons_succ]
        refine wpAnyH_take (i := 2) (oi := ⟨some 78, _, _, _, _, none⟩) (v := ?_) rfl (by kernel_rfl) (by kernel_rfl) (by kernel_rfl) (fun _ _ _ h => h) (Or.inl ⟨by rfl, ?_⟩) (by assumption) ?_
        rotate_left
        · intro w hSw; go_simp; try with_reducible rfl
        try simp only [Act.put, List.setIfInBounds_toArray, List.set_cons_zero, List.set_cons_succ]
        refine wpAnyH_take (i := 3) (oi := ⟨some 79, _, _, _, _, none⟩) (v := ?_) rfl (by kernel_rfl) (by kernel_rfl) (by kernel_rfl) (fun _ _ _ h => h) (Or.inl ⟨by rfl, ?_⟩) (by assumption) ?_
        rotate_left
        · intro w hSw; go_simp; try with_reducible rfl
        try simp only [Act.put, List.setIfInBounds_toArray, List.set_cons_zero, List.set_cons_succ]
        refine wpAnyH_take (i := 4) (oi := ⟨some 80, _, _, _, _, some (3, false)⟩) (v := undef) rfl (by kernel_rfl) (by kernel_rfl) (by kernel_rfl) (fun _ _ _ h => h) (Or.inr ⟨by rfl, rfl⟩) (by assumption) ?_
        try simp only [Act.put, List.setIfInBounds_toArray, List.set_cons_zero, List.set_cons_succ]
        refine wpAnyH_take (i := 5) (oi := ⟨some 81, _, _, _, _, some (3, false)⟩) (v := undef) rfl (by kernel_rfl) (by kernel_rfl) (by kernel_rfl) (fun _ _ _ h => h) (Or.inr ⟨by rfl, rfl⟩) (by assumption) ?_
        try simp only [Act.put, List.setIfInBounds_toArray, List.set_cons_zero, List.set_cons_succ]
        refine wpAnyH_take (i := 6) (oi := ⟨some 82, _, _, _, _, some (3, false)⟩) (v := undef) rfl (by kernel_rfl) (by kernel_rfl) (by kernel_rfl) (fun _ _ _ h => h) (Or.inr ⟨by rfl, rfl⟩) (by assumption) ?_
        try simp only [Act.put, List.setIfInBounds_toArray, List.set_cons_zero, List.set_cons_succ]
        refine wpAnyH_take (i := 7) (oi := ⟨some 83, _, _, _, _, some (3, false)⟩) (v := undef) rfl (by kernel_rfl) (by kernel_rfl) (by kernel_rfl) (fun _ _ _ h => h) (Or.inr ⟨by rfl, rfl⟩) (by assumption) ?_
        try simp only [Act.put, List.setIfInBounds_toArray, List.set_cons_zero, List.set_cons_succ]
        refine wpAnyH_take (i := 8) (oi := ⟨some 84, _, _, _, _, some (3, false)⟩) (v := undef) rfl (by kernel_rfl) (by kernel_rfl) (by kernel_rfl) (fun _ _ _ h => h) (Or.inr ⟨by rfl, rfl⟩) (by assumption) ?_
        try simp only [Act.put, List.setIfInBounds_toArray, List.set_cons_zero, List.set_cons_succ]
        refine wpAnyH_take (i := 9) (oi := ⟨some 85, _, _, _, _, some (3, false)⟩) (v := undef) rfl (by kernel_rfl) (by kernel_rfl) (by kernel_rfl) (fun _ _ _ h => h) (Or.inr ⟨by rfl, rfl⟩) (by assumption) ?_
        try simp only [Act.put, List.setIfInBounds_toArray, List.set_cons_zero, List.set_cons_succ]
        refine wpAnyH_take (i := 10) (oi := ⟨some 86, _, _, _, _, some (3, false)⟩) (v := undef) rfl (by kernel_rfl) (by kernel_rfl) (by kernel_rfl) (fun _ _ _ h => h) (Or.inr ⟨by rfl, rfl⟩) (by assumption) ?_
        try simp only [Act.put, List.setIfInBounds_toArray, List.set_cons_zero, List.set_cons_succ]
        refine wpAnyH_take (i := 11) (oi := ⟨some 87, _, _, _, _, some (3, false)⟩) (v := undef) rfl (by kernel_rfl) (by kernel_rfl) (by kernel_rfl) (fun _ _ _ h => h) (Or.inr ⟨by rfl, rfl⟩) (by assumption) ?_
        try simp only [Act.put, List.setIfInBounds_toArray, List.set_cons_zero, List.set_cons_succ]
        refine wpAnyH_take (i := 12) (oi := ⟨some 88, _, _, _, _, none⟩) (v := ?_) rfl (by kernel_rfl) (by kernel_rfl) (by kernel_rfl) (fun _ _ _ h => h) (Or.inl ⟨by rfl, ?_⟩) (by assumption) ?_
        rotate_left
        · intro w hSw; go_simp; try with_reducible rfl
        try simp only [Act.put, List.setIfInBounds_toArray, List.set_cons_zero, List.set_cons_succ]
        refine wpAnyH_done (by kernel_rfl) ?_ _
        refine NoPanic.normal ?_
        have hBd := hB.drew
        have c1' := HE1.out _ (Ch.refl nob wr).drew
        clear HE HE1 HK0 HK1
        go_wp2_with (first | refine wp_ixa 40 (.tmp 90) (.tmp 91) rfl rfl rfl rfl Try.underlying40 hlt sizeFl ?_)
        go_roundw
        case rel => exact ⟨i + 1, by omega, by rw [Hsn.out]; go_num, by go_num, hBd⟩
        case measure => simp [intOf]; omega
      · have e0 : (a.k == 0) = false := by rw [beq_eq_false_iff_ne]; exact hk0
        by_cases hq : f.n = a.n
        · rw [if_neg (fun h => h.elim hk0 (fun h => h hq))] at hsn2
          have Hsn := hid hsn2
          have hb : (f.n.toList == a.n.toList) = true := (Go.Lib.bytes_beq_iff _ _).2 hq
          clear hsn2 hk0 hq
          go_upto_region 26 with (fail)
          refine wp_region_noPanic ?_
          refine wp_region_held_drew (S := Ch nob wr) (by kernel_rfl) ((Ch.refl _ _).drew) (fun hHeld => ?_)
          refine wpAnyH_take (i := 0) (oi := ⟨some 76, _, _, _, _, none⟩) (v := ?_) rfl (by kernel_rfl) (by kernel_rfl) (by kernel_rfl) (fun _ _ _ h => h) (Or.inl ⟨by rfl, ?_⟩) (by assumption) ?_
          rotate_left
          · intro w hSw; go_simp; try with_reducible rfl
          try simp only [Act.put, List.setIfInBounds_toArray, List.set_cons_zero, List.set_cons_succ]
          refine wpAnyH_take (i := 1) (oi := ⟨some 77, _, _, _, _, none⟩) (v := ?_) rfl (by kernel_rfl) (by kernel_rfl) (by kernel_rfl) (fun _ _ _ h => h) (Or.inl ⟨by rfl, ?_⟩) (by assumption) ?_
          rotate_left
          · intro w hSw; have hcw := HK0.out w hSw; go_simp; try with_reducible rfl
          try simp only [Act.put, List.setIfInBounds_toArray, List.set_cons_zero, List.set_cons_succ]
          refine wpAnyH_take (i := 2) (oi := ⟨some 78, _, _, _, _, none⟩) (v := ?_) rfl (by kernel_rfl) (by kernel_rfl) (by kernel_rfl) (fun _ _ _ h => h) (Or.inl ⟨by rfl, ?_⟩) (by assumption) ?_
          rotate_left
          · intro w hSw; go_simp; try with_reducible rfl
          try simp only [Act.put, List.setIfInBounds_toArray, List.set_cons_zero, List.set_cons_succ]
          refine wpAnyH_take (i := 3) (oi := ⟨some 79, _, _, _, _, none⟩) (v := ?_) rfl (by kernel_rfl) (by kernel_rfl) (by kernel_rfl) (fun _ _ _ h => h) (Or.inl ⟨by rfl, ?_⟩) (by assumption) ?_
          rotate_left
          · intro w hSw; go_simp; try with_reducible rfl
          try simp only [Act.put, List.setIfInBounds_toArray, List.set_cons_zero, List.set_cons_succ]
          refine wpAnyH_take (i := 4) (oi := ⟨some 80, _, _, _, _, some (3, false)⟩) (v := ?_) rfl (by kernel_rfl) (by kernel_rfl) (by kernel_rfl) (fun _ _ _ h => h) (Or.inl ⟨by rfl, ?_⟩) (by assumption) ?_
          rotate_left
          · intro w hSw; go_simp; try with_reducible rfl
          try simp only [Act.put, List.setIfInBounds_toArray, List.set_cons_zero, List.set_cons_succ]
          refine wpAnyH_take (i := 5) (oi := ⟨some 81, _, _, _, _, some (3, false)⟩) (v := ?_) rfl (by kernel_rfl) (by kernel_rfl) (by kernel_rfl) (fun _ _ _ h => h) (Or.inl ⟨by rfl, ?_⟩) (by assumption) ?_
          rotate_left
          · intro w hSw; go_simp; try with_reducible rfl
          try simp only [Act.put, List.setIfInBounds_toArray, List.set_cons_zero, List.set_cons_succ]
          refine wpAnyH_take (i := 6) (oi := ⟨some 82, _, _, _, _, some (3, false)⟩) (v := _) rfl (by kernel_rfl) (by kernel_rfl) (by kernel_rfl) (fun _ _ _ h => h) (yi_ixa (by rfl) 40 (.tmp 80) (.tmp 81) (by rfl) (by rfl) (i := i) (by rfl) Try.underlying40 hlt sizeFl) (by assumption) ?_
          try simp only [Act.put, List.setIfInBounds_toArray, List.set_cons_zero, List.set_cons_succ]
          refine wpAnyH_take (i := 7) (oi := ⟨some 83, _, _, _, _, some (3, false)⟩) (v := ?_) rfl (by kernel_rfl) (by kernel_rfl) (by kernel_rfl) (fun _ _ _ h => h) (Or.inl ⟨by rfl, ?_⟩) (by assumption) ?_
          rotate_left
          · intro w hSw; go_simp; try with_reducible rfl
          try simp only [Act.put, List.setIfInBounds_toArray, List.set_cons_zero, List.set_cons_succ]
          refine wpAnyH_take (i := 8) (oi := ⟨some 84, _, _, _, _, some (3, false)⟩) (v := ?_) rfl (by kernel_rfl) (by kernel_rfl) (by kernel_rfl) (fun _ _ _ h => h) (Or.inl ⟨by rfl, ?_⟩) (by assumption) ?_
          rotate_left
          · intro w hSw; have hcw := HE.out w hSw; go_simp; try with_reducible rfl
          try simp only [Act.put, List.setIfInBounds_toArray, List.set_cons_zero, List.set_cons_succ]
          refine wpAnyH_take (i := 9) (oi := ⟨some 85, _, _, _, _, some (3, false)⟩) (v := ?_) rfl (by kernel_rfl) (by kernel_rfl) (by kernel_rfl) (fun _ _ _ h => h) (Or.inl ⟨by rfl, ?_⟩) (by assumption) ?_
          rotate_left
          · intro w hSw; go_simp; try with_reducible rfl
          try simp only [Act.put, List.setIfInBounds_toArray, List.set_cons_zero, List.set_cons_succ]
          refine wpAnyH_take (i := 10) (oi := ⟨some 86, _, _, _, _, some (3, false)⟩) (v := ?_) rfl (by kernel_rfl) (by kernel_rfl) (by kernel_rfl) (fun _ _ _ h => h) (Or.inl ⟨by rfl, ?_⟩) (by assumption) ?_
          rotate_left
          · intro w hSw; have hcw := HK1.out w hSw; go_simp; try with_reducible rfl
          try simp only [Act.put, List.setIfInBounds_toArray, List.set_cons_zero, List.set_cons_succ]
          refine wpAnyH_take (i := 11) (oi := ⟨some 87, _, _, _, _, some (3, false)⟩) (v := ?_) rfl (by kernel_rfl) (by kernel_rfl) (by kernel_rfl) (fun _ _ _ h => h) (Or.inl ⟨by rfl, ?_⟩) (by assumption) ?_
          rotate_left
          · intro w hSw; go_simp; try with_reducible rfl
          try simp only [Act.put, List.setIfInBounds_toArray, List.set_cons_zero, List.set_cons_succ]
          refine wpAnyH_take (i := 12) (oi := ⟨some 88, _, _, _, _, none⟩) (v := ?_) rfl (by kernel_rfl) (by kernel_rfl) (by kernel_rfl) (fun _ _ _ h => h) (Or.inl ⟨by rfl, ?_⟩) (by assumption) ?_
          rotate_left
          · intro w hSw; go_simp; try with_reducible rfl
          try simp only [Act.put, List.setIfInBounds_toArray, List.set_cons_zero, List.set_cons_succ]
          refine wpAnyH_done (by kernel_rfl) ?_ _
          refine NoPanic.normal ?_
          have hBd := hB.drew
          clear HE HE1 HK0 HK1
          go_wp2
          go_roundw
          case rel => exact ⟨i + 1, by omega, by rw [Hsn.out]; go_num, by go_num, hBd⟩
          case measure => simp [intOf]; omega
        · rw [if_pos (.inr hq)] at hsn2
          have Hsn := hid hsn2
          have hb : (f.n.toList == a.n.toList) = false := (Go.Lib.bytes_beq_false_iff _ _).2 hq
          clear hsn2 hk0 hq
          go_upto_region 26 with (fail)
          refine wp_region_noPanic ?_
          refine wp_region_held_drew (S := Ch nob wr) (by kernel_rfl) ((Ch.refl _ _).drew) (fun hHeld => ?_)
          refine wpAnyH_take (i := 0) (oi := ⟨some 76, _, _, _, _, none⟩) (v := ?_) rfl (by kernel_rfl) (by kernel_rfl) (by kernel_rfl) (fun _ _ _ h => h) (Or.inl ⟨by rfl, ?_⟩) (by assumption) ?_
          rotate_left
          · intro w hSw; go_simp; try with_reducible rfl
          try simp only [Act.put, List.setIfInBounds_toArray, List.set_cons_zero, List.set_cons_succ]
          refine wpAnyH_take (i := 1) (oi := ⟨some 77, _, _, _, _, none⟩) (v := ?_) rfl (by kernel_rfl) (by kernel_rfl) (by kernel_rfl) (fun _ _ _ h => h) (Or.inl ⟨by rfl, ?_⟩) (by assumption) ?_
          rotate_left
          · intro w hSw; have hcw := HK0.out w hSw; go_simp; try with_reducible rfl
          try simp only [Act.put, List.setIfInBounds_toArray, List.set_cons_zero, List.set_cons_succ]
          refine wpAnyH_take (i := 2) (oi := ⟨some 78, _, _, _, _, none⟩) (v := ?_) rfl (by kernel_rfl) (by kernel_rfl) (by kernel_rfl) (fun _ _ _ h => h) (Or.inl ⟨by rfl, ?_⟩) (by assumption) ?_
          rotate_left
          · intro w hSw; go_simp; try with_reducible rfl
          try simp only [Act.put, List.setIfInBounds_toArray, List.set_cons_zero, List.set_cons_succ]
          refine wpAnyH_take (i := 3) (oi := ⟨some 79, _, _, _, _, none⟩) (v := ?_) rfl (by kernel_rfl) (by kernel_rfl) (by kernel_rfl) (fun _ _ _ h => h) (Or.inl ⟨by rfl, ?_⟩) (by assumption) ?_
          rotate_left
          · intro w hSw; go_simp; try with_reducible rfl
          try simp only [Act.put, List.setIfInBounds_toArray, List.set_cons_zero, List.set_cons_succ]
          refine wpAnyH_take (i := 4) (oi := ⟨some 80, _, _, _, _, some (3, false)⟩) (v := ?_) rfl (by kernel_rfl) (by kernel_rfl) (by kernel_rfl) (fun _ _ _ h => h) (Or.inl ⟨by rfl, ?_⟩) (by assumption) ?_
          rotate_left
          · intro w hSw; go_simp; try with_reducible rfl
          try simp only [Act.put, List.setIfInBounds_toArray, List.set_cons_zero, List.set_cons_succ]
          refine wpAnyH_take (i := 5) (oi := ⟨some 81, _, _, _, _, some (3, false)⟩) (v := ?_) rfl (by kernel_rfl) (by kernel_rfl) (by kernel_rfl) (fun _ _ _ h => h) (Or.inl ⟨by rfl, ?_⟩) (by assumption) ?_
          rotate_left
          · intro w hSw; go_simp; try with_reducible rfl
          try simp only [Act.put, List.setIfInBounds_toArray, List.set_cons_zero, List.set_cons_succ]
          refine wpAnyH_take (i := 6) (oi := ⟨some 82, _, _, _, _, some (3, false)⟩) (v := _) rfl (by kernel_rfl) (by kernel_rfl) (by kernel_rfl) (fun _ _ _ h => h) (yi_ixa (by rfl) 40 (.tmp 80) (.tmp 81) (by rfl) (by rfl) (i := i) (by rfl) Try.underlying40 hlt sizeFl) (by assumption) ?_
          try simp only [Act.put, List.setIfInBounds_toArray, List.set_cons_zero, List.set_cons_succ]
          refine wpAnyH_take (i := 7) (oi := ⟨some 83, _, _, _, _, some (3, false)⟩) (v := ?_) rfl (by kernel_rfl) (by kernel_rfl) (by kernel_rfl) (fun _ _ _ h => h) (Or.inl ⟨by rfl, ?_⟩) (by assumption) ?_
          rotate_left
          · intro w hSw; go_simp; try with_reducible rfl
          try simp only [Act.put, List.setIfInBounds_toArray, List.set_cons_zero, List.set_cons_succ]
          refine wpAnyH_take (i := 8) (oi := ⟨some 84, _, _, _, _, some (3, false)⟩) (v := ?_) rfl (by kernel_rfl) (by kernel_rfl) (by kernel_rfl) (fun _ _ _ h => h) (Or.inl ⟨by rfl, ?_⟩) (by assumption) ?_
          rotate_left
          · intro w hSw; have hcw := HE.out w hSw; go_simp; try with_reducible rfl
          try simp only [Act.put, List.setIfInBounds_toArray, List.set_cons_zero, List.set_cons_succ]
          refine wpAnyH_take (i := 9) (oi := ⟨some 85, _, _, _, _, some (3, false)⟩) (v := ?_) rfl (by kernel_rfl) (by kernel_rfl) (by kernel_rfl) (fun _ _ _ h => h) (Or.inl ⟨by rfl, ?_⟩) (by assumption) ?_
          rotate_left
          · intro w hSw; go_simp; try with_reducible rfl
          try simp only [Act.put, List.setIfInBounds_toArray, List.set_cons_zero, List.set_cons_succ]
          refine wpAnyH_take (i := 10) (oi := ⟨some 86, _, _, _, _, some (3, false)⟩) (v := ?_) rfl (by kernel_rfl) (by kernel_rfl) (by kernel_rfl) (fun _ _ _ h => h) (Or.inl ⟨by rfl, ?_⟩) (by assumption) ?_
          rotate_left
          · intro w hSw; have hcw := HK1.out w hSw; go_simp; try with_reducible rfl
          try simp only [Act.put, List.setIfInBounds_toArray, List.set_cons_zero, List.set_cons_succ]
          refine wpAnyH_take (i := 11) (oi := ⟨some 87, _, _, _, _, some (3, false)⟩) (v := ?_) rfl (by kernel_rfl) (by kernel_rfl) (by kernel_rfl) (fun _ _ _ h => h) (Or.inl ⟨by rfl, ?_⟩) (by assumption) ?_
          rotate_left
          · intro w hSw; go_simp; try with_reducible rfl
          try simp only [Act.put, List.setIfInBounds_toArray, List.set_cons_zero, List.set_cons_succ]
          refine wpAnyH_take (i := 12) (oi := ⟨some 88, _, _, _, _, none⟩) (v := ?_) rfl (by kernel_rfl) (by kernel_rfl) (by kernel_rfl) (fun _ _ _ h => h) (Or.inl ⟨by rfl, ?_⟩) (by assumption) ?_
          rotate_left
          · intro w hSw; go_simp; try with_reducible rfl
          try simp only [Act.put, List.setIfInBounds_toArray, List.set_cons_zero, List.set_cons_succ]
          refine wpAnyH_done (by kernel_rfl) ?_ _
          refine NoPanic.normal ?_
          have hBd := hB.drew
          have c1' := HE1.out _ (Ch.refl nob wr).drew
          clear HE HE1 HK0 HK1
          go_wp2_with (first | refine wp_ixa 40 (.tmp 90) (.tmp 91) rfl rfl rfl rfl Try.underlying40 hlt sizeFl ?_)
          go_roundw
          case rel => exact ⟨i + 1, by omega, by rw [Hsn.out]; go_num, by go_num, hBd⟩
          case measure => simp [intOf]; omega
    · have hi' : i = L.length := by omega
      subst hi'
      have hI : ¬ (L.length : Int) < (L.length : Int) := by omega
      rw [List.take_length] at hst ⊢
      obtain ⟨s, hs0⟩ : ∃ s, s = szA a L := ⟨_, rfl⟩
      have Hs0 : Hid (szA a (nowF d) = s) := by show _ = _; rw [← HL.out, hs0]
      rw [← hs0] at hst ⊢
      clear hs0 HK0 HK1
      have hX2 := hX2.below hB
      have hab2 := hab
      have hva2 := hva2.below hB
      have hBB := hBB.trans (hB.mono hBB.size)
      have hX3 := hX2
      obtain ⟨vs0, vp0, xs0, hb0, _, _, _, _, _⟩ := hX3
      have c0 := hb0.cellAt 0 _ rfl
      clear hb0 hl hl2
      by_cases hfl : d.room < (s : Int)
      · have Hre : Hid (sizeR d a = (d, 4)) := by show _ = _; unfold sizeR; rw [Hs0.out, if_pos hfl]
        go_wp2
        go_ret
        exact ⟨r, by rw [Hre.out]; rfl, by rw [Hre.out]; exact hX2, (Ch.refl _ _).belowR hBB, fun b h => .inl h⟩
      · have Hre : Hid (sizeR d a = pushF d a) := by show _ = _; unfold sizeR; rw [Hs0.out, if_neg hfl]
        go_wp2_with (fail)
        refine (burn_any p r N d _ hX2 hs.f).mono ?_
        rintro e w3 ⟨rfl, hX3, hC3⟩
        obtain ⟨B, hBu⟩ : ∃ B, B = burnF d := ⟨_, rfl⟩
        have hpu : pushF d a = if B.2 = true then ({ B.1 with pend := d.pend ++ [a] }, 0) else (B.1, 14) := by rw [hBu]; rfl
        rw [← hBu] at hX3 ⊢
        have hBp : B.1.pend = d.pend := by rw [hBu]; rfl
        have Hpu := hid hpu
        clear hBu hpu
        have hC := ((Ch.refl (dkG p r) w).belowR hBB).trans (hC3.weaken (fun k _ h => .inl h))
        by_cases hbn : B.2 = true
        · have Hpu2 : Hid (sizeR d a = ({ B.1 with pend := d.pend ++ [a] }, 0)) := by show _ = _; rw [Hre.out, Hpu.out, if_pos hbn]
          rw [hbn]
          have hab3 := hab2.keep (hC3.block _ hab2.lt (fun h => hgbp h))
          have hva3 := hva2.keep (F' := dkF p r N) (fun b hb hF => ⟨hF, hC3.block b hb (fun h => hF.1 h)⟩)
          obtain ⟨vs, vp, xs, hb, hvs, ho, hx, hr, hrp⟩ := hX3
          rw [hBp] at ho hx
          obtain ⟨Ap, cp, rfl⟩ := own_shape8 ho
          have hb : Blk w3 p 42 (B.1.l vs (.slice Ap d.pend.length cp)) := hb
          clear Hpu hBp hbn hC3 hX2 hab2 hva2
          go_upto_region 35 with (fail)
          obtain ⟨wd, hwd⟩ : ∃ x, x = w3.drew := ⟨_, rfl⟩
          replace hb := hb.drew
          replace hvs := hvs.drew
          replace ho := own_drew10 ho
          replace hx := WdX.drew hx
          replace hab3 := hab3.drew
          replace hva3 := hva3.drew
          replace hC := hC.drew
          rw [← hwd] at hb hvs ho hx hab3 hva3 hC
          have hsd := hC.size
          have hsn := hs.n
          have hpd := hb.lt
          have d2 := hb.cellAt 2 _ rfl
          have d2' := (hb.below ((Below.refl _ _).alloc (Nat.le_refl _) (.cells (a.l (.slice Aa a.b.length ca)).toArray 34))).cellAt 2 _ rfl
          have hrg5 := hab3.whole
          refine wp_region_noPanic ?_
          refine wp_region_any (by kernel_rfl) ?_
          change wpAny _ _ _ _ _ _ _ (World.drew _)
          rw [← hwd]
          clear hwd
          refine wpAny_take (i := 0) (oi := ⟨some 115, _, _, _, _, none⟩) (v := ?_) rfl (by kernel_rfl) (by kernel_rfl) (by kernel_rfl) (fun _ _ _ h => h) (Or.inl ⟨by rfl, ?_⟩) ?_
          rotate_left
          · intro w; go_simp; try with_reducible rfl
          try simp only [Act.put, List.setIfInBounds_toArray, List.set_cons_zero, List.set_cons_succ]
          refine wpAny_take (i := 1) (oi := ⟨some 116, _, _, _, _, none⟩) (v := ?_) rfl (by kernel_rfl) (by kernel_rfl) (by kernel_rfl) (fun _ _ _ h => h) (Or.inl ⟨by rfl, ?_⟩) ?_
          rotate_left
          · intro w; go_simp; try with_reducible rfl
          try simp only [Act.put, List.setIfInBounds_toArray, List.set_cons_zero, List.set_cons_succ]
          refine wpAny_take (i := 2) (oi := ⟨some 117, _, _, _, _, none⟩) (v := ?_) rfl (by kernel_rfl) (by kernel_rfl) (by kernel_rfl) (fun _ _ _ h => h) (Or.inl ⟨by rfl, ?_⟩) ?_
          rotate_left
          · intro w; go_simp; try with_reducible rfl
          try simp only [Act.put, List.setIfInBounds_toArray, List.set_cons_zero, List.set_cons_succ]
          refine wpAny_take (i := 3) (oi := ⟨some 118, _, _, _, _, none⟩) (v := ?_) rfl (by kernel_rfl) (by kernel_rfl) (by kernel_rfl) (fun _ _ _ h => h) (Or.inl ⟨by rfl, ?_⟩) ?_
          rotate_left
          · intro w; go_simp; try with_reducible rfl
          try simp only [Act.put, List.setIfInBounds_toArray, List.set_cons_zero, List.set_cons_succ]
          refine wpAny_ready (rs := [4, 5]) (by kernel_rfl) (by simp) ?_
          refine AllReady.cons (o := ⟨some 119, .load 22 (.tmp 118), _, _, _, none⟩) rfl (fun K hK => ?_) ?_
          · refine step_ld1 22 (.tmp 118) (by rfl) (by rfl) (by rfl) d2 Try.isAgg22 ?_
            refine hK _ _ ?_
            clear hK K
            try simp only [Act.put, List.setIfInBounds_toArray, List.set_cons_zero, List.set_cons_succ]
            refine wpAny_ready (rs := [5]) (by kernel_rfl) (by simp) ?_
            refine AllReady.cons (o := ⟨some 120, .load 34 (.tmp 3), _, _, _, none⟩) rfl (fun K hK => ?_) AllReady.nil
            refine step_ld 34 (.tmp 3) (by rfl) (by rfl) (by rfl) hrg5 Try.underlying34 rfl sizeAc ?_
            refine hK _ _ ?_
            clear hK K
            try simp only [Act.put, List.setIfInBounds_toArray, List.set_cons_zero, List.set_cons_succ]
            refine wpAny_ready (rs := [6]) (by kernel_rfl) (by simp) ?_
            refine AllReady.cons (o := ⟨some 121, .buildSlice _ _ _, _, _, _, none⟩) rfl (fun K hK => ?_) AllReady.nil
            refine step_bsW (.tmp 120) slAc (by rfl) (by rfl) (us := a.l (.slice Aa a.b.length ca)) (by rfl) rfl ?_
            refine hK _ _ ?_
            clear hK K
            try simp only [Act.put, List.setIfInBounds_toArray, List.set_cons_zero, List.set_cons_succ]
            refine wpAny_ready (rs := [7]) (by kernel_rfl) (by simp) ?_
            refine AllReady.cons (o := ⟨some 122, _, _, _, _, none⟩) rfl (fun K hK => ?_) AllReady.nil
            refine step_appW5 (.tmp 119) (.tmp 121) slAc (by rfl) (by rfl) (us := a.l (.slice Aa a.b.length ca)) rfl (one_ac a _ _ _) (base := 0) (by rfl) ho (by rfl) (by simp only [maxLen]; omega) (by omega) (Nat.zero_le _) ?_
            intro v6 w6 ho6 hG6 hd6
            obtain ⟨A6, c6, rfl⟩ := own_shape8 ho6
            have b6 := hb.keep (hG6.block _ hb.lt (by rw [hr]; exact fun e => hrp e.symm))
            refine hK _ _ ?_
            clear hK K
            try simp only [Act.put, List.setIfInBounds_toArray, List.set_cons_zero, List.set_cons_succ]
            refine wpAny_take (i := 8) (oi := ⟨some 123, _, _, _, _, none⟩) (v := ?_) rfl (by kernel_rfl) (by kernel_rfl) (by kernel_rfl) (fun _ _ _ h => h) (Or.inl ⟨by rfl, ?_⟩) ?_
            rotate_left
            · intro w; go_simp; try with_reducible rfl
            try simp only [Act.put, List.setIfInBounds_toArray, List.set_cons_zero, List.set_cons_succ]
            refine wpAny_take (i := 9) (oi := ⟨some 124, _, _, _, _, none⟩) (v := ?_) rfl (by kernel_rfl) (by kernel_rfl) (by kernel_rfl) (fun _ _ _ h => h) (Or.inl ⟨by rfl, ?_⟩) ?_
            rotate_left
            · intro w; go_simp; try with_reducible rfl
            try simp only [Act.put, List.setIfInBounds_toArray, List.set_cons_zero, List.set_cons_succ]
            refine wpAny_ready (rs := [10]) (by kernel_rfl) (by simp) ?_
            refine AllReady.cons (o := ⟨none, .store _ _ _, _, _, _, none⟩) rfl (fun K hK => ?_) AllReady.nil
            refine step_st1 22 (.tmp 124) (.tmp 122) (by rfl) (by rfl) (by rfl) (f := 2) (by rfl) (v := .slice A6 (d.pend.length + 1) c6) (by rfl) b6 (by simp [Dk.l]) sizeAl10 rfl rfl ?_
            intro w7 b7 hG7
            refine hK _ _ ?_
            clear hK K
            try simp only [Act.put, List.setIfInBounds_toArray, List.set_cons_zero, List.set_cons_succ]
            refine wpAny_done (by kernel_rfl) ?_ _
            refine NoPanic.normal ?_
            obtain ⟨q, hq⟩ : ∃ q, q = (Value.slice A6 (d.pend.length + 1) c6).ownBlock := ⟨_, rfl⟩
            rw [← hq] at hd6
            have hqp : q ≠ some p := by
              rcases hd6 with h | ⟨g, h, hg⟩
              · rw [h, hr]; exact hrp
              · rw [h]; intro e; injection e with e; omega
            have hkk : ∀ b, b < wd.heap.size → dkF p r N b → dkF p q N b ∧ w7.heap[b]? = wd.heap[b]? := fun b hb2 hF => by
              have h6 := hG6.block b hb2 (by rw [hr]; exact fun e => hF.2.1 e.symm)
              have hs6 := hG6.size
              refine ⟨⟨hF.1, ?_, hF.2.2⟩, (hG7.block b (by omega) (by intro e; injection e with e; exact hF.1 e)).trans h6⟩
              rcases hd6 with h | ⟨g, h, hg⟩
              · rw [h, hr]; exact hF.2.1
              · rw [h]; intro e; injection e with e; omega
            have b7 : Blk w7 p 42 ({ B.1 with pend := d.pend ++ [a] }.l vs (.slice A6 (d.pend.length + 1) c6)) := b7
            have ho7 := own_keep10 ho6 (fun k hk he => hG7.block k hk (by intro e; rw [← hq] at he; exact hqp (he.trans e)))
            have hx7 := (hx.keep (F' := dkF p q N) hkk).snoc (ac_mk (hva3.keep hkk))
            have hX7 : RX w7 p q N { B.1 with pend := d.pend ++ [a] } := ⟨vs, .slice A6 (d.pend.length + 1) c6, _, b7, hvs.keep hkk, by rw [show ({ B.1 with pend := d.pend ++ [a] } : Dk).pend.length = d.pend.length + 1 from by simp]; exact ho7, hx7, hq.symm, hqp⟩
            have hC7 : Ch (dkG p r) w w7 := (hC.grow hG6 (fun k hk => .inl (.inr (by rw [← hk, hr])))).grow hG7 (fun k hk => .inl (.inl (by injection hk with hk; exact hk.symm)))
            have hl7 : ∀ b, q = some b → r = some b ∨ w.heap.size ≤ b := fun b h => by
              rcases hd6 with h2 | ⟨g, h2, hg⟩
              · exact .inl (by rw [← hr, ← h2]; exact h)
              · rw [h2] at h; injection h with h; exact .inr (by omega)
            clear hb hvs ho hx hva3 hab3 b6 b7 ho6 ho7 hx7 hG6 hG7 hkk hd6 hq hC d2 d2' hrg5
            go_wp2
            go_ret
            exact ⟨q, by rw [Hpu2.out]; rfl, by rw [Hpu2.out]; exact hX7, hC7, hl7⟩
          refine AllReady.cons (o := ⟨some 120, .load 34 (.tmp 3), _, _, _, none⟩) rfl (fun K hK => ?_) AllReady.nil
          refine step_ld 34 (.tmp 3) (by rfl) (by rfl) (by rfl) hrg5 Try.underlying34 rfl sizeAc ?_
          refine hK _ _ ?_
          clear hK K
          try simp only [Act.put, List.setIfInBounds_toArray, List.set_cons_zero, List.set_cons_succ]
          refine wpAny_ready (rs := [4, 6]) (by kernel_rfl) (by simp) ?_
          refine AllReady.cons (o := ⟨some 119, .load 22 (.tmp 118), _, _, _, none⟩) rfl (fun K hK => ?_) ?_
          · refine step_ld1 22 (.tmp 118) (by rfl) (by rfl) (by rfl) d2 Try.isAgg22 ?_
            refine hK _ _ ?_
            clear hK K
            try simp only [Act.put, List.setIfInBounds_toArray, List.set_cons_zero, List.set_cons_succ]
            refine wpAny_ready (rs := [6]) (by kernel_rfl) (by simp) ?_
            refine AllReady.cons (o := ⟨some 121, .buildSlice _ _ _, _, _, _, none⟩) rfl (fun K hK => ?_) AllReady.nil
            refine step_bsW (.tmp 120) slAc (by rfl) (by rfl) (us := a.l (.slice Aa a.b.length ca)) (by rfl) rfl ?_
            refine hK _ _ ?_
            clear hK K
            try simp only [Act.put, List.setIfInBounds_toArray, List.set_cons_zero, List.set_cons_succ]
            refine wpAny_ready (rs := [7]) (by kernel_rfl) (by simp) ?_
            refine AllReady.cons (o := ⟨some 122, _, _, _, _, none⟩) rfl (fun K hK => ?_) AllReady.nil
            refine step_appW5 (.tmp 119) (.tmp 121) slAc (by rfl) (by rfl) (us := a.l (.slice Aa a.b.length ca)) rfl (one_ac a _ _ _) (base := 0) (by rfl) ho (by rfl) (by simp only [maxLen]; omega) (by omega) (Nat.zero_le _) ?_
            intro v6 w6 ho6 hG6 hd6
            obtain ⟨A6, c6, rfl⟩ := own_shape8 ho6
            have b6 := hb.keep (hG6.block _ hb.lt (by rw [hr]; exact fun e => hrp e.symm))
            refine hK _ _ ?_
            clear hK K
            try simp only [Act.put, List.setIfInBounds_toArray, List.set_cons_zero, List.set_cons_succ]
            refine wpAny_take (i := 8) (oi := ⟨some 123, _, _, _, _, none⟩) (v := ?_) rfl (by kernel_rfl) (by kernel_rfl) (by kernel_rfl) (fun _ _ _ h => h) (Or.inl ⟨by rfl, ?_⟩) ?_
            rotate_left
            · intro w; go_simp; try with_reducible rfl
            try simp only [Act.put, List.setIfInBounds_toArray, List.set_cons_zero, List.set_cons_succ]
            refine wpAny_take (i := 9) (oi := ⟨some 124, _, _, _, _, none⟩) (v := ?_) rfl (by kernel_rfl) (by kernel_rfl) (by kernel_rfl) (fun _ _ _ h => h) (Or.inl ⟨by rfl, ?_⟩) ?_
            rotate_left
            · intro w; go_simp; try with_reducible rfl
            try simp only [Act.put, List.setIfInBounds_toArray, List.set_cons_zero, List.set_cons_succ]
            refine wpAny_ready (rs := [10]) (by kernel_rfl) (by simp) ?_
            refine AllReady.cons (o := ⟨none, .store _ _ _, _, _, _, none⟩) rfl (fun K hK => ?_) AllReady.nil
            refine step_st1 22 (.tmp 124) (.tmp 122) (by rfl) (by rfl) (by rfl) (f := 2) (by rfl) (v := .slice A6 (d.pend.length + 1) c6) (by rfl) b6 (by simp [Dk.l]) sizeAl10 rfl rfl ?_
            intro w7 b7 hG7
            refine hK _ _ ?_
            clear hK K
            try simp only [Act.put, List.setIfInBounds_toArray, List.set_cons_zero, List.set_cons_succ]
            refine wpAny_done (by kernel_rfl) ?_ _
            refine NoPanic.normal ?_
            obtain ⟨q, hq⟩ : ∃ q, q = (Value.slice A6 (d.pend.length + 1) c6).ownBlock := ⟨_, rfl⟩
            rw [← hq] at hd6
            have hqp : q ≠ some p := by
              rcases hd6 with h | ⟨g, h, hg⟩
              · rw [h, hr]; exact hrp
              · rw [h]; intro e; injection e with e; omega
            have hkk : ∀ b, b < wd.heap.size → dkF p r N b → dkF p q N b ∧ w7.heap[b]? = wd.heap[b]? := fun b hb2 hF => by
              have h6 := hG6.block b hb2 (by rw [hr]; exact fun e => hF.2.1 e.symm)
              have hs6 := hG6.size
              refine ⟨⟨hF.1, ?_, hF.2.2⟩, (hG7.block b (by omega) (by intro e; injection e with e; exact hF.1 e)).trans h6⟩
              rcases hd6 with h | ⟨g, h, hg⟩
              · rw [h, hr]; exact hF.2.1
              · rw [h]; intro e; injection e with e; omega
            have b7 : Blk w7 p 42 ({ B.1 with pend := d.pend ++ [a] }.l vs (.slice A6 (d.pend.length + 1) c6)) := b7
            have ho7 := own_keep10 ho6 (fun k hk he => hG7.block k hk (by intro e; rw [← hq] at he; exact hqp (he.trans e)))
            have hx7 := (hx.keep (F' := dkF p q N) hkk).snoc (ac_mk (hva3.keep hkk))
            have hX7 : RX w7 p q N { B.1 with pend := d.pend ++ [a] } := ⟨vs, .slice A6 (d.pend.length + 1) c6, _, b7, hvs.keep hkk, by rw [show ({ B.1 with pend := d.pend ++ [a] } : Dk).pend.length = d.pend.length + 1 from by simp]; exact ho7, hx7, hq.symm, hqp⟩
            have hC7 : Ch (dkG p r) w w7 := (hC.grow hG6 (fun k hk => .inl (.inr (by rw [← hk, hr])))).grow hG7 (fun k hk => .inl (.inl (by injection hk with hk; exact hk.symm)))
            have hl7 : ∀ b, q = some b → r = some b ∨ w.heap.size ≤ b := fun b h => by
              rcases hd6 with h2 | ⟨g, h2, hg⟩
              · exact .inl (by rw [← hr, ← h2]; exact h)
              · rw [h2] at h; injection h with h; exact .inr (by omega)
            clear hb hvs ho hx hva3 hab3 b6 b7 ho6 ho7 hx7 hG6 hG7 hkk hd6 hq hC d2 d2' hrg5
            go_wp2
            go_ret
            exact ⟨q, by rw [Hpu2.out]; rfl, by rw [Hpu2.out]; exact hX7, hC7, hl7⟩
          refine AllReady.cons (o := ⟨some 121, .buildSlice _ _ _, _, _, _, none⟩) rfl (fun K hK => ?_) AllReady.nil
          refine step_bsW (.tmp 120) slAc (by rfl) (by rfl) (us := a.l (.slice Aa a.b.length ca)) (by rfl) rfl ?_
          refine hK _ _ ?_
          clear hK K
          try simp only [Act.put, List.setIfInBounds_toArray, List.set_cons_zero, List.set_cons_succ]
          refine wpAny_ready (rs := [4]) (by kernel_rfl) (by simp) ?_
          refine AllReady.cons (o := ⟨some 119, .load 22 (.tmp 118), _, _, _, none⟩) rfl (fun K hK => ?_) AllReady.nil
          refine step_ld1 22 (.tmp 118) (by rfl) (by rfl) (by rfl) d2' Try.isAgg22 ?_
          refine hK _ _ ?_
          clear hK K
          try simp only [Act.put, List.setIfInBounds_toArray, List.set_cons_zero, List.set_cons_succ]
          refine wpAny_ready (rs := [7]) (by kernel_rfl) (by simp) ?_
          refine AllReady.cons (o := ⟨some 122, _, _, _, _, none⟩) rfl (fun K hK => ?_) AllReady.nil
          refine step_appW5 (.tmp 119) (.tmp 121) slAc (by rfl) (by rfl) (us := a.l (.slice Aa a.b.length ca)) rfl (one_ac a _ _ _) (base := 0) (by rfl) ho (by rfl) (by simp only [maxLen]; omega) (by omega) (Nat.zero_le _) ?_
          intro v6 w6 ho6 hG6 hd6
          obtain ⟨A6, c6, rfl⟩ := own_shape8 ho6
          have b6 := hb.keep (hG6.block _ hb.lt (by rw [hr]; exact fun e => hrp e.symm))
          refine hK _ _ ?_
          clear hK K
          try simp only [Act.put, List.setIfInBounds_toArray, List.set_cons_zero, List.set_cons_succ]
          refine wpAny_take (i := 8) (oi := ⟨some 123, _, _, _, _, none⟩) (v := ?_) rfl (by kernel_rfl) (by kernel_rfl) (by kernel_rfl) (fun _ _ _ h => h) (Or.inl ⟨by rfl, ?_⟩) ?_
          rotate_left
          · intro w; go_simp; try with_reducible rfl
          try simp only [Act.put, List.setIfInBounds_toArray, List.set_cons_zero, List.set_cons_succ]
          refine wpAny_take (i := 9) (oi := ⟨some 124, _, _, _, _, none⟩) (v := ?_) rfl (by kernel_rfl) (by kernel_rfl) (by kernel_rfl) (fun _ _ _ h => h) (Or.inl ⟨by rfl, ?_⟩) ?_
          rotate_left
          · intro w; go_simp; try with_reducible rfl
          try simp only [Act.put, List.setIfInBounds_toArray, List.set_cons_zero, List.set_cons_succ]
          refine wpAny_ready (rs := [10]) (by kernel_rfl) (by simp) ?_
          refine AllReady.cons (o := ⟨none, .store _ _ _, _, _, _, none⟩) rfl (fun K hK => ?_) AllReady.nil
          refine step_st1 22 (.tmp 124) (.tmp 122) (by rfl) (by rfl) (by rfl) (f := 2) (by rfl) (v := .slice A6 (d.pend.length + 1) c6) (by rfl) b6 (by simp [Dk.l]) sizeAl10 rfl rfl ?_
          intro w7 b7 hG7
          refine hK _ _ ?_
          clear hK K
          try simp only [Act.put, List.setIfInBounds_toArray, List.set_cons_zero, List.set_cons_succ]
          refine wpAny_done (by kernel_rfl) ?_ _
          refine NoPanic.normal ?_
          obtain ⟨q, hq⟩ : ∃ q, q = (Value.slice A6 (d.pend.length + 1) c6).ownBlock := ⟨_, rfl⟩
          rw [← hq] at hd6
          have hqp : q ≠ some p := by
            rcases hd6 with h | ⟨g, h, hg⟩
            · rw [h, hr]; exact hrp
            · rw [h]; intro e; injection e with e; omega
          have hkk : ∀ b, b < wd.heap.size → dkF p r N b → dkF p q N b ∧ w7.heap[b]? = wd.heap[b]? := fun b hb2 hF => by
            have h6 := hG6.block b hb2 (by rw [hr]; exact fun e => hF.2.1 e.symm)
            have hs6 := hG6.size
            refine ⟨⟨hF.1, ?_, hF.2.2⟩, (hG7.block b (by omega) (by intro e; injection e with e; exact hF.1 e)).trans h6⟩
            rcases hd6 with h | ⟨g, h, hg⟩
            · rw [h, hr]; exact hF.2.1
            · rw [h]; intro e; injection e with e; omega
          have b7 : Blk w7 p 42 ({ B.1 with pend := d.pend ++ [a] }.l vs (.slice A6 (d.pend.length + 1) c6)) := b7
          have ho7 := own_keep10 ho6 (fun k hk he => hG7.block k hk (by intro e; rw [← hq] at he; exact hqp (he.trans e)))
          have hx7 := (hx.keep (F' := dkF p q N) hkk).snoc (ac_mk (hva3.keep hkk))
          have hX7 : RX w7 p q N { B.1 with pend := d.pend ++ [a] } := ⟨vs, .slice A6 (d.pend.length + 1) c6, _, b7, hvs.keep hkk, by rw [show ({ B.1 with pend := d.pend ++ [a] } : Dk).pend.length = d.pend.length + 1 from by simp]; exact ho7, hx7, hq.symm, hqp⟩
          have hC7 : Ch (dkG p r) w w7 := (hC.grow hG6 (fun k hk => .inl (.inr (by rw [← hk, hr])))).grow hG7 (fun k hk => .inl (.inl (by injection hk with hk; exact hk.symm)))
          have hl7 : ∀ b, q = some b → r = some b ∨ w.heap.size ≤ b := fun b h => by
            rcases hd6 with h2 | ⟨g, h2, hg⟩
            · exact .inl (by rw [← hr, ← h2]; exact h)
            · rw [h2] at h; injection h with h; exact .inr (by omega)
          clear hb hvs ho hx hva3 hab3 b6 b7 ho6 ho7 hx7 hG6 hG7 hkk hd6 hq hC d2 d2' hrg5
          go_wp2
          go_ret
          exact ⟨q, by rw [Hpu2.out]; rfl, by rw [Hpu2.out]; exact hX7, hC7, hl7⟩
        · have hbn' : B.2 = false := by simpa using hbn
          have Hpu2 : Hid (sizeR d a = (B.1, 14)) := by show _ = _; rw [Hre.out, Hpu.out, if_neg hbn]
          rw [hbn']
          clear hab2 hva2 hX2 hC3 Hpu hBp
          go_wp2
          go_ret
          exact ⟨r, by rw [Hpu2.out]; rfl, by rw [Hpu2.out]; exact hX3, hC, fun b h => .inl h⟩
end Go.Proofs.Ytjaiffefgjopmaa
