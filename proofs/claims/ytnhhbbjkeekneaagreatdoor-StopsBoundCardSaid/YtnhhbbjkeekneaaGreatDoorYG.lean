/- YG: several texts in one. -/
import Derived.Test.YtnhhbbjkeekneaaGreatDoorM1
import Derived.Test.YtnhhbbjkeekneaaGreatDoorYC
import Derived.Defers
import Derived.Recover
import Derived.Laws.Pointers
/- YG: layer 8: contracts of wire: must, whole. -/
namespace Go.V
open Go.RowKit
theorem set_next {l Z : List Value} {n : Nat} (hl : l.length = n) (hn : n < Z.length) (v : Value) : (l ++ Z.drop n).set n v = (l ++ [v]) ++ Z.drop (n + 1) := by
  subst hl
  rw [List.set_append_right _ _ (Nat.le_refl _), Nat.sub_self, List.drop_eq_getElem_cons hn, List.set_cons_zero, List.append_assoc]
  rfl
theorem set37 {m : Mg} (hh : m.h.length = 32) (u v w : Value) : (m.l u v).set 37 w = m.l w v := by
  have : (bvs m.h ++ [u, v]).set 32 w = bvs m.h ++ [w, v] := by
    rw [List.set_append_right _ _ (by simp [bvs, hh])]; simp [bvs, hh]
  simpa [Mg.l] using this
theorem set38 {m : Mg} (hh : m.h.length = 32) (u v w : Value) : (m.l u v).set 38 w = m.l u w := by
  have : (bvs m.h ++ [u, v]).set 33 w = bvs m.h ++ [u, w] := by
    rw [List.set_append_right _ _ (by simp [bvs, hh])]; simp [bvs, hh]
  simpa [Mg.l] using this
theorem run_mkG {P : Program} {t e : TypeId} {z : Value} {by_ : Nat} (ht : SlT P t e z by_) (hz : z.cells = #[z]) (n : Nat) (hb : by_ * n ≤ 281474976710656) (hm : n ≤ maxLen) (W : World) :
    (Instr.makeSlice t (.int .i64 (n : Int)) (.int .i64 (n : Int))).run P W = .ok (.slice (some ⟨W.heap.size, 0, none⟩) n n) (W.alloc (.cells (List.replicate n z).toArray e)) := by
  obtain ⟨i, hi, hzz, hsz, hby⟩ := ht.inf
  have h63 : (n : Int) ≤ 9223372036854775807 := by simp [maxLen] at hm; omega
  have hb' : (i.bytes : Int) * (n : Int) ≤ 281474976710656 := by
    have : ((i.bytes * n : Nat) : Int) ≤ 281474976710656 := by rw [hby]; omega
    rwa [Int.natCast_mul] at this
  have hr := run_make (P := P) W t e i z ht.sl hi hzz .i64 .i64 n n (by omega) (Int.le_refl _) hb' h63
  rw [hr]
  simp only [Int.toNat_natCast, hsz, Nat.mul_one, hz]
  congr 3
  apply Array.ext
  · simp [madeCells]
  · intro j h1 h2
    simp [madeCells, Nat.mod_one]
theorem wp_mkG {P : Program} {w : World} {ops : Array Oper} {rest : List Oper} {o : Oper} {a : Act} {Q : Exit → Act → World → Prop} {t e : TypeId} {z : Value} {by_ : Nat} (ht : SlT P t e z by_) (hz : z.cells = #[z]) (x y : Operand) (hgd : o.guard = none) (ho : o.op = .makeSlice t x y) (n : Nat)
    (hx : a.eval x = .int .i64 (n : Int)) (hy : a.eval y = .int .i64 (n : Int)) (hb : by_ * n ≤ 281474976710656) (hm : n ≤ maxLen)
    (h : ∀ w', Blk w' w.heap.size e (List.replicate n z) → Below w.heap.size w w' → wpList P ops Q rest (a.put o.dst (.slice (some ⟨w.heap.size, 0, none⟩) n n)) w') : wpList P ops Q (o :: rest) a w := by
  refine wpList_plain hgd fun K hK => ?_
  unfold Oper.wp execOp
  simp only [ho, hx, hy, Sem.run_bind, Sem.run_pure, run_mkG ht hz n hb hm, Result.andThen_ok]
  exact hK _ _ (h _ (Blk.new' w e _) ((Below.refl _ _).alloc (Nat.le_refl _) _))
theorem tx_blk {w : World} {F : Nat → Prop} {g c : Nat} {t : TypeId} {us : List Value} {ts : List (List UInt8)} (hb : Blk w g t us) (hF : F g) (hx : TxX w F ts us) (hc : ts.length = c) (hm : c ≤ maxLen) : Rd w F (.slice (some ⟨g, 0, none⟩) c c) (tx ts) := by
  subst hc
  unfold tx Rd
  refine ⟨_, ts.length, rfl, Nat.le_refl _, hm, fun h => by rw [List.eq_nil_of_length_eq_zero h]; rfl, fun _ => ⟨g, 0, rfl, hF, RdC.mk (us := us) hb (by rw [List.length_map, hx.len]) (fun i u h => by rw [Nat.zero_add]; exact h) (fun i u d hu hd => ?_)⟩⟩
  rw [List.getElem?_map] at hd
  cases ht : ts[i]? with
  | none => rw [ht] at hd; cases hd
  | some x =>
    rw [ht] at hd
    simp at hd
    subst hd
    exact hx.at_ i u x hu ht
end Go.V
namespace Go.Proofs.YtnhhbbjkeekneaaGreatDoor
open Go.RowKit Go.V
def errP (k : Nat) : PanicEntry := { v := .iface 36 (.int .i64 (k : Int)), recovered := false }
theorem mustU_ok (x : Value) (w : World) : Calls Tryz.prog 111 #[x, .int .i64 0] w fun e w' => e = .returned x ∧ w' = w := by
  go_enter Tryz.func111, Tryz.ntmps111
  go_wp2
  go_ret
  exact ⟨rfl, rfl⟩
theorem mustU_err (x : Value) (k : Nat) (hk : k ≠ 0) (w : World) : Calls Tryz.prog 111 #[x, .int .i64 (k : Int)] w fun e w' => e = .panicked [errP k] ∧ w' = w := by
  have hne : ((k : Int) != 0) = true := by rw [bne_iff_ne]; omega
  go_enter Tryz.func111, Tryz.ntmps111
  go_wp2
  exact ⟨rfl, rfl, rfl⟩
theorem mustB_ok (x : Value) (w : World) : Calls Tryz.prog 113 #[x, .int .i64 0] w fun e w' => e = .returned x ∧ w' = w := by
  go_enter Tryz.func113, Tryz.ntmps113
  go_wp2
  go_ret
  exact ⟨rfl, rfl⟩
theorem mustB_err (x : Value) (k : Nat) (hk : k ≠ 0) (w : World) : Calls Tryz.prog 113 #[x, .int .i64 (k : Int)] w fun e w' => e = .panicked [errP k] ∧ w' = w := by
  have hne : ((k : Int) != 0) = true := by rw [bne_iff_ne]; omega
  go_enter Tryz.func113, Tryz.ntmps113
  go_wp2
  exact ⟨rfl, rfl, rfl⟩
theorem mustI_ok (x : Value) (w : World) : Calls Tryz.prog 115 #[x, .int .i64 0] w fun e w' => e = .returned x ∧ w' = w := by
  go_enter Tryz.func115, Tryz.ntmps115
  go_wp2
  go_ret
  exact ⟨rfl, rfl⟩
theorem mustI_err (x : Value) (k : Nat) (hk : k ≠ 0) (w : World) : Calls Tryz.prog 115 #[x, .int .i64 (k : Int)] w fun e w' => e = .panicked [errP k] ∧ w' = w := by
  have hne : ((k : Int) != 0) = true := by rw [bne_iff_ne]; omega
  go_enter Tryz.func115, Tryz.ntmps115
  go_wp2
  exact ⟨rfl, rfl, rfl⟩
theorem fldR_lt : ∀ (ns : List Nat) (_ : ∀ n ∈ ns, okN (n : Int) ∧ n ≤ 2) (k : Nat) (X : List UInt8) (xs : List Nat), fldR ns k X = .ok xs → ∀ x ∈ xs, x < 65536
  | [], _, k, X, xs, h => by
    simp only [fldR, Except.ok.injEq] at h
    subst h
    intro x hx
    cases hx
  | n :: ns, hn, k, X, xs, h => by
    obtain ⟨ho, h2⟩ := hn n (by simp)
    simp only [fldR] at h
    cases h3 : fixRd (n : Int) (X.drop k) with
    | error e => rw [h3] at h; cases h
    | ok y =>
      rw [h3] at h
      dsimp only at h
      cases h4 : fldR ns (k + n) X with
      | error e => rw [h4] at h; cases h
      | ok ys =>
        rw [h4] at h
        dsimp only at h
        injection h with h
        subst h
        intro x hx
        rcases List.mem_cons.1 hx with rfl | hx
        · have := (fixRd_ok ho h3).2.2
          have : 256 ^ n ≤ 65536 := by
            rcases ho with h | h | h | h
            · rw [show n = 1 from by omega]; omega
            · rw [show n = 2 from by omega]; omega
            · omega
            · omega
          omega
        · exact fldR_lt ns (fun m hm => hn m (by simp [hm])) (k + n) X ys h4 x hx
theorem sizeI8 : (Tryz.prog.info? 3).map (·.size) = some 1 := by kernel_rfl
theorem szs8_at (i : Nat) (h : i < 5) : szs8 = szs8.take i ++ fsz i :: szs8.drop (i + 1) ∧ szs8.take (i + 1) = szs8.take i ++ [fsz i] ∧ (szs8.take i).sum = soff i := by
  match i, h with
  | 0, _ => decide
  | 1, _ => decide
  | 2, _ => decide
  | 3, _ => decide
  | 4, _ => decide
theorem szs8_at2 : ∀ j : Fin 32, szs8 = szs8.take (5 + j.val) ++ 1 :: szs8.drop (5 + j.val + 1) ∧ szs8.take (5 + j.val + 1) = szs8.take (5 + j.val) ++ [1] ∧ (szs8.take (5 + j.val)).sum = 8 + j.val := by decide +kernel
theorem rdM_f {X : List UInt8} {e : Nat} (h : fldR szs8 0 X = .error e) : rdM X = .error e := by
  unfold rdM; rw [h]
theorem szs8_all : szs8.take (5 + 32) = szs8 := by decide
theorem szs8_ok : ∀ n ∈ szs8, okN (n : Int) ∧ n ≤ 2 := by
  intro n hn
  unfold szs8 at hn
  simp only [List.cons_append, List.nil_append, List.mem_cons, List.mem_replicate] at hn
  rcases hn with rfl | rfl | rfl | rfl | rfl | ⟨_, rfl⟩
  all_goals exact ⟨by unfold okN; omega, by omega⟩
theorem mkM_in {xs : List Nat} {b : List UInt8} {ps : List (List UInt8)} (h : ∀ x ∈ xs, x < 65536) (hl : xs.length = 37) : MgIn (mkM xs b ps) := by
  have e : ∀ i, i < 37 → in64w ((xs.getD i 0 : Nat) : Int) := fun i hi => by
    have hi' : i < xs.length := by omega
    have := h (xs.getD i 0) (by rw [List.getD_eq_getElem?_getD, List.getElem?_eq_getElem hi']; exact List.getElem_mem hi')
    unfold in64w
    omega
  exact ⟨e 0 (by omega), e 1 (by omega), e 2 (by omega), e 3 (by omega), e 4 (by omega), by simp [mkM, hl]⟩
/-- what whole leaves -/
def WholeP (p : Nat) (w : World) (r : Except Nat Mg) (e : Ending) (w' : World) : Prop := match r with
  | .ok m => (∃ ub up, e = .returned (m.val ub up) ∧ Rd w' (fun b => w.heap.size ≤ b) ub (bys m.b) ∧ Rd w' (fun b => w.heap.size ≤ b) up (tx m.ps)) ∧ Ch (only p) w w'
  | .error k => e = .panicked [errP k] ∧ Ch (only p) w w'
theorem RdR.weakF {w : World} {p : Nat} {F : Nat → Prop} {bs : List UInt8} {k : Nat} (h : RdR w p F bs k) : RdR w p (fun b => F b ∧ b < w.heap.size) bs k := by
  obtain ⟨v, h1, h2, h3, h4⟩ := h
  exact ⟨v, h1, h2.weak (fun b hb hf => ⟨hf, hb⟩), h3, fun h => h4 h.1⟩
set_option maxRecDepth 100000 in
set_option maxHeartbeats 4000000 in
theorem whole_any (p : Nat) (F : Nat → Prop) (X : List UInt8) (w : World) (hr0 : RdR w p F X 0) (hX : X.length ≤ 35184372088832) :
    Calls Tryz.prog 82 #[rp p] w (WholeP p w (rdM X)) := by
  have hr := hr0.weakF
  have hpw : p < w.heap.size := by obtain ⟨_, h, _⟩ := id hr; exact lt_of_block h
  obtain ⟨FF, hFF⟩ : ∃ FF, FF = fun b => F b ∧ b < w.heap.size := ⟨_, rfl⟩
  rw [← hFF] at hr
  have hFb : ∀ b, FF b → b < w.heap.size := fun b h => by rw [hFF] at h; exact h.2
  clear hFF hr0
  unfold rp
  have hal1 : Below w.heap.size w (w.alloc (.cells zM.toArray 47)) := (Below.refl _ _).alloc (Nat.le_refl _) _
  have hz2 := Blk.new' w 47 zM
  have hr := hr.belowR hal1
  go_enter Tryz.func82, Tryz.ntmps82
  go_wp2_with (refine wp_new 47 rfl rfl zeroM ?_; refine wp_stop ?_)
  obtain ⟨wa, hwa⟩ : ∃ x, x = w.alloc (.cells zM.toArray 47) := ⟨_, rfl⟩
  rw [← hwa] at hz2 hr hal1 ⊢
  clear hwa
  obtain ⟨g2, hg2⟩ : ∃ g, g = w.heap.size := ⟨_, rfl⟩
  rw [← hg2] at hz2 ⊢
  have hgw2 : w.heap.size ≤ g2 := by omega
  clear hg2
  have hal2 : Below wa.heap.size wa (wa.alloc (.cells zM.toArray 47)) := (Below.refl _ _).alloc (Nat.le_refl _) _
  have hm3 := Blk.new' wa 47 zM
  have hr := hr.belowR hal2
  have hg23 : g2 < wa.heap.size := hz2.lt
  have hz2 := hz2.below hal2
  have hB := hal1.trans (hal2.mono hal1.size)
  refine wp_go ?_
  go_wp2_with (refine wp_new 47 rfl rfl zeroM ?_; refine wp_stop ?_)
  obtain ⟨w0, hw0⟩ : ∃ x, x = wa.alloc (.cells zM.toArray 47) := ⟨_, rfl⟩
  rw [← hw0] at hz2 hr hB hm3 ⊢
  obtain ⟨g3, hg3⟩ : ∃ g, g = wa.heap.size := ⟨_, rfl⟩
  rw [← hg3] at hm3 hg23 ⊢
  have hgw3 : w.heap.size ≤ g3 := by omega
  clear hw0 hg3 hal1 hal2
  have hC : Ch (only p) w w0 := (Ch.refl _ _).belowR hB
  refine wp_go ?_
  go_wp2_with (fail)
  refine (fields_any g3 w0).mono ?_
  rintro e w1 ⟨rfl, hB1⟩
  have hr := hr.belowR hB1
  have hz2 := hz2.below hB1
  have hm3 := hm3.below hB1
  have hC := hC.belowR hB1
  clear hB hB1
  go_wp2
  go_loopw [10] (fun iv wr => ∃ (i : Nat) (xs : List Nat), i ≤ 5 ∧ iv = .int .i64 i ∧ Hid (fldR (szs8.take i) 0 X = .ok xs) ∧ xs.length = i ∧ RdR wr p FF X (soff i) ∧ Blk wr g3 47 (ivs xs ++ zM.drop i) ∧ Blk wr g2 47 zM ∧ Ch (only p) w wr) (fun i _ => 5 - (intOf i).toNat)
  case atStart => exact ⟨0, [], Nat.zero_le _, rfl, rfl, rfl, hr, hm3, hz2, hC⟩
  case round =>
    clear hr hm3 hz2 hC
    obtain ⟨i, xs, hi, rfl, hfl, hxl, hr, hm3, hz2, hC⟩ := hrel
    by_cases hlt : i < 5
    · have hI : (i : Int) < 5 := by omega
      obtain ⟨hs1, hs2, hs3⟩ := szs8_at i hlt
      have Hs1 := hid hs1
      have Hs2 := hid hs2
      have Hs3 := hid hs3
      have hsn := soff_succ i hlt
      have hcl : (ivs xs ++ zM.drop i).length = 39 := by rw [List.length_append, len_ivs, List.length_drop, len_zM]; omega
      have Hcl := hid hcl
      have Hst := hid (fun v => set_next (Z := zM) (by rw [len_ivs]; exact hxl) (by rw [len_zM]; omega) v : ∀ v, (ivs xs ++ zM.drop i).set i v = (ivs xs ++ [v]) ++ zM.drop (i + 1))
      obtain ⟨K, hK⟩ : ∃ K, K = soff i := ⟨_, rfl⟩
      obtain ⟨s, hs⟩ : ∃ s, s = fsz i := ⟨_, rfl⟩
      have hoN : okN (s : Int) := by rw [hs]; exact okN_fsz i
      have hs2 : s ≤ 2 := by rw [hs]; unfold fsz; split <;> omega
      rw [← hK] at hr hsn
      rw [← hs] at hsn
      have e0 : (fE g3 i)[0]? = some (.pointer (some ⟨g3, i, none⟩)) := rfl
      have e1 : (fE g3 i)[1]? = some (.int .i64 (s : Int)) := by rw [hs]; rfl
      have Hk2 := hid hK
      have Hss := hid hs
      have Hsn := hid hsn
      clear hcl hs1 hs3 hK hs hsn
      go_wp2_with (first | refine wp_idxW 147 (.tmp 9) (.tmp 10) rfl rfl (l := fV g3) rfl rfl Tryz.underlying147 hlt aggF sizeF1 ?_; rw [fV_at g3 i hlt] | refine wp_newst 146 5 (.tmp 12) rfl rfl rfl rfl rfl rfl zeroF1 (l := fE g3 i) rfl rfl sizeF1 (one_fE g3 i) (by simp [Act.put]) ?_; intro w2 hf2 hB2 hs2; refine wp_stop ?_)
      have hsz0 := hC.size
      have hg3l := hm3.lt
      have hr := hr.belowR hB2
      have hz2 := hz2.below hB2
      have hm3 := hm3.below hB2
      have hC := hC.belowR hB2
      have hsz := hC.size
      obtain ⟨gf, hgf⟩ : ∃ gf, gf = wr.heap.size := ⟨_, rfl⟩
      rw [← hgf] at hf2 hs2 ⊢
      have hgp : gf ≠ p := by omega
      have hg3f : gf ≠ g3 := by omega
      clear hgf hB2
      have HP : Hid (∀ W, Ch (fun b => b = p ∨ b = g3) w2 W → W.cell? ⟨gf, 0, none⟩ = some (.pointer (some ⟨g3, i, none⟩))) := fun W h => (hf2.ch h (fun h => h.elim hgp hg3f)).cellAt 0 _ e0
      have HS : Hid (∀ W, Ch (fun b => b = p ∨ b = g3) w2 W → W.cell? ⟨gf, 1, none⟩ = some (.int .i64 (s : Int))) := fun W h => (hf2.ch h (fun h => h.elim hgp hg3f)).cellAt 1 _ e1
      clear e0 e1
      have f1 := fixed_any p FF X K s w2.drew (hr.keep rfl (fun _ _ _ => rfl))
      unfold rp at f1
      refine wp_go ?_
      go_upto_region 5 with (fail)
      cases hfx : fixRd (s : Int) (X.drop K) with
      | error k =>
        rw [hfx] at f1
        have Hf := hid f1
        have hk1 := fixRd_err hoN hfx
        have hk : k ≠ 0 := by omega
        have hrm : rdM X = .error k := rdM_f (by rw [Hs1.out, ← Hss.out]; exact fldR_err _ _ _ _ _ _ _ hfl.out (by rw [Nat.zero_add, Hs3.out, ← Hk2.out]; exact hfx))
        have Hrm := hid hrm
        clear f1 hfx hrm hk1
        refine wp_region_held_drew (S := Ch (fun b => b = p ∨ b = g3) w2) (by kernel_rfl) ((Ch.refl _ _).drew) (fun hHeld => ?_)
        refine tkP 0 rfl ?_
        refine tkF 1 rfl HP.out ?_
        refine tkP 2 rfl ?_
        refine tkP 3 rfl ?_
        refine tkF 4 rfl HS.out ?_
        refine rdH 5 rfl (fun K hK => ?_)
        go_simp
        refine Hf.out.mono ?_
        rintro e' w11 ⟨rfl, hr11, hC11⟩
        simp only [eF, lenF] at hr11 ⊢
        have hD11 := hHeld.trans (hC11.weaken (fun k _ h => .inl h))
        have hE11 := ((Ch.refl (only p) w2).drew).trans hC11
        refine hK.out _ _ (hD11) (fun hHeld => ?_)
        clear hK K
        try simp only [nP]
        refine tkP 6 rfl ?_
        refine tkP 7 rfl ?_
        refine rdH 8 rfl (fun K hK => ?_)
        go_simp
        refine (mustU_err _ _ hk _).mono ?_
        rintro e' w12 ⟨rfl, rfl⟩
        show _ = _ ∧ WholeP p w (rdM X) _ _
        rw [Hrm.out]
        exact ⟨rfl, rfl, hC.trans hE11⟩
      | ok x =>
        rw [hfx] at f1
        have Hf := hid f1
        have hxlt := (fixRd_ok hoN hfx).2.2
        have hxb : x < 65536 := by
          have : 256 ^ s ≤ 65536 := by
            rcases hoN with h | h | h | h
            · rw [show s = 1 from by omega]; omega
            · rw [show s = 2 from by omega]; omega
            · omega
            · omega
          omega
        have hwx : IntKind.i64.wrap (x : Int) = (x : Int) := IntWalk.i64_in _ (by omega)
        have hfl2 : fldR (szs8.take (i + 1)) 0 X = .ok (xs ++ [x]) := by rw [Hs2.out, ← Hss.out]; exact fldR_snoc _ _ _ _ _ _ hfl.out (by rw [Nat.zero_add, Hs3.out, ← Hk2.out]; exact hfx)
        have Hfl2 := hid hfl2
        clear f1 hfx hfl2 hxlt
        refine wp_region_held_drew (S := Ch (fun b => b = p ∨ b = g3) w2) (by kernel_rfl) ((Ch.refl _ _).drew) (fun hHeld => ?_)
        refine tkP 0 rfl ?_
        refine tkF 1 rfl HP.out ?_
        refine tkP 2 rfl ?_
        refine tkP 3 rfl ?_
        refine tkF 4 rfl HS.out ?_
        refine rdH 5 rfl (fun K hK => ?_)
        go_simp
        refine Hf.out.mono ?_
        rintro e' w11 ⟨rfl, hr11, hC11⟩
        simp only [eF, lenF] at hr11 ⊢
        have hD11 := hHeld.trans (hC11.weaken (fun k _ h => .inl h))
        have hE11 := ((Ch.refl (only p) w2).drew).trans hC11
        refine hK.out _ _ (hD11) (fun hHeld => ?_)
        clear hK K
        try simp only [nP]
        refine tkP 6 rfl ?_
        refine tkP 7 rfl ?_
        refine rdH 8 rfl (fun K hK => ?_)
        go_simp
        refine (mustU_ok _ _).mono ?_
        rintro e' w12 ⟨rfl, rfl⟩
        refine hK.out _ _ (hD11) (fun hHeld => ?_)
        clear hK K
        try simp only [nP]
        refine tkP 9 rfl ?_
        refine tkP 10 rfl ?_
        refine rdH 11 rfl (fun K hK => ?_)
        refine step_st1 3 (.tmp 23) (.tmp 22) (by rfl) (by rfl) (by rfl) (f := i) (by rfl) (v := .int .i64 (x : Int)) (by rfl) (hm3.ch hE11 (by intro h; have h' : g3 = p := h; omega)) (by rw [Hcl.out]; omega) sizeI8 rfl rfl ?_
        intro w13 hm13 hG13
        refine hK.out _ _ (hD11.grow hG13 (fun k hk => .inl (.inr (by injection hk with hk; exact hk.symm)))) (fun hHeld => ?_)
        clear hK K
        try simp only [nP]
        refine wpAnyH_done (by kernel_rfl) ?_ _
        rw [Hst.out] at hm13
        have hm13 : Blk w13 g3 47 (ivs (xs ++ [x]) ++ zM.drop (i + 1)) := by rw [ivs_snoc]; exact hm13
        have hC13 : Ch (only p) w w13 := (hC.trans hE11).grow hG13 (fun k hk => .inr (by injection hk with hk; omega))
        have hz13 := (hz2.ch hE11 (by intro h; have h' : g2 = p := h; omega)).keep (hG13.block _ (hz2.ch hE11 (by intro h; have h' : g2 = p := h; omega)).lt (by intro h; injection h with h; omega))
        have hr13 : RdR w13 p FF X (soff (i + 1)) := by
          rw [Hsn.out]
          obtain ⟨_, hpb, _⟩ := id hr11
          exact RdR.keep hr11 (hG13.block _ (lt_of_block hpb) (by intro h; injection h with h; omega)) (fun b hb hF => hG13.block _ hb (by intro h; injection h with h; have := hFb b hF; omega))
        go_wp2
        go_roundw
        case rel => exact ⟨i + 1, xs ++ [x], by omega, by go_num, Hfl2, by rw [List.length_append, hxl]; rfl, hr13, hm13, hz13, hC13⟩
        case measure => simp [intOf]; omega
    · have hi' : i = 5 := by omega
      subst hi'
      have hI : ¬ (5 : Int) < 5 := by omega
      have hr : RdR wr p FF X 8 := hr
      obtain ⟨x0, x1, x2, x3, x4, rfl⟩ : ∃ x0 x1 x2 x3 x4, xs = [x0, x1, x2, x3, x4] := by
        match xs, hxl with
        | [x0, x1, x2, x3, x4], _ => exact ⟨x0, x1, x2, x3, x4, rfl⟩
      obtain ⟨xs, hxs⟩ : ∃ xs, xs = [x0, x1, x2, x3, x4] := ⟨_, rfl⟩
      rw [← hxs] at hfl hm3
      have hxl : xs.length = 5 := by rw [hxs]; rfl
      have Hxs := hid hxs
      clear hxs
      go_wp2
      go_loopw [25] (fun iv wr => ∃ (j : Nat) (ys : List Nat), j ≤ 32 ∧ iv = .int .i64 j ∧ Hid (fldR (szs8.take (5 + j)) 0 X = .ok (xs ++ ys)) ∧ ys.length = j ∧ RdR wr p FF X (8 + j) ∧ Blk wr g3 47 ((ivs xs ++ bvs (ys.map UInt8.ofNat)) ++ zM.drop (5 + j)) ∧ Blk wr g2 47 zM ∧ Ch (only p) w wr) (fun i _ => 32 - (intOf i).toNat)
      case atStart => exact ⟨0, [], Nat.zero_le _, rfl, by rw [List.append_nil]; exact hfl, rfl, hr, by rw [List.map_nil, show bvs [] = [] from rfl, List.append_nil]; exact hm3, hz2, hC⟩
      case round =>
        clear hr hm3 hz2 hC hfl
        obtain ⟨j, ys, hj, rfl, hfl, hyl, hr, hm3, hz2, hC⟩ := hrel
        by_cases hlt : j < 32
        · have hJ : (j : Int) < 32 := by omega
          obtain ⟨hs1, hs2, hs3⟩ := szs8_at2 ⟨j, hlt⟩
          dsimp only at hs1 hs2 hs3
          have Hs1 := hid hs1
          have Hs2 := hid hs2
          have Hs3 := hid hs3
          have hll : (ivs xs ++ bvs (ys.map UInt8.ofNat)).length = 5 + j := by rw [List.length_append, len_ivs, len_bvs, List.length_map, hxl, hyl]
          have hcl : ((ivs xs ++ bvs (ys.map UInt8.ofNat)) ++ zM.drop (5 + j)).length = 39 := by rw [List.length_append, hll, List.length_drop, len_zM]; omega
          have Hcl := hid hcl
          have Hst := hid (fun v => set_next (Z := zM) hll (by rw [len_zM]; omega) v : ∀ v, ((ivs xs ++ bvs (ys.map UInt8.ofNat)) ++ zM.drop (5 + j)).set (5 + j) v = ((ivs xs ++ bvs (ys.map UInt8.ofNat)) ++ [v]) ++ zM.drop (5 + j + 1))
          have f1 := fixed_any p FF X (8 + j) ((1 : Nat) : Int) wr hr
          unfold rp at f1
          clear hcl hs1 hs2 hs3 hll
          have hoN : okN ((1 : Nat) : Int) := by unfold okN; omega
          cases hfx : fixRd ((1 : Nat) : Int) (X.drop (8 + j)) with
          | error k =>
            rw [hfx] at f1
            have Hf := hid f1
            have hk1 := fixRd_err hoN hfx
            have hk : k ≠ 0 := by omega
            have hrm : rdM X = .error k := rdM_f (by rw [Hs1.out]; exact fldR_err _ _ _ _ _ _ _ hfl.out (by rw [Nat.zero_add, Hs3.out]; exact hfx))
            have Hrm := hid hrm
            clear f1 hfx hrm hk1
            go_wp2_with (fail)
            refine Hf.out.mono ?_
            rintro e w4 ⟨rfl, hr4, hC4⟩
            simp only [eF, lenF] at hr4 ⊢
            go_wp2_with (fail)
            refine (mustU_err _ _ hk _).mono ?_
            rintro e w5 ⟨rfl, hw5⟩
            subst hw5
            show _ = _ ∧ WholeP p w (rdM X) _ _
            rw [Hrm.out]
            exact ⟨rfl, rfl, hC.trans hC4⟩
          | ok x =>
            rw [hfx] at f1
            have Hf := hid f1
            have hxlt := (fixRd_ok hoN hfx).2.2
            have hxb : x < 256 := by simpa using hxlt
            have hwx : IntKind.u8.wrap (x : Int) = (x : Int) := by rw [u8w]; omega
            have hfl2 : fldR (szs8.take (5 + j + 1)) 0 X = .ok (xs ++ (ys ++ [x])) := by rw [Hs2.out, ← List.append_assoc]; exact fldR_snoc _ _ _ _ _ _ hfl.out (by rw [Nat.zero_add, Hs3.out]; exact hfx)
            have Hfl2 := hid hfl2
            clear f1 hfx hfl2 hxlt
            go_wp2_with (fail)
            refine Hf.out.mono ?_
            rintro e w4 ⟨rfl, hr4, hC4⟩
            simp only [eF, lenF] at hr4 ⊢
            have hz4 := hz2.ch hC4 (by intro h; have h' : g2 = p := h; omega)
            have hm4 := hm3.ch hC4 (by intro h; have h' : g3 = p := h; omega)
            have hC4 := hC.trans hC4
            go_wp2_with (fail)
            refine (mustU_ok _ _).mono ?_
            rintro e w5 ⟨rfl, hw5⟩
            subst hw5
            go_wp2_with (refine wp_st1 5 (.tmp 36) (.tmp 34) rfl rfl rfl (f := 5 + j) rfl (v := .int .u8 (x : Int)) rfl hm4 (by rw [Hcl.out]; omega) size8 rfl rfl ?_; intro w6 hm6 hG6)
            rw [Hst.out] at hm6
            go_roundw
            case rel =>
              refine ⟨j + 1, ys ++ [x], by omega, by go_num, Hfl2, by rw [List.length_append, hyl]; rfl, ?_, ?_, hz4.keep (hG6.block _ hz4.lt (by intro h; injection h with h; omega)), hC4.grow hG6 (fun k hk => .inr (by injection hk with hk; omega))⟩
              · obtain ⟨_, hpb, _⟩ := id hr4
                exact RdR.keep (k := 8 + j + 1) hr4 (hG6.block _ (lt_of_block hpb) (by intro h; injection h with h; omega)) (fun b hb hF => hG6.block _ hb (by intro h; injection h with h; have := hFb b hF; omega))
              · rw [List.map_append, List.map_singleton, bvs_snoc, byteV_of hxb, ← List.append_assoc (ivs xs)]
                exact hm6
            case measure => simp [intOf]; omega
        · have hj' : j = 32 := by omega
          subst hj'
          have hJ : ¬ (32 : Int) < 32 := by omega
          have hJ : ¬ (32 : Int) < 32 := by omega
          have hfl : fldR szs8 0 X = .ok (xs ++ ys) := by rw [← szs8_all]; exact hfl.out
          have hal : ∀ x ∈ xs ++ ys, x < 65536 := fldR_lt szs8 szs8_ok 0 X _ hfl
          have hin := fun b ps => mkM_in (b := b) (ps := ps) hal (by rw [List.length_append, hxl, hyl])
          obtain ⟨m0, hm0⟩ : ∃ m0, m0 = mkM (xs ++ ys) [] [] := ⟨_, rfl⟩
          have hmh : m0.h.length = 32 := by rw [hm0]; exact (hin [] []).h
          have hml : ∀ b ps u v, (mkM (xs ++ ys) b ps).l u v = m0.l u v := fun b ps u v => by rw [hm0]; rfl
          have hll : (ivs xs ++ bvs (ys.map UInt8.ofNat)) ++ zM.drop (5 + 32) = m0.l (.slice none 0 0) (.slice none 0 0) := by rw [hm0, Hxs.out]; rfl
          rw [hll] at hm3
          have hmlen : ∀ u v, (m0.l u v).length = 39 := fun u v => len_mg hmh u v
          have hr : RdR wr p FF X 40 := hr
          obtain ⟨zs, hzs⟩ : ∃ zs, zs = xs ++ ys := ⟨_, rfl⟩
          rw [← hzs] at hfl hin hml
          have Hfl := hid hfl
          have Hin := hid hin
          have Hml := hid hml
          have Hmh := hid hmh
          have Hmlen := hid hmlen
          clear hfl hin hml hmh hmlen hzs hm0 hll Hxs hal hxl hyl
          have hg2l := hz2.lt
          have hg3l := hm3.lt
          have t1 := text_any p FF X 40 65536 wr hr (by omega) (by omega) hX
          unfold rp at t1
          cases htx : textR 65536 (X.drop 40) with
          | error k =>
            rw [htx] at t1
            unfold TextPost at t1
            dsimp only at t1
            have Ht := hid t1
            have hk1 := textR_err htx
            have hk : k ≠ 0 := by omega
            have hrm : rdM X = .error k := by unfold rdM; rw [Hfl.out]; dsimp only; rw [htx]
            have Hrm := hid hrm
            clear t1 htx hrm hk1
            go_wp2_with (fail)
            refine Ht.out.mono ?_
            rintro e w4 ⟨rfl, hr4, hC4⟩
            go_wp2_with (fail)
            refine (mustB_err _ _ hk _).mono ?_
            rintro e w5 ⟨rfl, hw5⟩
            subst hw5
            show _ = _ ∧ WholeP p w (rdM X) _ _
            rw [Hrm.out]
            exact ⟨rfl, rfl, hC.trans hC4⟩
          | ok rr =>
            obtain ⟨n, z⟩ := rr
            rw [htx] at t1
            unfold TextPost at t1
            dsimp only at t1
            obtain ⟨B, hBB⟩ : ∃ B, B = ((X.drop 40).drop z).take n := ⟨_, rfl⟩
            rw [← hBB] at t1
            have Ht := hid t1
            have HBB := hid hBB
            have Htx := hid htx
            clear t1 htx hBB
            go_wp2_with (fail)
            refine Ht.out.mono ?_
            rintro e w4 ⟨v4, rfl, hv4, hr4, hC4⟩
            obtain ⟨A4, c4, rfl⟩ := hv4.shape
            have hz4 := hz2.ch hC4 (by intro h; have h' : g2 = p := h; omega)
            have hm4 := hm3.ch hC4 (by intro h; have h' : g3 = p := h; omega)
            have hs4 := hC4.size
            have hC4 := hC.trans hC4
            clear Ht hr hz2 hm3
            go_wp2_with (fail)
            refine (mustB_ok _ _).mono ?_
            rintro e w5 ⟨rfl, hw5⟩
            subst hw5
            go_wp2_with (refine wp_st1 33 (.tmp 43) (.tmp 42) rfl rfl rfl (f := 37) rfl (v := .slice A4 B.length c4) rfl hm4 (by rw [Hmlen.out]; omega) sizeSl8 rfl rfl ?_; intro w6 hm6 hG6; refine wp_stop ?_)
            rw [set37 Hmh.out] at hm6
            have hz6 := hz4.keep (hG6.block _ hz4.lt (by intro h; injection h with h; omega))
            have hr6 : RdR w6 p FF X (40 + (z + n)) := by
              obtain ⟨_, hpb, _⟩ := id hr4
              exact RdR.keep hr4 (hG6.block _ (lt_of_block hpb) (by intro h; injection h with h; omega)) (fun b hb hF => hG6.block _ hb (by intro h; injection h with h; have := hFb b hF; omega))
            have hv6 : Rd w6 (fun b => wr.heap.size ≤ b) (.slice A4 B.length c4) (bys B) := hv4.keep (fun b hb hF => ⟨hF, hG6.block _ hb (by intro h; injection h with h; omega)⟩)
            have hs6 := hG6.size
            have hC6 := hC4.grow hG6 (fun k hk => .inr (by injection hk with hk; omega))
            clear hz4 hm4 hr4 hv4 hC4 hG6
            obtain ⟨K1, hK1⟩ : ∃ K1, K1 = 40 + (z + n) := ⟨_, rfl⟩
            rw [← hK1] at hr6
            have HK1 := hid hK1
            clear hK1
            refine wp_go ?_
            have f1 := count_any p FF X K1 16 w6 hr6 (by omega) (by omega)
            unfold rp at f1
            cases hcx : cntR 16 (readPk (X.drop K1)) with
            | error k =>
              rw [hcx] at f1
              have Hf := hid f1
              have hk1 := cntR_err hcx
              have hk : k ≠ 0 := by omega
              have hrm : rdM X = .error k := by unfold rdM; rw [Hfl.out]; dsimp only; rw [Htx.out]; dsimp only; rw [← HK1.out, hcx]
              have Hrm := hid hrm
              clear f1 hcx hrm hk1
              go_wp2_with (fail)
              refine Hf.out.mono ?_
              rintro e w7 ⟨rfl, hr7, hC7⟩
              simp only [eCt] at ⊢
              go_wp2_with (fail)
              refine (mustI_err _ _ hk _).mono ?_
              rintro e w8 ⟨rfl, hw8⟩
              subst hw8
              show _ = _ ∧ WholeP p w (rdM X) _ _
              rw [Hrm.out]
              exact ⟨rfl, rfl, hC6.trans hC7⟩
            | ok rr =>
              obtain ⟨c, y⟩ := rr
              rw [hcx] at f1
              have Hf := hid f1
              have hc16 : c ≤ 16 := by have := (cntR_ok hcx).2.2; omega
              have Hcx := hid hcx
              clear f1 hcx
              go_wp2_with (fail)
              refine Hf.out.mono ?_
              rintro e w7 ⟨rfl, hr7, hC7⟩
              simp only [eCt, lenP] at hr7 ⊢
              have hz7 := hz6.ch hC7 (by intro h; have h' : g2 = p := h; omega)
              have hm7 := hm6.ch hC7 (by intro h; have h' : g3 = p := h; omega)
              have hv7 := hv6.ch hC7 (fun b hb h => by have h' : b = p := h; have hb' : wr.heap.size ≤ b := hb; have := hC.size; omega)
              have hs7 := hC7.size
              have hC7 := hC6.trans hC7
              clear Hf hz6 hm6 hr6 hv6 hC6
              go_wp2_with (fail)
              refine (mustI_ok _ _).mono ?_
              rintro e w8 ⟨rfl, hw8⟩
              subst hw8
              go_wp2_with (refine wp_mkG slBB8 rfl (.tmp 48) (.tmp 48) rfl rfl c rfl rfl (by omega) (by simp only [maxLen]; omega) ?_; intro w9 hp9 hB9; refine wp_stop ?_)
              have hz9 := hz7.below hB9
              have hm9 := hm7.below hB9
              have hr9 := hr7.belowR hB9
              have hg2c := hz7.lt
              have hg3c := hm7.lt
              obtain ⟨D, hD⟩ : ∃ D : Nat → Prop, D = fun b => w.heap.size ≤ b ∧ b ≠ g2 ∧ b ≠ g3 ∧ b ≠ w8.heap.size := ⟨_, rfl⟩
              have hv9 : Rd w9 D (.slice A4 B.length c4) (bys B) := (hv7.weak (F' := D) (fun b hb hF => by rw [hD]; have hb' : wr.heap.size ≤ b := hF; have := hC.size; exact ⟨by omega, by omega, by omega, by omega⟩)).below hB9
              have hC9 := hC7.belowR hB9
              have hszc := hC7.size
              obtain ⟨gp, hgp⟩ : ∃ gp, gp = w8.heap.size := ⟨_, rfl⟩
              rw [← hgp] at hp9 hD hg2c hg3c hszc ⊢
              have hDw : ∀ b, D b → w.heap.size ≤ b ∧ b ≠ g2 ∧ b ≠ g3 ∧ b ≠ gp := fun b h => by rw [hD] at h; exact h
              have hwD : ∀ b, gp < b → D b := fun b h => by rw [hD]; exact ⟨by omega, by omega, by omega, by omega⟩
              clear hgp hD hz7 hm7 hr7 hv7 hC7 hB9 hs6 hs4 hs7
              refine wp_go ?_
              go_wp2_with (refine wp_st1 28 (.tmp 50) (.tmp 49) rfl rfl rfl (f := 38) rfl (v := .slice (some ⟨gp, 0, none⟩) c c) rfl hm9 (by rw [Hmlen.out]; omega) sizeSS8 rfl rfl ?_; intro w10 hm10 hG10; refine wp_stop ?_)
              rw [set38 Hmh.out] at hm10
              have hz10 := hz9.keep (hG10.block _ hz9.lt (by intro h; injection h with h; omega))
              have hp10 := hp9.keep (hG10.block _ hp9.lt (by intro h; injection h with h; omega))
              have hr10 : RdR w10 p FF X (K1 + y) := by
                obtain ⟨_, hpb, _⟩ := id hr9
                exact RdR.keep hr9 (hG10.block _ (lt_of_block hpb) (by intro h; injection h with h; omega)) (fun b hb hF => hG10.block _ hb (by intro h; injection h with h; have := hFb b hF; omega))
              have hv10 : Rd w10 D (.slice A4 B.length c4) (bys B) := hv9.keep (fun b hb hF => ⟨hF, hG10.block _ hb (by intro h; injection h with h; have := (hDw b hF).2.2.1; omega)⟩)
              have hC10 := hC9.grow hG10 (fun k hk => .inr (by injection hk with hk; omega))
              have hgpl := hp10.lt
              clear hz9 hm9 hr9 hv9 hC9 hG10 hp9
              obtain ⟨K2, hK2⟩ : ∃ K2, K2 = K1 + y := ⟨_, rfl⟩
              rw [← hK2] at hr10
              have HK2 := hid hK2
              clear hK2
              have c38 := hm10.cellAt 38 _ (mg_parts Hmh.out _ _)
              have hpne : gp ≠ p := by omega
              have hg3ne : g3 ≠ p := by omega
              refine wp_go ?_
              go_wp2
              clear c38
              have hrd : rdM X = match prtR c K2 X with
                  | .error e => .error e
                  | .ok (ts, k) => if k < X.length then .error 2 else if numB (mkM zs B ts) = true then .ok (mkM zs B ts) else .error 15 := by
                unfold rdM
                rw [Hfl.out]
                dsimp only
                rw [Htx.out]
                dsimp only
                rw [← HK1.out, Hcx.out]
                dsimp only
                rw [← HK2.out, ← HBB.out]
                rfl
              have Hrd := hid hrd
              clear hrd Hfl Htx HK1 Hcx HK2 HBB
              go_loopw [54] (fun iv wr => ∃ (i : Nat) (ts : List (List UInt8)) (k : Nat) (us : List Value), i ≤ c ∧ iv = .int .i64 i ∧ Hid (prtR i K2 X = .ok (ts, k)) ∧ RdR wr p FF X k ∧ Blk wr g3 47 (m0.l (.slice A4 B.length c4) (.slice (some ⟨gp, 0, none⟩) c c)) ∧ Blk wr g2 47 zM ∧ Blk wr gp 33 (us ++ (List.replicate c (.slice none 0 0)).drop i) ∧ TxX wr D ts us ∧ us.length = i ∧ Rd wr D (.slice A4 B.length c4) (bys B) ∧ Ch (only p) w wr) (fun i _ => c - (intOf i).toNat)
              case atStart => exact ⟨0, [], K2, [], Nat.zero_le _, rfl, rfl, hr10, hm10, hz10, hp10, TxX.nil _ _, rfl, hv10, hC10⟩
              case round =>
                clear hr10 hm10 hz10 hp10 hv10 hC10 hgpl
                obtain ⟨i, ts, k, us, hi, rfl, hpr, hr, hm3, hz2, hp, hx, hul, hv, hC⟩ := hrel
                by_cases hlt : i < c
                · have hI : (i : Int) < (c : Int) := by omega
                  have hg2l := hz2.lt
                  have hg3l := hm3.lt
                  have hgpl := hp.lt
                  have hsz := hC.size
                  have hrl : (us ++ (List.replicate c (Value.slice none 0 0)).drop i).length = c := by rw [List.length_append, hul, List.length_drop, List.length_replicate]; omega
                  have Hrl := hid hrl
                  have Hst := hid (fun v => set_next (Z := List.replicate c (Value.slice none 0 0)) hul (by rw [List.length_replicate]; omega) v : ∀ v, (us ++ (List.replicate c (Value.slice none 0 0)).drop i).set i v = (us ++ [v]) ++ (List.replicate c (Value.slice none 0 0)).drop (i + 1))
                  have hg3p : g3 ≠ gp := by omega
                  have HQ : Hid (∀ W, Ch (fun b => b = p ∨ b = gp) wr W → W.cell? ⟨g3, 38, none⟩ = some (.slice (some ⟨gp, 0, none⟩) c c)) := fun W h => (hm3.ch h (fun h => h.elim hg3ne hg3p)).cellAt 38 _ (mg_parts Hmh.out _ _)
                  have t1 := text_any p FF X k 65536 wr.drew (hr.keep rfl (fun _ _ _ => rfl)) (by omega) (by omega) hX
                  unfold rp at t1
                  clear hrl
                  go_upto_region 17 with (fail)
                  cases htx : textR 65536 (X.drop k) with
                  | error k2 =>
                    rw [htx] at t1
                    unfold TextPost at t1
                    dsimp only at t1
                    have Ht := hid t1
                    have hk1 := textR_err htx
                    have hk : k2 ≠ 0 := by omega
                    have hpe : prtR c K2 X = .error k2 := by
                      have := prtR_err i (c - i - 1) K2 X ts k k2 hpr.out htx
                      rwa [show i + (c - i - 1 + 1) = c from by omega] at this
                    have hrm : rdM X = .error k2 := by rw [Hrd.out, hpe]
                    have Hrm := hid hrm
                    clear t1 htx hrm hk1 hpe
                    refine wp_region_held_drew (S := Ch (fun b => b = p ∨ b = gp) wr) (by kernel_rfl) ((Ch.refl _ _).drew) (fun hHeld => ?_)
                    refine tkP 0 rfl ?_
                    refine tkF 1 rfl HQ.out ?_
                    refine tkP 2 rfl ?_
                    refine tkP 3 rfl ?_
                    refine rdH 4 rfl (fun K hK => ?_)
                    go_simp
                    refine Ht.out.mono ?_
                    rintro e' w11 ⟨rfl, hr11, hC11⟩
                    have hD11 := hHeld.trans (hC11.weaken (fun k _ h => .inl h))
                    have hE11 := ((Ch.refl (only p) wr).drew).trans hC11
                    refine hK.out _ _ (hD11) (fun hHeld => ?_)
                    clear hK K
                    try simp only [nP]
                    refine tkP 5 rfl ?_
                    refine tkP 6 rfl ?_
                    refine rdH 7 rfl (fun K hK => ?_)
                    go_simp
                    refine (mustB_err _ _ hk _).mono ?_
                    rintro e' w12 ⟨rfl, rfl⟩
                    show _ = _ ∧ WholeP p w (rdM X) _ _
                    rw [Hrm.out]
                    exact ⟨rfl, rfl, hC.trans hE11⟩
                  | ok rr =>
                    obtain ⟨n2, z2⟩ := rr
                    rw [htx] at t1
                    unfold TextPost at t1
                    dsimp only at t1
                    have hpr2 := prtR_snoc i K2 X ts k n2 z2 hpr.out htx
                    obtain ⟨T, hT⟩ : ∃ T, T = ((X.drop k).drop z2).take n2 := ⟨_, rfl⟩
                    rw [← hT] at t1 hpr2
                    have Ht := hid t1
                    have Hpr2 := hid hpr2
                    clear t1 htx hT hpr2
                    refine wp_region_held_drew (S := Ch (fun b => b = p ∨ b = gp) wr) (by kernel_rfl) ((Ch.refl _ _).drew) (fun hHeld => ?_)
                    refine tkP 0 rfl ?_
                    refine tkF 1 rfl HQ.out ?_
                    refine tkP 2 rfl ?_
                    refine tkP 3 rfl ?_
                    refine rdH 4 rfl (fun K hK => ?_)
                    go_simp
                    refine Ht.out.mono ?_
                    rintro e' w11 ⟨v11, rfl, hv11, hr11, hC11⟩
                    obtain ⟨A11, c11, rfl⟩ := hv11.shape
                    have hD11 := hHeld.trans (hC11.weaken (fun k _ h => .inl h))
                    have hE11 := ((Ch.refl (only p) wr).drew).trans hC11
                    refine hK.out _ _ (hD11) (fun hHeld => ?_)
                    clear hK K
                    try simp only [nP]
                    refine tkP 5 rfl ?_
                    refine tkP 6 rfl ?_
                    refine rdH 7 rfl (fun K hK => ?_)
                    go_simp
                    refine (mustB_ok _ _).mono ?_
                    rintro e' w12 ⟨rfl, rfl⟩
                    refine hK.out _ _ (hD11) (fun hHeld => ?_)
                    clear hK K
                    try simp only [nP]
                    refine tkP 8 rfl ?_
                    refine rdH 9 rfl (fun K hK => ?_)
                    refine step_st1 33 (.tmp 65) (.tmp 64) (by rfl) (by rfl) (by rfl) (f := i) (by rfl) (v := .slice A11 T.length c11) (by rfl) (hp.ch hE11 (by intro h; have h' : gp = p := h; omega)) (by rw [Hrl.out]; omega) sizeSl8 rfl rfl ?_
                    intro w13 hp13 hG13
                    refine hK.out _ _ (hD11.grow hG13 (fun k hk => .inl (.inr (by injection hk with hk; exact hk.symm)))) (fun hHeld => ?_)
                    clear hK K
                    try simp only [nP]
                    refine wpAnyH_done (by kernel_rfl) ?_ _
                    rw [Hst.out] at hp13
                    have hm11 := hm3.ch hE11 (by intro h; have h' : g3 = p := h; omega)
                    have hz11 := hz2.ch hE11 (by intro h; have h' : g2 = p := h; omega)
                    have hm13 := hm11.keep (hG13.block _ hm11.lt (by intro h; injection h with h; omega))
                    have hz13 := hz11.keep (hG13.block _ hz11.lt (by intro h; injection h with h; omega))
                    have hkp : ∀ b, b < wr.heap.size → D b → D b ∧ w12.heap[b]? = wr.heap[b]? := fun b hb hF => ⟨hF, hE11.block b hb (by intro h; have h' : b = p := h; have := (hDw b hF).1; omega)⟩
                    have hkg : ∀ b, b < w12.heap.size → D b → D b ∧ w13.heap[b]? = w12.heap[b]? := fun b hb hF => ⟨hF, hG13.block b hb (by intro h; injection h with h; exact (hDw b hF).2.2.2 h)⟩
                    have hv13 := (hv.keep hkp).keep hkg
                    have hx13 := ((hx.keep hkp).keep hkg).snoc (u := .slice A11 T.length c11) (t := T) (hv11.keep (F' := D) (fun b hb hF => by
                      have hF' : wr.heap.size ≤ b := hF
                      have hd := hwD b (by omega)
                      exact hkg b hb hd))
                    have hr13 : RdR w13 p FF X (k + (z2 + n2)) := by
                      obtain ⟨_, hpb, _⟩ := id hr11
                      exact RdR.keep hr11 (hG13.block _ (lt_of_block hpb) (by intro h; injection h with h; omega)) (fun b hb hF => hG13.block _ hb (by intro h; injection h with h; have := hFb b hF; omega))
                    have hC13 : Ch (only p) w w13 := (hC.trans hE11).grow hG13 (fun k hk => .inr (by injection hk with hk; omega))
                    go_wp2
                    go_roundw
                    case rel => exact ⟨i + 1, ts ++ [T], k + (z2 + n2), us ++ [.slice A11 T.length c11], by omega, by go_num, Hpr2, hr13, hm13, hz13, hp13, hx13, by rw [List.length_append, hul]; rfl, hv13, hC13⟩
                    case measure => simp [intOf]; omega
                · have hi' : i = c := by omega
                  subst hi'
                  have hI : ¬ (i : Int) < (i : Int) := by omega
                  have hg2l := hz2.lt
                  have hg3l := hm3.lt
                  have hgpl := hp.lt
                  have hsz := hC.size
                  have htl := prtR_len _ _ _ _ _ hpr.out
                  have hrd := Hrd.out
                  rw [hpr.out] at hrd
                  dsimp only at hrd
                  have d1 := done_any p FF X k wr hr
                  unfold rp at d1
                  rw [List.drop_of_length_le (by rw [List.length_replicate]; exact Nat.le_refl _), List.append_nil] at hp
                  clear Hrd hpr
                  by_cases hk : k < X.length
                  · rw [if_pos hk] at d1 hrd
                    have Hd := hid d1
                    have Hrd := hid hrd
                    clear d1 hrd
                    go_wp2_with (fail)
                    refine Hd.out.mono ?_
                    rintro e w4 ⟨rfl, nn, rfl⟩
                    go_wp2
                    show _ = _ ∧ WholeP p w (rdM X) _ _
                    rw [Hrd.out]
                    exact ⟨rfl, rfl, hC.drewN nn⟩
                  · rw [if_neg hk] at d1 hrd
                    have Hd := hid d1
                    have hfm : ∀ W, Calls Tryz.prog 66 #[.agg (m0.l (.slice A4 B.length c4) (.slice (some ⟨gp, 0, none⟩) i i)).toArray] W fun e w' => e = .returned (.bool (numB (mkM zs B ts))) ∧ Below W.heap.size W w' := fun W => by
                      have := formed8_any (mkM zs B ts) (.slice A4 B.length c4) (.slice (some ⟨gp, 0, none⟩) i i) W (Hin.out B ts)
                      unfold Mg.val at this
                      rwa [Hml.out] at this
                    obtain ⟨M, hM⟩ : ∃ M, M = mkM zs B ts := ⟨_, rfl⟩
                    have hMl : M.l (.slice A4 B.length c4) (.slice (some ⟨gp, 0, none⟩) i i) = m0.l (.slice A4 B.length c4) (.slice (some ⟨gp, 0, none⟩) i i) := by rw [hM]; exact Hml.out _ _ _ _
                    have hMb : M.b = B ∧ M.ps = ts := by rw [hM]; exact ⟨rfl, rfl⟩
                    rw [← hM] at hrd hfm
                    obtain ⟨nb, hnb⟩ : ∃ nb, nb = numB M := ⟨_, rfl⟩
                    rw [← hnb] at hrd hfm
                    have Hfm := hid hfm
                    have Hrd := hid hrd
                    have HMl := hid hMl
                    have hup := tx_blk (F := fun b => w.heap.size ≤ b ∧ b ≠ g2) hp (by omega) (hx.keep (fun b hb hF => ⟨⟨(hDw b hF).1, (hDw b hF).2.1⟩, rfl⟩)) htl (by simp only [maxLen]; omega)
                    have hub := hv.weak (F' := fun b => w.heap.size ≤ b ∧ b ≠ g2) (fun b hb hF => ⟨(hDw b hF).1, (hDw b hF).2.1⟩)
                    clear d1 hrd hfm hM hMl hnb hp hx hv
                    go_wp2_with (fail)
                    refine Hd.out.mono ?_
                    rintro e w4 ⟨rfl, nn, rfl⟩
                    have hm4 := hm3.drewN nn
                    have hz4 := hz2.drewN nn
                    have hub4 := hub.drewN nn
                    have hup4 := hup.drewN nn
                    have hC4 := hC.drewN nn
                    obtain ⟨w4, hw4⟩ : ∃ x, x = wr.drewN nn := ⟨_, rfl⟩
                    rw [← hw4] at hm4 hz4 hub4 hup4 hC4 ⊢
                    clear hw4 Hd hm3 hz2 hub hup hC hr
                    obtain ⟨l, hl⟩ : ∃ l, l = m0.l (.slice A4 B.length c4) (.slice (some ⟨gp, 0, none⟩) i i) := ⟨_, rfl⟩
                    have hll : l.length = 39 := by rw [hl]; exact Hmlen.out _ _
                    have hl1 : ∀ v ∈ l, v.oneCell' = true := by rw [hl]; exact one_mg
                    rw [← hl] at hm4 Hfm HMl
                    have Hll := hid hll
                    have Hl1 := hid hl1
                    clear hl hll hl1
                    go_wp2_with (refine wp_ld 47 (.tmp 3) rfl rfl rfl hm4.whole Tryz.underlying47 rfl (by rw [Hll.out]; exact sizeM) ?_)
                    refine (Hfm.out _).mono ?_
                    rintro e w5 ⟨rfl, hB5⟩
                    have hm5 := hm4.below hB5
                    have hz5 := hz4.below hB5
                    have hub5 := hub4.below hB5
                    have hup5 := hup4.below hB5
                    have hC5 := hC4.belowR hB5
                    clear hm4 hz4 hub4 hup4 hC4 Hfm
                    cases nb with
                    | false =>
                      have hrd := Hrd.out
                      rw [if_neg (by simp)] at hrd
                      clear Hrd
                      have Hrd := hid hrd
                      clear hrd
                      go_wp2
                      show _ = _ ∧ WholeP p w (rdM X) _ _
                      rw [Hrd.out]
                      exact ⟨rfl, rfl, hC5⟩
                    | true =>
                      have hrd := Hrd.out
                      rw [if_pos rfl] at hrd
                      clear Hrd
                      have Hrd := hid hrd
                      clear hrd
                      go_wp2_with (first | refine wp_ld 47 (.tmp 3) rfl rfl rfl hm5.whole Tryz.underlying47 rfl (by rw [Hll.out]; exact sizeM) ?_ | refine wp_st 47 (.tmp 2) (.tmp 77) rfl rfl rfl (f := 0) rfl (l := l) rfl hz5 (by rw [len_zM, Hll.out]; omega) (by rw [Hll.out]; exact sizeM) Hl1.out ?_; intro w6 hz6 hG6; refine wp_stop ?_)
                      rw [set_all _ _ (by rw [len_zM, Hll.out])] at hz6
                      refine wp_go ?_
                      go_wp2
                      refine ret_cell rfl rfl hz6.whole Tryz.underlying47 rfl (by rw [Hll.out]; exact sizeM) rfl ?_
                      show WholeP p w (rdM X) _ _
                      rw [Hrd.out]
                      have hks : ∀ b, b < w5.heap.size → (w.heap.size ≤ b ∧ b ≠ g2) → w.heap.size ≤ b ∧ w6.heap[b]? = w5.heap[b]? := fun b hb hF => ⟨hF.1, hG6.block b hb (by intro h; injection h with h; exact hF.2 h)⟩
                      refine ⟨⟨.slice A4 B.length c4, .slice (some ⟨gp, 0, none⟩) i i, by unfold Mg.val; rw [HMl.out], ?_, ?_⟩, hC5.grow hG6 (fun k hk => .inr (by injection hk with hk; omega))⟩
                      · rw [hMb.1]; exact hub5.keep hks
                      · rw [hMb.2]; exact hup5.keep hks
end Go.Proofs.YtnhhbbjkeekneaaGreatDoor
/- YH: layer 8: contracts of wire: read (panic, recover, defer), Get. -/
namespace Go.Proofs.YtnhhbbjkeekneaaGreatDoor
open Go.RowKit Go.V
theorem assertE (k : Int) (W : World) : (Instr.typeAssert (.iface 36 (.int .i64 k)) 20 36 false).run Tryz.prog W = .ok (.int .i64 k) W := by kernel_rfl
theorem catch_p (ge : Nat) (k : Nat) (w : World) (hb : Blk w ge 36 [.int .i64 0]) :
    CallsD Tryz.prog 81 #[.pointer (some ⟨ge, 0, none⟩)] (.panicking [errP k]) w fun e u' w' =>
      e = .returned (.tuple #[]) ∧ u' = .panicking [{ v := .iface 36 (.int .i64 (k : Int)), recovered := true }] ∧ w' = w.setCell ⟨ge, 0, none⟩ (.int .i64 (k : Int)) := by
  have hc := hb.cellAt 0 _ rfl
  have hz := hb.frz 0
  refine callsD_of_wpS Tryz.func81 rfl fun c₀ cs hu => ?_
  unfold errP at hu
  apply wpS_seq
  apply wpS_region
  simp [wpOpsS, go_sem, recoverD, hu, Tryz.ntmps81, Exit.thenS]
  apply wpS_seq
  apply wpS_region
  simp [wpOpsS, go_sem, Exit.thenS]
  refine wpS_cond (t := true) (by simp [Act.eval, Array.replicate]) ?_
  simp only [if_true]
  apply wpS_region
  simp [wpOpsS, go_sem, assertE, hc, hz, bodyPostS, results, Tryz.results81]
theorem catch_r (ge : Nat) (w : World) :
    CallsD Tryz.prog 81 #[.pointer (some ⟨ge, 0, none⟩)] .returning w fun e u' w' =>
      e = .returned (.tuple #[]) ∧ u' = .returning ∧ w' = w := by
  refine callsD_of_wpS Tryz.func81 rfl fun c₀ cs hu => ?_
  apply wpS_seq
  apply wpS_region
  simp [wpOpsS, go_sem, recoverD, hu, Tryz.ntmps81, Exit.thenS]
  apply wpS_seq
  apply wpS_region
  simp [wpOpsS, go_sem, Exit.thenS]
  refine wpS_cond (t := false) (by simp [Act.eval, Array.replicate]) ?_
  simp only [Bool.false_eq_true, if_false]
  refine wpS_of_wp (wp_skip ?_)
  cases c₀
  simp_all [bodyPostS, results, Tryz.results81]
theorem rdM_h {X : List UInt8} {m : Mg} (h : rdM X = .ok m) : m.h.length = 32 := by
  unfold rdM at h
  cases h1 : fldR szs8 0 X with
  | error e => rw [h1] at h; cases h
  | ok xs =>
    have hl := fldR_len _ _ _ _ h1
    rw [h1] at h
    dsimp only at h
    cases h2 : textR 65536 (X.drop 40) with
    | error e => rw [h2] at h; cases h
    | ok r =>
      obtain ⟨n, z⟩ := r
      rw [h2] at h
      dsimp only at h
      cases h3 : cntR 16 (readPk (X.drop (40 + (z + n)))) with
      | error e => rw [h3] at h; cases h
      | ok r =>
        obtain ⟨c, y⟩ := r
        rw [h3] at h
        dsimp only at h
        cases h4 : prtR c (40 + (z + n) + y) X with
        | error e => rw [h4] at h; cases h
        | ok r =>
          obtain ⟨ts, k⟩ := r
          rw [h4] at h
          dsimp only at h
          split at h
          · cases h
          · split at h
            · injection h with h
              rw [← h]
              simp [mkM, hl, szs8]
            · cases h
theorem sizeE8 : (Tryz.prog.info? 36).map (·.size) = some 1 := by kernel_rfl
theorem leaves_rd {R : Ending → World → Prop} {tmps : Array Value} {w : World} {g2 g3 : Nat} {l : List Value} {k : Int} (h2 : tmps[2]? = some (.pointer (some ⟨g2, 0, none⟩))) (h3 : tmps[3]? = some (.pointer (some ⟨g3, 0, none⟩)))
    (hl : Blk w g2 47 l) (hi : l.length = 39) (he : Blk w g3 36 [.int .i64 k]) (h : R (.returned (.tuple #[.agg l.toArray, .int .i64 k])) w) : Leaves Tryz.prog Tryz.f54 tmps R [] .returning w := by
  refine ⟨.tuple #[.agg l.toArray, .int .i64 k], ?_, h⟩
  have hc := he.cellAt 0 _ rfl
  have hld := run_loadVar_mid (P := Tryz.prog) w g2 0 47 l _ hl.whole Tryz.underlying47 rfl (by rw [hi]; exact sizeM)
  have hle : (loadVar 36 ⟨g3, 0, none⟩).run Tryz.prog w = .ok (.int .i64 k) w := by simp [go_sem, hc]
  simp [results, Tryz.results54, h2, h3, asAddr, hld, hle]
theorem one_zM8 : ∀ v ∈ zM, v.oneCell' = true := by
  intro v hv
  simp only [zM, zs8, List.mem_cons, List.mem_append, List.mem_replicate] at hv
  rcases hv with rfl | rfl | rfl | rfl | rfl | ⟨_, rfl⟩ | rfl | rfl | hv
  all_goals first | rfl | cases hv
/-- what read and Get leave -/
def ReadP (w : World) (r : Except Nat Mg) (e : Ending) (w' : World) : Prop := match r with
  | .ok m => (∃ ub up, e = .returned (.tuple #[m.val ub up, .int .i64 0]) ∧ Rd w' (fun b => w.heap.size ≤ b) ub (bys m.b) ∧ Rd w' (fun b => w.heap.size ≤ b) up (tx m.ps)) ∧ Below w.heap.size w w'
  | .error k => e = .returned (.tuple #[.agg zM.toArray, .int .i64 (k : Int)]) ∧ Below w.heap.size w w'
set_option maxRecDepth 100000 in
set_option maxHeartbeats 2000000 in
theorem read_any (v : Value) (X : List UInt8) (F : Nat → Prop) (w : World) (hv : Rd w F v (bys X)) (hX : X.length ≤ 100000) :
    Calls Tryz.prog 54 #[v] w (ReadP w (rdM X)) := by
  obtain ⟨A, c, rfl⟩ := hv.shape
  have hmf : ∀ (fn : Fn) (first cap : Array Value) (w : World), (Instr.makeFunc fn first cap).run Tryz.prog w = .ok (.func fn first cap) w := fun _ _ _ _ => rfl
  have hal1 : Below w.heap.size w (w.alloc (.cells zM.toArray 47)) := (Below.refl _ _).alloc (Nat.le_refl _) _
  have hz2 := Blk.new' w 47 zM
  have hv := hv.below hal1
  go_enter_defers Tryz.func54, Tryz.ntmps54
  go_wp2_with (refine wp_new 47 rfl rfl zeroM ?_; refine wp_stop ?_)
  obtain ⟨wa, hwa⟩ : ∃ x, x = w.alloc (.cells zM.toArray 47) := ⟨_, rfl⟩
  rw [← hwa] at hz2 hv hal1 ⊢
  clear hwa
  obtain ⟨g2, hg2⟩ : ∃ g, g = w.heap.size := ⟨_, rfl⟩
  rw [← hg2] at hz2 ⊢
  have hgw2 : w.heap.size ≤ g2 := by omega
  clear hg2
  have hal2 : Below wa.heap.size wa (wa.alloc (.cells #[.int .i64 0] 36)) := (Below.refl _ _).alloc (Nat.le_refl _) _
  have he3 := Blk.new' wa 36 [.int .i64 0]
  have hg23 : g2 < wa.heap.size := hz2.lt
  have hv := hv.below hal2
  have hz2 := hz2.below hal2
  have hB := hal1.trans (hal2.mono hal1.size)
  have hsa := hal1.size
  clear hal1 hal2
  refine wp_go ?_
  go_wp2_with (fail)
  obtain ⟨w0, hw0⟩ : ∃ x, x = wa.alloc (.cells #[.int .i64 0] 36) := ⟨_, rfl⟩
  rw [← hw0] at hz2 hv hB he3 ⊢
  obtain ⟨g3, hg3⟩ : ∃ g, g = wa.heap.size := ⟨_, rfl⟩
  rw [← hg3] at he3 hg23 ⊢
  have hgw3 : w.heap.size ≤ g3 := by omega
  clear hg3 hw0
  refine (new_any _ X F _ hv (by omega)).mono ?_
  rintro e w1 ⟨p, rfl, hp, hr1, hB1⟩
  have hwh := whole_any p _ X w1 hr1 (by omega)
  unfold rp at hwh
  have Hwh := hid hwh
  have hg2l := hz2.lt
  have hg3l := he3.lt
  have hz2 := hz2.below hB1
  have he3 := he3.below hB1
  have hB := hB.trans (hB1.mono hB.size)
  have hpw : w.heap.size ≤ p := by omega
  clear hwh hr1 hB1 hv
  cases hrd : rdM X with
  | error k =>
    have HW : Hid (∀ e w', WholeP p w1 (rdM X) e w' → e = .panicked [errP k] ∧ Ch (only p) w1 w') := fun e w' h => by
      rw [hrd] at h; exact h
    have HRD := hid hrd
    clear hrd
    go_wp2_with (fail)
    refine Hwh.out.mono ?_
    rintro e w2 h2
    obtain ⟨rfl, hC2⟩ := HW.out _ _ h2
    have hz2 := hz2.ch hC2 (by intro h; have h' : g2 = p := h; omega)
    have he3 := he3.ch hC2 (by intro h; have h' : g3 = p := h; omega)
    have hB2 := Ch.below_of hB hC2 (fun k hk => by have : k = p := hk; omega) hB.size
    show Leaves _ _ _ _ _ _ _
    refine leaves_cons (f := 81) (args := #[.pointer (some ⟨g3, 0, none⟩)]) (by simp) (by simp [go_sem]) ?_
    refine (catch_p g3 k _ he3).mono ?_
    rintro e u' w3 ⟨rfl, rfl, rfl⟩
    have he4 : Blk (w2.setCell ⟨g3, 0, none⟩ (.int .i64 (k : Int))) g3 36 [.int .i64 (k : Int)] := heap_set_same _ _ _ _ _ _ he3
    have hz4 : Blk (w2.setCell ⟨g3, 0, none⟩ (.int .i64 (k : Int))) g2 47 zM := hz2.keep (Below.heap_setCell _ _ _ _ (by show g2 ≠ g3; omega))
    have hB4 := Ch.below_of hB2 (Ch.set (p := g3) (i := 0) (.int .i64 (k : Int))) (fun k hk => by have : k = g3 := hk; omega) hB2.size
    exact leaves_rd rfl rfl hz4 len_zM he4 (by show ReadP w (rdM X) _ _; rw [HRD.out]; exact ⟨rfl, hB4⟩)
  | ok m =>
    have hmh := rdM_h hrd
    have HW : Hid (∀ e w', WholeP p w1 (rdM X) e w' → (∃ ub up, e = .returned (m.val ub up) ∧ Rd w' (fun b => w1.heap.size ≤ b) ub (bys m.b) ∧ Rd w' (fun b => w1.heap.size ≤ b) up (tx m.ps)) ∧ Ch (only p) w1 w') := fun e w' h => by
      rw [hrd] at h; exact h
    have HRD := hid hrd
    clear hrd
    go_wp2_with (fail)
    refine Hwh.out.mono ?_
    rintro e w2 h2
    obtain ⟨⟨ub, up, rfl, hub, hup⟩, hC2⟩ := HW.out _ _ h2
    clear HW Hwh h2
    obtain ⟨AB, cb, rfl⟩ := hub.shape
    obtain ⟨AP, cpp, rfl, _, _⟩ := hup.slShape
    unfold Mg.val
    have hll := len_mg hmh (.slice AB m.b.length cb) (.slice AP m.ps.length cpp)
    have hl1 : ∀ v ∈ m.l (.slice AB m.b.length cb) (.slice AP m.ps.length cpp), v.oneCell' = true := one_mg
    obtain ⟨l, hl⟩ : ∃ l, l = m.l (.slice AB m.b.length cb) (.slice AP m.ps.length cpp) := ⟨_, rfl⟩
    rw [← hl] at hll hl1 ⊢
    have Hl := hid hl
    have Hll := hid hll
    have Hl1 := hid hl1
    clear hl hll hl1
    have hg2m := hz2.lt
    have hg3m := he3.lt
    have hz2 := hz2.ch hC2 (by intro h; have h' : g2 = p := h; omega)
    have he3 := he3.ch hC2 (by intro h; have h' : g3 = p := h; omega)
    have hB2 := Ch.below_of hB hC2 (fun k hk => by have : k = p := hk; omega) hB.size
    have hsz := hB.size
    clear hC2 hB
    go_wp2_with (refine wp_st 47 (.tmp 2) (.tmp 7) rfl rfl rfl (f := 0) rfl (l := l) rfl hz2 (by rw [len_zM, Hll.out]; omega) (by rw [Hll.out]; exact sizeM) Hl1.out ?_; intro w3 hz3 hG3; refine wp_stop ?_)
    rw [set_all _ _ (by rw [len_zM, Hll.out])] at hz3
    have he4 := he3.keep (hG3.block _ he3.lt (by intro h; injection h with h; omega))
    have hub4 := hub.keep (F' := fun b => w1.heap.size ≤ b) (fun b hb hF => ⟨hF, hG3.block b hb (by intro h; injection h with h; have h' : w1.heap.size ≤ b := hF; omega)⟩)
    have hup4 := hup.keep (F' := fun b => w1.heap.size ≤ b) (fun b hb hF => ⟨hF, hG3.block b hb (by intro h; injection h with h; have h' : w1.heap.size ≤ b := hF; omega)⟩)
    have hB4 := hB2.grown hG3 hB2.size (fun k hk => by injection hk with hk; omega)
    clear hz2 he3 hub hup hB2 hG3
    refine wp_go ?_
    go_wp2_with (refine wp_st1 36 (.tmp 3) (.const (.int .i64 0)) rfl rfl rfl (f := 0) rfl (v := .int .i64 0) rfl he4 (by simp) sizeE8 rfl rfl ?_; intro w5 he5 hG5; refine wp_stop ?_)
    have he5 : Blk w5 g3 36 [.int .i64 0] := he5
    have hz5 := hz3.keep (hG5.block _ hz3.lt (by intro h; injection h with h; omega))
    have hub5 := hub4.keep (F' := fun b => w.heap.size ≤ b) (fun b hb hF => ⟨by have h' : w1.heap.size ≤ b := hF; omega, hG5.block b hb (by intro h; injection h with h; have h' : w1.heap.size ≤ b := hF; omega)⟩)
    have hup5 := hup4.keep (F' := fun b => w.heap.size ≤ b) (fun b hb hF => ⟨by have h' : w1.heap.size ≤ b := hF; omega, hG5.block b hb (by intro h; injection h with h; have h' : w1.heap.size ≤ b := hF; omega)⟩)
    have hB5 := hB4.grown hG5 hB4.size (fun k hk => by injection hk with hk; omega)
    refine wp_go ?_
    go_wp2
    refine leaves_cons (f := 81) (args := #[.pointer (some ⟨g3, 0, none⟩)]) (by simp) (by simp [go_sem]) ?_
    refine (catch_r g3 _).mono ?_
    rintro e u' w6 ⟨rfl, rfl, rfl⟩
    exact leaves_rd rfl rfl hz5 Hll.out he5 (by show ReadP w (rdM X) _ _; rw [HRD.out]; exact ⟨⟨_, _, by unfold Mg.val; rw [← Hl.out], hub5, hup5⟩, hB5⟩)
set_option maxRecDepth 100000 in
set_option maxHeartbeats 2000000 in
/-- Get over any bytes that are not too many -/
theorem get8g_any (v : Value) (X : List UInt8) (F : Nat → Prop) (w : World) (hv : Rd w F v (bys X)) (hX : X.length ≤ 65504) :
    Calls Tryz.prog 28 #[v] w (ReadP w (rdM X)) := by
  obtain ⟨A, c, rfl⟩ := hv.shape
  have hXI : ¬ (65504 : Int) < (X.length : Int) := by omega
  have hal1 : Below w.heap.size w (w.alloc (.cells zM.toArray 47)) := (Below.refl _ _).alloc (Nat.le_refl _) _
  have hz2 := Blk.new' w 47 zM
  have hv := hv.below hal1
  go_enter Tryz.func28, Tryz.ntmps28
  go_wp2_with (refine wp_new 47 rfl rfl zeroM ?_; refine wp_stop ?_)
  obtain ⟨w0, hw0⟩ : ∃ x, x = w.alloc (.cells zM.toArray 47) := ⟨_, rfl⟩
  rw [← hw0] at hz2 hv hal1 ⊢
  clear hw0
  obtain ⟨g2, hg2⟩ : ∃ g, g = w.heap.size := ⟨_, rfl⟩
  rw [← hg2] at hz2 ⊢
  have hgw2 : w.heap.size ≤ g2 := by omega
  clear hg2
  have hrd := read_any _ X F w0 hv (by omega)
  have Hrd := hid hrd
  clear hrd hv
  refine wp_go ?_
  cases hrm : rdM X with
  | error k =>
    have HW : Hid (∀ e w', ReadP w0 (rdM X) e w' → e = .returned (.tuple #[.agg zM.toArray, .int .i64 (k : Int)]) ∧ Below w0.heap.size w0 w') := fun e w' h => by
      rw [hrm] at h; exact h
    have HRD := hid hrm
    clear hrm
    go_wp2_with (fail)
    refine Hrd.out.mono ?_
    rintro e w2 h2
    obtain ⟨rfl, hB2⟩ := HW.out _ _ h2
    have hz2 := hz2.below hB2
    have hB2 := hal1.trans (hB2.mono hal1.size)
    clear h2 HW Hrd
    go_wp2_with (refine wp_st 47 (.tmp 2) (.tmp 10) rfl rfl rfl (f := 0) rfl (l := zM) rfl hz2 (by rw [len_zM]; omega) (by rw [len_zM]; exact sizeM) one_zM8 ?_; intro w3 hz3 hG3; refine wp_stop ?_)
    rw [set_all _ _ rfl] at hz3
    refine wp_go ?_
    go_wp2
    refine ret_cell1 rfl rfl rfl hz3.whole Tryz.underlying47 rfl (by rw [len_zM]; exact sizeM) rfl ?_
    show ReadP w (rdM X) _ _
    rw [HRD.out]
    exact ⟨rfl, hB2.grown hG3 hB2.size (fun k hk => by injection hk with hk; omega)⟩
  | ok m =>
    have hmh := rdM_h hrm
    have HW : Hid (∀ e w', ReadP w0 (rdM X) e w' → (∃ ub up, e = .returned (.tuple #[m.val ub up, .int .i64 0]) ∧ Rd w' (fun b => w0.heap.size ≤ b) ub (bys m.b) ∧ Rd w' (fun b => w0.heap.size ≤ b) up (tx m.ps)) ∧ Below w0.heap.size w0 w') := fun e w' h => by
      rw [hrm] at h; exact h
    have HRD := hid hrm
    clear hrm
    go_wp2_with (fail)
    refine Hrd.out.mono ?_
    rintro e w2 h2
    obtain ⟨⟨ub, up, rfl, hub, hup⟩, hB2⟩ := HW.out _ _ h2
    obtain ⟨AB, cb, rfl⟩ := hub.shape
    obtain ⟨AP, cpp, rfl, _, _⟩ := hup.slShape
    unfold Mg.val
    have hll := len_mg hmh (.slice AB m.b.length cb) (.slice AP m.ps.length cpp)
    have hl1 : ∀ v ∈ m.l (.slice AB m.b.length cb) (.slice AP m.ps.length cpp), v.oneCell' = true := one_mg
    obtain ⟨l, hl⟩ : ∃ l, l = m.l (.slice AB m.b.length cb) (.slice AP m.ps.length cpp) := ⟨_, rfl⟩
    rw [← hl] at hll hl1 ⊢
    have Hl := hid hl
    have Hll := hid hll
    have Hl1 := hid hl1
    have hg2l := hz2.lt
    have hs0 := hal1.size
    have hz2 := hz2.below hB2
    have hB2 := hal1.trans (hB2.mono hal1.size)
    clear h2 HW Hrd hl hll hl1
    go_wp2_with (refine wp_st 47 (.tmp 2) (.tmp 10) rfl rfl rfl (f := 0) rfl (l := l) rfl hz2 (by rw [len_zM, Hll.out]; omega) (by rw [Hll.out]; exact sizeM) Hl1.out ?_; intro w3 hz3 hG3; refine wp_stop ?_)
    rw [set_all _ _ (by rw [len_zM, Hll.out])] at hz3
    have hks : ∀ b, b < w2.heap.size → w0.heap.size ≤ b → w.heap.size ≤ b ∧ w3.heap[b]? = w2.heap[b]? := fun b hb hF => ⟨by omega, hG3.block b hb (by intro h; injection h with h; omega)⟩
    have hub3 := hub.keep (F' := fun b => w.heap.size ≤ b) hks
    have hup3 := hup.keep (F' := fun b => w.heap.size ≤ b) hks
    refine wp_go ?_
    go_wp2
    refine ret_cell1 rfl rfl rfl hz3.whole Tryz.underlying47 rfl (by rw [Hll.out]; exact sizeM) rfl ?_
    show ReadP w (rdM X) _ _
    rw [HRD.out]
    exact ⟨⟨_, _, by unfold Mg.val; rw [← Hl.out]; rfl, hub3, hup3⟩, hB2.grown hG3 hB2.size (fun k hk => by injection hk with hk; omega)⟩
/-- Get over too many bytes -/
theorem get8f_any (v : Value) (X : List UInt8) (F : Nat → Prop) (w : World) (hv : Rd w F v (bys X)) (hX : 65504 < X.length) :
    Calls Tryz.prog 28 #[v] w (ReadP w (.error 4)) := by
  obtain ⟨A, c, rfl⟩ := hv.shape
  have hXI : (65504 : Int) < (X.length : Int) := by omega
  have hal1 : Below w.heap.size w (w.alloc (.cells zM.toArray 47)) := (Below.refl _ _).alloc (Nat.le_refl _) _
  have hz2 := Blk.new' w 47 zM
  have hbl : ∀ W : World, (Instr.build 47 #[]).run Tryz.prog W = .ok (.agg zM.toArray) W := fun _ => by kernel_rfl
  go_enter Tryz.func28, Tryz.ntmps28
  go_wp2_with (refine wp_new 47 rfl rfl zeroM ?_; refine wp_stop ?_)
  obtain ⟨w0, hw0⟩ : ∃ x, x = w.alloc (.cells zM.toArray 47) := ⟨_, rfl⟩
  rw [← hw0] at hz2 hal1 ⊢
  clear hw0
  obtain ⟨g2, hg2⟩ : ∃ g, g = w.heap.size := ⟨_, rfl⟩
  rw [← hg2] at hz2 ⊢
  have hgw2 : w.heap.size ≤ g2 := by omega
  clear hg2
  refine wp_go ?_
  go_wp2_with (first | refine wp_bld 47 [] rfl rfl [] rfl hbl ?_ | refine wp_st 47 (.tmp 2) (.tmp 7) rfl rfl rfl (f := 0) rfl (l := zM) rfl hz2 (by rw [len_zM]; omega) (by rw [len_zM]; exact sizeM) one_zM8 ?_; intro w3 hz3 hG3; refine wp_stop ?_)
  rw [set_all _ _ rfl] at hz3
  refine wp_go ?_
  go_wp2
  refine ret_cell1 rfl rfl rfl hz3.whole Tryz.underlying47 rfl (by rw [len_zM]; exact sizeM) rfl ?_
  exact ⟨rfl, hal1.grown hG3 hal1.size (fun k hk => by injection hk with hk; omega)⟩
end Go.Proofs.YtnhhbbjkeekneaaGreatDoor
