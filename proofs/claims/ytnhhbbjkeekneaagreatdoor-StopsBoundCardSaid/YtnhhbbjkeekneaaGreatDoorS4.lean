/- S4: contracts of the mixer's put and end. -/
import Derived.Test.YtnhhbbjkeekneaaGreatDoorS3
import Derived.Test.YtnhhbbjkeekneaaGreatDoorSP
import Derived.Deep.RegionHeld3
namespace Go.Proofs.YtnhhbbjkeekneaaGreatDoor
open Go.RowKit Go.V

/-- the cells of a mixer -/
def mixC (s : S8) (blk : List UInt8) (n : Nat) : List Value := wvs (s8l s) ++ (bvs blk ++ [.int .u64 (n : Int)])
theorem wvs8 (s : S8) : (wvs (s8l s)).length = 8 := by simp [len_wvs, s8l]
theorem mixC_len (s : S8) (blk : List UInt8) (n : Nat) (h : blk.length = 64) : (mixC s blk n).length = 73 := by simp [mixC, len_wvs, len_bvs, h, s8l]
theorem mixC_size (s : S8) (blk : List UInt8) (n : Nat) (h : blk.length = 64) : (mixC s blk n)[72]? = some (.int .u64 (n : Int)) := by
  unfold mixC
  rw [List.getElem?_append_right (by rw [wvs8]; omega), wvs8, List.getElem?_append_right (by rw [len_bvs]; omega), len_bvs, h]
  rfl
theorem mixC_st (s : S8) (blk : List UInt8) (n : Nat) : ∀ j v, (wvs (s8l s))[j]? = some v → (mixC s blk n)[0 + j]? = some v := by
  intro j v h
  have hj := (List.getElem?_eq_some_iff.1 h).1
  unfold mixC
  rw [Nat.zero_add, List.getElem?_append_left hj]
  exact h
theorem mixC_blk (s : S8) (blk : List UInt8) (n : Nat) : ∀ j v, (bvs blk)[j]? = some v → (mixC s blk n)[8 + j]? = some v := by
  intro j v h
  have hj := (List.getElem?_eq_some_iff.1 h).1
  unfold mixC
  rw [List.getElem?_append_right (by rw [wvs8]; omega), wvs8, show 8 + j - 8 = j from by omega, List.getElem?_append_left hj]
  exact h
theorem mixC_copy (s : S8) (blk x : List UInt8) (n m : Nat) (hb : blk.length = 64) (h : m + x.length ≤ 64) :
    (mixC s blk n).take (8 + m) ++ bvs x ++ (mixC s blk n).drop (8 + m + x.length) = mixC s (blk.take m ++ x ++ blk.drop (m + x.length)) n := by
  unfold mixC
  rw [List.take_append, wvs8, List.take_of_length_le (by rw [wvs8]; omega), show 8 + m - 8 = m from by omega, List.take_append_of_le_length (by rw [len_bvs]; omega),
    List.drop_append, wvs8, List.drop_of_length_le (by rw [wvs8]; omega), show 8 + m + x.length - 8 = m + x.length from by omega, List.drop_append_of_le_length (by rw [len_bvs]; omega)]
  simp [bvs]
theorem mixC_size_set (s : S8) (blk : List UInt8) (n k : Nat) (hb : blk.length = 64) : (mixC s blk n).set 72 (.int .u64 (k : Int)) = mixC s blk k := by
  unfold mixC
  rw [List.set_append_right _ _ (by rw [wvs8]; omega), wvs8, List.set_append_right _ _ (by rw [len_bvs]; omega), len_bvs, hb]
  rfl
theorem mixC_st_set (s t : S8) (blk : List UInt8) (n : Nat) : (mixC s blk n).take 0 ++ wvs (s8l t) ++ (mixC s blk n).drop (0 + (wvs (s8l t)).length) = mixC t blk n := by
  unfold mixC
  rw [wvs8, List.drop_append, wvs8, List.drop_of_length_le (by rw [wvs8]; omega)]
  simp

/-- block g is a mixer behind the bytes p -/
def MixR (w : World) (g : Nat) (p : List UInt8) : Prop := ∃ blk s, MS p blk s ∧ Blk w g 183 (mixC s blk p.length)
theorem MixR.keep {w w' : World} {g : Nat} {p : List UInt8} (h : MixR w g p) (hc : w'.heap[g]? = w.heap[g]?) : MixR w' g p := by
  obtain ⟨blk, s, h1, h2⟩ := h
  exact ⟨blk, s, h1, h2.keep hc⟩
def lenV : Value → Nat
  | .slice _ n _ => n
  | _ => 0

theorem size39 : (Tryz.prog.info? 128).map (·.size) = some 1 := by kernel_rfl
/-- 'copy(d, s)', d a piece of a block that is known whole -/
theorem wp_cp {P : Program} {w : World} {ops : Array Oper} {rest : List Oper} {o : Oper} {a : Act} {Q : Exit → Act → World → Prop} (d s : Operand) {t e : TypeId} {z : Value} {by_ : Nat} (ht : SlT P t e z by_) (hgd : o.guard = none)
    (ho : o.op = .call { callee := .builtin .copy, args := #[d, s], argTypes := #[t, t] })
    {g f L cap : Nat} (hd : a.eval d = .slice (some ⟨g, f, none⟩) L cap) {A : Option Addr} {m c : Nat} (hs : a.eval s = .slice A m c)
    {u : TypeId} {cs : List Value} (hg : Blk w g u cs) {news : List Value} (hsrc : Src w A m news) (h1 : ∀ u ∈ news, u.oneCell' = true) (hpos : 0 < m) (k : Nat) (hk : k = min m L) (hfit : f + k ≤ cs.length)
    (h : ∀ w', Blk w' g u (cs.take f ++ news.take k ++ cs.drop (f + k)) → w.grownBy w' (some g) → wpList P ops Q rest (a.put o.dst (goInt ((k : Nat) : Int))) w') :
    wpList P ops Q (o :: rest) a w := by
  obtain ⟨i, hi, _, hsz, _⟩ := ht.inf
  have hz : (P.info? e).map (·.size) = some 1 := by rw [hi]; simp [hsz]
  cases A with
  | none =>
    obtain ⟨rfl, rfl⟩ := hsrc.none0
    omega
  | some ad =>
    have hl := hsrc.1
    have hln : (news.take k).length = k := by rw [List.length_take]; omega
    refine wpList_plain hgd fun K hK => ?_
    have hr := run_copy_row (P := P) w t t o.type e g f L cap ad m c cs.toArray u (news.take k) ht.sl hz hg (hln.trans hk)
      (fun j v hv => hsrc.at j v (by
        have hj := (List.getElem?_eq_some_iff.1 hv).1
        rw [List.getElem?_take, if_pos (by omega)] at hv
        exact hv)) (by rw [hln]; simpa using hfit) (fun v hv => h1 v (List.mem_of_mem_take hv))
    unfold Oper.wp execOp
    simp only [ho, resolve, invoke, builtin, Sem.run_bind, Sem.run_pure, Result.andThen_ok, List.map_toArray, List.map_cons, List.map_nil, hd, hs, hr]
    rw [hln]
    have := h _ (hg.row _) (grown_setRow w g _)
    exact hK _ _ this

/-- what holds while a mixer goes through its block -/
def PS (g : Nat) (s : S8) (blk : List UInt8) (n : Nat) (w0 w' : World) : Prop := Blk w' g 183 (mixC s blk n) ∧ KS w' ∧ Ch (fun b => b = g) w0 w'
def PSx (g : Nat) (s : S8) (blk : List UInt8) (n : Nat) (w0 w' : World) : Prop :=
  w'.cell? ⟨g, 0, none⟩ = some (.int .u32 (s.a.toNat : Int)) ∧ w'.cell? ⟨g, 1, none⟩ = some (.int .u32 (s.b.toNat : Int)) ∧ w'.cell? ⟨g, 2, none⟩ = some (.int .u32 (s.c.toNat : Int)) ∧ w'.cell? ⟨g, 3, none⟩ = some (.int .u32 (s.d.toNat : Int)) ∧
  w'.cell? ⟨g, 4, none⟩ = some (.int .u32 (s.e.toNat : Int)) ∧ w'.cell? ⟨g, 5, none⟩ = some (.int .u32 (s.f.toNat : Int)) ∧ w'.cell? ⟨g, 6, none⟩ = some (.int .u32 (s.g.toNat : Int)) ∧ w'.cell? ⟨g, 7, none⟩ = some (.int .u32 (s.h.toNat : Int)) ∧
  w'.frozen? ⟨g, 0, none⟩ = false ∧ w'.frozen? ⟨g, 1, none⟩ = false ∧ w'.frozen? ⟨g, 2, none⟩ = false ∧ w'.frozen? ⟨g, 3, none⟩ = false ∧
  w'.frozen? ⟨g, 4, none⟩ = false ∧ w'.frozen? ⟨g, 5, none⟩ = false ∧ w'.frozen? ⟨g, 6, none⟩ = false ∧ w'.frozen? ⟨g, 7, none⟩ = false ∧
  w'.rangeAt g 8 (bvs blk) ∧ PS g s blk n w0 w'
theorem PS.x {g : Nat} {s : S8} {blk : List UInt8} {n : Nat} {w0 w' : World} (h : PS g s blk n w0 w') : PSx g s blk n w0 w' := by
  have hb := h.1
  exact ⟨hb.cellAt 0 _ rfl, hb.cellAt 1 _ rfl, hb.cellAt 2 _ rfl, hb.cellAt 3 _ rfl, hb.cellAt 4 _ rfl, hb.cellAt 5 _ rfl, hb.cellAt 6 _ rfl, hb.cellAt 7 _ rfl, hb.frz 0, hb.frz 1, hb.frz 2, hb.frz 3, hb.frz 4, hb.frz 5, hb.frz 6, hb.frz 7, hb.range 8 _ (mixC_blk s blk n), h⟩
theorem PS.below {g : Nat} {s : S8} {blk : List UInt8} {n : Nat} {w0 w w' : World} (h : PS g s blk n w0 w) (hB : Below w.heap.size w w') : PS g s blk n w0 w' := ⟨h.1.below hB, h.2.1.below hB, h.2.2.belowR hB⟩
theorem PS.belowR {g : Nat} {s : S8} {blk : List UInt8} {n : Nat} {w0 w w' : World} (hB : Below w.heap.size w w') (h : PS g s blk n w0 w) : PSx g s blk n w0 w' := (h.below hB).x
theorem PS.ks {g : Nat} {s : S8} {blk : List UInt8} {n : Nat} {w0 w : World} (h : PS g s blk n w0 w) : KS w := h.2.1
theorem PS.blk {g : Nat} {s : S8} {blk : List UInt8} {n : Nat} {w0 w : World} (h : PS g s blk n w0 w) : Blk w g 183 (mixC s blk n) := h.1
theorem mixed_b (s t : S8) (b : List UInt8) (w : World) (hK : KS w) (ht : t = blockF s b) :
    Calls Tryz.prog 144 #[.agg #[.int .u32 (s.a.toNat : Int), .int .u32 (s.b.toNat : Int), .int .u32 (s.c.toNat : Int), .int .u32 (s.d.toNat : Int), .int .u32 (s.e.toNat : Int), .int .u32 (s.f.toNat : Int), .int .u32 (s.g.toNat : Int), .int .u32 (s.h.toNat : Int)], .agg (wvs (wl b 64)).toArray] w
      fun e w' => e = .returned (.agg #[.int .u32 (t.a.toNat : Int), .int .u32 (t.b.toNat : Int), .int .u32 (t.c.toNat : Int), .int .u32 (t.d.toNat : Int), .int .u32 (t.e.toNat : Int), .int .u32 (t.f.toNat : Int), .int .u32 (t.g.toNat : Int), .int .u32 (t.h.toNat : Int)]) ∧ Below w.heap.size w w' := by
  subst ht
  exact mixed_any s (wl b 64) w hK (wl_len _ _)
theorem PS.drew {g : Nat} {s : S8} {blk : List UInt8} {n : Nat} {w0 w : World} (h : PS g s blk n w0 w) : PS g s blk n w0 w.drew := ⟨h.1.drew, h.2.1.drew, h.2.2.drew⟩
set_option maxRecDepth 100000 in
set_option maxHeartbeats 2000000 in
theorem put_any (g : Nat) (p bs : List UInt8) (v : Value) (F : Nat → Prop) (w : World) (hK : KS w) (hM : MixR w g p) (ht : Rd w F v (bys bs)) (hF : ¬ F g) (hg : g ≠ 0) (hn : p.length + bs.length < 1152921504606846976) :
    Calls Tryz.prog 124 #[.pointer (some ⟨g, 0, none⟩), v] w fun e w' => e = .returned (.tuple #[]) ∧ MixR w' g (p ++ bs) ∧ Ch (fun b => b = g) w w' := by
  go_enter Tryz.func124, Tryz.ntmps124
  go_wp2
  go_loopw [1] (fun tv wr => ∃ k : Nat, k ≤ bs.length ∧ Rd wr F tv (bys (bs.drop k)) ∧ MixR wr g (p ++ bs.take k) ∧ Ch (fun b => b = g) w wr) (fun tv _ => lenV tv)
  case atStart => exact ⟨0, by omega, by simpa using ht, by simpa using hM, Ch.refl _ _⟩
  case round =>
    obtain ⟨k, hk, hr, ⟨blk, s, hms, hblk⟩, hC⟩ := hrel
    obtain ⟨A, c, rfl⟩ := hr.shape
    obtain ⟨r, hrl⟩ : ∃ r, (bs.drop k).length = r := ⟨_, rfl⟩
    rw [hrl] at hr ⊢
    have hrk : r + k = bs.length := by rw [← hrl, List.length_drop]; omega
    have Hrl := hid hrl
    clear hrl
    by_cases hlt : 0 < r
    · have hql : (p ++ bs.take k).length = p.length + k := by rw [List.length_append, List.length_take]; omega
      obtain ⟨q, hq⟩ : ∃ q, q = p ++ bs.take k := ⟨_, rfl⟩
      rw [← hq] at hms hblk hql
      have HQ := hid hq
      have hq60 : q.length + r < 1152921504606846976 := by omega
      clear hq hql
      obtain ⟨m, hm⟩ : ∃ m, m = q.length % 64 := ⟨_, rfl⟩
      have hm64 : m < 64 := by omega
      have hcs := hblk.cellAt 72 _ (mixC_size s blk _ hms.1)
      have hs1 := fun W => run_sla_l Tryz.underlying135 size8 g 8 m .u64 (m : Int) rfl hm64 W
      have htm : ((q.length : Int)).tmod 64 = (m : Int) := by rw [Int.tmod_eq_emod_of_nonneg (by omega)]; omega
      have Hm := hid hm
      clear hm
      go_wp2
      refine wp_region_tail 10 (by kernel_rfl) (by kernel_rfl) ?_
      simp only [List.take_succ_cons, List.take_zero, List.drop_succ_cons, List.drop_zero]
      repeat still_step
      refine wpStill_nil ?_
      clear hs1 htm hcs
      have hblk' := hblk.drew
      have hsrc : Src wr.drew A r (bvs (bs.drop k)) := by
        have := hr.drew.src
        rw [Hrl.out] at this
        exact this
      obtain ⟨n, hn'⟩ : ∃ n, n = min r (64 - m) := ⟨_, rfl⟩
      have hn1 : 0 < n := by omega
      have hn2 : n ≤ r := by omega
      have hn3 : m + n ≤ 64 := by omega
      have Hn := hid hn'
      clear hn'
      obtain ⟨x, hx⟩ : ∃ x, x = (bs.drop k).take n := ⟨_, rfl⟩
      have hxl : Hid (x.length = n) := by show _ = _; rw [hx, List.length_take, Hrl.out]; omega
      have hxb : Hid ((bvs (bs.drop k)).take n = bvs x) := by show _ = _; rw [hx]; simp [bvs]
      have Hx := hid hx
      clear hx
      refine wp_cp (.tmp 16) (.tmp 17) slB rfl rfl rfl rfl hblk' hsrc (oneCell_bvs _) hlt n Hn.out (by rw [mixC_len _ _ _ hms.1]; omega) ?_
      intro w2 hb2 hG2
      rw [hxb.out] at hb2
      have hmc := mixC_copy s blk x q.length m hms.1 (by rw [hxl.out]; exact hn3)
      rw [hxl.out] at hmc
      rw [hmc] at hb2
      clear hmc
      have hC2 : Ch (fun b => b = g) wr w2 := ((Ch.refl (fun b => b = g) wr).drew).grow hG2 (by intro k hk; injection hk with hk; exact .inl hk.symm)
      have hr2 := hr.ch hC2 (fun b hb e => hF (e ▸ hb))
      obtain ⟨A', m', c', hsl, hcut⟩ := hr2.cut_l slB (n : Int) (by omega) (by rw [Hrl.out]; omega)
      have hm' := hid hcut.cap.1
      have Hcut := hid hcut
      clear hcut
      have hb64 : (blk.take m ++ x ++ blk.drop (m + n)).length = 64 := by
        rw [List.length_append, List.length_append, List.length_take, List.length_drop, hxl.out, hms.1]; omega
      obtain ⟨blk2, hblk2⟩ : ∃ b, b = blk.take m ++ x ++ blk.drop (m + n) := ⟨_, rfl⟩
      rw [← hblk2] at hb2 hb64
      have Hb2 := hid hblk2
      have H64 := hid hb64
      clear hblk2 hb64
      have hcz := hb2.cellAt 72 _ (mixC_size s blk2 _ H64.out)
      have hqx : Hid (p ++ bs.take (k + n) = q ++ x) := by show _ = _; rw [List.take_add, ← List.append_assoc, ← HQ.out, ← Hx.out]
      have hdr : Hid ((bs.drop k).drop ((n : Int).toNat) = bs.drop (k + n)) := by show _ = _; rw [List.drop_drop]; rfl
      have hmr : Hid (m' = r - n) := by show _ = _; rw [hm'.out, List.length_drop, Hrl.out]; rfl
      have hqn : Hid ((q ++ x).length = q.length + n) := by show _ = _; rw [List.length_append, hxl.out]
      by_cases hful : (q.length + n) % 64 = 0
      · have hbt : (((q.length : Int) + (n : Int)) % 64 == 0) = true := by rw [beq_iff_eq]; omega
        have hmn : m + n = 64 := by have := Hm.out; omega
        clear hful
        go_wp2_with (refine wp_st1 128 (.tmp 30) (.tmp 28) rfl rfl rfl (f := 72) rfl (v := .int .u64 ((q.length + n : Nat) : Int)) (congrArg (Value.int .u64) (by omega)) hb2 (by rw [mixC_len _ _ _ H64.out]; omega) size39 rfl rfl ?_; intro w3 hb3 hG3; rw [mixC_size_set _ _ _ _ H64.out] at hb3; have hcz3 := hb3.cellAt 72 _ (mixC_size s blk2 _ H64.out); clear hcz)
        have hC3 : Ch (fun b => b = g) w w3 := hC.trans (hC2.grow hG3 (by intro k hk; injection hk with hk; exact .inl hk.symm))
        have hr3 := Hcut.out.keep (F' := F) (w' := w3) (fun b hb hF' => ⟨hF', hG3.block b hb (by intro e; injection e with e; exact hF (e ▸ hF'))⟩)
        rw [hdr.out] at hr3
        have hP3 : PS g s blk2 (q.length + n) w3 w3 := ⟨hb3, hK.keep (hC3.block _ hK.lt (fun e => hg e.symm)), Ch.refl _ _⟩
        clear hcz3
        obtain ⟨t, ht'⟩ : ∃ t, t = blockF s blk2 := ⟨_, rfl⟩
        have Ht := hid ht'
        clear ht'
        have hMS : MS (q ++ x) blk2 t := by
          have h1 := hms.full x (by rw [hxl.out, ← Hm.out]; exact hmn)
          have h2 : blk2 = blk.take (q.length % 64) ++ x := by
            rw [Hb2.out, hmn, List.drop_of_length_le (by rw [hms.1]; omega), List.append_nil, ← Hm.out]
          rw [Ht.out, h2]
          exact h1
        have HMS := hid hMS
        clear hMS
        refine wp_region_noPanic ?_
        refine wp_region_any (by kernel_rfl) ?_
        change wpAny _ _ _ _ _ _ _ (World.drew _)
        have hPd := hP3.drew
        obtain ⟨w4, hw4⟩ : ∃ w4, w4 = w3.drew := ⟨_, rfl⟩
        rw [← hw4] at hPd ⊢
        clear hw4
        refine wpAny_take (i := 0) (oi := ⟨some 37, .move (.tmp 0), _, _, _, none⟩) (v := ?_) rfl (by kernel_rfl) (by kernel_rfl) (by kernel_rfl) (fun _ _ _ h => h) (Or.inl ⟨by rfl, ?_⟩) ?_
        rotate_left
        · intro w; go_simp; try with_reducible rfl
        simp only [Act.put, List.setIfInBounds_toArray, List.set_cons_zero, List.set_cons_succ]
        refine wpAny_take (i := 1) (oi := ⟨some 38, .move (.tmp 0), _, _, _, none⟩) (v := ?_) rfl (by kernel_rfl) (by kernel_rfl) (by kernel_rfl) (fun _ _ _ h => h) (Or.inl ⟨by rfl, ?_⟩) ?_
        rotate_left
        · intro w; go_simp; try with_reducible rfl
        simp only [Act.put, List.setIfInBounds_toArray, List.set_cons_zero, List.set_cons_succ]
        refine wpAny_take (i := 2) (oi := ⟨some 39, .nilCheck (.tmp 38), _, _, _, none⟩) (v := ?_) rfl (by kernel_rfl) (by kernel_rfl) (by kernel_rfl) (fun _ _ _ h => h) (Or.inl ⟨by rfl, ?_⟩) ?_
        rotate_left
        · intro w; go_simp; try with_reducible rfl
        simp only [Act.put, List.setIfInBounds_toArray, List.set_cons_zero, List.set_cons_succ]
        refine wpAny_take (i := 3) (oi := ⟨some 40, .fieldAddr 183 (.tmp 39) 0, _, _, _, none⟩) (v := ?_) rfl (by kernel_rfl) (by kernel_rfl) (by kernel_rfl) (fun _ _ _ h => h) (Or.inl ⟨by rfl, ?_⟩) ?_
        rotate_left
        · intro w; go_simp; try with_reducible rfl
        simp only [Act.put, List.setIfInBounds_toArray, List.set_cons_zero, List.set_cons_succ]
        refine wpAny_take (i := 5) (oi := ⟨some 42, .move (.tmp 0), _, _, _, none⟩) (v := ?_) rfl (by kernel_rfl) (by kernel_rfl) (by kernel_rfl) (fun _ _ _ h => h) (Or.inl ⟨by rfl, ?_⟩) ?_
        rotate_left
        · intro w; go_simp; try with_reducible rfl
        simp only [Act.put, List.setIfInBounds_toArray, List.set_cons_zero, List.set_cons_succ]
        refine wpAny_take (i := 6) (oi := ⟨some 43, .nilCheck (.tmp 42), _, _, _, none⟩) (v := ?_) rfl (by kernel_rfl) (by kernel_rfl) (by kernel_rfl) (fun _ _ _ h => h) (Or.inl ⟨by rfl, ?_⟩) ?_
        rotate_left
        · intro w; go_simp; try with_reducible rfl
        simp only [Act.put, List.setIfInBounds_toArray, List.set_cons_zero, List.set_cons_succ]
        refine wpAny_take (i := 7) (oi := ⟨some 44, .fieldAddr 183 (.tmp 43) 1, _, _, _, none⟩) (v := ?_) rfl (by kernel_rfl) (by kernel_rfl) (by kernel_rfl) (fun _ _ _ h => h) (Or.inl ⟨by rfl, ?_⟩) ?_
        rotate_left
        · intro w; go_simp; try with_reducible rfl
        simp only [Act.put, List.setIfInBounds_toArray, List.set_cons_zero, List.set_cons_succ]
        refine wpAny_ready (rs := [4, 8]) (by kernel_rfl) (by simp) ?_
        refine AllReady.cons (o := ⟨some 41, .load 181 (.tmp 40), _, _, _, none⟩) rfl (fun K hK => ?_) ?_
        · refine step_ld 181 (.tmp 40) (by rfl) (by rfl) (f := 0) (by rfl) (hPd.blk.range 0 _ (mixC_st s blk2 _)) Tryz.underlying181 rfl size46 ?_
          refine hK _ _ ?_
          clear hK K
          simp only [Act.put, List.setIfInBounds_toArray, List.set_cons_zero, List.set_cons_succ]
          refine wpAny_ready (rs := [8]) (by kernel_rfl) (by simp) ?_
          refine AllReady.cons (o := ⟨some 45, .load 135 (.tmp 44), _, _, _, none⟩) rfl (fun K hK => ?_) ?_
          · refine step_ld 135 (.tmp 44) (by rfl) (by rfl) (f := 8) (by rfl) (hPd.blk.range 8 _ (mixC_blk s blk2 _)) Tryz.underlying135 rfl (by rw [len_bvs, H64.out]; exact size47) ?_
            refine hK _ _ ?_
            clear hK K
            simp only [Act.put, List.setIfInBounds_toArray, List.set_cons_zero, List.set_cons_succ]
            refine wpAny_ready (rs := [9]) (by kernel_rfl) (by simp) ?_
            refine AllReady.cons (o := ⟨some 46, _, _, _, _, none⟩) rfl (fun K hK => ?_) ?_
            · go_simp
              refine (words_any blk2 _ H64.out).mono ?_
              rintro e' w5 ⟨rfl, hB5⟩
              have hPd5 := hPd.below hB5
              refine hK _ _ ?_
              clear hK K
              try simp only [Act.put, List.setIfInBounds_toArray, List.set_cons_zero, List.set_cons_succ]
              refine wpAny_ready (rs := [10]) (by kernel_rfl) (by simp) ?_
              refine AllReady.cons (o := ⟨some 47, _, _, _, _, none⟩) rfl (fun K hK => ?_) ?_
              · go_simp
                refine (mixed_b s t blk2 _ hPd5.ks Ht.out).mono ?_
                rintro e' w6 ⟨rfl, hB6⟩
                have hPd56 := hPd5.below hB6
                refine hK _ _ ?_
                clear hK K
                try simp only [Act.put, List.setIfInBounds_toArray, List.set_cons_zero, List.set_cons_succ]
                refine wpAny_take (i := 11) (oi := ⟨some 48, .nilCheck (.tmp 37), _, _, _, none⟩) (v := ?_) rfl (by kernel_rfl) (by kernel_rfl) (by kernel_rfl) (fun _ _ _ h => h) (Or.inl ⟨by rfl, ?_⟩) ?_
                rotate_left
                · intro w; go_simp; try with_reducible rfl
                simp only [Act.put, List.setIfInBounds_toArray, List.set_cons_zero, List.set_cons_succ]
                refine wpAny_take (i := 12) (oi := ⟨some 49, .fieldAddr 183 (.tmp 48) 0, _, _, _, none⟩) (v := ?_) rfl (by kernel_rfl) (by kernel_rfl) (by kernel_rfl) (fun _ _ _ h => h) (Or.inl ⟨by rfl, ?_⟩) ?_
                rotate_left
                · intro w; go_simp; try with_reducible rfl
                simp only [Act.put, List.setIfInBounds_toArray, List.set_cons_zero, List.set_cons_succ]
                refine wpAny_ready (rs := [13]) (by kernel_rfl) (by simp) ?_
                refine AllReady.cons (o := ⟨none, .store 181 (.tmp 49) (.tmp 47), _, _, _, none⟩) rfl (fun K hK => ?_) ?_
                · refine step_st 181 (.tmp 49) (.tmp 47) (by rfl) (by rfl) (by rfl) (f := 0) (by rfl) (l := wvs (s8l t)) (by rfl) hPd56.blk (by rw [wvs8, mixC_len _ _ _ H64.out]; omega) size46 (oneCell_wvs _) ?_
                  intro w7 hb7 hG7
                  have hP7 := hPd56
                  refine hK _ _ ?_
                  clear hK K
                  refine wpAny_done (by kernel_rfl) ?_ _
                  refine NoPanic.normal ?_
                  rw [mixC_st_set] at hb7
                  have hC7 : Ch (fun b => b = g) w3 _ := hP7.2.2.grow hG7 (by intro k hk; injection hk with hk; exact .inl hk.symm)
                  have hr7 := hr3.ch hC7 (fun b hb e => hF (e ▸ hb))
                  have hC9 := hC3.trans hC7
                  clear hC7 hP7 hG7
                  go_wp2
                  go_roundw
                  case rel => exact ⟨k + n, by omega, hr7, ⟨blk2, t, by rw [hqx.out]; exact HMS.out, by rw [hqx.out, hqn.out]; exact hb7⟩, hC9⟩
                  case measure => show m' < r; have := hmr.out; omega
                exact AllReady.nil
              exact AllReady.nil
            exact AllReady.nil
          exact AllReady.nil
        refine AllReady.cons (o := ⟨some 45, .load 135 (.tmp 44), _, _, _, none⟩) rfl (fun K hK => ?_) ?_
        · refine step_ld 135 (.tmp 44) (by rfl) (by rfl) (f := 8) (by rfl) (hPd.blk.range 8 _ (mixC_blk s blk2 _)) Tryz.underlying135 rfl (by rw [len_bvs, H64.out]; exact size47) ?_
          refine hK _ _ ?_
          clear hK K
          simp only [Act.put, List.setIfInBounds_toArray, List.set_cons_zero, List.set_cons_succ]
          refine wpAny_ready (rs := [4, 9]) (by kernel_rfl) (by simp) ?_
          refine AllReady.cons (o := ⟨some 41, .load 181 (.tmp 40), _, _, _, none⟩) rfl (fun K hK => ?_) ?_
          · refine step_ld 181 (.tmp 40) (by rfl) (by rfl) (f := 0) (by rfl) (hPd.blk.range 0 _ (mixC_st s blk2 _)) Tryz.underlying181 rfl size46 ?_
            refine hK _ _ ?_
            clear hK K
            simp only [Act.put, List.setIfInBounds_toArray, List.set_cons_zero, List.set_cons_succ]
            refine wpAny_ready (rs := [9]) (by kernel_rfl) (by simp) ?_
            refine AllReady.cons (o := ⟨some 46, _, _, _, _, none⟩) rfl (fun K hK => ?_) ?_
            · go_simp
              refine (words_any blk2 _ H64.out).mono ?_
              rintro e' w5 ⟨rfl, hB5⟩
              have hPd5 := hPd.below hB5
              refine hK _ _ ?_
              clear hK K
              try simp only [Act.put, List.setIfInBounds_toArray, List.set_cons_zero, List.set_cons_succ]
              refine wpAny_ready (rs := [10]) (by kernel_rfl) (by simp) ?_
              refine AllReady.cons (o := ⟨some 47, _, _, _, _, none⟩) rfl (fun K hK => ?_) ?_
              · go_simp
                refine (mixed_b s t blk2 _ hPd5.ks Ht.out).mono ?_
                rintro e' w6 ⟨rfl, hB6⟩
                have hPd56 := hPd5.below hB6
                refine hK _ _ ?_
                clear hK K
                try simp only [Act.put, List.setIfInBounds_toArray, List.set_cons_zero, List.set_cons_succ]
                refine wpAny_take (i := 11) (oi := ⟨some 48, .nilCheck (.tmp 37), _, _, _, none⟩) (v := ?_) rfl (by kernel_rfl) (by kernel_rfl) (by kernel_rfl) (fun _ _ _ h => h) (Or.inl ⟨by rfl, ?_⟩) ?_
                rotate_left
                · intro w; go_simp; try with_reducible rfl
                simp only [Act.put, List.setIfInBounds_toArray, List.set_cons_zero, List.set_cons_succ]
                refine wpAny_take (i := 12) (oi := ⟨some 49, .fieldAddr 183 (.tmp 48) 0, _, _, _, none⟩) (v := ?_) rfl (by kernel_rfl) (by kernel_rfl) (by kernel_rfl) (fun _ _ _ h => h) (Or.inl ⟨by rfl, ?_⟩) ?_
                rotate_left
                · intro w; go_simp; try with_reducible rfl
                simp only [Act.put, List.setIfInBounds_toArray, List.set_cons_zero, List.set_cons_succ]
                refine wpAny_ready (rs := [13]) (by kernel_rfl) (by simp) ?_
                refine AllReady.cons (o := ⟨none, .store 181 (.tmp 49) (.tmp 47), _, _, _, none⟩) rfl (fun K hK => ?_) ?_
                · refine step_st 181 (.tmp 49) (.tmp 47) (by rfl) (by rfl) (by rfl) (f := 0) (by rfl) (l := wvs (s8l t)) (by rfl) hPd56.blk (by rw [wvs8, mixC_len _ _ _ H64.out]; omega) size46 (oneCell_wvs _) ?_
                  intro w7 hb7 hG7
                  have hP7 := hPd56
                  refine hK _ _ ?_
                  clear hK K
                  refine wpAny_done (by kernel_rfl) ?_ _
                  refine NoPanic.normal ?_
                  rw [mixC_st_set] at hb7
                  have hC7 : Ch (fun b => b = g) w3 _ := hP7.2.2.grow hG7 (by intro k hk; injection hk with hk; exact .inl hk.symm)
                  have hr7 := hr3.ch hC7 (fun b hb e => hF (e ▸ hb))
                  have hC9 := hC3.trans hC7
                  clear hC7 hP7 hG7
                  go_wp2
                  go_roundw
                  case rel => exact ⟨k + n, by omega, hr7, ⟨blk2, t, by rw [hqx.out]; exact HMS.out, by rw [hqx.out, hqn.out]; exact hb7⟩, hC9⟩
                  case measure => show m' < r; have := hmr.out; omega
                exact AllReady.nil
              exact AllReady.nil
            exact AllReady.nil
          refine AllReady.cons (o := ⟨some 46, _, _, _, _, none⟩) rfl (fun K hK => ?_) ?_
          · go_simp
            refine (words_any blk2 _ H64.out).mono ?_
            rintro e' w5 ⟨rfl, hB5⟩
            have hPd5 := hPd.below hB5
            refine hK _ _ ?_
            clear hK K
            try simp only [Act.put, List.setIfInBounds_toArray, List.set_cons_zero, List.set_cons_succ]
            refine wpAny_ready (rs := [4]) (by kernel_rfl) (by simp) ?_
            refine AllReady.cons (o := ⟨some 41, .load 181 (.tmp 40), _, _, _, none⟩) rfl (fun K hK => ?_) ?_
            · refine step_ld 181 (.tmp 40) (by rfl) (by rfl) (f := 0) (by rfl) (hPd5.blk.range 0 _ (mixC_st s blk2 _)) Tryz.underlying181 rfl size46 ?_
              refine hK _ _ ?_
              clear hK K
              simp only [Act.put, List.setIfInBounds_toArray, List.set_cons_zero, List.set_cons_succ]
              refine wpAny_ready (rs := [10]) (by kernel_rfl) (by simp) ?_
              refine AllReady.cons (o := ⟨some 47, _, _, _, _, none⟩) rfl (fun K hK => ?_) ?_
              · go_simp
                refine (mixed_b s t blk2 _ hPd5.ks Ht.out).mono ?_
                rintro e' w6 ⟨rfl, hB6⟩
                have hPd56 := hPd5.below hB6
                refine hK _ _ ?_
                clear hK K
                try simp only [Act.put, List.setIfInBounds_toArray, List.set_cons_zero, List.set_cons_succ]
                refine wpAny_take (i := 11) (oi := ⟨some 48, .nilCheck (.tmp 37), _, _, _, none⟩) (v := ?_) rfl (by kernel_rfl) (by kernel_rfl) (by kernel_rfl) (fun _ _ _ h => h) (Or.inl ⟨by rfl, ?_⟩) ?_
                rotate_left
                · intro w; go_simp; try with_reducible rfl
                simp only [Act.put, List.setIfInBounds_toArray, List.set_cons_zero, List.set_cons_succ]
                refine wpAny_take (i := 12) (oi := ⟨some 49, .fieldAddr 183 (.tmp 48) 0, _, _, _, none⟩) (v := ?_) rfl (by kernel_rfl) (by kernel_rfl) (by kernel_rfl) (fun _ _ _ h => h) (Or.inl ⟨by rfl, ?_⟩) ?_
                rotate_left
                · intro w; go_simp; try with_reducible rfl
                simp only [Act.put, List.setIfInBounds_toArray, List.set_cons_zero, List.set_cons_succ]
                refine wpAny_ready (rs := [13]) (by kernel_rfl) (by simp) ?_
                refine AllReady.cons (o := ⟨none, .store 181 (.tmp 49) (.tmp 47), _, _, _, none⟩) rfl (fun K hK => ?_) ?_
                · refine step_st 181 (.tmp 49) (.tmp 47) (by rfl) (by rfl) (by rfl) (f := 0) (by rfl) (l := wvs (s8l t)) (by rfl) hPd56.blk (by rw [wvs8, mixC_len _ _ _ H64.out]; omega) size46 (oneCell_wvs _) ?_
                  intro w7 hb7 hG7
                  have hP7 := hPd56
                  refine hK _ _ ?_
                  clear hK K
                  refine wpAny_done (by kernel_rfl) ?_ _
                  refine NoPanic.normal ?_
                  rw [mixC_st_set] at hb7
                  have hC7 : Ch (fun b => b = g) w3 _ := hP7.2.2.grow hG7 (by intro k hk; injection hk with hk; exact .inl hk.symm)
                  have hr7 := hr3.ch hC7 (fun b hb e => hF (e ▸ hb))
                  have hC9 := hC3.trans hC7
                  clear hC7 hP7 hG7
                  go_wp2
                  go_roundw
                  case rel => exact ⟨k + n, by omega, hr7, ⟨blk2, t, by rw [hqx.out]; exact HMS.out, by rw [hqx.out, hqn.out]; exact hb7⟩, hC9⟩
                  case measure => show m' < r; have := hmr.out; omega
                exact AllReady.nil
              exact AllReady.nil
            exact AllReady.nil
          exact AllReady.nil
        exact AllReady.nil
      · have hbf : (((q.length : Int) + (n : Int)) % 64 == 0) = false := by rw [beq_eq_false_iff_ne]; omega
        have hmn : m + n < 64 := by have := Hm.out; omega
        clear hful
        go_wp2_with (refine wp_st1 128 (.tmp 30) (.tmp 28) rfl rfl rfl (f := 72) rfl (v := .int .u64 ((q.length + n : Nat) : Int)) (congrArg (Value.int .u64) (by omega)) hb2 (by rw [mixC_len _ _ _ H64.out]; omega) size39 rfl rfl ?_; intro w3 hb3 hG3; rw [mixC_size_set _ _ _ _ H64.out] at hb3; have hcz3 := hb3.cellAt 72 _ (mixC_size s blk2 _ H64.out); clear hcz)
        have hC3 : Ch (fun b => b = g) w w3 := hC.trans (hC2.grow hG3 (by intro k hk; injection hk with hk; exact .inl hk.symm))
        have hr3 := Hcut.out.keep (F' := F) (w' := w3) (fun b hb hF' => ⟨hF', hG3.block b hb (by intro e; injection e with e; exact hF (e ▸ hF'))⟩)
        rw [hdr.out] at hr3
        have hMS := hms.part x (by rw [hxl.out, ← Hm.out]; exact hmn)
        rw [hxl.out, ← Hm.out, ← Hb2.out] at hMS
        go_roundw
        case rel => exact ⟨k + n, by omega, hr3, ⟨blk2, s, by rw [hqx.out]; exact hMS, by rw [hqx.out, hqn.out]; exact hb3⟩, hC3⟩
        case measure => show m' < r; have := hmr.out; omega
    · have hbk : k = bs.length := by omega
      rw [hbk, List.take_length] at hms hblk
      clear hbk
      go_wp2
      go_end0
      exact ⟨rfl, ⟨_, _, hms, hblk⟩, hC⟩
end Go.Proofs.YtnhhbbjkeekneaaGreatDoor
