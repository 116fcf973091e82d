/- Ck: several texts in one (KC Ck). -/
import Derived.Test.YthbbpfnfnnmdnaaDoorLW
import Derived.Test.YthbbpfnfnnmdnaaDoorNF
import Derived.Test.YthbbpfnfnnmdnaaDoorNH
import Derived.Test.YthbbpfnfnnmdnaaDoorNI
import Derived.Test.YthbbpfnfnnmdnaaDoorCz
import Derived.Test.YthbbpfnfnnmdnaaDoorS3
/- KC: layer 18: contracts of package inst, over the landed code. -/
namespace Go.V
open Go.RowKit
theorem ret_ctt18 {P : Program} {fn : Func} {R : Ending → World → Prop} {a : Act} {w : World} {p q s : Tmp} {ty : TypeId} (hf : fn.results = #[.cell p ty, .tmp q, .tmp s]) {b f : Nat} (hp : a.tmps.getD p undef = .pointer (some ⟨b, f, none⟩)) {u v : Value} (hq : a.tmps.getD q undef = u) (hs : a.tmps.getD s undef = v) {l : List Value} (hr : w.rangeAt b f l)
    {d : TypeDesc} (hu : P.underlying ty = some d) (hd : d.isRow = true) (hi : (P.info? ty).map (·.size) = some l.length) (hdf : a.defers = []) (h : R (.returned (.tuple #[.agg l.toArray, u, v])) w) : bodyPost P fn R .ret a w := by
  refine bodyPost_ret (v := .tuple #[.agg l.toArray, u, v]) ?_ hdf h
  have hp' : a.tmps[p]?.getD undef = .pointer (some ⟨b, f, none⟩) := by simpa using hp
  have hq' : a.tmps[q]?.getD undef = u := by simpa using hq
  have hs' : a.tmps[s]?.getD undef = v := by simpa using hs
  simp [results, hf, hp', hq', hs', asAddr, run_loadVar_mid w b f ty l d hr hu hd hi]
theorem ret_tctt18 {P : Program} {fn : Func} {R : Ending → World → Prop} {a : Act} {w : World} {p q s z : Tmp} {ty : TypeId} (hf : fn.results = #[.tmp z, .cell p ty, .tmp q, .tmp s]) {b f : Nat} (hp : a.tmps.getD p undef = .pointer (some ⟨b, f, none⟩)) {u v y : Value} (hz : a.tmps.getD z undef = y) (hq : a.tmps.getD q undef = u) (hs : a.tmps.getD s undef = v) {l : List Value} (hr : w.rangeAt b f l)
    {d : TypeDesc} (hu : P.underlying ty = some d) (hd : d.isRow = true) (hi : (P.info? ty).map (·.size) = some l.length) (hdf : a.defers = []) (h : R (.returned (.tuple #[y, .agg l.toArray, u, v])) w) : bodyPost P fn R .ret a w := by
  refine bodyPost_ret (v := .tuple #[y, .agg l.toArray, u, v]) ?_ hdf h
  have hp' : a.tmps[p]?.getD undef = .pointer (some ⟨b, f, none⟩) := by simpa using hp
  have hq' : a.tmps[q]?.getD undef = u := by simpa using hq
  have hs' : a.tmps[s]?.getD undef = v := by simpa using hs
  have hz' : a.tmps[z]?.getD undef = y := by simpa using hz
  simp [results, hf, hp', hq', hs', hz', asAddr, run_loadVar_mid w b f ty l d hr hu hd hi]
end Go.V
namespace Go.Proofs.YthbbpfnfnnmdnaaDoor
open Go.RowKit Go.V Go.Maps
/-- what is told of a digest that a quorum votes for -/
def tolH (o : Option (List UInt8)) : List UInt8 := o.getD (List.replicate 32 0)
def tolP (o : Option (List UInt8)) (f : List UInt8 → List (List UInt8)) : List (List UInt8) := match o with | some d => f d | none => []
/-- nobody votes for what is no vote's kind -/
theorem for_zero {ks : List (List UInt8)} {V : Vc} {slot : Int} {L : List Nv} (h : NvIn ks V slot L) (r : Int) (d : List UInt8) : forC L 0 r d = [] := by
  apply List.eq_nil_iff_forall_not_mem.2
  intro X hX
  obtain ⟨i, v, _, hv, hp, _⟩ := mem_for hX
  have hp := (of_decide_eq_true hp).2.1
  have := (tl_ok (h.v v hv)).2.1
  omega
set_option maxRecDepth 100000 in
set_option maxHeartbeats 8000000 in
theorem iwritten18_any (v : Value) (M N : Nat → Prop) (ks : List (List UInt8)) (V : Vc) (slot : Int) (L : List Nv) (r : Int) (w : World) (_hKS : KS w) (hr : in64w r) (h : NX w v M N ks V slot L) :
    Calls Tryd.prog 12 #[v, .int .i64 r] w fun e w' => ∃ u, e = .returned (.tuple #[.agg (bvs (tolH (mstC V L 2 r))).toArray, u, .bool (mstC V L 2 r).isSome]) ∧ Rd w' (fun b => M b ∨ w.heap.size ≤ b) u (tx (tolP (mstC V L 2 r) (forC L 2 r))) ∧ Below w.heap.size w w' := by
  obtain ⟨hN, p, b0, b1, b2, uk, F, rfl, hm, hM⟩ := h
  obtain ⟨n, m⟩ := V
  have hvb := hm.vb
  dsimp only at hvb
  obtain ⟨B, hsm, hBR⟩ := hm.sm
  have hvin := hm.vin
  have hu := hsm.uq
  have HFIN : Hid (∀ o, Best ⟨n, m⟩ 2 r r B o → ∃ (k' r' : Int) (d' : List UInt8), blO 2 o = csB k' r' d' ∧ in64w k' ∧ in64w r' ∧ d'.length = 32 ∧ bvs (tolH (mstC ⟨n, m⟩ L 2 r)) = bvs d' ∧ tolP (mstC ⟨n, m⟩ L 2 r) (forC L 2 r) = forC L k' r' d' ∧ (mstC ⟨n, m⟩ L 2 r).isSome = o.isSome) := hid (fun o ho => by
    have h := best_mst hvin hBR hu (by unfold in64w; omega) hr ho
    cases o with
    | none =>
      have e : mstC ⟨n, m⟩ L 2 r = none := h.1
      exact ⟨0, 0, List.replicate 32 0, rfl, in0, in0, by simp, by rw [e]; rfl, by rw [e]; exact (for_zero hvin 0 _).symm, by rw [e]; rfl⟩
    | some x =>
      have e : mstC ⟨n, m⟩ L 2 r = some x.2 := h.1
      have e2 : x.1 = r := h.2 x rfl
      exact ⟨2, x.1, x.2, rfl, by unfold in64w; omega, ho.1, ho.2.1, by rw [e]; rfl, by rw [e, e2]; rfl, by rw [e]; rfl⟩)
  have hwin := hid (fun W h1 h2 => winner18_any p b0 b1 b2 uk ⟨n, m⟩ slot B 2 r r W h1 hvb h2 (hBR.ok hu) (by unfold in64w; omega))
  have HIM := hid hm
  have hsm0 := hsm
  have b4 := Blk.new' w 41 (zs8 32)
  have hB0 : Below w.heap.size w (w.alloc (.cells (zs8 32).toArray 41)) := (Below.refl _ _).alloc (Nat.le_refl _) _
  clear hu hBR hvin hsm hN hM
  go_enter Tryd.func12, Tryd.ntmps12
  go_wp2_with (first | (refine wp_new 41 rfl rfl zero25 ?_; refine wp_stop ?_))
  obtain ⟨w0, hw0⟩ : ∃ x, x = w.alloc (.cells (zs8 32).toArray 41) := ⟨_, rfl⟩
  rw [← hw0] at b4 hB0 ⊢
  clear hw0
  obtain ⟨g4, hg4⟩ : ∃ g, g = w.heap.size := ⟨_, rfl⟩
  rw [← hg4] at b4 ⊢
  have hg4w : w.heap.size ≤ g4 := by omega
  have h4p : p < g4 ∧ b1 < g4 ∧ b2 < g4 ∧ ∀ x, F x → x < g4 := by
    refine ⟨by have := hm.blk.lt; omega, by have := hm.vm.lt; omega, by have := hsm0.lt; omega, fun x hx => by have := (hm.f x hx).2.2.2; omega⟩
  clear hg4
  have hm0 := hm.below hB0
  have hsm1 := hsm0.below hB0
  refine wp_go ?_
  go_wp2_with (fail)
  refine (hwin.out _ hm0.blk hsm1).mono ?_
  rintro e w1 ⟨o, rfl, hbst, hB1⟩
  obtain ⟨k', r', d', hbl, hk', hr', hd', hfact⟩ := HFIN.out o hbst
  have Hfact := hid hfact
  have hm1 := hm0.below hB1
  have b4 := b4.below hB1
  have hBw := hB0.trans (hB1.mono hB0.size)
  have hvo := hid (fun W h1 => votes18_any p b0 b1 b2 uk F ks ⟨n, m⟩ slot L k' r' d' W h1 hk' hr' hd')
  have hxl := len_csB (k := k') (r := r') hd'
  have hxo := one_csB k' r' d'
  have hxh : ∀ j v, (bvs d')[j]? = some v → (csB k' r' d')[2 + j]? = some v := fun j v hv => by
    unfold csB
    rw [List.getElem?_append_right (by simp)]
    simpa using hv
  have hx1 : (csB k' r' d')[1]? = some (.int .i64 r') := rfl
  have Hdl : Hid ((bvs d').length = 32) := hid (by rw [len_bvs]; exact hd')
  have Hdo := hid (oneCell_bvs d')
  rw [hbl]
  obtain ⟨lx, hlx⟩ : ∃ l, l = csB k' r' d' := ⟨_, rfl⟩
  rw [← hlx] at hxl hxo hxh hx1 hvo ⊢
  have Hxl := hid hxl
  have Hxo := hid hxo
  have Hxh := hid hxh
  have Hx1 := hid hx1
  obtain ⟨dl, hdl⟩ : ∃ l, l = bvs d' := ⟨_, rfl⟩
  rw [← hdl] at Hdl Hdo Hxh Hfact
  obtain ⟨is, his⟩ : ∃ is, is = o.isSome := ⟨_, rfl⟩
  rw [← his] at Hfact ⊢
  clear hm hm0 hsm0 hsm1 hwin HFIN hbst hbl hB1 hB0 hxl hxo hxh hx1 hlx hdl his hfact
  go_wp2_with (first | (refine wp_newst 72 7 (.tmp 17) rfl rfl rfl rfl rfl rfl zeroBl18 (l := lx) rfl (by rw [Hxl.out]; simp [zBl, csB, bvs]) (by rw [Hxl.out]; exact sizeBl18) Hxo.out (by simp) ?_; intro w2 b7 hB2 hs2; refine wp_stop ?_))
  have hm2 := hm1.below hB2
  have hl4 := b4.lt
  have b4 := b4.below hB2
  have hBw := hBw.trans (hB2.mono hBw.size)
  obtain ⟨g7, hg7⟩ : ∃ g, g = w1.heap.size := ⟨_, rfl⟩
  rw [← hg7] at b7 hl4 ⊢
  clear hs2 hB2 hg7 hm1
  refine wp_go ?_
  go_upto_region 4 with (fail)
  obtain ⟨wq, hwq⟩ : ∃ x, x = w2 := ⟨_, rfl⟩
  rw [← hwq] at b4 b7 hm2 hBw ⊢
  clear hwq
  have hmd : IM wq.drew p b0 b1 b2 uk F ks ⟨n, m⟩ slot L := hm2.keep (w' := wq.drew) (Nat.le_refl _) (fun _ _ => rfl)
  have b4d := b4.drew
  have h74 : g7 ≠ g4 := by omega
  have HB : Hid (∀ W, Ch (fun y => y = g4) wq W → W.rangeAt g7 0 lx) := hid fun W hc => b7.chAt h74 hc
  have HH : Hid (∀ W, Ch (fun y => y = g4) wq W → W.rangeAt g7 2 dl) := hid fun W hc => (b7.ch hc h74).range 2 _ Hxh.out
  have HR : Hid (∀ W, Ch (fun y => y = g4) wq W → W.cell? ⟨g7, 1, none⟩ = some (.int .i64 r')) := hid fun W hc => (b7.ch hc h74).cellAt 1 _ Hx1.out
  have hwq4 : g4 < wq.heap.size := b4.lt
  refine wp_region_noPanic ?_
  refine wp_region_held_drew (S := Ch (fun y => y = g4) wq) (by kernel_rfl) ((Ch.refl _ _).drew) (fun hHeld => ?_)
  refine tkP 0 rfl ?_
  refine tkY 1 rfl (yieldsIf_load_mid (by rfl) 41 (.tmp 19) (by rfl) _ (2) (by rfl) _ _ (fun _ hs => HH.out _ hs) Tryd.underlying41 rfl (by rw [Hdl.out]; exact size25)) ?_
  refine tkP 2 rfl ?_
  refine tkY 3 rfl (yieldsIf_load_mid (by rfl) 72 (.tmp 7) (by rfl) _ (0) (by rfl) _ _ (fun _ hs => HB.out _ hs) Tryd.underlying72 rfl (by rw [Hxl.out]; exact sizeBl18)) ?_
  refine tkP 5 rfl ?_
  refine rdH 4 rfl (fun K hK => ?_)
  go_simp
  refine (hvo.out _ hmd).mono ?_
  rintro e' w5 ⟨u5', rfl, hr5, B5⟩
  obtain ⟨A5, c5, rfl, _, _⟩ := hr5.slShape
  have hC5 := hHeld.belowR B5
  have b4' := b4d.below B5
  refine hK.out _ _ (hC5) (fun hHeld => ?_)
  clear hK K
  try simp only [nP]
  refine rdH 6 rfl (fun K hK => ?_)
  refine step_st 41 (.tmp 4) (.tmp 20) (by rfl) (by rfl) (by rfl) (f := 0) (by rfl) (l := dl) (by rfl) b4' (by rw [Hdl.out]; simp [zs8]) (by rw [Hdl.out]; exact size25) Hdo.out ?_
  intro w6 k6 G6
  rw [set_all _ _ (by rw [Hdl.out]; simp [zs8])] at k6
  refine hK.out _ _ (hC5.grow G6 (fun k hk => .inl (by injection hk with hk; exact hk.symm))) (fun hHeld => ?_)
  clear hK K
  try simp only [nP]
  refine tkP 7 rfl ?_
  refine tkP 8 rfl ?_
  refine wpAnyH_done (by kernel_rfl) ?_ _
  refine NoPanic.normal ?_
  have hBe := Ch.below_of hBw hHeld (fun y hy => by have hy : y = g4 := hy; omega) hBw.size
  have hr6 : Rd w6 (fun b => w.heap.size ≤ b) (.slice A5 _ c5) (tx (forC L k' r' d')) := hr5.keep (fun b hb h => by
    have h : wq.drew.heap.size ≤ b := h
    have h : wq.heap.size ≤ b := h
    have := hBw.size
    exact ⟨by omega, G6.block b hb (fun e => by injection e with e; omega)⟩)
  have Hr6 := hid hr6
  have HBe := hid hBe
  clear hr5 hr6 hBe hHeld hC5 b4' G6 B5 hmd b4d HB HH HR hm2 b7 b4
  go_wp2
  refine ret_ctt18 rfl rfl rfl rfl k6.whole Tryd.underlying41 rfl (by rw [Hdl.out]; exact size25) rfl ?_
  exact ⟨_, by rw [Hfact.out.1, Hfact.out.2.2]; rfl, by rw [Hfact.out.2.1]; exact Hr6.out.weak (fun b _ h => .inr h), HBe.out⟩
set_option maxRecDepth 100000 in
set_option maxHeartbeats 8000000 in
theorem iaccepted18_any (v : Value) (M N : Nat → Prop) (ks : List (List UInt8)) (V : Vc) (slot : Int) (L : List Nv) (w : World) (_hKS : KS w) (h : NX w v M N ks V slot L) :
    Calls Tryd.prog 14 #[v] w fun e w' => ∃ u, e = .returned (.tuple #[.int .i64 (((accC V L).getD 0 : Nat) : Int), .agg (bvs (tolH ((accC V L).bind fun r => mstC V L 3 (r : Int)))).toArray, u, .bool (accC V L).isSome]) ∧ Rd w' (fun b => M b ∨ w.heap.size ≤ b) u (tx (tolP ((accC V L).bind fun r => mstC V L 3 (r : Int)) (forC L 3 (((accC V L).getD 0 : Nat) : Int)))) ∧ Below w.heap.size w w' := by
  obtain ⟨hN, p, b0, b1, b2, uk, F, rfl, hm, hM⟩ := h
  obtain ⟨n, m⟩ := V
  have hvb := hm.vb
  dsimp only at hvb
  obtain ⟨B, hsm, hBR⟩ := hm.sm
  have hvin := hm.vin
  have hu := hsm.uq
  have HFIN : Hid (∀ o, Best ⟨n, m⟩ 3 0 40 B o → ∃ (k' r' : Int) (d' : List UInt8), blO 3 o = csB k' r' d' ∧ in64w k' ∧ in64w r' ∧ d'.length = 32 ∧ bvs (tolH ((accC ⟨n, m⟩ L).bind fun r => mstC ⟨n, m⟩ L 3 (r : Int))) = bvs d' ∧ tolP ((accC ⟨n, m⟩ L).bind fun r => mstC ⟨n, m⟩ L 3 (r : Int)) (forC L 3 (((accC ⟨n, m⟩ L).getD 0 : Nat) : Int)) = forC L k' r' d' ∧ (accC ⟨n, m⟩ L).isSome = o.isSome ∧ (((accC ⟨n, m⟩ L).getD 0 : Nat) : Int) = r') := hid (fun o ho => by
    have h := best_acc hvin hBR hu ho
    cases o with
    | none =>
      have e : accC ⟨n, m⟩ L = none := h
      exact ⟨0, 0, List.replicate 32 0, rfl, in0, in0, by simp, by rw [e]; rfl, by rw [e]; exact (for_zero hvin 0 _).symm, by rw [e]; rfl, by rw [e]; rfl⟩
    | some x =>
      obtain ⟨x1, x2⟩ := x
      obtain ⟨j, hj, e, e3⟩ := h
      exact ⟨3, x1, x2, rfl, by unfold in64w; omega, ho.1, ho.2.1, by rw [e]; show bvs (tolH (mstC _ _ _ _)) = _; rw [e3]; rfl, by rw [e]; show tolP (mstC _ _ _ _) (forC L 3 (j : Int)) = _; rw [e3, hj]; rfl, by rw [e]; rfl, by rw [e, hj]; rfl⟩)
  have hwin := hid (fun W h1 h2 => winner18_any p b0 b1 b2 uk ⟨n, m⟩ slot B 3 0 40 W h1 hvb h2 (hBR.ok hu) (by unfold in64w; omega))
  have HIM := hid hm
  have hsm0 := hsm
  have b4 := Blk.new' w 41 (zs8 32)
  have hB0 : Below w.heap.size w (w.alloc (.cells (zs8 32).toArray 41)) := (Below.refl _ _).alloc (Nat.le_refl _) _
  clear hu hBR hvin hsm hN hM
  go_enter Tryd.func14, Tryd.ntmps14
  go_wp2_with (first | (refine wp_new 41 rfl rfl zero25 ?_; refine wp_stop ?_))
  obtain ⟨w0, hw0⟩ : ∃ x, x = w.alloc (.cells (zs8 32).toArray 41) := ⟨_, rfl⟩
  rw [← hw0] at b4 hB0 ⊢
  clear hw0
  obtain ⟨g4, hg4⟩ : ∃ g, g = w.heap.size := ⟨_, rfl⟩
  rw [← hg4] at b4 ⊢
  have hg4w : w.heap.size ≤ g4 := by omega
  have h4p : p < g4 ∧ b1 < g4 ∧ b2 < g4 ∧ ∀ x, F x → x < g4 := by
    refine ⟨by have := hm.blk.lt; omega, by have := hm.vm.lt; omega, by have := hsm0.lt; omega, fun x hx => by have := (hm.f x hx).2.2.2; omega⟩
  clear hg4
  have hm0 := hm.below hB0
  have hsm1 := hsm0.below hB0
  refine wp_go ?_
  go_wp2_with (fail)
  refine (hwin.out _ hm0.blk hsm1).mono ?_
  rintro e w1 ⟨o, rfl, hbst, hB1⟩
  obtain ⟨k', r', d', hbl, hk', hr', hd', hfact⟩ := HFIN.out o hbst
  have Hfact := hid hfact
  have hm1 := hm0.below hB1
  have b4 := b4.below hB1
  have hBw := hB0.trans (hB1.mono hB0.size)
  have hvo := hid (fun W h1 => votes18_any p b0 b1 b2 uk F ks ⟨n, m⟩ slot L k' r' d' W h1 hk' hr' hd')
  have hxl := len_csB (k := k') (r := r') hd'
  have hxo := one_csB k' r' d'
  have hxh : ∀ j v, (bvs d')[j]? = some v → (csB k' r' d')[2 + j]? = some v := fun j v hv => by
    unfold csB
    rw [List.getElem?_append_right (by simp)]
    simpa using hv
  have hx1 : (csB k' r' d')[1]? = some (.int .i64 r') := rfl
  have Hdl : Hid ((bvs d').length = 32) := hid (by rw [len_bvs]; exact hd')
  have Hdo := hid (oneCell_bvs d')
  rw [hbl]
  obtain ⟨lx, hlx⟩ : ∃ l, l = csB k' r' d' := ⟨_, rfl⟩
  rw [← hlx] at hxl hxo hxh hx1 hvo ⊢
  have Hxl := hid hxl
  have Hxo := hid hxo
  have Hxh := hid hxh
  have Hx1 := hid hx1
  obtain ⟨dl, hdl⟩ : ∃ l, l = bvs d' := ⟨_, rfl⟩
  rw [← hdl] at Hdl Hdo Hxh Hfact
  obtain ⟨is, his⟩ : ∃ is, is = o.isSome := ⟨_, rfl⟩
  rw [← his] at Hfact ⊢
  clear hm hm0 hsm0 hsm1 hwin HFIN hbst hbl hB1 hB0 hxl hxo hxh hx1 hlx hdl his hfact
  go_wp2_with (first | (refine wp_newst 72 6 (.tmp 14) rfl rfl rfl rfl rfl rfl zeroBl18 (l := lx) rfl (by rw [Hxl.out]; simp [zBl, csB, bvs]) (by rw [Hxl.out]; exact sizeBl18) Hxo.out (by simp) ?_; intro w2 b7 hB2 hs2; refine wp_stop ?_))
  have hm2 := hm1.below hB2
  have hl4 := b4.lt
  have b4 := b4.below hB2
  have hBw := hBw.trans (hB2.mono hBw.size)
  obtain ⟨g7, hg7⟩ : ∃ g, g = w1.heap.size := ⟨_, rfl⟩
  rw [← hg7] at b7 hl4 ⊢
  clear hs2 hB2 hg7 hm1
  refine wp_go ?_
  go_upto_region 4 with (fail)
  obtain ⟨wq, hwq⟩ : ∃ x, x = w2 := ⟨_, rfl⟩
  rw [← hwq] at b4 b7 hm2 hBw ⊢
  clear hwq
  have hmd : IM wq.drew p b0 b1 b2 uk F ks ⟨n, m⟩ slot L := hm2.keep (w' := wq.drew) (Nat.le_refl _) (fun _ _ => rfl)
  have b4d := b4.drew
  have h74 : g7 ≠ g4 := by omega
  have HB : Hid (∀ W, Ch (fun y => y = g4) wq W → W.rangeAt g7 0 lx) := hid fun W hc => b7.chAt h74 hc
  have HH : Hid (∀ W, Ch (fun y => y = g4) wq W → W.rangeAt g7 2 dl) := hid fun W hc => (b7.ch hc h74).range 2 _ Hxh.out
  have HR : Hid (∀ W, Ch (fun y => y = g4) wq W → W.cell? ⟨g7, 1, none⟩ = some (.int .i64 r')) := hid fun W hc => (b7.ch hc h74).cellAt 1 _ Hx1.out
  have hwq4 : g4 < wq.heap.size := b4.lt
  refine wp_region_noPanic ?_
  refine wp_region_held_drew (S := Ch (fun y => y = g4) wq) (by kernel_rfl) ((Ch.refl _ _).drew) (fun hHeld => ?_)
  refine tkP 0 rfl ?_
  refine tkF 1 rfl HR.out ?_
  refine tkP 2 rfl ?_
  refine tkY 3 rfl (yieldsIf_load_mid (by rfl) 41 (.tmp 18) (by rfl) _ (2) (by rfl) _ _ (fun _ hs => HH.out _ hs) Tryd.underlying41 rfl (by rw [Hdl.out]; exact size25)) ?_
  refine tkP 4 rfl ?_
  refine tkY 5 rfl (yieldsIf_load_mid (by rfl) 72 (.tmp 6) (by rfl) _ (0) (by rfl) _ _ (fun _ hs => HB.out _ hs) Tryd.underlying72 rfl (by rw [Hxl.out]; exact sizeBl18)) ?_
  refine tkP 7 rfl ?_
  refine rdH 6 rfl (fun K hK => ?_)
  go_simp
  refine (hvo.out _ hmd).mono ?_
  rintro e' w5 ⟨u5', rfl, hr5, B5⟩
  obtain ⟨A5, c5, rfl, _, _⟩ := hr5.slShape
  have hC5 := hHeld.belowR B5
  have b4' := b4d.below B5
  refine hK.out _ _ (hC5) (fun hHeld => ?_)
  clear hK K
  try simp only [nP]
  refine tkP 8 rfl ?_
  refine rdH 9 rfl (fun K hK => ?_)
  refine step_st 41 (.tmp 3) (.tmp 19) (by rfl) (by rfl) (by rfl) (f := 0) (by rfl) (l := dl) (by rfl) b4' (by rw [Hdl.out]; simp [zs8]) (by rw [Hdl.out]; exact size25) Hdo.out ?_
  intro w6 k6 G6
  rw [set_all _ _ (by rw [Hdl.out]; simp [zs8])] at k6
  refine hK.out _ _ (hC5.grow G6 (fun k hk => .inl (by injection hk with hk; exact hk.symm))) (fun hHeld => ?_)
  clear hK K
  try simp only [nP]
  refine tkP 10 rfl ?_
  refine tkP 11 rfl ?_
  refine wpAnyH_done (by kernel_rfl) ?_ _
  refine NoPanic.normal ?_
  have hBe := Ch.below_of hBw hHeld (fun y hy => by have hy : y = g4 := hy; omega) hBw.size
  have hr6 : Rd w6 (fun b => w.heap.size ≤ b) (.slice A5 _ c5) (tx (forC L k' r' d')) := hr5.keep (fun b hb h => by
    have h : wq.drew.heap.size ≤ b := h
    have h : wq.heap.size ≤ b := h
    have := hBw.size
    exact ⟨by omega, G6.block b hb (fun e => by injection e with e; omega)⟩)
  have Hr6 := hid hr6
  have HBe := hid hBe
  clear hr5 hr6 hBe hHeld hC5 b4' G6 B5 hmd b4d HB HH HR hm2 b7 b4
  go_wp2
  refine ret_tctt18 rfl rfl rfl rfl rfl k6.whole Tryd.underlying41 rfl (by rw [Hdl.out]; exact size25) rfl ?_
  exact ⟨_, by rw [Hfact.out.1, Hfact.out.2.2.1, Hfact.out.2.2.2]; rfl, by rw [Hfact.out.2.1]; exact Hr6.out.weak (fun b _ h => .inr h), HBe.out⟩
theorem bldHz18 : ∀ W : World, (Instr.build 41 #[]).run Tryd.prog W = .ok (.agg (zs8 32).toArray) W := fun _ => by kernel_rfl
set_option maxHeartbeats 2000000 in
theorem itake18_nil (X : List UInt8) (u : Value) (F : Nat → Prop) (w : World) (hu : Rd w F u (bys X)) :
    Calls Tryd.prog 11 #[.pointer none, u] w fun e w' => e = .returned (.int .i64 16) ∧ Below w.heap.size w w' := by
  obtain ⟨A, c, rfl⟩ := hu.shape
  go_enter Tryd.func11, Tryd.ntmps11
  go_wp2
  go_ret
  exact ⟨rfl, Below.refl _ _⟩
set_option maxHeartbeats 2000000 in
theorem ibatch18_nil (d : List UInt8) (w : World) (_hd : d.length = 32) :
    Calls Tryd.prog 17 #[.pointer none, .agg (bvs d).toArray] w fun e w' => ∃ u, e = .returned (.tuple #[u, .bool false]) ∧ Rd w' (fun b => w.heap.size ≤ b) u (bys []) ∧ Below w.heap.size w w' := by
  obtain ⟨l, hl⟩ : ∃ l, l = bvs d := ⟨_, rfl⟩
  rw [← hl]
  clear hl
  have hB : Below w.heap.size w (w.alloc (.cells l.toArray 41)) := (Below.refl _ _).alloc (Nat.le_refl _) _
  go_enter Tryd.func17, Tryd.ntmps17
  go_wp2
  go_ret2
  exact ⟨_, rfl, Rd.nil _ _, hB⟩
theorem rd_nil18 (w : World) (F : Nat → Prop) : Rd w F (.slice none 0 0) (tx []) := by
  unfold tx Rd
  exact ⟨none, 0, rfl, Nat.le_refl _, by simp [maxLen], fun _ => rfl, fun h => absurd rfl h⟩
theorem zs_bvs : zs8 32 = bvs (List.replicate 32 0) := by simp [zs8, bvs, byteV]
set_option maxHeartbeats 2000000 in
theorem iwritten18_nil (r : Int) (w : World) :
    Calls Tryd.prog 12 #[.pointer none, .int .i64 r] w fun e w' => ∃ H u, e = .returned (.tuple #[.agg (bvs H).toArray, u, .bool false]) ∧ H.length = 32 ∧ Rd w' (fun b => w.heap.size ≤ b) u (tx []) ∧ Below w.heap.size w w' := by
  have b4 := Blk.new' w 41 (zs8 32)
  have hB0 : Below w.heap.size w (w.alloc (.cells (zs8 32).toArray 41)) := (Below.refl _ _).alloc (Nat.le_refl _) _
  have hl : (zs8 32).length = 32 := by simp [zs8]
  have ho : ∀ v ∈ zs8 32, v.oneCell' = true := by rw [zs_bvs]; exact oneCell_bvs _
  have hbl := bldHz18
  have He : Hid (zs8 32 = bvs (List.replicate 32 0)) := hid zs_bvs
  obtain ⟨l, hle⟩ : ∃ l, l = zs8 32 := ⟨_, rfl⟩
  have hz : (Tryd.prog.info? 41).map (·.zero) = some (some (.agg l.toArray)) := by rw [hle]; exact zero25
  rw [← hle] at b4 hB0 hl ho hbl He
  clear hle
  go_enter Tryd.func12, Tryd.ntmps12
  go_wp2_with (first | (refine wp_new 41 rfl rfl hz ?_; refine wp_stop ?_))
  refine wp_go ?_
  go_wp2_with (first | refine wp_bld 41 [] rfl rfl [] rfl hbl ?_ | (refine wp_st 41 (.tmp 4) (.tmp 11) rfl rfl rfl (f := 0) rfl (l := l) rfl b4 (by omega) (by rw [hl]; exact size25) ho ?_; intro w4 k4 G4; refine wp_stop ?_))
  rw [set_all _ _ rfl] at k4
  have hB4 := hB0.grown G4 hB0.size (fun k hk => by injection hk with hk; omega)
  refine wp_go ?_
  go_wp2
  refine ret_ctt18 rfl rfl rfl rfl k4.whole Tryd.underlying41 rfl (by rw [hl]; exact size25) rfl ?_
  exact ⟨List.replicate 32 0, _, by rw [He.out]; rfl, by simp, rd_nil18 _ _, hB4⟩
set_option maxHeartbeats 2000000 in
theorem iaccepted18_nil (w : World) :
    Calls Tryd.prog 14 #[.pointer none] w fun e w' => ∃ (n : Int) (H : List UInt8) (u : Value), e = .returned (.tuple #[.int .i64 n, .agg (bvs H).toArray, u, .bool false]) ∧ H.length = 32 ∧ Rd w' (fun b => w.heap.size ≤ b) u (tx []) ∧ Below w.heap.size w w' := by
  have b4 := Blk.new' w 41 (zs8 32)
  have hB0 : Below w.heap.size w (w.alloc (.cells (zs8 32).toArray 41)) := (Below.refl _ _).alloc (Nat.le_refl _) _
  have hl : (zs8 32).length = 32 := by simp [zs8]
  have ho : ∀ v ∈ zs8 32, v.oneCell' = true := by rw [zs_bvs]; exact oneCell_bvs _
  have hbl := bldHz18
  have He : Hid (zs8 32 = bvs (List.replicate 32 0)) := hid zs_bvs
  obtain ⟨l, hle⟩ : ∃ l, l = zs8 32 := ⟨_, rfl⟩
  have hz : (Tryd.prog.info? 41).map (·.zero) = some (some (.agg l.toArray)) := by rw [hle]; exact zero25
  rw [← hle] at b4 hB0 hl ho hbl He
  clear hle
  go_enter Tryd.func14, Tryd.ntmps14
  go_wp2_with (first | (refine wp_new 41 rfl rfl hz ?_; refine wp_stop ?_))
  refine wp_go ?_
  go_wp2_with (first | refine wp_bld 41 [] rfl rfl [] rfl hbl ?_ | (refine wp_st 41 (.tmp 3) (.tmp 10) rfl rfl rfl (f := 0) rfl (l := l) rfl b4 (by omega) (by rw [hl]; exact size25) ho ?_; intro w4 k4 G4; refine wp_stop ?_))
  rw [set_all _ _ rfl] at k4
  have hB4 := hB0.grown G4 hB0.size (fun k hk => by injection hk with hk; omega)
  refine wp_go ?_
  go_wp2
  refine ret_tctt18 rfl rfl rfl rfl rfl k4.whole Tryd.underlying41 rfl (by rw [hl]; exact size25) rfl ?_
  exact ⟨0, List.replicate 32 0, _, by rw [He.out]; rfl, by simp, rd_nil18 _ _, hB4⟩
end Go.Proofs.YthbbpfnfnnmdnaaDoor
/- Ck: layers 17 and 18: the laws' table of keys, as lists. -/
namespace Go.Proofs.YthbbpfnfnnmdnaaDoor
open Go.RowKit Go.V
def kU (i : Nat) : List (List UInt8) := (List.range i).map (fun j => [UInt8.ofNat j])
def ks17 : List (List UInt8) := kU 16
theorem kU_next (i : Nat) : kU (i + 1) = kU i ++ [[UInt8.ofNat i]] := by
  unfold kU
  rw [List.range_succ, List.map_append]
  rfl
theorem kU_len (i : Nat) : (kU i).length = i := by unfold kU; simp
theorem ks17_sm : KsSm ks17 := by
  refine ⟨by unfold ks17; rw [kU_len]; omega, fun k hk => ?_⟩
  unfold ks17 kU at hk
  obtain ⟨j, _, rfl⟩ := List.mem_map.1 hk
  show 1 ≤ 1000000
  omega
def zKs : List Value := [.slice none 0 0, .slice none 0 0]
theorem zeroKs17 : (Tryd.prog.info? 33).map (·.zero) = some (some (.agg zKs.toArray)) := by kernel_rfl
end Go.Proofs.YthbbpfnfnnmdnaaDoor
