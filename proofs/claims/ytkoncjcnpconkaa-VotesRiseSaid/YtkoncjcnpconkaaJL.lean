/- JL: several texts in one (J7 JL). -/
import Derived.Test.YtkoncjcnpconkaaJC
import Derived.Test.YtkoncjcnpconkaaJ1
import Derived.Test.YtkoncjcnpconkaaJP
import Derived.Test.YtkoncjcnpconkaaJ6
/- J7: layer 13: the law's wakes, same. -/
namespace Go.V
open Go.RowKit
end Go.V
namespace Go.Proofs.Ytkoncjcnpconkaa
open Go.RowKit Go.V
theorem takeF_reg (l : List Vt) (m : Vt) (h : m.k = 1) : takeF l m = if errV m ≠ 0 then 15 else 0 := by
  unfold takeF
  rw [if_neg (show ¬ (1 < m.k ∧ m.s < slotF l) by omega)]
theorem wk1_err : errV (regV 1 2) = 0 := by decide +kernel
theorem wk2_err : errV (regV 1 1) = 0 := by decide +kernel
theorem wk_reg : regB ([] ++ [regV 1 2] ++ [regV 1 1]) = (1, 2) := by decide +kernel
theorem regV_in (a b : Int) (h : in64w a) (h2 : in64w b) : VtIn (regV a b) := ⟨⟨by show (-9223372036854775808 : Int) ≤ 1; omega, by show (1 : Int) ≤ _; omega⟩, h, h2, ⟨by show (-9223372036854775808 : Int) ≤ 0; omega, by show (0 : Int) ≤ _; omega⟩⟩
theorem regV_sm (a b : Int) : VtSm (regV a b) := ⟨by show 0 ≤ _; omega, by show 0 ≤ _; omega, fun t ht => by cases ht⟩
set_option maxRecDepth 100000 in
set_option maxHeartbeats 2000000 in
theorem wakes13_any (w : World) :
    Calls Try.prog 9 #[] w fun e w' => e = .returned (.bool true) ∧ Below w.heap.size w w' := by
  go_enter Try.func9, Try.ntmps9
  go_wp2_with (fail)
  refine (bnew13_any w).mono ?_
  rintro e w1 ⟨k, M, F, rfl, hI, hB, hM⟩
  obtain ⟨x, rfl⟩ := hI.ptr
  go_wp2_with (first | refine wp_bld 27 [(0, .const (.int .i64 1)), (1, .const (.int .i64 1)), (2, .const (.int .i64 2))] rfl rfl [(0, .int .i64 1), (1, .int .i64 1), (2, .int .i64 2)] rfl (bldR13 1 2) ?_)
  refine (btake13_any _ M F (fun _ => False) [] (regV 1 2) (.slice none 0 0) (.slice none 0 0) _ hI (by simp) (regV_in 1 2 ⟨by omega, by omega⟩ ⟨by omega, by omega⟩) (regV_sm 1 2) (Rd.nil _ _) (Rd.nil _ _) (fun _ h => h.elim)).mono ?_
  rw [takeF_reg _ _ rfl, wk1_err, if_neg (by simp), if_pos rfl]
  rintro e w2 ⟨rfl, hp⟩
  obtain ⟨M2, F2, hI2, hB2, hM2, _⟩ := hp.bel hB (fun b hb => hM b (.inl hb))
  clear hp hI hB
  go_wp2_with (first | refine wp_bld 27 [(0, .const (.int .i64 1)), (1, .const (.int .i64 1)), (2, .const (.int .i64 1))] rfl rfl [(0, .int .i64 1), (1, .int .i64 1), (2, .int .i64 1)] rfl (bldR13 1 1) ?_)
  refine (btake13_any _ M2 F2 (fun _ => False) _ (regV 1 1) (.slice none 0 0) (.slice none 0 0) _ hI2 (by simp) (regV_in 1 1 ⟨by omega, by omega⟩ ⟨by omega, by omega⟩) (regV_sm 1 1) (Rd.nil _ _) (Rd.nil _ _) (fun _ h => h.elim)).mono ?_
  rw [takeF_reg _ _ rfl, wk2_err, if_neg (by simp), if_pos rfl]
  rintro e w3 ⟨rfl, hp⟩
  obtain ⟨M3, F3, hI3, hB3, hM3, _⟩ := hp.bel hB2 hM2
  clear hp hI2 hB2
  go_wp2_with (fail)
  refine (breg13_any _ M3 F3 _ _ hI3).mono ?_
  rw [wk_reg]
  rintro e w4 ⟨rfl, hB4⟩
  go_wp2
  go_ret
  exact ⟨rfl, hB3.trans (hB4.mono hB3.size)⟩
set_option maxRecDepth 100000 in
set_option maxHeartbeats 8000000 in
theorem alike13_any (v : Value) (M F G : Nat → Prop) (B C : List Vt) (vl : Value) (w : World) (h : BX w v M F B) (hl : Rd w G vl (wds vtD C)) (hC : ∀ m ∈ C, VtIn m ∧ m.ps.length ≤ 1000000) (hr : regF B = regF C) (hs : slotF B = slotF C) (ha : accF B = accF C) (hw : ∀ x y, wroteF B x y = wroteF C x y) :
    Calls Try.prog 19 #[v, vl] w fun e w' => e = .returned (.bool true) ∧ Below w.heap.size w w' := by
  obtain ⟨A, c, rfl, hc1, hc2⟩ := wds_shape hl
  have hcl : C.length ≤ 9223372036854775807 := by simp [maxLen] at hc2; omega
  obtain ⟨xk, rfl⟩ := h.ptr
  have hG : ∀ m, accF C = some m ∨ (∃ x y, wroteF C x y = some m) → m.ps.length ≤ 1000000 := by
    rintro m (h | ⟨x, y, h⟩)
    · exact (hC m (accF_mem h)).2
    · exact (hC m (wroteF_mem h)).2
  have Hr := hid hr
  have Hs := hid hs
  have Ha := hid ha
  have Hw := hid hw
  have HG := hid hG
  have HC := hid hC
  clear hr hs ha hw hG hC
  go_enter Try.func19, Try.ntmps19
  go_wp2_with (fail)
  refine (reg13_any C _ G _ hl).mono ?_
  rintro e w1 ⟨rfl, hB1⟩
  have h1 := h.below hB1
  have hl1 := hl.below hB1
  clear h hl
  obtain ⟨a, hxa⟩ : ∃ a, a = (regF C).1 := ⟨_, rfl⟩
  obtain ⟨b, hxb⟩ : ∃ b, b = (regF C).2 := ⟨_, rfl⟩
  have hrb := breg13_any _ M F B w1 h1
  obtain ⟨p, hp⟩ : ∃ p, p = (regB B).1 := ⟨_, rfl⟩
  obtain ⟨q, hq⟩ : ∃ q, q = (regB B).2 := ⟨_, rfl⟩
  have Hpq : Hid ((p, q) = if a < 0 then (0, 0) else (a, b)) := by
    show _ = _
    rw [hp, hq, hxa, hxb]
    unfold regB
    rw [Hr.out]
  rw [← hp, ← hq] at hrb
  rw [← hxa, ← hxb]
  have Hrb := hid hrb
  clear hrb hxa hxb hp hq
  go_wp2_with (fail)
  refine Hrb.out.mono ?_
  rintro e w2 ⟨rfl, hB2⟩
  have hB02 := hB1.trans (hB2.mono hB1.size)
  have h2 := h1.below hB2
  have hl2 := hl1.below hB2
  clear h1 hl1 Hrb hB1 hB2
  have hsb := bslot13_any _ M F B w2 h2
  have hsc := fun (W : World) (hl : Rd W G (.slice A C.length c) (wds vtD C)) => slot13_any C _ G W hl
  rw [Hs.out] at hsb
  obtain ⟨S, hS⟩ : ∃ S, S = slotF C := ⟨_, rfl⟩
  rw [← hS] at hsb hsc
  have Hsb := hid hsb
  have Hsc := hid hsc
  clear hsb hsc hS Hs
  go_upto_region 3 with (fail)
  go_cut [57] (fun sc wx => sc = .bool false ∧ Below w2.heap.size w2 wx)
  case first =>
    by_cases h0 : 0 ≤ a
    · have hpq := Hpq.out
      rw [if_neg (by omega)] at hpq
      injection hpq with hp hq
      have hn : ¬ a < 0 := by omega
      subst hp hq
      clear Hpq
      go_wp2_with (fail)
      refine Hsb.out.mono ?_
      rintro e w3 ⟨rfl, hB3⟩
      go_wp2_with (fail)
      refine (Hsc.out _ (hl2.below hB3)).mono ?_
      rintro e w4 ⟨rfl, rfl⟩
      go_wp2
      go_meet
      exact ⟨rfl, hB3⟩
    · have hpq := Hpq.out
      have hn : a < 0 := by omega
      rw [if_pos hn] at hpq
      injection hpq with hp hq
      subst hp hq
      clear Hpq
      go_wp2_with (fail)
      refine Hsb.out.mono ?_
      rintro e w3 ⟨rfl, hB3⟩
      go_wp2_with (fail)
      refine (Hsc.out _ (hl2.below hB3)).mono ?_
      rintro e w4 ⟨rfl, rfl⟩
      go_wp2
      go_meet
      exact ⟨rfl, hB3⟩
  case rest =>
  obtain ⟨rfl, hB3⟩ := hcut
  have hB03 := hB02.trans (hB3.mono hB02.size)
  have h3 := h2.below hB3
  have hl3 := hl2.below hB3
  clear h2 hl2 Hsb Hsc hB02 hB3 Hpq Hr
  have hab := fun (W : World) (h : BX W (.pointer (some ⟨xk, 0, none⟩)) M F B) => bacc13_any _ M F B W h
  have hac := fun (W : World) (hl : Rd W G (.slice A C.length c) (wds vtD C)) => acc13_any C _ G W hl
  rw [Ha.out] at hab
  obtain ⟨o, ho⟩ : ∃ o, o = accF C := ⟨_, rfl⟩
  rw [← ho] at hab hac
  have hol : (o.getD zV).ps.length ≤ 1000000 := by
    cases o with
    | none => show 0 ≤ _; omega
    | some y => exact HG.out y (.inl ho.symm)
  have Hab := hid hab
  have Hac := hid hac
  clear hab hac ho Ha
  go_wp2_with (fail)
  refine (Hab.out _ h3).mono ?_
  rintro e w4 ⟨ub, up, rfl, hub, hup, hB4⟩
  have hB04 := hB03.trans (hB4.mono hB03.size)
  obtain ⟨AB, cb, rfl⟩ := hub.shape
  obtain ⟨AP, cpp, rfl, _, _⟩ := hup.slShape
  have hsm := fun (W : World) (u v : Value) (F1 F2 F3 F4 : Nat → Prop) (h1 : Rd W F1 (.slice AB (o.getD zV).b.length cb) (bys (o.getD zV).b)) (h2 : Rd W F2 (.slice AP (o.getD zV).ps.length cpp) (tx (o.getD zV).ps)) (h3 : Rd W F3 u (bys (o.getD zV).b)) (h4 : Rd W F4 v (tx (o.getD zV).ps)) => same13_any (o.getD zV) _ _ u v F1 F2 F3 F4 W h1 h2 h3 h4 hol
  unfold Vt.val at hsm ⊢
  have hll := len_vt (o.getD zV) (.slice AB (o.getD zV).b.length cb) (.slice AP (o.getD zV).ps.length cpp)
  obtain ⟨cs, hcs⟩ : ∃ cs, cs = (o.getD zV).l (.slice AB (o.getD zV).b.length cb) (.slice AP (o.getD zV).ps.length cpp) := ⟨_, rfl⟩
  have ho1 : ∀ v ∈ cs, v.oneCell' = true := by rw [hcs]; exact one_vt
  rw [← hcs] at hll hsm ⊢
  have Hll := hid hll
  have Hsm := hid hsm
  clear hcs hll hsm
  have h4 := h3.below hB4
  have hl4 := hl3.below hB4
  clear h3 hl3 hB03
  go_wp2_with (refine wp_newst 27 9 (.tmp 61) rfl rfl rfl rfl rfl rfl zeroV13 (l := cs) rfl (by rw [Hll.out, len_zVl]) (by rw [Hll.out]; exact sizeVt) ho1 (by simp) ?_; intro w5 hq5 hB5 hs5; refine wp_stop ?_)
  obtain ⟨g9, hg9⟩ : ∃ g, g = w4.heap.size := ⟨_, rfl⟩
  rw [← hg9] at hq5 ⊢
  clear hg9 hs5
  have h5 := h4.below hB5
  have hl5 := hl4.below hB5
  have hub := hub.below hB5
  have hup := hup.below hB5
  have hB05 := hB04.trans (hB5.mono hB04.size)
  clear h4 hl4 hB04 hB4 hB5
  refine wp_go ?_
  go_wp2_with (fail)
  refine (Hac.out _ hl5).mono ?_
  rintro e w6 ⟨ub', up', rfl, hub', hup', hB6⟩
  have hB06 := hB05.trans (hB6.mono hB05.size)
  obtain ⟨AB', cb', rfl⟩ := hub'.shape
  obtain ⟨AP', cpp', rfl, _, _⟩ := hup'.slShape
  have hsm := fun (W : World) (F1 F2 F3 F4 : Nat → Prop) (h1) (h2) (h3) (h4) => Hsm.out W (.slice AB' (o.getD zV).b.length cb') (.slice AP' (o.getD zV).ps.length cpp') F1 F2 F3 F4 h1 h2 h3 h4
  clear Hsm
  have hll := len_vt (o.getD zV) (.slice AB' (o.getD zV).b.length cb') (.slice AP' (o.getD zV).ps.length cpp')
  unfold Vt.val at hsm ⊢
  obtain ⟨cs', hcs⟩ : ∃ cs, cs = (o.getD zV).l (.slice AB' (o.getD zV).b.length cb') (.slice AP' (o.getD zV).ps.length cpp') := ⟨_, rfl⟩
  have ho1' : ∀ v ∈ cs', v.oneCell' = true := by rw [hcs]; exact one_vt
  rw [← hcs] at hll hsm ⊢
  have Hll' := hid hll
  have Hsm := hid hsm
  clear hcs hll hsm
  have h6 := h5.below hB6
  have hl6 := hl5.below hB6
  have hq6 := hq5.below hB6
  have hub := hub.below hB6
  have hup := hup.below hB6
  clear h5 hl5 hB05 hq5
  go_wp2_with (refine wp_newst 27 11 (.tmp 66) rfl rfl rfl rfl rfl rfl zeroV13 (l := cs') rfl (by rw [Hll'.out, len_zVl]) (by rw [Hll'.out]; exact sizeVt) ho1' (by simp) ?_; intro w7 hq7 hB7 hs7; refine wp_stop ?_)
  obtain ⟨g11, hg11⟩ : ∃ g, g = w6.heap.size := ⟨_, rfl⟩
  rw [← hg11] at hq7 ⊢
  clear hg11 hs7
  have h7 := h6.below hB7
  have hl7 := hl6.below hB7
  have hq9 := hq6.below hB7
  have hub := hub.below hB7
  have hup := hup.below hB7
  have hub' := hub'.below hB7
  have hup' := hup'.below hB7
  have hB07 := hB06.trans (hB7.mono hB06.size)
  clear h6 hl6 hB06 hB6 hB7 hq6
  obtain ⟨is, hiss⟩ : ∃ b, b = o.isSome := ⟨_, rfl⟩
  rw [← hiss]
  have hne : (is != is) = false := bne_self_eq_false is
  clear hiss
  refine wp_go ?_
  go_wp2_with (first | (refine wp_ldg 27 (.tmp 9) (by rfl) rfl rfl hq9.whole Try.underlying27 rfl (by rw [Hll.out]; exact sizeVt) ?_) | (refine wp_ldg 27 (.tmp 11) (by rfl) rfl rfl hq7.whole Try.underlying27 rfl (by rw [Hll'.out]; exact sizeVt) ?_))
  refine (Hsm.out _ _ _ _ _ hub hup hub' hup').mono ?_
  rintro e w8 ⟨rfl, hB8⟩
  have h8 := h7.below hB8
  have hl8 := hl7.below hB8
  have hB08 := hB07.trans (hB8.mono hB07.size)
  clear h7 hl7 hub hup hub' hup' hB07 hB8 Hsm Hab Hac hq7 hq9 Hll Hll' ho1 ho1' hol
  go_wp2
  go_loopw [79] (fun iv wr => ∃ i : Nat, i ≤ C.length ∧ iv = .int .i64 i ∧ Below w8.heap.size w8 wr) (fun i _ => C.length - (intOf i).toNat)
  case atStart => exact ⟨0, Nat.zero_le _, rfl, Below.refl _ _⟩
  case round =>
    obtain ⟨i, hi, rfl, hBr⟩ := hrel
    have hBr' := hB08.trans (hBr.mono hB08.size)
    have hr := h8.below hBr
    have hlr := hl8.below hBr
    clear h8 hB08
    by_cases hlt : i < C.length
    · obtain ⟨f, hf⟩ : ∃ f, C[i]? = some f := ⟨_, List.getElem?_eq_getElem hlt⟩
      have hI : (i : Int) < (C.length : Int) := by omega
      obtain ⟨g, off, cs, rfl, hg, hrg, he⟩ := wd_el hlr hf
      obtain ⟨ub, up, rfl, hub, hup⟩ := vt_open he
      obtain ⟨AB, cb, rfl⟩ := hub.shape
      obtain ⟨AP, cpp, rfl, _, _⟩ := hup.slShape
      have hfin := (HC.out f (List.mem_of_getElem? hf)).1
      have hll := len_vt f (.slice AB f.b.length cb) (.slice AP f.ps.length cpp)
      obtain ⟨cs, hcs⟩ : ∃ cs, cs = f.l (.slice AB f.b.length cb) (.slice AP f.ps.length cpp) := ⟨_, rfl⟩
      have ho1 : ∀ v ∈ cs, v.oneCell' = true := by rw [hcs]; exact one_vt
      have e1 : cs[1]? = some (.int .i64 f.v) := by rw [hcs]; rfl
      have e2 : cs[2]? = some (.int .i64 f.r) := by rw [hcs]; rfl
      rw [← hcs] at hrg hll
      have Hll := hid hll
      have hwb := fun (W : World) (h : BX W (.pointer (some ⟨xk, 0, none⟩)) M F B) => bwrote13_any _ M F B f.v f.r W h hfin.v hfin.r
      have hwc := fun (W : World) (hl : Rd W G (.slice (some ⟨g, off, none⟩) C.length c) (wds vtD C)) => wrote13_any C f.v f.r _ G W hl
      rw [Hw.out f.v f.r] at hwb
      obtain ⟨o, ho⟩ : ∃ o, o = wroteF C f.v f.r := ⟨_, rfl⟩
      rw [← ho] at hwb hwc
      have hol : (o.getD zV).ps.length ≤ 1000000 := by
        cases o with
        | none => show 0 ≤ _; omega
        | some y => exact HG.out y (.inr ⟨_, _, ho.symm⟩)
      have Hwb := hid hwb
      have Hwc := hid hwc
      clear hcs hll hwb hwc ho he hub hup hf hfin
      go_wp2_with (first | refine wp_ixa 30 (.tmp 77) (.tmp 79) rfl rfl rfl rfl Try.underlying30 hlt sizeVt ?_ | refine wp_ld 27 (.tmp 81) rfl rfl rfl hrg Try.underlying27 rfl (by rw [Hll.out]; exact sizeVt) ?_ | (refine wp_newst 27 14 (.tmp 82) rfl rfl rfl rfl rfl rfl zeroV13 (l := cs) rfl (by rw [Hll.out, len_zVl]) (by rw [Hll.out]; exact sizeVt) ho1 (by simp [Act.put]) ?_; intro x1 hq14 hX1 hs1; refine wp_stop ?_))
      obtain ⟨g14, hg14⟩ : ∃ g, g = wr.heap.size := ⟨_, rfl⟩
      rw [← hg14] at hq14 ⊢
      clear hg14 hs1
      have h1 := hr.below hX1
      have hl1 := hlr.below hX1
      have hXB := hBr.trans (hX1.mono hBr.size)
      clear hr hlr hX1 hrg ho1 Hll
      have c1 := hq14.cellAt 1 _ e1
      have c2 := hq14.cellAt 2 _ e2
      refine wp_go ?_
      go_wp2_with (fail)
      refine (Hwb.out _ h1).mono ?_
      rintro e x2 ⟨ub, up, rfl, hub, hup, hX2⟩
      have hXB2 := hXB.trans (hX2.mono hXB.size)
      obtain ⟨AB, cb, rfl⟩ := hub.shape
      obtain ⟨AP, cpp, rfl, _, _⟩ := hup.slShape
      have hsm := fun (W : World) (u v : Value) (F1 F2 F3 F4 : Nat → Prop) (h1 : Rd W F1 (.slice AB (o.getD zV).b.length cb) (bys (o.getD zV).b)) (h2 : Rd W F2 (.slice AP (o.getD zV).ps.length cpp) (tx (o.getD zV).ps)) (h3 : Rd W F3 u (bys (o.getD zV).b)) (h4 : Rd W F4 v (tx (o.getD zV).ps)) => same13_any (o.getD zV) _ _ u v F1 F2 F3 F4 W h1 h2 h3 h4 hol
      unfold Vt.val at hsm ⊢
      have hll := len_vt (o.getD zV) (.slice AB (o.getD zV).b.length cb) (.slice AP (o.getD zV).ps.length cpp)
      obtain ⟨ds, hcs⟩ : ∃ cs, cs = (o.getD zV).l (.slice AB (o.getD zV).b.length cb) (.slice AP (o.getD zV).ps.length cpp) := ⟨_, rfl⟩
      have ho1 : ∀ v ∈ ds, v.oneCell' = true := by rw [hcs]; exact one_vt
      rw [← hcs] at hll hsm ⊢
      have Hll := hid hll
      have Hsm := hid hsm
      clear hcs hll hsm c1 c2
      have hl2 := hl1.below hX2
      have hq14 := hq14.below hX2
      clear h1 hl1 hXB
      go_wp2_with (refine wp_newst 27 15 (.tmp 90) rfl rfl rfl rfl rfl rfl zeroV13 (l := ds) rfl (by rw [Hll.out, len_zVl]) (by rw [Hll.out]; exact sizeVt) ho1 (by simp) ?_; intro x3 hq15 hX3 hs3; refine wp_stop ?_)
      obtain ⟨g15, hg15⟩ : ∃ g, g = x2.heap.size := ⟨_, rfl⟩
      rw [← hg15] at hq15 ⊢
      clear hg15 hs3
      have hl3 := hl2.below hX3
      have hub := hub.below hX3
      have hup := hup.below hX3
      have hq14 := hq14.below hX3
      have c1 := hq14.cellAt 1 _ e1
      have c2 := hq14.cellAt 2 _ e2
      have hXB3 := hXB2.trans (hX3.mono hXB2.size)
      clear hl2 hXB2 hX2 hX3
      refine wp_go ?_
      go_wp2_with (fail)
      refine (Hwc.out _ hl3).mono ?_
      rintro e x4 ⟨ub', up', rfl, hub', hup', hX4⟩
      have hXB4 := hXB3.trans (hX4.mono hXB3.size)
      obtain ⟨AB', cb', rfl⟩ := hub'.shape
      obtain ⟨AP', cpp', rfl, _, _⟩ := hup'.slShape
      have hsm := fun (W : World) (F1 F2 F3 F4 : Nat → Prop) (h1) (h2) (h3) (h4) => Hsm.out W (.slice AB' (o.getD zV).b.length cb') (.slice AP' (o.getD zV).ps.length cpp') F1 F2 F3 F4 h1 h2 h3 h4
      clear Hsm
      have hll := len_vt (o.getD zV) (.slice AB' (o.getD zV).b.length cb') (.slice AP' (o.getD zV).ps.length cpp')
      unfold Vt.val at hsm ⊢
      obtain ⟨ds', hcs⟩ : ∃ cs, cs = (o.getD zV).l (.slice AB' (o.getD zV).b.length cb') (.slice AP' (o.getD zV).ps.length cpp') := ⟨_, rfl⟩
      have ho1' : ∀ v ∈ ds', v.oneCell' = true := by rw [hcs]; exact one_vt
      rw [← hcs] at hll hsm ⊢
      have Hll' := hid hll
      have Hsm := hid hsm
      clear hcs hll hsm c1 c2
      have hq15 := hq15.below hX4
      have hub := hub.below hX4
      have hup := hup.below hX4
      clear hl3 hXB3 hq14
      go_wp2_with (refine wp_newst 27 17 (.tmp 99) rfl rfl rfl rfl rfl rfl zeroV13 (l := ds') rfl (by rw [Hll'.out, len_zVl]) (by rw [Hll'.out]; exact sizeVt) ho1' (by simp) ?_; intro x5 hq17 hX5 hs5; refine wp_stop ?_)
      obtain ⟨g17, hg17⟩ : ∃ g, g = x4.heap.size := ⟨_, rfl⟩
      rw [← hg17] at hq17 ⊢
      clear hg17 hs5
      have hq15 := hq15.below hX5
      have hub := hub.below hX5
      have hup := hup.below hX5
      have hub' := hub'.below hX5
      have hup' := hup'.below hX5
      have hXB5 := hXB4.trans (hX5.mono hXB4.size)
      clear hXB4 hX4 hX5
      obtain ⟨is, hiss⟩ : ∃ b, b = o.isSome := ⟨_, rfl⟩
      rw [← hiss]
      have hne : (is != is) = false := bne_self_eq_false is
      clear hiss
      refine wp_go ?_
      go_wp2_with (first | (refine wp_ldg 27 (.tmp 15) (by rfl) rfl rfl hq15.whole Try.underlying27 rfl (by rw [Hll.out]; exact sizeVt) ?_) | (refine wp_ldg 27 (.tmp 17) (by rfl) rfl rfl hq17.whole Try.underlying27 rfl (by rw [Hll'.out]; exact sizeVt) ?_))
      refine (Hsm.out _ _ _ _ _ hub hup hub' hup').mono ?_
      rintro e x6 ⟨rfl, hX6⟩
      have hBB := hXB5.trans (hX6.mono hXB5.size)
      clear hub hup hub' hup' hXB5 hX6 Hsm Hwb Hwc hq15 hq17 Hll Hll' ho1 ho1' hol
      go_wp2
      go_roundw
      case rel => exact ⟨i + 1, by omega, by go_num, hBB⟩
      case measure => simp [intOf]; omega
    · have hi' : i = C.length := by omega
      subst hi'
      have hI : ¬ (C.length : Int) < (C.length : Int) := by omega
      go_wp2
      go_ret
      exact ⟨rfl, hBr'⟩
end Go.Proofs.Ytkoncjcnpconkaa
/- JL: layer 13: a list of one struct; reading votes anywhere. -/
namespace Go.V
open Go.RowKit
/-- '[]T{x}', x a struct -/
theorem wp_bsW {P : Program} {w : World} {ops : Array Oper} {rest : List Oper} {o : Oper} {a : Act} {Q : Exit → Act → World → Prop} (x : Operand) {t e : TypeId} {z : List Value} {sz by_ : Nat} (ht : SlW P t e z sz by_) (hgd : o.guard = none) (ho : o.op = .buildSlice t 1 #[(0, x)]) {us : List Value} (hx : a.eval x = .agg us.toArray) (hu : us.length = sz)
    (h : wpList P ops Q rest (a.put o.dst (.slice (some ⟨w.heap.size, 0, none⟩) 1 1)) (w.alloc (.cells us.toArray e))) : wpList P ops Q (o :: rest) a w := by
  refine wpList_plain hgd fun K hK => ?_
  unfold Oper.wp execOp
  have e1 : (Array.map (fun (x : Nat × Operand) => (x.1, a.eval x.2)) #[(0, x)]) = #[(0, .agg us.toArray)] := by simp [hx]
  simp only [ho, e1, Sem.run_bind, Sem.run_pure, run_bsW ht us hu, Result.andThen_ok]
  exact hK _ _ h
theorem wds_one {α : Type} {k : Nat} {w : World} {F : Nat → Prop} {T : WD α k} {g : Nat} {t : TypeId} {a : α} {cs : List Value} (hb : Blk w g t cs) (he : WdEl w F T a cs) (hg : F g) : Rd w F (.slice (some ⟨g, 0, none⟩) 1 1) (wds T [a]) := by
  unfold wds Rd
  refine ⟨_, 1, rfl, Nat.le_refl _, by simp [maxLen], fun h => by simp at h, fun _ => ⟨g, 0, rfl, hg, ?_⟩⟩
  rw [List.flatMap_singleton]
  exact wdC_in _ cs 0 (by rw [he.len, T.len]) hb.whole he.at_
theorem longVs_one (m : Vt) : longVs [m] = longV m := by
  unfold longVs
  simp
end Go.V
