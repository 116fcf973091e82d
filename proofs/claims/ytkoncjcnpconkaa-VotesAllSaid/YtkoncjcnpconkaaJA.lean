/- JA: layer 13: VotesAll. -/
import Derived.Test.YtkoncjcnpconkaaJS
namespace Go.V
open Go.RowKit
theorem step_ldw {P : Program} {w : World} {ops : Array Oper} {o : Oper} {a : Act} {Q : Exit → Act → World → Prop} {K : Act → World → Prop} {E : Prop} (ty : TypeId) (x : Operand) (hw : Region.wanted o (yielded ops a.tmps) = true) (ho : o.op = .load ty x) {b f : Nat} (hx : a.eval x = .pointer (some ⟨b, f, none⟩)) {l : List Value} (hr : w.rangeAt b f l)
    {d : TypeDesc} (hu : P.underlying ty = some d) (hd : d.isRow = true) (hi : (P.info? ty).map (·.size) = some l.length)
    (h : K (a.put o.dst (.agg l.toArray)) w) : if Region.wanted o (yielded ops a.tmps) = true then Oper.wp P o a w K Q else E := by
  rw [if_pos hw]
  exact wp_load_mid ty x ho b f hx l d hr hu hd hi h
theorem range_keep {w w' : World} {g o : Nat} {l : List Value} (h : w.rangeAt g o l) (hg : w'.heap[g]? = w.heap[g]?) : w'.rangeAt g o l := fun j v hv => (World.cell?_of_block hg).trans (h j v hv)
end Go.V
namespace Go.Proofs.Ytkoncjcnpconkaa
open Go.RowKit Go.V
theorem takeF_err {l : List Vt} {m : Vt} (h : takeF l m = 0) : errV m = 0 := by
  unfold takeF at h
  by_cases he : errV m = 0
  · exact he
  · rw [if_pos he] at h; cases h
theorem errV_parts {m : Vt} (h : errV m = 0) : partsV m = true ∧ m.ps.length ≤ 16 ∧ (Vt.by m).length ≤ 65536 := by
  unfold errV at h
  split at h
  · cases h
  · split at h
    · cases h
    · split at h
      · exact ⟨by assumption, by omega, by omega⟩
      · cases h
theorem errV_reg {a b : Int} (h1 : 0 ≤ a ∧ a ≤ 60) (h2 : 0 ≤ b ∧ b ≤ 40) : errV (regV a b) = 0 := by
  have hp : partsV (regV a b) = true := by
    unfold partsV
    rw [decide_eq_true_iff]
    exact ⟨⟨by show (1 : Int) ≤ 1; omega, by show (1 : Int) ≤ 3; omega⟩, h1, h2, ⟨by show (0 : Int) ≤ 0; omega, by show (0 : Int) ≤ 60; omega⟩, fun _ => ⟨by show (0 : Int) ≤ 0; omega, rfl, rfl⟩, .inr rfl⟩
  have hl : (Vt.by (regV a b)).length ≤ 63260 := len_vby (by unfold longV; rw [decide_eq_false_iff_not]; rintro (h | h | ⟨t, ht, _⟩); exact absurd h (by show ¬ 500 < 0; omega); exact absurd h (by show ¬ 20 < 0; omega); cases ht)
  unfold errV
  rw [if_neg (show ¬ 16 < (regV a b).ps.length by show ¬ 16 < 0; omega), if_neg (by omega), if_pos hp]
theorem take_allF {l : List Vt} (he : ∀ m ∈ l, errV m = 0) {j : Nat} {m : Vt} (hj : (allF l)[j]? = some m) : takeF ((allF l).take j) m = 0 := by
  have hs := slot_allF_le l j
  unfold takeF
  rcases mem_allF (List.mem_of_getElem? hj) with ⟨h0, h⟩ | ⟨h1, h2, h3⟩
  · have hc : errV m = 0 := by
      rw [h]
      rcases regF_cases l with h' | ⟨x, hx, _, h'⟩
      · rw [h'] at h0; exact absurd h0 (by show ¬ (0 : Int) ≤ -1; omega)
      · rw [h']
        have hf := fine_of (errV_parts (he x hx)).1
        exact errV_reg hf.v hf.r
    rw [if_neg (by rw [hc]; simp), if_neg (by rw [h]; rintro ⟨h1, _⟩; exact absurd h1 (by show ¬ (1 : Int) < 1; omega))]
  · rw [if_neg (by rw [he m h1]; simp), if_neg (by omega)]
theorem allF_long {l : List Vt} (hl : ∀ m ∈ l, longV m = false) {m : Vt} (h : m ∈ allF l) : longV m = false := by
  rcases mem_allF h with ⟨_, h⟩ | ⟨h, _⟩
  · rw [h]
    unfold longV
    rw [decide_eq_false_iff_not]
    rintro (h | h | ⟨t, ht, _⟩)
    · exact absurd h (by show ¬ 500 < 0; omega)
    · exact absurd h (by show ¬ 20 < 0; omega)
    · cases ht
  · exact hl m h
theorem allF_in {l : List Vt} (he : ∀ m ∈ l, errV m = 0) {m : Vt} (h : m ∈ allF l) : VtIn m := by
  obtain ⟨j, hj⟩ := List.mem_iff_getElem?.1 h
  exact vtIn_of (errV_parts (takeF_err (take_allF he hj))).1
set_option maxRecDepth 100000 in
set_option maxHeartbeats 16000000 in
theorem votesAll_law (l : List Vt) (vl : Value) (F0 : Nat → Prop) (w : World) (hl : Rd w F0 vl (wds vtD l)) (hin : ∀ m ∈ l, VtIn m) :
    Calls Try.prog 5 #[vl] w fun e w' => e = .returned (.bool true) ∧ Below w.heap.size w w' := by
  obtain ⟨A, c, rfl, hc1, hc2⟩ := wds_shape hl
  have hl := hl.weak (F' := fun b => b < w.heap.size) (fun b h _ => h)
  obtain ⟨G, hG⟩ : ∃ G : Nat → Prop, G = fun b => b < w.heap.size := ⟨_, rfl⟩
  rw [← hG] at hl
  have hGF : ∀ b, G b → b < w.heap.size := fun b h => by rw [hG] at h; exact h
  clear hG
  go_enter Try.func5, Try.ntmps5
  go_wp2_with (fail)
  refine (wakes13_any _).mono ?_
  rintro e w1 ⟨rfl, hB1⟩
  have hl1 := hl.below hB1
  go_wp2_with (fail)
  refine (long13_any l _ _ _ hl1).mono ?_
  rintro e w1 ⟨rfl, rfl⟩
  cases hlg : longVs l with
  | true =>
    go_wp2
    go_ret
    exact ⟨rfl, hB1⟩
  | false =>
    have hll : l.length ≤ 40 := by
      rcases Nat.lt_or_ge 40 l.length with h | h
      · rw [longVs_t1 h] at hlg; cases hlg
      · exact h
    have hlo : ∀ m ∈ l, longV m = false := fun m hm => by
      cases h : longV m with
      | false => rfl
      | true => rw [longVs_t2 hm h] at hlg; cases hlg
    have Hin := hid hin
    have Hlo := hid hlo
    clear hlg hlo hin
    go_wp2_with (fail)
    refine (bnew13_any _).mono ?_
    rintro e w2 ⟨kv, M0, F0', rfl, hI, hB2, hM2⟩
    obtain ⟨xk, rfl⟩ := hI.ptr
    have hB02 := hB1.trans (hB2.mono hB1.size)
    have hJ := VJ.start G hI hB02 (fun b h => by have := hM2 b (.inl h); have := hB1.size; omega)
    have HJ := hid hJ
    clear hI hB1 hB2 hM2 hJ hl1
    go_wp2
    go_loopw [4, 18] (fun ov iv wr => ∃ (i : Nat) (M F : Nat → Prop) (C : List Vt), i ≤ l.length ∧ iv = .int .i64 i ∧ C.length ≤ i ∧ (∀ m ∈ C, m ∈ l ∧ errV m = 0) ∧ VJ w wr (.pointer (some ⟨xk, 0, none⟩)) M F G ov C C) (fun _ i _ => l.length - (intOf i).toNat)
    case atStart => exact ⟨0, M0, F0', [], Nat.zero_le _, rfl, Nat.le_refl _, (fun _ h => by cases h), HJ.out⟩
    case round =>
      clear HJ hB02
      obtain ⟨i, M, F, C, hi, rfl, hCi, hCl, hJ⟩ := hrel
      have HCl := hid hCl
      clear hCl
      by_cases hlt : i < l.length
      · obtain ⟨f, hf⟩ : ∃ f, l[i]? = some f := ⟨_, List.getElem?_eq_getElem hlt⟩
        have hI : (i : Int) < (l.length : Int) := by omega
        have hlr := hl.below hJ.B
        obtain ⟨g, off, cs, rfl, hg, hrg, he⟩ := wd_el hlr hf
        obtain ⟨ub, up, rfl, hub, hup⟩ := vt_open he
        obtain ⟨AB, cb, rfl⟩ := hub.shape
        obtain ⟨AP, cpp, rfl, _, _⟩ := hup.slShape
        have hfl := List.mem_of_getElem? hf
        have hlf := Hlo.out f hfl
        have hll := len_vt f (.slice AB f.b.length cb) (.slice AP f.ps.length cpp)
        have htb := fun (M F : Nat → Prop) (W : World) (h : BX W (.pointer (some ⟨xk, 0, none⟩)) M F C) (h1 : Rd W G (.slice AB f.b.length cb) (bys f.b)) (h2 : Rd W G (.slice AP f.ps.length cpp) (tx f.ps)) (hG : ∀ b, G b → ¬ M b) => btake13_any _ M F G C f _ _ W h (by omega) (Hin.out f hfl) (VtSm.of hlf) h1 h2 hG
        have hte := takeF_err (l := C) (m := f)
        obtain ⟨tk, htk⟩ : ∃ tk, tk = takeF C f := ⟨_, rfl⟩
        unfold Vt.val at htb
        obtain ⟨cs, hcs⟩ : ∃ cs, cs = f.l (.slice AB f.b.length cb) (.slice AP f.ps.length cpp) := ⟨_, rfl⟩
        have ho1 : ∀ v ∈ cs, v.oneCell' = true := by rw [hcs]; exact one_vt
        rw [← hcs] at hrg hll he htb
        rw [← htk] at htb hte
        have Hll := hid hll
        have Htb := hid htb
        have Hfl := hid hfl
        have Hte := hid hte
        clear hcs hll htb hf htk hlf hfl hte
        go_wp2_with (first | refine wp_ixa 30 (.tmp 16) (.tmp 18) rfl rfl rfl rfl Try.underlying30 hlt sizeVt ?_ | refine wp_ld 27 (.tmp 20) rfl rfl rfl hrg Try.underlying27 rfl (by rw [Hll.out]; exact sizeVt) ?_ | (refine wp_newst 27 6 (.tmp 21) rfl rfl rfl rfl rfl rfl zeroV13 (l := cs) rfl (by rw [Hll.out, len_zVl]) (by rw [Hll.out]; exact sizeVt) ho1 (by simp [Act.put]) ?_; intro x1 hq6 hX1 hs1; refine wp_stop ?_))
        obtain ⟨g6, hg6⟩ : ∃ g, g = wr.heap.size := ⟨_, rfl⟩
        have hg6M : ¬ M g6 := fun h => by have := hJ.bx.bd g6 (.inl h); omega
        rw [← hg6] at hq6 ⊢
        clear hg6 hs1
        have hJ := hJ.below hX1
        have he := he.below hX1
        have hub := hub.below hX1
        have hup := hup.below hX1
        clear hX1 hlr hrg
        refine wp_go ?_
        go_wp2_with (refine wp_ld 27 (.tmp 6) rfl rfl rfl hq6.whole Try.underlying27 rfl (by rw [Hll.out]; exact sizeVt) ?_)
        refine (Htb.out M F _ hJ.bx hub hup (fun b hb hm => by have := hGF b hb; have := hJ.m b hm; omega)).mono ?_
        rintro e x2 ⟨rfl, hp⟩
        obtain ⟨M2, F2, hJ2, hC2⟩ := hJ.took hGF hp
        have hq6 := hq6.ch hC2 hg6M
        have hkG : ∀ b, b < x1.heap.size → G b → G b ∧ x2.heap[b]? = x1.heap[b]? := fun b hb hf => ⟨hf, hC2.block b hb (fun hm => by have := hGF b hf; have := hJ.m b hm; omega)⟩
        have he := he.keep hkG
        clear hJ hp hC2 hkG Htb hg6M hub hup
        have hJ := hJ2
        clear hJ2
        by_cases h0 : tk = 0
        case neg =>
          have hz : ((tk : Int) == 0) = false := beq_eq_false_iff_ne.2 (by omega)
          rw [if_neg h0] at hJ
          have HJ := hid hJ
          clear h0 he hq6 hJ
          go_wp2
          go_roundw
          case rel => exact ⟨i + 1, M2, F2, C, by omega, by go_num, by omega, HCl.out, HJ.out⟩
          case measure => simp [intOf]; omega
        subst h0
        rw [if_pos rfl] at hJ
        have Hfe := hid (Hte.out rfl)
        obtain ⟨xs, hro, hx⟩ := hJ.row
        obtain ⟨Ao, co, hov⟩ := own_shape13 hro
        subst hov
        have hbx := hJ.bx
        have hap := hJ.ap
        have hBx := hJ.B
        have hmx := hJ.m
        clear hJ Hte
        go_wp2_with (first | refine wp_ld 27 (.tmp 6) rfl rfl rfl hq6.whole Try.underlying27 rfl (by rw [Hll.out]; exact sizeVt) ?_ | (refine wp_pushW (.tmp 26) (.tmp 27) 28 slV13 rfl rfl rfl rfl rfl (us := cs) rfl Hll.out ho1 (by simp [Act.put]) rfl hro (by simp only [maxLen]; omega) (by omega) hBx.size ?_; intro v5 x5 ho5 hG5 hd5; refine wp_stop ?_))
        have hJ := VJ.push (m := f) hbx hro hx hBx hmx hap hGF he ho5 hG5 hd5
        obtain ⟨D, hD⟩ : ∃ D, D = C ++ [f] := ⟨_, rfl⟩
        have hDl : D.length ≤ i + 1 := by rw [hD, List.length_append]; simp; omega
        have hDm : ∀ m ∈ D, m ∈ l ∧ errV m = 0 := fun m hm => by
          rw [hD, List.mem_append] at hm
          rcases hm with h | h
          · exact HCl.out m h
          · simp at h; subst h; exact ⟨Hfl.out, Hfe.out⟩
        rw [← hD] at hJ
        have HDm := hid hDm
        have HJ := hid hJ
        clear hbx hro hx hBx hmx hap he ho5 hG5 hd5 hD hDm hq6 hJ
        refine wp_go ?_
        go_wp2
        go_roundw
        case rel => exact ⟨i + 1, M2, F2, D, by omega, by go_num, hDl, HDm.out, HJ.out⟩
        case measure => simp [intOf]; omega
      · have hi' : i = l.length := by omega
        subst hi'
        have hI : ¬ (l.length : Int) < (l.length : Int) := by omega
        have hce : ∀ m ∈ C, errV m = 0 := fun m hm => (HCl.out m hm).2
        have hcl : ∀ m ∈ C, longV m = false := fun m hm => Hlo.out m (HCl.out m hm).1
        have hci : ∀ m ∈ C, VtIn m := fun m hm => Hin.out m (HCl.out m hm).1
        have hfine : ∀ m ∈ C, Fine m := fun m hm => fine_of (errV_parts (hce m hm)).1
        have Hta := hid (fun (j : Nat) (m : Vt) (hj : (allF C)[j]? = some m) => take_allF hce hj)
        have Hal := hid (fun (m : Vt) (h : m ∈ allF C) => allF_long hcl h)
        have Hai := hid (fun (m : Vt) (h : m ∈ allF C) => allF_in hce h)
        have hn := len_allF C
        have Hrg := hid (reg_allF hfine)
        have Hsl := hid (slot_allF hfine)
        have Hac := hid (acc_allF hfine)
        have Hwr := hid (fun x y => wrote_allF hfine x y)
        have Hcc := hid (fun (m : Vt) (hm : m ∈ C) => And.intro (hci m hm) (show m.ps.length ≤ 1000000 by have := (longV_bd (hcl m hm)).2.1; omega))
        have hab := fun (W : World) (h : BX W (.pointer (some ⟨xk, 0, none⟩)) M F C) => ball13_any _ M F C W h
        have hac := fun (v : Value) (W : World) (h : Rd W (fun _ => True) v (wds vtD C)) => all13_any C v _ W h
        obtain ⟨D, hD⟩ : ∃ D, D = allF C := ⟨_, rfl⟩
        rw [← hD] at Hta Hal Hai hn Hrg Hsl Hac Hwr hab hac
        have Hab := hid hab
        have Haz := hid hac
        clear hce hcl hci hfine hD hab hac Hin Hlo HCl hCi hi
        obtain ⟨xs, hro, hx⟩ := hJ.row
        obtain ⟨Ao, co, hov⟩ := own_shape13 hro
        subst hov
        clear hro hx
        go_wp2_with (fail)
        refine (Hab.out _ hJ.bx).mono ?_
        rintro e x1 ⟨va, rfl, hva, hX1⟩
        have hJ := hJ.below hX1
        obtain ⟨Aa, ca, rfl, _, _⟩ := wds_shape hva
        have hva := hva.weak (F' := fun _ => True) (fun _ _ _ => trivial)
        go_wp2_with (fail)
        refine (Haz.out _ _ hJ.rd).mono ?_
        rintro e x2 ⟨vb, rfl, hvb, hX2⟩
        have hJ := hJ.below hX2
        have hva := hva.below hX2
        obtain ⟨Ab, cb, rfl, _, _⟩ := wds_shape hvb
        have hvb := hvb.weak (F' := fun _ => True) (fun _ _ _ => trivial)
        have hrd := hJ.rd
        have hBw := hJ.B
        clear hJ hX1 hX2 Hab Haz
        have hnn : ((D.length : Int) != (D.length : Int)) = false := bne_self_eq_false _
        go_wp2_with (fail)
        refine (bnew13_any _).mono ?_
        rintro e x3 ⟨kv2, M3, F3, rfl, hI3, hB3, hM3⟩
        obtain ⟨xm, rfl⟩ := hI3.ptr
        obtain ⟨wq, hwq⟩ : ∃ x, x = x2 := ⟨_, rfl⟩
        rw [← hwq] at hva hvb hrd hBw hB3 hM3
        clear hwq
        have hva := hva.weak (F' := fun b => b < wq.heap.size) (fun b h _ => h)
        have hvb := hvb.weak (F' := fun b => b < wq.heap.size) (fun b h _ => h)
        have HI := hid (And.intro hI3 (And.intro (fun (b : Nat) (h : M3 b) => hM3 b (.inl h)) hB3))
        clear hI3 hB3 hM3
        go_wp2
        go_loopw [43] (fun jv wr => ∃ (j : Nat) (M F : Nat → Prop), j ≤ D.length ∧ jv = .int .i64 j ∧ BX wr (.pointer (some ⟨xm, 0, none⟩)) M F (D.take j) ∧ (∀ b, M b → wq.heap.size ≤ b) ∧ Below wq.heap.size wq wr) (fun j _ => D.length - (intOf j).toNat)
        case atStart => exact ⟨0, M3, F3, Nat.zero_le _, rfl, HI.out.1, HI.out.2.1, HI.out.2.2⟩
        case round =>
          clear HI
          obtain ⟨j, M, F, hj, rfl, hbx, hM, hB⟩ := hrel
          by_cases hjl : j < D.length
          · obtain ⟨m, hm⟩ : ∃ m, D[j]? = some m := ⟨_, List.getElem?_eq_getElem hjl⟩
            have hI : (j : Int) < (D.length : Int) := by omega
            have hmD := List.mem_of_getElem? hm
            have hva2 := hva.below hB
            have hvb2 := hvb.below hB
            obtain ⟨g1, o1, c1, rfl, hg1, hr1, he1⟩ := wd_el hva2 hm
            obtain ⟨u1, p1, rfl, hu1, hp1⟩ := vt_open he1
            obtain ⟨A1, d1, rfl⟩ := hu1.shape
            obtain ⟨B1, e1, rfl, _, _⟩ := hp1.slShape
            obtain ⟨g2, o2, c2, rfl, hg2, hr2, he2⟩ := wd_el hvb2 hm
            obtain ⟨u2, p2, rfl, hu2, hp2⟩ := vt_open he2
            obtain ⟨A2, d2, rfl⟩ := hu2.shape
            obtain ⟨B2, e2, rfl, _, _⟩ := hp2.slShape
            have hg1 : g1 < wr.heap.size := by have h1 : g1 < wq.heap.size := hg1; have := hB.size; omega
            have hps : m.ps.length ≤ 1000000 := by have := (longV_bd (Hal.out m hmD)).2.1; omega
            have hsm := fun F1 F2 F3 F4 W h1 h2 h3 h4 => same13_any m (.slice A1 m.b.length d1) (.slice B1 m.ps.length e1) (.slice A2 m.b.length d2) (.slice B2 m.ps.length e2) F1 F2 F3 F4 W h1 h2 h3 h4 hps
            have htk := fun (M F : Nat → Prop) (W : World) (h : BX W (.pointer (some ⟨xm, 0, none⟩)) M F (D.take j)) (h1 : Rd W (fun b => b < wq.heap.size) (.slice A1 m.b.length d1) (bys m.b)) (h2 : Rd W (fun b => b < wq.heap.size) (.slice B1 m.ps.length e1) (tx m.ps)) (hG : ∀ b, b < wq.heap.size → ¬ M b) => btake13_any _ M F (fun b => b < wq.heap.size) (D.take j) m _ _ W h (by rw [List.length_take]; omega) (Hai.out m hmD) (VtSm.of (Hal.out m hmD)) h1 h2 hG
            rw [Hta.out j m hm, if_pos rfl] at htk
            have Hsn := hid (take_snocV hm).symm
            have hl1 := len_vt m (.slice A1 m.b.length d1) (.slice B1 m.ps.length e1)
            have hl2 := len_vt m (.slice A2 m.b.length d2) (.slice B2 m.ps.length e2)
            unfold Vt.val at hsm htk
            obtain ⟨c1, hc1⟩ : ∃ c, c = m.l (.slice A1 m.b.length d1) (.slice B1 m.ps.length e1) := ⟨_, rfl⟩
            obtain ⟨c2, hc2⟩ : ∃ c, c = m.l (.slice A2 m.b.length d2) (.slice B2 m.ps.length e2) := ⟨_, rfl⟩
            rw [← hc1] at hr1 hl1 hsm htk
            rw [← hc2] at hr2 hl2 hsm
            have Hl1 := hid hl1
            have Hl2 := hid hl2
            have Hsm := hid hsm
            have Htk := hid htk
            clear hc1 hc2 hl1 hl2 hsm htk he1 he2 hva2 hvb2 hm hmD hps hg2
            go_upto_region 21 with (fail)
            have hBd : Below wr.heap.size wr wr.drew := (Below.refl _ _).drew
            obtain ⟨wd, hwd⟩ : ∃ x, x = wr.drew := ⟨_, rfl⟩
            have hsd : wd.heap.size = wr.heap.size := by rw [hwd]; rfl
            rw [← hwd] at hBd
            have hbx := hbx.below hBd
            have hr1 : wd.rangeAt g1 (o1 + j * 38) c1 := range_keep hr1 (hBd.block _ hg1)
            have hr2 : wd.rangeAt g2 (o2 + j * 38) c2 := by rw [hwd]; exact hr2
            have hu1 := hu1.below hBd
            have hp1 := hp1.below hBd
            have hu2 := hu2.below hBd
            have hp2 := hp2.below hBd
            have hB := hB.trans (hBd.mono hB.size)
            rw [← hsd] at hg1
            clear hBd hsd
            refine wp_region_noPanic ?_
            refine wp_region_any (by kernel_rfl) ?_
            change wpAny _ _ _ _ _ _ _ (World.drew _)
            rw [← hwd]
            clear hwd
            refine wpAny_take (i := 0) (oi := ⟨some 46, _, _, _, _, none⟩) (v := ?_) rfl (by kernel_rfl) (by kernel_rfl) (by kernel_rfl) (fun _ _ _ h => h) (Or.inl ⟨by rfl, ?_⟩) ?_
            rotate_left
            · intro w; go_simp; try with_reducible rfl
            try simp only [Act.put, List.setIfInBounds_toArray, List.set_cons_zero, List.set_cons_succ]
            refine wpAny_take (i := 1) (oi := ⟨some 47, _, _, _, _, none⟩) (v := ?_) rfl (by kernel_rfl) (by kernel_rfl) (by kernel_rfl) (fun _ _ _ h => h) (Or.inl ⟨by rfl, ?_⟩) ?_
            rotate_left
            · intro w; go_simp; try with_reducible rfl
            try simp only [Act.put, List.setIfInBounds_toArray, List.set_cons_zero, List.set_cons_succ]
            refine wpAny_take (i := 2) (oi := ⟨some 48, _, _, _, _, none⟩) (v := _) rfl (by kernel_rfl) (by kernel_rfl) (by kernel_rfl) (fun _ _ _ h => h) (y_ixa (by rfl) 30 (.tmp 46) (.tmp 47) (by rfl) (by rfl) (i := j) (by rfl) Try.underlying30 hjl sizeVt) ?_
            try simp only [Act.put, List.setIfInBounds_toArray, List.set_cons_zero, List.set_cons_succ]
            refine wpAny_take (i := 4) (oi := ⟨some 50, _, _, _, _, none⟩) (v := ?_) rfl (by kernel_rfl) (by kernel_rfl) (by kernel_rfl) (fun _ _ _ h => h) (Or.inl ⟨by rfl, ?_⟩) ?_
            rotate_left
            · intro w; go_simp; try with_reducible rfl
            try simp only [Act.put, List.setIfInBounds_toArray, List.set_cons_zero, List.set_cons_succ]
            refine wpAny_take (i := 5) (oi := ⟨some 51, _, _, _, _, none⟩) (v := ?_) rfl (by kernel_rfl) (by kernel_rfl) (by kernel_rfl) (fun _ _ _ h => h) (Or.inl ⟨by rfl, ?_⟩) ?_
            rotate_left
            · intro w; go_simp; try with_reducible rfl
            try simp only [Act.put, List.setIfInBounds_toArray, List.set_cons_zero, List.set_cons_succ]
            refine wpAny_take (i := 6) (oi := ⟨some 52, _, _, _, _, none⟩) (v := _) rfl (by kernel_rfl) (by kernel_rfl) (by kernel_rfl) (fun _ _ _ h => h) (y_ixa (by rfl) 30 (.tmp 50) (.tmp 51) (by rfl) (by rfl) (i := j) (by rfl) Try.underlying30 hjl sizeVt) ?_
            try simp only [Act.put, List.setIfInBounds_toArray, List.set_cons_zero, List.set_cons_succ]
            refine wpAny_ready (rs := [3, 7]) (by kernel_rfl) (by simp) ?_
            refine AllReady.cons (o := ⟨some 49, .load 27 (.tmp 48), _, _, _, none⟩) rfl (fun K hK => ?_) ?_
            · refine step_ldw 27 (.tmp 48) (by rfl) (by rfl) (by rfl) hr1 Try.underlying27 rfl (by rw [Hl1.out]; exact sizeVt) ?_
              refine hK _ _ ?_
              clear hK K
              try simp only [Act.put, List.setIfInBounds_toArray, List.set_cons_zero, List.set_cons_succ]
              refine wpAny_ready (rs := [7]) (by kernel_rfl) (by simp) ?_
              refine AllReady.cons (o := ⟨some 53, .load 27 (.tmp 52), _, _, _, none⟩) rfl (fun K hK => ?_) AllReady.nil
              refine step_ldw 27 (.tmp 52) (by rfl) (by rfl) (by rfl) hr2 Try.underlying27 rfl (by rw [Hl2.out]; exact sizeVt) ?_
              refine hK _ _ ?_
              clear hK K
              try simp only [Act.put, List.setIfInBounds_toArray, List.set_cons_zero, List.set_cons_succ]
              refine wpAny_ready (rs := [8]) (by kernel_rfl) (by simp) ?_
              refine AllReady.cons (o := ⟨some 54, _, _, _, _, none⟩) rfl (fun K hK => ?_) AllReady.nil
              go_simp
              refine (Hsm.out _ _ _ _ _ hu1 hp1 hu2 hp2).mono ?_
              rintro e' x8 ⟨rfl, hX8⟩
              have hbx := hbx.below hX8
              have hr1 : x8.rangeAt g1 (o1 + j * 38) c1 := range_keep hr1 (hX8.block _ hg1)
              have hu1 := hu1.below hX8
              have hp1 := hp1.below hX8
              have hB := hB.trans (hX8.mono hB.size)
              refine hK _ _ ?_
              clear hK K
              try simp only [Act.put, List.setIfInBounds_toArray, List.set_cons_zero, List.set_cons_succ]
              refine wpAny_take (i := 9) (oi := ⟨some 55, _, _, _, _, none⟩) (v := ?_) rfl (by kernel_rfl) (by kernel_rfl) (by kernel_rfl) (fun _ _ _ h => h) (Or.inl ⟨by rfl, ?_⟩) ?_
              rotate_left
              · intro w; go_simp; try with_reducible rfl
              try simp only [Act.put, List.setIfInBounds_toArray, List.set_cons_zero, List.set_cons_succ]
              refine wpAny_take (i := 10) (oi := ⟨some 56, _, _, _, _, none⟩) (v := ?_) rfl (by kernel_rfl) (by kernel_rfl) (by kernel_rfl) (fun _ _ _ h => h) (Or.inl ⟨by rfl, ?_⟩) ?_
              rotate_left
              · intro w; go_simp; try with_reducible rfl
              try simp only [Act.put, List.setIfInBounds_toArray, List.set_cons_zero, List.set_cons_succ]
              refine wpAny_take (i := 11) (oi := ⟨some 57, _, _, _, _, some (10, false)⟩) (v := ?_) rfl (by kernel_rfl) (by kernel_rfl) (by kernel_rfl) (fun _ _ _ h => h) (Or.inl ⟨by rfl, ?_⟩) ?_
              rotate_left
              · intro w; go_simp; try with_reducible rfl
              try simp only [Act.put, List.setIfInBounds_toArray, List.set_cons_zero, List.set_cons_succ]
              refine wpAny_take (i := 12) (oi := ⟨some 58, _, _, _, _, some (10, false)⟩) (v := ?_) rfl (by kernel_rfl) (by kernel_rfl) (by kernel_rfl) (fun _ _ _ h => h) (Or.inl ⟨by rfl, ?_⟩) ?_
              rotate_left
              · intro w; go_simp; try with_reducible rfl
              try simp only [Act.put, List.setIfInBounds_toArray, List.set_cons_zero, List.set_cons_succ]
              refine wpAny_take (i := 13) (oi := ⟨some 59, _, _, _, _, some (10, false)⟩) (v := ?_) rfl (by kernel_rfl) (by kernel_rfl) (by kernel_rfl) (fun _ _ _ h => h) (Or.inl ⟨by rfl, ?_⟩) ?_
              rotate_left
              · intro w; go_simp; try with_reducible rfl
              try simp only [Act.put, List.setIfInBounds_toArray, List.set_cons_zero, List.set_cons_succ]
              refine wpAny_take (i := 14) (oi := ⟨some 60, _, _, _, _, some (10, false)⟩) (v := _) rfl (by kernel_rfl) (by kernel_rfl) (by kernel_rfl) (fun _ _ _ h => h) (y_ixa (by rfl) 30 (.tmp 58) (.tmp 59) (by rfl) (by rfl) (i := j) (by rfl) Try.underlying30 hjl sizeVt) ?_
              try simp only [Act.put, List.setIfInBounds_toArray, List.set_cons_zero, List.set_cons_succ]
              refine wpAny_ready (rs := [15]) (by kernel_rfl) (by simp) ?_
              refine AllReady.cons (o := ⟨some 61, .load 27 (.tmp 60), _, _, _, some (10, false)⟩) rfl (fun K hK => ?_) AllReady.nil
              refine step_ldw 27 (.tmp 60) (by rfl) (by rfl) (by rfl) hr1 Try.underlying27 rfl (by rw [Hl1.out]; exact sizeVt) ?_
              refine hK _ _ ?_
              clear hK K
              try simp only [Act.put, List.setIfInBounds_toArray, List.set_cons_zero, List.set_cons_succ]
              refine wpAny_ready (rs := [16]) (by kernel_rfl) (by simp) ?_
              refine AllReady.cons (o := ⟨some 62, _, _, _, _, some (10, false)⟩) rfl (fun K hK => ?_) AllReady.nil
              go_simp
              refine (Htk.out _ _ _ hbx hu1 hp1 (fun b hb hm => by have h1 := hM b hm; have h2 : b < wq.heap.size := hb; omega)).mono ?_
              rintro e' x9 ⟨rfl, hp9⟩
              obtain ⟨M9, F9, hbx9, hB9, hM9, _⟩ := hp9.bel hB hM
              rw [Hsn.out] at hbx9
              refine hK _ _ ?_
              clear hK K
              try simp only [Act.put, List.setIfInBounds_toArray, List.set_cons_zero, List.set_cons_succ]
              refine wpAny_take (i := 17) (oi := ⟨some 63, _, _, _, _, some (10, false)⟩) (v := ?_) rfl (by kernel_rfl) (by kernel_rfl) (by kernel_rfl) (fun _ _ _ h => h) (Or.inl ⟨by rfl, ?_⟩) ?_
              rotate_left
              · intro w; go_simp; try with_reducible rfl
              try simp only [Act.put, List.setIfInBounds_toArray, List.set_cons_zero, List.set_cons_succ]
              refine wpAny_take (i := 18) (oi := ⟨some 64, _, _, _, _, none⟩) (v := ?_) rfl (by kernel_rfl) (by kernel_rfl) (by kernel_rfl) (fun _ _ _ h => h) (Or.inl ⟨by rfl, ?_⟩) ?_
              rotate_left
              · intro w; go_simp; try with_reducible rfl
              try simp only [Act.put, List.setIfInBounds_toArray, List.set_cons_zero, List.set_cons_succ]
              refine wpAny_done (by kernel_rfl) ?_ _
              refine NoPanic.normal ?_
              clear hr1 hr2 hu1 hp1 hu2 hp2 hbx hp9 hB
              have Hb9 := hid hbx9
              clear hbx9
              go_wp2
              go_roundw
              case rel => exact ⟨j + 1, M9, F9, by omega, by go_num, Hb9.out, hM9, hB9⟩
              case measure => simp [intOf]; omega
            refine AllReady.cons (o := ⟨some 53, .load 27 (.tmp 52), _, _, _, none⟩) rfl (fun K hK => ?_) AllReady.nil
            refine step_ldw 27 (.tmp 52) (by rfl) (by rfl) (by rfl) hr2 Try.underlying27 rfl (by rw [Hl2.out]; exact sizeVt) ?_
            refine hK _ _ ?_
            clear hK K
            try simp only [Act.put, List.setIfInBounds_toArray, List.set_cons_zero, List.set_cons_succ]
            refine wpAny_ready (rs := [3]) (by kernel_rfl) (by simp) ?_
            refine AllReady.cons (o := ⟨some 49, .load 27 (.tmp 48), _, _, _, none⟩) rfl (fun K hK => ?_) AllReady.nil
            refine step_ldw 27 (.tmp 48) (by rfl) (by rfl) (by rfl) hr1 Try.underlying27 rfl (by rw [Hl1.out]; exact sizeVt) ?_
            refine hK _ _ ?_
            clear hK K
            try simp only [Act.put, List.setIfInBounds_toArray, List.set_cons_zero, List.set_cons_succ]
            refine wpAny_ready (rs := [8]) (by kernel_rfl) (by simp) ?_
            refine AllReady.cons (o := ⟨some 54, _, _, _, _, none⟩) rfl (fun K hK => ?_) AllReady.nil
            go_simp
            refine (Hsm.out _ _ _ _ _ hu1 hp1 hu2 hp2).mono ?_
            rintro e' x8 ⟨rfl, hX8⟩
            have hbx := hbx.below hX8
            have hr1 : x8.rangeAt g1 (o1 + j * 38) c1 := range_keep hr1 (hX8.block _ hg1)
            have hu1 := hu1.below hX8
            have hp1 := hp1.below hX8
            have hB := hB.trans (hX8.mono hB.size)
            refine hK _ _ ?_
            clear hK K
            try simp only [Act.put, List.setIfInBounds_toArray, List.set_cons_zero, List.set_cons_succ]
            refine wpAny_take (i := 9) (oi := ⟨some 55, _, _, _, _, none⟩) (v := ?_) rfl (by kernel_rfl) (by kernel_rfl) (by kernel_rfl) (fun _ _ _ h => h) (Or.inl ⟨by rfl, ?_⟩) ?_
            rotate_left
            · intro w; go_simp; try with_reducible rfl
            try simp only [Act.put, List.setIfInBounds_toArray, List.set_cons_zero, List.set_cons_succ]
            refine wpAny_take (i := 10) (oi := ⟨some 56, _, _, _, _, none⟩) (v := ?_) rfl (by kernel_rfl) (by kernel_rfl) (by kernel_rfl) (fun _ _ _ h => h) (Or.inl ⟨by rfl, ?_⟩) ?_
            rotate_left
            · intro w; go_simp; try with_reducible rfl
            try simp only [Act.put, List.setIfInBounds_toArray, List.set_cons_zero, List.set_cons_succ]
            refine wpAny_take (i := 11) (oi := ⟨some 57, _, _, _, _, some (10, false)⟩) (v := ?_) rfl (by kernel_rfl) (by kernel_rfl) (by kernel_rfl) (fun _ _ _ h => h) (Or.inl ⟨by rfl, ?_⟩) ?_
            rotate_left
            · intro w; go_simp; try with_reducible rfl
            try simp only [Act.put, List.setIfInBounds_toArray, List.set_cons_zero, List.set_cons_succ]
            refine wpAny_take (i := 12) (oi := ⟨some 58, _, _, _, _, some (10, false)⟩) (v := ?_) rfl (by kernel_rfl) (by kernel_rfl) (by kernel_rfl) (fun _ _ _ h => h) (Or.inl ⟨by rfl, ?_⟩) ?_
            rotate_left
            · intro w; go_simp; try with_reducible rfl
            try simp only [Act.put, List.setIfInBounds_toArray, List.set_cons_zero, List.set_cons_succ]
            refine wpAny_take (i := 13) (oi := ⟨some 59, _, _, _, _, some (10, false)⟩) (v := ?_) rfl (by kernel_rfl) (by kernel_rfl) (by kernel_rfl) (fun _ _ _ h => h) (Or.inl ⟨by rfl, ?_⟩) ?_
            rotate_left
            · intro w; go_simp; try with_reducible rfl
            try simp only [Act.put, List.setIfInBounds_toArray, List.set_cons_zero, List.set_cons_succ]
            refine wpAny_take (i := 14) (oi := ⟨some 60, _, _, _, _, some (10, false)⟩) (v := _) rfl (by kernel_rfl) (by kernel_rfl) (by kernel_rfl) (fun _ _ _ h => h) (y_ixa (by rfl) 30 (.tmp 58) (.tmp 59) (by rfl) (by rfl) (i := j) (by rfl) Try.underlying30 hjl sizeVt) ?_
            try simp only [Act.put, List.setIfInBounds_toArray, List.set_cons_zero, List.set_cons_succ]
            refine wpAny_ready (rs := [15]) (by kernel_rfl) (by simp) ?_
            refine AllReady.cons (o := ⟨some 61, .load 27 (.tmp 60), _, _, _, some (10, false)⟩) rfl (fun K hK => ?_) AllReady.nil
            refine step_ldw 27 (.tmp 60) (by rfl) (by rfl) (by rfl) hr1 Try.underlying27 rfl (by rw [Hl1.out]; exact sizeVt) ?_
            refine hK _ _ ?_
            clear hK K
            try simp only [Act.put, List.setIfInBounds_toArray, List.set_cons_zero, List.set_cons_succ]
            refine wpAny_ready (rs := [16]) (by kernel_rfl) (by simp) ?_
            refine AllReady.cons (o := ⟨some 62, _, _, _, _, some (10, false)⟩) rfl (fun K hK => ?_) AllReady.nil
            go_simp
            refine (Htk.out _ _ _ hbx hu1 hp1 (fun b hb hm => by have h1 := hM b hm; have h2 : b < wq.heap.size := hb; omega)).mono ?_
            rintro e' x9 ⟨rfl, hp9⟩
            obtain ⟨M9, F9, hbx9, hB9, hM9, _⟩ := hp9.bel hB hM
            rw [Hsn.out] at hbx9
            refine hK _ _ ?_
            clear hK K
            try simp only [Act.put, List.setIfInBounds_toArray, List.set_cons_zero, List.set_cons_succ]
            refine wpAny_take (i := 17) (oi := ⟨some 63, _, _, _, _, some (10, false)⟩) (v := ?_) rfl (by kernel_rfl) (by kernel_rfl) (by kernel_rfl) (fun _ _ _ h => h) (Or.inl ⟨by rfl, ?_⟩) ?_
            rotate_left
            · intro w; go_simp; try with_reducible rfl
            try simp only [Act.put, List.setIfInBounds_toArray, List.set_cons_zero, List.set_cons_succ]
            refine wpAny_take (i := 18) (oi := ⟨some 64, _, _, _, _, none⟩) (v := ?_) rfl (by kernel_rfl) (by kernel_rfl) (by kernel_rfl) (fun _ _ _ h => h) (Or.inl ⟨by rfl, ?_⟩) ?_
            rotate_left
            · intro w; go_simp; try with_reducible rfl
            try simp only [Act.put, List.setIfInBounds_toArray, List.set_cons_zero, List.set_cons_succ]
            refine wpAny_done (by kernel_rfl) ?_ _
            refine NoPanic.normal ?_
            clear hr1 hr2 hu1 hp1 hu2 hp2 hbx hp9 hB
            have Hb9 := hid hbx9
            clear hbx9
            go_wp2
            go_roundw
            case rel => exact ⟨j + 1, M9, F9, by omega, by go_num, Hb9.out, hM9, hB9⟩
            case measure => simp [intOf]; omega
          · have hj' : j = D.length := by omega
            subst hj'
            have hI : ¬ (D.length : Int) < (D.length : Int) := by omega
            rw [List.take_length] at hbx
            have hrd2 := hrd.below hB
            have hB2 := hBw.trans (hB.mono hBw.size)
            clear hrd hva hvb
            go_wp2_with (fail)
            refine (alike13_any _ M F (fun _ => True) D C _ _ hbx hrd2 Hcc.out Hrg.out Hsl.out Hac.out Hwr.out).mono ?_
            rintro e x4 ⟨rfl, hX4⟩
            go_wp2
            go_ret
            exact ⟨rfl, hB2.trans (hX4.mono hB2.size)⟩
end Go.Proofs.Ytkoncjcnpconkaa
