/- JT: layer 13: VotesTake. -/
import Derived.Test.YtkoncjcnpconkaaJS
namespace Go.Proofs.Ytkoncjcnpconkaa
open Go.RowKit Go.V
set_option maxRecDepth 100000 in
set_option maxHeartbeats 8000000 in
theorem votesTake_law (l : List Vt) (vl : Value) (F0 : Nat → Prop) (w : World) (hl : Rd w F0 vl (wds vtD l)) (hin : ∀ m ∈ l, VtIn m) :
    Calls Try.prog 4 #[vl] w fun e w' => e = .returned (.bool true) ∧ Below w.heap.size w w' := by
  obtain ⟨A, c, rfl, hc1, hc2⟩ := wds_shape hl
  have hl := hl.weak (F' := fun b => b < w.heap.size) (fun b h _ => h)
  obtain ⟨G, hG⟩ : ∃ G : Nat → Prop, G = fun b => b < w.heap.size := ⟨_, rfl⟩
  rw [← hG] at hl
  have hGF : ∀ b, G b → b < w.heap.size := fun b h => by rw [hG] at h; exact h
  clear hG
  go_enter Try.func4, Try.ntmps4
  go_wp2_with (fail)
  refine (wakes13_any _).mono ?_
  rintro e w1 ⟨rfl, hB1⟩
  have hl1 := hl.below hB1
  go_wp2_with (fail)
  refine (long13_any l _ _ _ hl1).mono ?_
  rintro e w1 ⟨rfl, rfl⟩
  cases hlg : longVs l with
  | true =>
    go_wp2
    go_ret
    exact ⟨rfl, hB1⟩
  | false =>
    have hll : l.length ≤ 40 := by
      rcases Nat.lt_or_ge 40 l.length with h | h
      · rw [longVs_t1 h] at hlg; cases hlg
      · exact h
    have hlo : ∀ m ∈ l, longV m = false := fun m hm => by
      cases h : longV m with
      | false => rfl
      | true => rw [longVs_t2 hm h] at hlg; cases hlg
    have Hin := hid hin
    have Hlo := hid hlo
    clear hlg hlo hin
    go_wp2_with (fail)
    refine (bnew13_any _).mono ?_
    rintro e w2 ⟨kv, M0, F0', rfl, hI, hB2, hM2⟩
    obtain ⟨xk, rfl⟩ := hI.ptr
    have hB02 := hB1.trans (hB2.mono hB1.size)
    have hJ := VJ.start G hI hB02 (fun b h => by have := hM2 b (.inl h); have := hB1.size; omega)
    have HJ := hid hJ
    clear hI hB1 hB2 hM2 hJ hl1
    go_wp2
    go_loopw [4, 15] (fun ov iv wr => ∃ (i : Nat) (M F : Nat → Prop) (C : List Vt), i ≤ l.length ∧ iv = .int .i64 i ∧ C.length ≤ i ∧ (∀ m ∈ C, m ∈ l) ∧ VJ w wr (.pointer (some ⟨xk, 0, none⟩)) M F G ov C C) (fun _ i _ => l.length - (intOf i).toNat)
    case atStart => exact ⟨0, M0, F0', [], Nat.zero_le _, rfl, Nat.le_refl _, (fun _ h => by cases h), HJ.out⟩
    case round =>
      clear HJ hB02
      obtain ⟨i, M, F, C, hi, rfl, hCi, hCl, hJ⟩ := hrel
      have HCl := hid hCl
      clear hCl
      by_cases hlt : i < l.length
      · obtain ⟨f, hf⟩ : ∃ f, l[i]? = some f := ⟨_, List.getElem?_eq_getElem hlt⟩
        have hI : (i : Int) < (l.length : Int) := by omega
        have hlr := hl.below hJ.B
        obtain ⟨g, off, cs, rfl, hg, hrg, he⟩ := wd_el hlr hf
        obtain ⟨ub, up, rfl, hub, hup⟩ := vt_open he
        obtain ⟨AB, cb, rfl⟩ := hub.shape
        obtain ⟨AP, cpp, rfl, _, _⟩ := hup.slShape
        have hfl := List.mem_of_getElem? hf
        have hlf := Hlo.out f hfl
        have hll := len_vt f (.slice AB f.b.length cb) (.slice AP f.ps.length cpp)
        have htb := fun (M F : Nat → Prop) (W : World) (h : BX W (.pointer (some ⟨xk, 0, none⟩)) M F C) (h1 : Rd W G (.slice AB f.b.length cb) (bys f.b)) (h2 : Rd W G (.slice AP f.ps.length cpp) (tx f.ps)) (hG : ∀ b, G b → ¬ M b) => btake13_any _ M F G C f _ _ W h (by omega) (Hin.out f hfl) (VtSm.of hlf) h1 h2 hG
        have htr := fun (ov : Value) (F : Nat → Prop) (W : World) (hl : Rd W F ov (wds vtD C)) (h1 : Rd W (fun b => b < W.heap.size) (.slice AB f.b.length cb) (bys f.b)) (h2 : Rd W (fun b => b < W.heap.size) (.slice AP f.ps.length cpp) (tx f.ps)) => rtake13_any C f ov _ _ F W hlf hl h1 h2
        obtain ⟨tk, htk⟩ : ∃ tk, tk = takeF C f := ⟨_, rfl⟩
        unfold Vt.val at htb htr
        obtain ⟨cs, hcs⟩ : ∃ cs, cs = f.l (.slice AB f.b.length cb) (.slice AP f.ps.length cpp) := ⟨_, rfl⟩
        have ho1 : ∀ v ∈ cs, v.oneCell' = true := by rw [hcs]; exact one_vt
        rw [← hcs] at hrg hll he htb htr
        rw [← htk] at htb htr
        have Hll := hid hll
        have Htb := hid htb
        have Htr := hid htr
        have Hfl := hid hfl
        clear hcs hll htb htr hf htk hlf hfl
        go_wp2_with (first | refine wp_ixa 30 (.tmp 13) (.tmp 15) rfl rfl rfl rfl Try.underlying30 hlt sizeVt ?_ | refine wp_ld 27 (.tmp 17) rfl rfl rfl hrg Try.underlying27 rfl (by rw [Hll.out]; exact sizeVt) ?_ | (refine wp_newst 27 6 (.tmp 18) rfl rfl rfl rfl rfl rfl zeroV13 (l := cs) rfl (by rw [Hll.out, len_zVl]) (by rw [Hll.out]; exact sizeVt) ho1 (by simp [Act.put]) ?_; intro x1 hq6 hX1 hs1; refine wp_stop ?_))
        obtain ⟨g6, hg6⟩ : ∃ g, g = wr.heap.size := ⟨_, rfl⟩
        have hg6w : w.heap.size ≤ g6 := by have := hJ.B.size; omega
        have hg6M : ¬ M g6 := fun h => by have := hJ.bx.bd g6 (.inl h); omega
        rw [← hg6] at hq6 ⊢
        clear hg6 hs1
        have hJ := hJ.below hX1
        have he := he.below hX1
        have hub := hub.below hX1
        have hup := hup.below hX1
        clear hX1 hlr hrg
        refine wp_go ?_
        go_wp2_with (refine wp_ld 27 (.tmp 6) rfl rfl rfl hq6.whole Try.underlying27 rfl (by rw [Hll.out]; exact sizeVt) ?_)
        refine (Htb.out M F _ hJ.bx hub hup (fun b hb hm => by have := hGF b hb; have := hJ.m b hm; omega)).mono ?_
        rintro e x2 ⟨rfl, hp⟩
        obtain ⟨M2, F2, hJ2, hC2⟩ := hJ.took hGF hp
        have hq6 := hq6.ch hC2 hg6M
        have hkG : ∀ b, b < x1.heap.size → G b → G b ∧ x2.heap[b]? = x1.heap[b]? := fun b hb hf => ⟨hf, hC2.block b hb (fun hm => by have := hGF b hf; have := hJ.m b hm; omega)⟩
        have he := he.keep hkG
        have hub := hub.keep hkG
        have hup := hup.keep hkG
        clear hJ hp hC2 hkG Htb hg6M
        go_wp2_with (refine wp_ld 27 (.tmp 6) rfl rfl rfl hq6.whole Try.underlying27 rfl (by rw [Hll.out]; exact sizeVt) ?_)
        refine (Htr.out _ _ _ hJ2.rd (hub.weak (fun b hb _ => hb)) (hup.weak (fun b hb _ => hb))).mono ?_
        rintro e x3 ⟨rfl, hX3⟩
        have hne : ((tk : Int) != (tk : Int)) = false := bne_self_eq_false _
        have hJ := hJ2.below hX3
        have he := he.below hX3
        have hq6 := hq6.below hX3
        clear hJ2 hX3 Htr hub hup
        by_cases h0 : tk = 0
        case neg =>
          have hz : ((tk : Int) == 0) = false := beq_eq_false_iff_ne.2 (by omega)
          rw [if_neg h0] at hJ
          clear h0 he hq6
          go_wp2_with (fail)
          refine (alike13_any _ M2 F2 (fun _ => True) C C _ _ hJ.bx hJ.rd (fun m hm => ⟨Hin.out m (HCl.out m hm), by have := (longV_bd (Hlo.out m (HCl.out m hm))).2.1; omega⟩) rfl rfl rfl (fun _ _ => rfl)).mono ?_
          rintro e x4 ⟨rfl, hX4⟩
          have hJ := hJ.below hX4
          have HJ := hid hJ
          clear hX4 hJ
          go_wp2
          go_roundw
          case rel => exact ⟨i + 1, M2, F2, C, by omega, by go_num, by omega, HCl.out, HJ.out⟩
          case measure => simp [intOf]; omega
        subst h0
        rw [if_pos rfl] at hJ
        obtain ⟨xs, hro, hx⟩ := hJ.row
        obtain ⟨Ao, co, hov⟩ := own_shape13 hro
        subst hov
        have hbx := hJ.bx
        have hap := hJ.ap
        have hBx := hJ.B
        have hmx := hJ.m
        clear hJ
        go_wp2_with (first | refine wp_ld 27 (.tmp 6) rfl rfl rfl hq6.whole Try.underlying27 rfl (by rw [Hll.out]; exact sizeVt) ?_ | (refine wp_pushW (.tmp 29) (.tmp 30) 31 slV13 rfl rfl rfl rfl rfl (us := cs) rfl Hll.out ho1 (by simp [Act.put]) rfl hro (by simp only [maxLen]; omega) (by omega) hBx.size ?_; intro v5 x5 ho5 hG5 hd5; refine wp_stop ?_))
        have hJ := VJ.push (m := f) hbx hro hx hBx hmx hap hGF he ho5 hG5 hd5
        obtain ⟨D, hD⟩ : ∃ D, D = C ++ [f] := ⟨_, rfl⟩
        have hDl : D.length ≤ i + 1 := by rw [hD, List.length_append]; simp; omega
        have hDm : ∀ m ∈ D, m ∈ l := fun m hm => by
          rw [hD, List.mem_append] at hm
          rcases hm with h | h
          · exact HCl.out m h
          · simp at h; subst h; exact Hfl.out
        rw [← hD] at hJ
        have HDm := hid hDm
        clear hbx hro hx hBx hmx hap he ho5 hG5 hd5 hD hDm hq6
        refine wp_go ?_
        go_wp2_with (fail)
        refine (alike13_any _ M2 F2 (fun _ => True) D D _ _ hJ.bx hJ.rd (fun m hm => ⟨Hin.out m (HDm.out m hm), by have := (longV_bd (Hlo.out m (HDm.out m hm))).2.1; omega⟩) rfl rfl rfl (fun _ _ => rfl)).mono ?_
        rintro e x6 ⟨rfl, hX6⟩
        have hJ := hJ.below hX6
        have HJ := hid hJ
        clear hX6 hJ
        go_wp2
        go_roundw
        case rel => exact ⟨i + 1, M2, F2, D, by omega, by go_num, hDl, HDm.out, HJ.out⟩
        case measure => simp [intOf]; omega
      · have hi' : i = l.length := by omega
        subst hi'
        have hI : ¬ (l.length : Int) < (l.length : Int) := by omega
        have hB := hJ.B
        clear hJ
        go_wp2
        go_ret
        exact ⟨rfl, hB⟩
end Go.Proofs.Ytkoncjcnpconkaa
