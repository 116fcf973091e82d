/- DE: layer 10: the law DiskAll. -/
import Derived.Test.YtjaiffefgjopmaaDA
import Derived.Test.YtjaiffefgjopmaaDJ
namespace Go.V
open Go.RowKit
/-- what is written of M is neither written nor read of the other -/
def NT (M M' F' : Nat → Prop) : Prop := ∀ b, M b → ¬ M' b ∧ ¬ F' b
theorem NT.left {M M' F' N : Nat → Prop} {s : Nat} (h : NT M M' F') (hb : ∀ b, M' b ∨ F' b → b < s) (hN : ∀ b, N b → M b ∨ s ≤ b) : NT N M' F' := fun b hn =>
  (hN b hn).elim (h b) (fun hs => ⟨fun h1 => by have := hb b (.inl h1); omega, fun h1 => by have := hb b (.inr h1); omega⟩)
theorem NT.right {M M' F' N G : Nat → Prop} {s : Nat} (h : NT M M' F') (hb : ∀ b, M b → b < s) (hN : ∀ b, N b → M' b ∨ s ≤ b) (hG : ∀ b, G b → F' b ∨ M' b ∨ s ≤ b) : NT M N G := fun b hm =>
  ⟨fun h1 => (hN b h1).elim (h b hm).1 (fun hs => by have := hb b hm; omega), fun h1 => (hG b h1).elim (h b hm).2 (fun h2 => h2.elim (h b hm).1 (fun hs => by have := hb b hm; omega))⟩
theorem NT.flip {M M' F' F : Nat → Prop} (h : NT M M' F') (h2 : ∀ b, M' b → ¬ F b) : NT M' M F := fun b hm => ⟨fun h1 => (h b h1).1 hm, h2 b hm⟩
theorem sync_calm (D : Dk) (a : Ac) (hk : a.k = 4) (h : calm D) : (doF D a).1 = { D with syn := nowF D, pend := [] } := by
  unfold doF
  rw [if_pos hk, burn_calm D h, if_pos rfl]
theorem crash_now (D : Dk) (a : Ac) (hk : a.k = 5) : (doF D a).1 = crashF D a.keep a.torn a.cut := by
  unfold doF
  rw [if_neg (by omega), if_pos hk]
def aAll : Ac := ⟨5, ByteArray.empty, ByteArray.empty, [], 18446744073709551615, -1, 0, 0⟩
theorem sm_all : AcSm aAll := ⟨by decide, by decide, by decide, by decide, by unfold maxLen; decide, by unfold maxLen; decide⟩
theorem sm_none : AcSm aWc := ⟨by decide, by decide, by decide, by decide, by unfold maxLen; decide, by unfold maxLen; decide⟩
theorem inv_sync {x : Int} {i : Nat} {D : Dk} (h : InvD x i D) (a : Ac) (hb : a.b = []) (hm : a.m = 0) : InvD x (i + 1) (doF D a).1 :=
  h.step (by rw [hb]; simp) (by rw [hm]; exact ⟨by omega, by omega⟩)
end Go.V
namespace Go.Proofs.Ytjaiffefgjopmaa
open Go.RowKit Go.V
theorem NT.keep {w w' : World} {v : Value} {M M' F' : Nat → Prop} {D : Dk} (h : NT M M' F') (hX : IX w v M' F' D) (hC : Ch M w w') : IX w' v M' F' D :=
  hX.keep (fun b hb hm => hC.block b hb (fun h1 => hm.elim (h b h1).1 (h b h1).2)) hC.size
theorem bldPl2 (x y : Int) : ∀ W : World, (Instr.build 32 #[(0, .int .u64 y), (1, .int .i64 x)]).run Try.prog W = .ok (.agg #[.int .u64 y, .int .i64 x, .int .i64 0]) W := fun _ => by kernel_rfl
set_option maxRecDepth 100000 in
set_option maxHeartbeats 8000000 in
theorem diskAll_law (l m : List Ac) (vl vm : Value) (F G : Nat → Prop) (w : World) (hl : Rd w F vl (wds acD l)) (hm : Rd w G vm (wds acD m)) (hin : ∀ a ∈ l, AcIn a) (hjn : ∀ a ∈ m, AcIn a) :
    Calls Try.prog 5 #[vl, vm] w fun e w' => e = .returned (.bool true) ∧ Below w.heap.size w w' := by
  have hl := hl.weak (F' := fun b => b < w.heap.size) (fun b hb _ => hb)
  have hm := hm.weak (F' := fun b => b < w.heap.size) (fun b hb _ => hb)
  obtain ⟨A, c, rfl, hc1, hc2⟩ := wds_shape hl
  obtain ⟨Am, cm, rfl, hd1, hd2⟩ := wds_shape hm
  go_enter Try.func5, Try.ntmps5
  go_wp2_with (fail)
  refine (wakes10_any _).mono ?_
  rintro e w1 ⟨rfl, hB1⟩
  go_wp2_with (fail)
  refine (long_any10 l _ _ _ (hl.below hB1)).mono ?_
  rintro e w2 ⟨rfl, rfl⟩
  cases hlo : longF l with
  | true =>
    go_wp2
    go_ret
    exact ⟨rfl, hB1⟩
  | false =>
  obtain ⟨hl80, hla⟩ := longF_out hlo
  clear hlo
  go_wp2_with (fail)
  refine (long_any10 m _ _ _ (hm.below hB1)).mono ?_
  rintro e w2 ⟨rfl, rfl⟩
  cases hlo : longF m with
  | true =>
    go_wp2
    go_ret
    exact ⟨rfl, hB1⟩
  | false =>
  obtain ⟨hm80, hma⟩ := longF_out hlo
  clear hlo
  go_wp2_with (fail)
  refine (new10_any 65536 _).mono ?_
  rintro e w3 ⟨v0, M0, F0, rfl, hX0, hB3, hMF⟩
  have hs1 := hB1.size
  have hM0 : ∀ b, M0 b → w.heap.size ≤ b := fun b hb => by have := hMF b (.inl hb); omega
  have hB3' := hB1.trans (hB3.mono hs1)
  have hI0 := InvD.new 65536
  have hc0 : calm ⟨roomF 65536, [], [], -1, false⟩ := ⟨rfl, rfl⟩
  have Hla := hid hla
  have Hin := hid hin
  have Hma := hid hma
  have Hjn := hid hjn
  obtain ⟨D0, hD0⟩ : ∃ D : Dk, D = ⟨roomF 65536, [], [], -1, false⟩ := ⟨_, rfl⟩
  rw [← hD0] at hX0 hI0 hc0
  clear hD0 hMF hB3 hla hin hma hjn hB1 hs1
  obtain ⟨x0, rfl⟩ := hX0.ptr
  go_wp2
  go_loopw [24] (fun iv wr => ∃ (i : Nat) (M F' : Nat → Prop) (D : Dk), i ≤ l.length ∧ iv = .int .i64 i ∧ IX wr (.pointer (some ⟨x0, 0, none⟩)) M F' D ∧ (∀ b, M b → w.heap.size ≤ b) ∧ InvD 65536 i D ∧ calm D ∧ Below w.heap.size w wr) (fun i _ => l.length - (intOf i).toNat)
  case atStart => exact ⟨0, M0, F0, D0, Nat.zero_le _, rfl, hX0, hM0, hI0, hc0, hB3'⟩
  case round =>
    obtain ⟨i, M, F', D, hi, rfl, hX, hM, hI, hcl, hB⟩ := hrel
    by_cases hlt : i < l.length
    · obtain ⟨a, ha⟩ : ∃ a, l[i]? = some a := ⟨_, List.getElem?_eq_getElem hlt⟩
      have hIlt : (i : Int) < (l.length : Int) := by omega
      have hin1 : IntKind.i64.wrap ((i : Int) + 1) = (i : Int) + 1 := IntWalk.i64_in _ (by omega)
      have hlr := hl.below hB
      obtain ⟨g, off, cs, rfl, hg, hr, he⟩ := wd_el hlr ha
      obtain ⟨u, rfl, hu⟩ := ac_open he
      obtain ⟨Au, cu, rfl⟩ := hu.shape
      have hAi := Hin.out a (List.mem_of_getElem? ha)
      have hAl := (Hla.out a (List.mem_of_getElem? ha)).1
      have hAs := hAi.sm hAl
      have hAm := hAi.m
      clear ha he hAi
      go_wp2_with (first | refine wp_ixa 22 (.tmp 22) (.tmp 24) rfl rfl rfl rfl Try.underlying22 hlt sizeAc ?_ | refine wp_ld 34 (.tmp 26) rfl rfl rfl hr Try.underlying34 rfl sizeAc ?_ | refine wp_newst 34 7 (.tmp 27) rfl rfl rfl rfl rfl rfl zeroAc (l := a.l (.slice Au a.b.length cu)) rfl rfl sizeAc (one_ac a _ _ _) (by simp [Act.put]) ?_; intro w4 hx4 hB4 hs4; refine wp_stop ?_)
      have hX4 := hX.keep (fun b hb _ => hB4.block b hb) hB4.size
      have hu4 := hu.below hB4
      have hBx := hB.trans (hB4.mono hB.size)
      obtain ⟨gx, hgx⟩ : ∃ g, g = wr.heap.size := ⟨_, rfl⟩
      rw [← hgx] at hx4 ⊢
      clear hgx hX hu hr hlr hB4 hs4 hB
      refine wp_go ?_
      go_wp2_with (refine wp_ld 34 (.tmp 7) rfl rfl rfl hx4.whole Try.underlying34 rfl sizeAc ?_)
      refine (right_any10 a _ _).mono ?_
      rintro e w5 ⟨rfl, hB5⟩
      have hX5 := hX4.keep (fun b hb _ => hB5.block b hb) hB5.size
      have hu5 := hu4.below hB5
      have hx5 := hx4.below hB5
      have hBy := hBx.trans (hB5.mono hBx.size)
      have ck := hx5.cellAt 0 _ rfl
      clear hX4 hu4 hx4 hB5 hBx
      by_cases hk : 0 ≤ a.k ∧ a.k ≤ 7
      · rw [decide_eq_true hk]
        by_cases h4 : a.k < 4
        · have hb4 : decide (a.k < 4) = true := decide_eq_true h4
          have hI' := hI.step hAl hAm
          have hsm := hI.sm (by omega)
          have hcl' := do_calm D a hcl (by omega)
          have hsy := (do_pend D a hcl h4).1
          have hDo := dol_any _ M F' _ D a _ w5 hX5 hsm hAs hu5 (fun b hb => ⟨by have h' : b < w.heap.size := hb; have := hBy.size; omega, fun hm => by have h' : b < w.heap.size := hb; have := hM b hm; omega⟩) hk
          unfold DoL at hDo
          obtain ⟨R, hRR⟩ : ∃ R, R = doF D a := ⟨_, rfl⟩
          rw [← hRR] at hI' hDo hcl' hsy
          have H6 : Hid (a.k ≠ 6) := by show _ ≠ _; omega
          have Hsy := hid hsy
          clear hRR hk h4 hsy
          go_wp2_with (refine wp_ld 34 (.tmp 7) rfl rfl rfl hx5.whole Try.underlying34 rfl sizeAc ?_)
          refine hDo.mono ?_
          rintro e w6 ⟨v6, rfl, ⟨M6, F6, hX6, hC6, hM6, hF6⟩, hv6⟩
          obtain rfl := hv6 H6.out
          have hBz := below_chM hBy hC6 hM (Nat.le_refl _)
          have hM6b : ∀ b, M6 b → w.heap.size ≤ b := fun b h => (hM6 b h).elim (hM b) (fun h => by have := hBy.size; omega)
          clear hX5 hu5 hx5 hDo hC6 hM6 hF6 hBy ck hM
          go_wp2
          go_roundw
          case rel => exact ⟨i + 1, M6, F6, R.1, by omega, by go_num, hX6, hM6b, hI', hcl', hBz⟩
          case measure => simp [intOf]; omega
        · have hb4 : decide (a.k < 4) = false := decide_eq_false h4
          clear h4 hk
          go_wp2
          go_roundw
          case rel => exact ⟨i + 1, M, F', D, by omega, by go_num, hX5, hM, hI.mono (by omega), hcl, hBy⟩
          case measure => simp [intOf]; omega
      · rw [decide_eq_false hk]
        go_wp2
        go_roundw
        case rel => exact ⟨i + 1, M, F', D, by omega, by go_num, hX5, hM, hI.mono (by omega), hcl, hBy⟩
        case measure => simp [intOf]; omega
    · have hi' : i = l.length := by omega
      subst hi'
      have hI0 : ¬ (l.length : Int) < (l.length : Int) := by omega
      have hsm := hI.sm (by omega)
      have hI1 := inv_sync hI aWs rfl rfl
      have hsy := sync_calm D aWs rfl hcl
      have hc1 := do_calm D aWs hcl (by decide)
      go_wp2_with (fail)
      refine (sync10_any _ M F' D aWs _ hX hsm rfl).mono ?_
      rintro e w4 ⟨rfl, M1, F1, hX1, hC1, hM1, hF1⟩
      have hB4 := below_chM hB hC1 hM (Nat.le_refl _)
      have hM1 : ∀ b, M1 b → w.heap.size ≤ b := fun b h => (hM1 b h).elim (hM b) (fun h => by have := hB.size; omega)
      obtain ⟨D1, hD1⟩ : ∃ D1, D1 = (doF D aWs).1 := ⟨_, rfl⟩
      rw [← hD1] at hI1 hsy hc1 hX1
      have hS0 : nowF D1 = D1.syn := by rw [hsy]; rfl
      clear hD1 hsy hX hC1 hF1 hM hI hcl hB
      have hsm1 := hI1.sm (by omega)
      go_wp2_with (fail)
      refine (copy10_any _ M1 F1 D1 _ hX1 hsm1).mono ?_
      rintro e w5 ⟨v2, M, F', M2, F2, rfl, hX, hX2, hC5, hMa, hFa, hM2, hF2, hd12, hd21⟩
      have hN2 : NT M M2 F2 := hd12
      have hB5 := below_chM hB4 hC5 hM1 (Nat.le_refl _)
      have hMM : ∀ b, M b → w.heap.size ≤ b := fun b h => (hMa b h).elim (hM1 b) (fun h => by have := hB4.size; omega)
      obtain ⟨x2, rfl⟩ := hX2.ptr
      clear hX1 hC5 hMa hFa hM2 hF2 hd12 hd21 hB4 hM1 hM0 hX0 hI0 hc0
      have hp0 : D1.pend.length ≤ 81 := by have := hI1.n; unfold mN at this; omega
      go_wp2
      go_loopw [45] (fun jv wr => ∃ (j : Nat) (M F' : Nat → Prop) (D : Dk), j ≤ m.length ∧ jv = .int .i64 j ∧ IX wr (.pointer (some ⟨x0, 0, none⟩)) M F' D ∧ IX wr (.pointer (some ⟨x2, 0, none⟩)) M2 F2 D1 ∧ NT M M2 F2 ∧ (∀ b, M b → w.heap.size ≤ b) ∧ InvD 65536 (l.length + 1 + j) D ∧ calm D ∧ D.syn = D1.syn ∧ Below w.heap.size w wr) (fun j _ => m.length - (intOf j).toNat)
      case atStart => exact ⟨0, M, F', D1, Nat.zero_le _, rfl, hX, hX2, hN2, hMM, hI1, hc1, rfl, hB5⟩
      case round =>
        clear hX hX2 hN2 hMM hB5
        obtain ⟨j, M, F', D, hj, rfl, hX, hX2, hN2, hM, hI, hcl, hsyn, hB⟩ := hrel
        by_cases hlt : j < m.length
        · obtain ⟨a, ha⟩ : ∃ a, m[j]? = some a := ⟨_, List.getElem?_eq_getElem hlt⟩
          have hIlt : (j : Int) < (m.length : Int) := by omega
          have hin1 : IntKind.i64.wrap ((j : Int) + 1) = (j : Int) + 1 := IntWalk.i64_in _ (by omega)
          have hlr := hm.below hB
          obtain ⟨g, off, cs, rfl, hg, hr, he⟩ := wd_el hlr ha
          obtain ⟨u, rfl, hu⟩ := ac_open he
          obtain ⟨Au, cu, rfl⟩ := hu.shape
          have hAi := Hjn.out a (List.mem_of_getElem? ha)
          have hAl := (Hma.out a (List.mem_of_getElem? ha)).1
          have hAs := hAi.sm hAl
          have hAm := hAi.m
          clear ha he hAi
          go_wp2_with (first | refine wp_ixa 22 (.tmp 43) (.tmp 45) rfl rfl rfl rfl Try.underlying22 hlt sizeAc ?_ | refine wp_ld 34 (.tmp 47) rfl rfl rfl hr Try.underlying34 rfl sizeAc ?_ | refine wp_newst 34 10 (.tmp 48) rfl rfl rfl rfl rfl rfl zeroAc (l := a.l (.slice Au a.b.length cu)) rfl rfl sizeAc (one_ac a _ _ _) (by simp [Act.put]) ?_; intro w4 hx4 hB4 hs4; refine wp_stop ?_)
          have hX4 := hX.keep (fun b hb _ => hB4.block b hb) hB4.size
          have hX24 := hX2.keep (fun b hb _ => hB4.block b hb) hB4.size
          have hu4 := hu.below hB4
          have hBx := hB.trans (hB4.mono hB.size)
          obtain ⟨gx, hgx⟩ : ∃ g, g = wr.heap.size := ⟨_, rfl⟩
          rw [← hgx] at hx4 ⊢
          clear hgx hX hu hr hlr hB4 hs4 hB hX2
          refine wp_go ?_
          go_wp2_with (refine wp_ld 34 (.tmp 10) rfl rfl rfl hx4.whole Try.underlying34 rfl sizeAc ?_)
          refine (right_any10 a _ _).mono ?_
          rintro e w5 ⟨rfl, hB5⟩
          have hX5 := hX4.keep (fun b hb _ => hB5.block b hb) hB5.size
          have hX25 := hX24.keep (fun b hb _ => hB5.block b hb) hB5.size
          have hu5 := hu4.below hB5
          have hx5 := hx4.below hB5
          have hBy := hBx.trans (hB5.mono hBx.size)
          have ck := hx5.cellAt 0 _ rfl
          clear hX4 hu4 hx4 hB5 hBx hX24
          by_cases hk : 0 ≤ a.k ∧ a.k ≤ 7
          · rw [decide_eq_true hk]
            by_cases h4 : a.k < 4
            · have hb4 : decide (a.k < 4) = true := decide_eq_true h4
              have hI' := hI.step hAl hAm
              have hsm := hI.sm (by omega)
              have hcl' := do_calm D a hcl (by omega)
              have hsy := (do_pend D a hcl h4).1
              have hDo := dol_any _ M F' _ D a _ w5 hX5 hsm hAs hu5 (fun b hb => ⟨by have h' : b < w.heap.size := hb; have := hBy.size; omega, fun hm => by have h' : b < w.heap.size := hb; have := hM b hm; omega⟩) hk
              unfold DoL at hDo
              obtain ⟨R, hRR⟩ : ∃ R, R = doF D a := ⟨_, rfl⟩
              rw [← hRR] at hI' hDo hcl' hsy
              have H6 : Hid (a.k ≠ 6) := by show _ ≠ _; omega
              have Hsy := hid hsy
              clear hRR hk h4 hsy
              go_wp2_with (refine wp_ld 34 (.tmp 10) rfl rfl rfl hx5.whole Try.underlying34 rfl sizeAc ?_)
              refine hDo.mono ?_
              rintro e w6 ⟨v6, rfl, ⟨M6, F6, hX6, hC6, hM6, hF6⟩, hv6⟩
              obtain rfl := hv6 H6.out
              have hBz := below_chM hBy hC6 hM (Nat.le_refl _)
              have hM6b : ∀ b, M6 b → w.heap.size ≤ b := fun b h => (hM6 b h).elim (hM b) (fun h => by have := hBy.size; omega)
              have hX26 := NT.keep hN2 hX25 hC6
              have hN6 := hN2.left (fun b h => hX25.bd b h) hM6
              clear hX5 hu5 hx5 hDo hC6 hM6 hF6 hBy ck hM hX25 hN2
              go_wp2
              go_roundw
              case rel => exact ⟨j + 1, M6, F6, R.1, by omega, by go_num, hX6, hX26, hN6, hM6b, hI', hcl', Hsy.out.trans hsyn, hBz⟩
              case measure => simp [intOf]; omega
            · have hb4 : decide (a.k < 4) = false := decide_eq_false h4
              clear h4 hk
              go_wp2
              go_roundw
              case rel => exact ⟨j + 1, M, F', D, by omega, by go_num, hX5, hX25, hN2, hM, hI.mono (by omega), hcl, hsyn, hBy⟩
              case measure => simp [intOf]; omega
          · rw [decide_eq_false hk]
            go_wp2
            go_roundw
            case rel => exact ⟨j + 1, M, F', D, by omega, by go_num, hX5, hX25, hN2, hM, hI.mono (by omega), hcl, hsyn, hBy⟩
            case measure => simp [intOf]; omega
        · have hj' : j = m.length := by omega
          subst hj'
          have hJ0 : ¬ (m.length : Int) < (m.length : Int) := by omega
          have hsm := hI.sm (by omega)
          have huq := hI.uq
          have hsyc := sync_calm D aWs rfl hcl
          have hIs := inv_sync hI aWs rfl rfl
          have hIa := inv_sync hI aAll rfl rfl
          have hIn := inv_sync hI aWc rfl rfl
          have hca := crash_now D aAll rfl
          have hcn := crash_now D aWc rfl
          have hna : nowF (doF D aAll).1 = nowF D := by rw [hca]; exact cr_all 0 D.pend 0 D.syn
          have hnn : nowF (doF D aWc).1 = nowF D1 := by rw [hcn, hS0, ← hsyn]; exact cr_none 0 D.pend 0 D.syn
          have hns : nowF (doF D aWs).1 = nowF D := by rw [hsyc]; rfl
          have hsms := hIs.sm (by omega)
          have hsma := hIa.sm (by omega)
          have hsmn := hIn.sm (by omega)
          obtain ⟨Ds, hDs⟩ : ∃ d, d = (doF D aWs).1 := ⟨_, rfl⟩
          obtain ⟨Da, hDa⟩ : ∃ d, d = (doF D aAll).1 := ⟨_, rfl⟩
          obtain ⟨Dn, hDn⟩ : ∃ d, d = (doF D aWc).1 := ⟨_, rfl⟩
          rw [← hDs] at hns hIs hsms
          rw [← hDa] at hna hIa hsma
          rw [← hDn] at hnn hIn hsmn
          have HDs := hid hDs
          have HDa := hid hDa
          have HDn := hid hDn
          clear hsyc hca hcn hDs hDa hDn hI hcl hsyn
          go_wp2_with (fail)
          refine (copy10_any _ M F' D _ hX hsm).mono ?_
          rintro e w6 ⟨v4, M3, F3, M4, F4, rfl, hX3, hX4, hC6, hM3, hF3, hM4, hF4, hd12, hd21⟩
          have hX26 := NT.keep hN2 hX2 hC6
          have hN32 := hN2.left (fun b h => hX2.bd b h) hM3
          have hN42 := hN2.left (fun b h => hX2.bd b h) hM4
          have hN34 : NT M3 M4 F4 := hd12
          have hN43 : NT M4 M3 F3 := hN34.flip hd21
          have hB6 := below_chM hB hC6 hM (Nat.le_refl _)
          have hz := hB.size
          have hM3b : ∀ b, M3 b → w.heap.size ≤ b := fun b h => (hM3 b h).elim (hM b) (fun h => by omega)
          have hM4b : ∀ b, M4 b → w.heap.size ≤ b := fun b h => (hM4 b h).elim (hM b) (fun h => by omega)
          obtain ⟨x4, rfl⟩ := hX4.ptr
          clear hX hX2 hN2 hC6 hM3 hF3 hM4 hF4 hd12 hd21 hB hM
          go_wp2_with (fail)
          refine (copy10_any _ M3 F3 D _ hX3 hsm).mono ?_
          rintro e w7 ⟨v6, M5, F5, M6, F6, rfl, hX5, hX6, hC7, hM5, hF5, hM6, hF6, hd12, hd21⟩
          have hX27 := NT.keep hN32 hX26 hC7
          have hX47 := NT.keep hN34 hX4 hC7
          have hN52 := hN32.left (fun b h => hX26.bd b h) hM5
          have hN62 := hN32.left (fun b h => hX26.bd b h) hM6
          have hN54 := hN34.left (fun b h => hX4.bd b h) hM5
          have hN64 := hN34.left (fun b h => hX4.bd b h) hM6
          have hN45 := hN43.right (fun b h => hX4.bd b (.inl h)) hM5 hF5
          have hN46 := hN43.right (fun b h => hX4.bd b (.inl h)) hM6 hF6
          have hN56 : NT M5 M6 F6 := hd12
          have hN65 : NT M6 M5 F5 := hN56.flip hd21
          have hB7 := below_chM hB6 hC7 hM3b (Nat.le_refl _)
          have hz := hB6.size
          have hM5b : ∀ b, M5 b → w.heap.size ≤ b := fun b h => (hM5 b h).elim (hM3b b) (fun h => by omega)
          have hM6b : ∀ b, M6 b → w.heap.size ≤ b := fun b h => (hM6 b h).elim (hM3b b) (fun h => by omega)
          obtain ⟨x6, rfl⟩ := hX6.ptr
          clear hX3 hX4 hX26 hN32 hN34 hN43 hC7 hM5 hF5 hM6 hF6 hd12 hd21 hB6 hM3b
          go_wp2_with (refine wp_bld 32 [(0, .const (.int .u64 18446744073709551615)), (1, .const (.int .i64 (-1)))] rfl rfl [(0, .int .u64 18446744073709551615), (1, .int .i64 (-1))] rfl (bldPl2 _ _) ?_)
          refine (crash10_any _ M4 F4 D aAll _ hX47 hsm sm_all rfl).mono ?_
          rintro e w8 ⟨rfl, M7, F7, hX7, hC8, hM7, hF7⟩
          rw [← HDa.out] at hX7
          have hX28 := NT.keep hN42 hX27 hC8
          have hX58 := NT.keep hN45 hX5 hC8
          have hX68 := NT.keep hN46 hX6 hC8
          have hN57 := hN54.right (fun b h => hX5.bd b (.inl h)) hM7 hF7
          have hN67 := hN64.right (fun b h => hX6.bd b (.inl h)) hM7 hF7
          have hB8 := below_chM hB7 hC8 hM4b (Nat.le_refl _)
          clear hX27 hX47 hX5 hX6 hN42 hN45 hN46 hN54 hN64 hC8 hM7 hF7 hB7 hM4b
          go_wp2_with (refine wp_bld 32 [(1, .const (.int .i64 (-1)))] rfl rfl [(1, .int .i64 (-1))] rfl (bldPl _) ?_)
          refine (crash10_any _ M6 F6 D aWc _ hX68 hsm sm_none rfl).mono ?_
          rintro e w9 ⟨rfl, M8, F8, hX8, hC9, hM8, hF8⟩
          rw [← HDn.out] at hX8
          have hX29 := NT.keep hN62 hX28 hC9
          have hX59 := NT.keep hN65 hX58 hC9
          have hX79 := NT.keep hN67 hX7 hC9
          have hN58 := hN56.right (fun b h => hX58.bd b (.inl h)) hM8 hF8
          have hB9 := below_chM hB8 hC9 hM6b (Nat.le_refl _)
          clear hX28 hX58 hX68 hX7 hN62 hN65 hN67 hN56 hC9 hM8 hF8 hB8 hM6b
          go_wp2_with (fail)
          refine (sync10_any _ M5 F5 D aWs _ hX59 hsm rfl).mono ?_
          rintro e w10 ⟨rfl, M9, F9, hX9, hC10, -, -⟩
          rw [← HDs.out] at hX9
          have hX2a := NT.keep hN52 hX29 hC10
          have hX7a := NT.keep hN57 hX79 hC10
          have hX8a := NT.keep hN58 hX8 hC10
          have hBa := below_chM hB9 hC10 hM5b (Nat.le_refl _)
          clear hX29 hX59 hX79 hX8 hN52 hN57 hN58 hC10 hB9 hM5b
          go_wp2_with (fail)
          refine (alike10_any _ _ M7 F7 M9 F9 Da Ds _ hX7a hX9 hsma hsms hIa.uq hIs.uq (by rw [hna, hns])).mono ?_
          rintro e w11 ⟨rfl, hB11⟩
          have hX2b := hX2a.keep (fun b hb _ => hB11.block b hb) hB11.size
          have hX8b := hX8a.keep (fun b hb _ => hB11.block b hb) hB11.size
          have hBb := hBa.trans (hB11.mono hBa.size)
          clear hX2a hX8a hX7a hX9 hB11 hBa
          go_wp2_with (fail)
          refine (alike10_any _ _ M8 F8 M2 F2 Dn D1 _ hX8b hX2b hsmn hsm1 hIn.uq hI1.uq hnn).mono ?_
          rintro e w12 ⟨rfl, hB12⟩
          go_wp2
          go_ret
          exact ⟨rfl, hBb.trans (hB12.mono hBb.size)⟩
end Go.Proofs.Ytjaiffefgjopmaa
