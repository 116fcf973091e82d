/- JR: layer 13: VotesRise. -/
import Derived.Test.YtkoncjcnpconkaaJA
namespace Go.V
open Go.RowKit
theorem reg_nn {l : List Vt} (hf : ∀ m ∈ l, Fine m) : regF l = (-1, -1) ∨ 0 ≤ (regF l).1 ∧ 0 ≤ (regF l).2 := by
  rcases regF_cases l with h | ⟨m, hm, _, h⟩
  · exact .inl h
  · rw [h]; exact .inr ⟨(hf m hm).v.1, (hf m hm).r.1⟩
theorem rise_reg {l : List Vt} {m : Vt} (hf : ∀ m ∈ l, Fine m) (hm : Fine m) : ¬ (regB (l ++ [m])).1 < (regB l).1 ∧ ((regB (l ++ [m])).1 = (regB l).1 → ¬ (regB (l ++ [m])).2 < (regB l).2) := by
  have hn := reg_nn hf
  have h1 := hm.v
  have h2 := hm.r
  unfold regB
  rw [regF_snoc]
  obtain ⟨p, hp⟩ : ∃ p, p = regF l := ⟨_, rfl⟩
  rw [← hp] at hn ⊢
  obtain ⟨a, b⟩ := p
  unfold regS
  by_cases hc : m.k = 1 ∧ (a < m.v ∨ m.v = a ∧ b < m.r)
  · rw [if_pos hc, if_neg (show ¬ m.v < 0 by omega)]
    have hn : (a = -1 ∧ b = -1) ∨ (0 ≤ a ∧ 0 ≤ b) := by
      rcases hn with h | h
      · injection h with h3 h4; exact .inl ⟨h3, h4⟩
      · exact .inr h
    by_cases ha : a < 0
    · rw [if_pos ha]; dsimp only; omega
    · rw [if_neg ha]; dsimp only; omega
  · rw [if_neg hc]; dsimp only; omega
theorem rise_acc {l : List Vt} {m a : Vt} (ha : accF l = some a) (hs : slotF (l ++ [m]) = slotF l) : ∃ b, accF (l ++ [m]) = some b ∧ ¬ b.v < a.v ∧ (b.v = a.v → ¬ b.r < a.r) := by
  have e : accF (l ++ [m]) = accS (slotF l) (some a) m := by
    unfold accF
    rw [hs, accQ_snoc]
    rw [show accQ (slotF l) l = some a from ha]
  rw [e]
  unfold accS
  by_cases h1 : m.k = 3 ∧ m.s = slotF l
  · rw [if_pos h1]
    dsimp only
    by_cases h2 : a.v < m.v ∨ m.v = a.v ∧ a.r < m.r
    · rw [if_pos h2]; exact ⟨m, rfl, by omega, by omega⟩
    · rw [if_neg h2]; exact ⟨a, rfl, by omega, by omega⟩
  · rw [if_neg h1]; exact ⟨a, rfl, by omega, by omega⟩
end Go.V
namespace Go.Proofs.Ytkoncjcnpconkaa
open Go.RowKit Go.V
/-- what a vote that is taken, or not, changes -/
structure RiseP (B D : List Vt) : Prop where
  r1 : ¬ (regB D).1 < (regB B).1
  r2 : (regB D).1 = (regB B).1 → ¬ (regB D).2 < (regB B).2
  s : ¬ slotF D < slotF B
  a : ∀ a, accF B = some a → slotF D = slotF B → ∃ b, accF D = some b ∧ ¬ b.v < a.v ∧ (b.v = a.v → ¬ b.r < a.r)
theorem riseP {B : List Vt} {m : Vt} (hf : ∀ m ∈ B, Fine m) : RiseP B (if takeF B m = 0 then B ++ [m] else B) := by
  by_cases h : takeF B m = 0
  · rw [if_pos h]
    have hm := fine_of (errV_parts (takeF_err h)).1
    have h1 := rise_reg hf hm
    exact ⟨h1.1, h1.2, by rw [slotF_snoc]; have := slotS_ge (slotF B) m; omega, fun a ha hs => rise_acc ha hs⟩
  · rw [if_neg h]
    exact ⟨by omega, fun _ => by omega, by omega, fun a ha _ => ⟨a, ha, by omega, fun _ => by omega⟩⟩
set_option maxRecDepth 100000 in
set_option maxHeartbeats 16000000 in
theorem votesRise_law (l : List Vt) (vl : Value) (F0 : Nat → Prop) (w : World) (hl : Rd w F0 vl (wds vtD l)) (hin : ∀ m ∈ l, VtIn m) :
    Calls Try.prog 8 #[vl] w fun e w' => e = .returned (.bool true) ∧ Below w.heap.size w w' := by
  obtain ⟨A, c, rfl, hc1, hc2⟩ := wds_shape hl
  have hl := hl.weak (F' := fun b => b < w.heap.size) (fun b h _ => h)
  go_enter Try.func8, Try.ntmps8
  go_wp2_with (fail)
  refine (wakes13_any _).mono ?_
  rintro e w1 ⟨rfl, hB1⟩
  have hl1 := hl.below hB1
  go_wp2_with (fail)
  refine (long13_any l _ _ _ hl1).mono ?_
  rintro e w1 ⟨rfl, rfl⟩
  cases hlg : longVs l with
  | true =>
    go_wp2
    go_ret
    exact ⟨rfl, hB1⟩
  | false =>
    have hll : l.length ≤ 40 := by
      rcases Nat.lt_or_ge 40 l.length with h | h
      · rw [longVs_t1 h] at hlg; cases hlg
      · exact h
    have hlo : ∀ m ∈ l, longV m = false := fun m hm => by
      cases h : longV m with
      | false => rfl
      | true => rw [longVs_t2 hm h] at hlg; cases hlg
    have Hin := hid hin
    have Hlo := hid hlo
    clear hlg hlo hin
    go_wp2_with (fail)
    refine (bnew13_any _).mono ?_
    rintro e w2 ⟨kv, M0, F0', rfl, hI, hB2, hM2⟩
    obtain ⟨xk, rfl⟩ := hI.ptr
    have hB02 := hB1.trans (hB2.mono hB1.size)
    have HI := hid (And.intro hI (And.intro hB02 (fun (b : Nat) (h : M0 b) => show w.heap.size ≤ b by have := hM2 b (.inl h); have := hB1.size; omega)))
    clear hI hB1 hB2 hM2 hl1
    go_wp2
    go_loopw [22] (fun iv wr => ∃ (i : Nat) (M F : Nat → Prop) (B : List Vt), i ≤ l.length ∧ iv = .int .i64 i ∧ B.length ≤ i ∧ (∀ m ∈ B, Fine m) ∧ BX wr (.pointer (some ⟨xk, 0, none⟩)) M F B ∧ Below w.heap.size w wr ∧ (∀ b, M b → w.heap.size ≤ b)) (fun i _ => l.length - (intOf i).toNat)
    case atStart => exact ⟨0, M0, F0', [], Nat.zero_le _, rfl, Nat.le_refl _, (fun _ h => by cases h), HI.out.1, HI.out.2.1, HI.out.2.2⟩
    case round =>
      clear HI hB02
      obtain ⟨i, M, F, B, hi, rfl, hBi, hfn, hbx, hB, hM⟩ := hrel
      have Hfn := hid hfn
      clear hfn
      by_cases hlt : i < l.length
      · obtain ⟨f, hf⟩ : ∃ f, l[i]? = some f := ⟨_, List.getElem?_eq_getElem hlt⟩
        have hI : (i : Int) < (l.length : Int) := by omega
        have hlr := hl.below hB
        obtain ⟨g, off, cs, rfl, hg, hrg, he⟩ := wd_el hlr hf
        obtain ⟨ub, up, rfl, hub, hup⟩ := vt_open he
        obtain ⟨AB, cb, rfl⟩ := hub.shape
        obtain ⟨AP, cpp, rfl, _, _⟩ := hup.slShape
        have hfl := List.mem_of_getElem? hf
        have hlf := Hlo.out f hfl
        have hll := len_vt f (.slice AB f.b.length cb) (.slice AP f.ps.length cpp)
        have htb := fun (W : World) (h : BX W (.pointer (some ⟨xk, 0, none⟩)) M F B) (h1 : Rd W (fun b => b < w.heap.size) (.slice AB f.b.length cb) (bys f.b)) (h2 : Rd W (fun b => b < w.heap.size) (.slice AP f.ps.length cpp) (tx f.ps)) => btake13_any _ M F (fun b => b < w.heap.size) B f _ _ W h (by omega) (Hin.out f hfl) (VtSm.of hlf) h1 h2 (fun b hb hm => by have := hM b hm; have h' : b < w.heap.size := hb; omega)
        have hrise := riseP (m := f) Hfn.out
        obtain ⟨D, hD⟩ : ∃ D, D = if takeF B f = 0 then B ++ [f] else B := ⟨_, rfl⟩
        have hDl : D.length ≤ i + 1 := by
          rw [hD]
          split
          · rw [List.length_append]; simp; omega
          · omega
        have hDf : ∀ m ∈ D, Fine m := fun m hm => by
          rw [hD] at hm
          by_cases h : takeF B f = 0
          · rw [if_pos h, List.mem_append] at hm
            rcases hm with hm | hm
            · exact Hfn.out m hm
            · simp at hm; subst hm; exact fine_of (errV_parts (takeF_err h)).1
          · rw [if_neg h] at hm; exact Hfn.out m hm
        rw [← hD] at htb hrise
        have HDf := hid hDf
        obtain ⟨tk, htk⟩ : ∃ tk, tk = takeF B f := ⟨_, rfl⟩
        unfold Vt.val at htb
        rw [← htk] at htb
        obtain ⟨cs, hcs⟩ : ∃ cs, cs = f.l (.slice AB f.b.length cb) (.slice AP f.ps.length cpp) := ⟨_, rfl⟩
        have ho1 : ∀ v ∈ cs, v.oneCell' = true := by rw [hcs]; exact one_vt
        rw [← hcs] at hrg hll htb
        have Hll := hid hll
        have Htb := hid htb
        have hgB := fun (W : World) (h : BX W (.pointer (some ⟨xk, 0, none⟩)) M F B) => breg13_any _ M F B W h
        have hsB := fun (W : World) (h : BX W (.pointer (some ⟨xk, 0, none⟩)) M F B) => bslot13_any _ M F B W h
        have haB := fun (W : World) (h : BX W (.pointer (some ⟨xk, 0, none⟩)) M F B) => bacc13_any _ M F B W h
        have hgD := fun (M F : Nat → Prop) (W : World) (h : BX W (.pointer (some ⟨xk, 0, none⟩)) M F D) => breg13_any _ M F D W h
        have hsD := fun (M F : Nat → Prop) (W : World) (h : BX W (.pointer (some ⟨xk, 0, none⟩)) M F D) => bslot13_any _ M F D W h
        have haD := fun (M F : Nat → Prop) (W : World) (h : BX W (.pointer (some ⟨xk, 0, none⟩)) M F D) => bacc13_any _ M F D W h
        obtain ⟨r1, r2, r3, r4⟩ := hrise
        obtain ⟨v, hv⟩ : ∃ v, v = (regB B).1 := ⟨_, rfl⟩
        obtain ⟨r, hr⟩ : ∃ v, v = (regB B).2 := ⟨_, rfl⟩
        obtain ⟨x, hx⟩ : ∃ v, v = (regB D).1 := ⟨_, rfl⟩
        obtain ⟨y, hy⟩ : ∃ v, v = (regB D).2 := ⟨_, rfl⟩
        obtain ⟨S, hS⟩ : ∃ v, v = slotF B := ⟨_, rfl⟩
        obtain ⟨T, hT⟩ : ∃ v, v = slotF D := ⟨_, rfl⟩
        obtain ⟨o, ho⟩ : ∃ v, v = accF B := ⟨_, rfl⟩
        obtain ⟨p, hp⟩ : ∃ v, v = accF D := ⟨_, rfl⟩
        rw [← hv, ← hx] at r1
        rw [← hv, ← hx, ← hr, ← hy] at r2
        rw [← hS, ← hT] at r3
        rw [← hS, ← hT, ← ho, ← hp] at r4
        rw [← hv, ← hr] at hgB
        rw [← hx, ← hy] at hgD
        rw [← hS] at hsB
        rw [← hT] at hsD
        rw [← ho] at haB
        rw [← hp] at haD
        have R2 := hid r2
        have R4 := hid r4
        have HgB := hid hgB
        have HsB := hid hsB
        have HaB := hid haB
        have HgD := hid hgD
        have HsD := hid hsD
        have HaD := hid haD
        clear hcs hll htb hf hlf hfl he hD hDf htk hgB hsB haB hgD hsD haD hv hr hx hy hS hT ho hp r2 r4
        go_wp2_with (first | refine wp_ixa 30 (.tmp 20) (.tmp 22) rfl rfl rfl rfl Try.underlying30 hlt sizeVt ?_ | refine wp_ld 27 (.tmp 24) rfl rfl rfl hrg Try.underlying27 rfl (by rw [Hll.out]; exact sizeVt) ?_ | (refine wp_newst 27 5 (.tmp 25) rfl rfl rfl rfl rfl rfl zeroV13 (l := cs) rfl (by rw [Hll.out, len_zVl]) (by rw [Hll.out]; exact sizeVt) ho1 (by simp [Act.put]) ?_; intro x1 q5 hX1 hs1; refine wp_stop ?_))
        obtain ⟨g5, hg5⟩ : ∃ g, g = wr.heap.size := ⟨_, rfl⟩
        rw [← hg5] at q5 ⊢
        clear hg5 hs1
        have hbx := hbx.below hX1
        have hub := hub.below hX1
        have hup := hup.below hX1
        have hB := hB.trans (hX1.mono hB.size)
        clear hX1 hlr hrg
        refine wp_go ?_
        go_wp2_with (fail)
        refine (HgB.out _ hbx).mono ?_
        rintro e x2 ⟨rfl, hX2⟩
        have hbx := hbx.below hX2
        have hub := hub.below hX2
        have hup := hup.below hX2
        have q5 := q5.below hX2
        have hB := hB.trans (hX2.mono hB.size)
        clear hX2
        go_wp2_with (fail)
        refine (HsB.out _ hbx).mono ?_
        rintro e x3 ⟨rfl, hX3⟩
        have hbx := hbx.below hX3
        have hub := hub.below hX3
        have hup := hup.below hX3
        have q5 := q5.below hX3
        have hB := hB.trans (hX3.mono hB.size)
        clear hX3
        go_wp2_with (fail)
        refine (HaB.out _ hbx).mono ?_
        rintro e x4 ⟨ua, pa, rfl, hua, hpa, hX4⟩
        obtain ⟨A4, d4, rfl⟩ := hua.shape
        obtain ⟨B4, e4, rfl, _, _⟩ := hpa.slShape
        have hbx := hbx.below hX4
        have hub := hub.below hX4
        have hup := hup.below hX4
        have q5 := q5.below hX4
        have hB := hB.trans (hX4.mono hB.size)
        unfold Vt.val
        have hml := len_vt (o.getD zV) (.slice A4 (o.getD zV).b.length d4) (.slice B4 (o.getD zV).ps.length e4)
        obtain ⟨ls, hls⟩ : ∃ ls, ls = (o.getD zV).l (.slice A4 (o.getD zV).b.length d4) (.slice B4 (o.getD zV).ps.length e4) := ⟨_, rfl⟩
        have ho2 : ∀ v ∈ ls, v.oneCell' = true := by rw [hls]; exact one_vt
        have a1 : ls[1]? = some (.int .i64 (o.getD zV).v) := by rw [hls]; rfl
        have a2 : ls[2]? = some (.int .i64 (o.getD zV).r) := by rw [hls]; rfl
        rw [← hls] at hml ⊢
        have Hml := hid hml
        clear hls hml hua hpa hX4
        go_wp2_with (refine wp_newst 27 9 (.tmp 36) rfl rfl rfl rfl rfl rfl zeroV13 (l := ls) rfl (by rw [Hml.out]; exact len_zVl) (by rw [Hml.out]; exact sizeVt) ho2 (by simp) ?_; intro x5 q9 hX5 hs5; refine wp_stop ?_)
        obtain ⟨g9, hg9⟩ : ∃ g, g = x4.heap.size := ⟨_, rfl⟩
        have h9M : ¬ M g9 := fun h => by have := hbx.bd g9 (.inl h); omega
        rw [← hg9] at q9 ⊢
        clear hg9 hs5
        have hbx := hbx.below hX5
        have hub := hub.below hX5
        have hup := hup.below hX5
        have q5 := q5.below hX5
        have hB := hB.trans (hX5.mono hB.size)
        clear hX5
        refine wp_go ?_
        go_wp2_with (refine wp_ld 27 (.tmp 5) rfl rfl rfl q5.whole Try.underlying27 rfl (by rw [Hll.out]; exact sizeVt) ?_)
        refine (Htb.out _ hbx hub hup).mono ?_
        rintro e x6 ⟨rfl, hp⟩
        obtain ⟨M6, F6, hbx6, hC6, hM6, _⟩ := id hp
        have q9 := q9.ch hC6 h9M
        obtain ⟨M7, F7, hbx, hB, hM7, _⟩ := hp.bel hB hM
        clear hp hbx6 hC6 hM6 q5 hub hup h9M
        go_wp2_with (fail)
        refine (HgD.out _ _ _ hbx).mono ?_
        rintro e x7 ⟨rfl, hX7⟩
        have hbx := hbx.below hX7
        have q9 := q9.below hX7
        have hB := hB.trans (hX7.mono hB.size)
        clear hX7
        go_wp2_with (fail)
        refine (HaD.out _ _ _ hbx).mono ?_
        rintro e x8 ⟨ub8, pb8, rfl, hu8, hp8, hX8⟩
        obtain ⟨A8, d8, rfl⟩ := hu8.shape
        obtain ⟨B8, e8, rfl, _, _⟩ := hp8.slShape
        have hbx := hbx.below hX8
        have q9 := q9.below hX8
        have hB := hB.trans (hX8.mono hB.size)
        unfold Vt.val
        have hml := len_vt (p.getD zV) (.slice A8 (p.getD zV).b.length d8) (.slice B8 (p.getD zV).ps.length e8)
        obtain ⟨lt, hlt'⟩ : ∃ ls, ls = (p.getD zV).l (.slice A8 (p.getD zV).b.length d8) (.slice B8 (p.getD zV).ps.length e8) := ⟨_, rfl⟩
        have ho3 : ∀ v ∈ lt, v.oneCell' = true := by rw [hlt']; exact one_vt
        have b1 : lt[1]? = some (.int .i64 (p.getD zV).v) := by rw [hlt']; rfl
        have b2 : lt[2]? = some (.int .i64 (p.getD zV).r) := by rw [hlt']; rfl
        rw [← hlt'] at hml ⊢
        have Hmt := hid hml
        clear hlt' hml hu8 hp8 hX8
        go_wp2_with (refine wp_newst 27 13 (.tmp 49) rfl rfl rfl rfl rfl rfl zeroV13 (l := lt) rfl (by rw [Hmt.out]; exact len_zVl) (by rw [Hmt.out]; exact sizeVt) ho3 (by simp) ?_; intro x9 q13 hX9 hs9; refine wp_stop ?_)
        obtain ⟨g13, hg13⟩ : ∃ g, g = x8.heap.size := ⟨_, rfl⟩
        rw [← hg13] at q13 ⊢
        clear hg13 hs9
        have hbx := hbx.below hX9
        have q9 := q9.below hX9
        have hB := hB.trans (hX9.mono hB.size)
        clear hX9 Htb HgB HsB HaB HgD HaD Hmt Hml Hll ho1 ho2 ho3
        refine wp_go ?_
        go_upto_region 15 with (fail)
        go_cut [69] (fun sc wx => sc = .bool false ∧ Below x9.heap.size x9 wx)
        case first =>
          by_cases hxe : x = v
          · have hr2 := R2.out hxe
            have hxb : (x == v) = true := beq_iff_eq.2 hxe
            clear hxe
            go_wp2_with (fail)
            refine (HsD.out _ _ _ hbx).mono ?_
            rintro e y1 ⟨rfl, hY1⟩
            go_wp2
            go_meet
            exact ⟨by rw [decide_eq_false (show ¬ x < v by omega), decide_eq_false (show ¬ y < r by omega), decide_eq_false (show ¬ T < S by omega)]; rfl, hY1⟩
          · have hxb : (x == v) = false := beq_eq_false_iff_ne.2 hxe
            clear hxe
            go_wp2_with (fail)
            refine (HsD.out _ _ _ hbx).mono ?_
            rintro e y1 ⟨rfl, hY1⟩
            go_wp2
            go_meet
            exact ⟨by rw [decide_eq_false (show ¬ x < v by omega), decide_eq_false (show ¬ T < S by omega)]; rfl, hY1⟩
        case rest =>
        obtain ⟨rfl, hY⟩ := hcut
        have hbx := hbx.below hY
        have q9 := q9.below hY
        have q13 := q13.below hY
        have hB := hB.trans (hY.mono hB.size)
        clear hY r1 r3 R2
        have Hbx := hid hbx
        cases o with
        | none =>
          go_wp2
          go_roundw
          case rel => exact ⟨i + 1, M7, F7, D, by omega, by go_num, hDl, HDf.out, Hbx.out, hB, hM7⟩
          case measure => simp [intOf]; omega
        | some a =>
          go_wp2_with (fail)
          refine (HsD.out _ _ _ hbx).mono ?_
          rintro e y2 ⟨rfl, hY2⟩
          have Hbx := hid (Hbx.out.below hY2)
          have hB := hB.trans (hY2.mono hB.size)
          have q9 := q9.below hY2
          have q13 := q13.below hY2
          clear hbx hY2
          cases hst : T == S with
          | false =>
            go_wp2
            go_roundw
            case rel => exact ⟨i + 1, M7, F7, D, by omega, by go_num, hDl, HDf.out, Hbx.out, hB, hM7⟩
            case measure => simp [intOf]; omega
          | true =>
            obtain ⟨b, rfl, n1, n2⟩ := R4.out a rfl (beq_iff_eq.1 hst)
            have c91 : y2.cell? ⟨g9, 1, none⟩ = some (.int .i64 a.v) := q9.cellAt 1 _ a1
            have c92 : y2.cell? ⟨g9, 2, none⟩ = some (.int .i64 a.r) := q9.cellAt 2 _ a2
            have d91 : y2.cell? ⟨g13, 1, none⟩ = some (.int .i64 b.v) := q13.cellAt 1 _ b1
            have d92 : y2.cell? ⟨g13, 2, none⟩ = some (.int .i64 b.r) := q13.cellAt 2 _ b2
            clear q9 q13 a1 a2 b1 b2 R4
            cases hbv : b.v == a.v with
            | false =>
              clear n2
              go_wp2
              go_roundw
              case rel => exact ⟨i + 1, M7, F7, D, by omega, by go_num, hDl, HDf.out, Hbx.out, hB, hM7⟩
              case measure => simp [intOf]; omega
            | true =>
              have n2 := n2 (beq_iff_eq.1 hbv)
              go_wp2
              go_roundw
              case rel => exact ⟨i + 1, M7, F7, D, by omega, by go_num, hDl, HDf.out, Hbx.out, hB, hM7⟩
              case measure => simp [intOf]; omega
      · have hi' : i = l.length := by omega
        subst hi'
        have hI : ¬ (l.length : Int) < (l.length : Int) := by omega
        clear hbx
        go_wp2
        go_ret
        exact ⟨rfl, hB⟩
end Go.Proofs.Ytkoncjcnpconkaa
