/- DR: layer 10: the law DiskRoom. -/
import Derived.Test.YtjaiffefgjopmaaDW
import Derived.Test.YtjaiffefgjopmaaDI
namespace Go.Proofs.Ytjaiffefgjopmaa
open Go.RowKit Go.V
set_option maxRecDepth 100000 in
set_option maxHeartbeats 4000000 in
theorem diskRoom_law (x : Nat) (l : List Ac) (vl : Value) (F : Nat → Prop) (w : World) (hx : x < 65536) (hl : Rd w F vl (wds acD l)) (hin : ∀ a ∈ l, AcIn a) :
    Calls Try.prog 8 #[.int .u16 (x : Int), vl] w fun e w' => e = .returned (.bool true) ∧ Below w.heap.size w w' := by
  have hl := hl.weak (F' := fun b => b < w.heap.size) (fun b hb _ => hb)
  obtain ⟨A, c, rfl, hc1, hc2⟩ := wds_shape hl
  have hcv : IntKind.i64.wrap (x : Int) = (x : Int) := IntWalk.i64_in _ (by omega)
  have hrx := room_le (x := (x : Int)) (by omega)
  go_enter Try.func8, Try.ntmps8
  go_wp2_with (fail)
  refine (wakes10_any _).mono ?_
  rintro e w1 ⟨rfl, hB1⟩
  have hl1 := hl.below hB1
  go_wp2_with (fail)
  refine (long_any10 l _ _ _ hl1).mono ?_
  rintro e w2 ⟨rfl, rfl⟩
  cases hlo : longF l with
  | true =>
    go_wp2
    go_ret
    exact ⟨rfl, hB1⟩
  | false =>
    obtain ⟨hl80, hla⟩ := longF_out hlo
    clear hlo
    go_wp2_with (fail)
    refine (new10_any (x : Int) _).mono ?_
    rintro e w3 ⟨v, M, F3, rfl, hX, hB3, hMF⟩
    have hs1 := hB1.size
    have hB3' := hB1.trans (hB3.mono hs1)
    have hM : ∀ b, M b → w.heap.size ≤ b := fun b h => Nat.le_trans hs1 (hMF b (.inl h))
    have hI0 := InvD.new (x : Int)
    have ht0 : (tot (nowF ⟨roomF (x : Int), [], [], -1, false⟩) : Int) ≤ roomF (x : Int) := by have := room_bd (x : Int); show (0 : Int) ≤ _; omega
    have Hla := hid hla
    have Hin := hid hin
    obtain ⟨D0, hD0⟩ : ∃ D : Dk, D = ⟨roomF (x : Int), [], [], -1, false⟩ := ⟨_, rfl⟩
    rw [← hD0] at hX hI0 ht0
    clear hD0 hMF hB3 hla hin
    have hl3 := hl.below hB3'
    go_wp2
    go_loopw [5, 22] (fun dv iv wr => ∃ (i : Nat) (M F' : Nat → Prop) (D : Dk), i ≤ l.length ∧ iv = .int .i64 i ∧ IX wr dv M F' D ∧ (∀ b, M b → w.heap.size ≤ b) ∧ InvD (x : Int) i D ∧ (tot (nowF D) : Int) ≤ roomF (x : Int) ∧ Below w.heap.size w wr) (fun _ i _ => l.length - (intOf i).toNat)
    case atStart => exact ⟨0, M, F3, D0, Nat.zero_le _, rfl, hX, hM, hI0, ht0, hB3'⟩
    case round =>
      obtain ⟨i, M, F', D, hi, rfl, hX, hM, hI, ht, hB⟩ := hrel
      by_cases hlt : i < l.length
      · obtain ⟨a, ha⟩ : ∃ a, l[i]? = some a := ⟨_, List.getElem?_eq_getElem hlt⟩
        have hIlt : (i : Int) < (l.length : Int) := by omega
        have hin1 : IntKind.i64.wrap ((i : Int) + 1) = (i : Int) + 1 := IntWalk.i64_in _ (by omega)
        have hlr := hl.below hB
        obtain ⟨g, off, cs, rfl, hg, hr, he⟩ := wd_el hlr ha
        obtain ⟨u, rfl, hu⟩ := ac_open he
        obtain ⟨Au, cu, rfl⟩ := hu.shape
        have hAi := Hin.out a (List.mem_of_getElem? ha)
        have hAl := (Hla.out a (List.mem_of_getElem? ha)).1
        have hAs := hAi.sm hAl
        have hAm := hAi.m
        clear ha he hAi
        go_wp2_with (first | refine wp_ixa 22 (.tmp 20) (.tmp 22) rfl rfl rfl rfl Try.underlying22 hlt sizeAc ?_ | refine wp_ld 34 (.tmp 24) rfl rfl rfl hr Try.underlying34 rfl sizeAc ?_ | refine wp_newst 34 7 (.tmp 25) rfl rfl rfl rfl rfl rfl zeroAc (l := a.l (.slice Au a.b.length cu)) rfl rfl sizeAc (one_ac a _ _ _) (by simp [Act.put]) ?_; intro w4 hx4 hB4 hs4; refine wp_stop ?_)
        have hX4 := hX.keep (fun b hb _ => hB4.block b hb) hB4.size
        have hu4 := hu.below hB4
        have hB4' := hB.trans (hB4.mono hB.size)
        obtain ⟨gx, hgx⟩ : ∃ g, g = wr.heap.size := ⟨_, rfl⟩
        rw [← hgx] at hx4 ⊢
        clear hgx hX hu hr hlr hB hB4 hs4 hl1 hl3
        refine wp_go ?_
        go_wp2_with (refine wp_ld 34 (.tmp 7) rfl rfl rfl hx4.whole Try.underlying34 rfl sizeAc ?_)
        refine (right_any10 a _ _).mono ?_
        rintro e w5 ⟨rfl, hB5⟩
        have hX5 := hX4.keep (fun b hb _ => hB5.block b hb) hB5.size
        have hu5 := hu4.below hB5
        have hx5 := hx4.below hB5
        have hB5' := hB4'.trans (hB5.mono hB4'.size)
        have ck := hx5.cellAt 0 _ rfl
        clear hX4 hu4 hx4 hB4' hB5
        by_cases hk : 0 ≤ a.k ∧ a.k ≤ 7
        · rw [decide_eq_true hk]
          by_cases h5 : a.k = 5
          · have hb5 : (a.k == 5) = true := by rw [beq_iff_eq]; exact h5
            go_wp2
            go_roundw
            case rel => exact ⟨i + 1, M, F', D, by omega, by go_num, hX5, hM, hI.mono (by omega), ht, hB5'⟩
            case measure => simp [intOf]; omega
          · have hb5 : (a.k == 5) = false := by rw [beq_eq_false_iff_ne]; exact h5
            have hd := do_room D a hk.1 h5 (by rw [hI.room]; exact ht)
            have hI' := hI.step hAl hAm
            have hDo := dol_any _ M F' _ D a _ w5 hX5 (hI.sm (by omega)) hAs hu5 (fun b hb => ⟨by have h' : b < w.heap.size := hb; have := hB5'.size; omega, fun hm => by have h' : b < w.heap.size := hb; have := hM b hm; omega⟩) hk
            obtain ⟨D', hD'⟩ : ∃ D', D' = (doF D a).1 := ⟨_, rfl⟩
            unfold DoL at hDo
            rw [← hD'] at hd hI' hDo
            have Hk := hid hk
            clear hD' hk
            go_wp2_with (refine wp_ld 34 (.tmp 7) rfl rfl rfl hx5.whole Try.underlying34 rfl sizeAc ?_)
            refine hDo.mono ?_
            rintro e w6 ⟨v6, rfl, ⟨M6, F6, hX6, hC6, hM6, -⟩, -⟩
            have hB6 := below_chM hB5' hC6 hM (Nat.le_refl _)
            have hM6 : ∀ b, M6 b → w.heap.size ≤ b := fun b h => (hM6 b h).elim (hM b) (fun h => by have := hB5'.size; omega)
            have hsm := hI'.sm (by omega)
            have huq : uq (nowF D') := uq_now _ hI'.uq
            have hnl := nowLen D'
            have hn1 := hI'.n
            have ht1 := hI'.t
            have htot : (tot (nowF D') : Int) ≤ roomF (x : Int) := by rw [← hI.room]; exact hd.2
            obtain ⟨L, hL⟩ : ∃ L, L = nowF D' := ⟨_, rfl⟩
            have HL := hid hL
            rw [← hL] at huq hnl htot
            clear hL hX5 hC6 hB5' hDo hd hu5 hx5 ck hI hM ht
            go_wp2_with (fail)
            refine (names10_any _ M6 F6 D' _ hX6 hsm).mono ?_
            rintro e w7 ⟨vn, rfl, hn7, hB7⟩
            rw [← HL.out] at hn7
            obtain ⟨An, cn, rfl⟩ := strs_shape hn7
            rw [List.length_map] at hn7 ⊢
            have hX7 := hX6.keep (fun b hb _ => hB7.block b hb) hB7.size
            have hB7' := hB6.trans (hB7.mono hB6.size)
            have hn7 := hn7.weak (F' := fun b => b < w7.heap.size) (fun b hb _ => hb)
            clear hX6 hB6 hB7
            go_wp2
            go_loopw [8, 43] (fun nv jv wj => ∃ j : Nat, j ≤ L.length ∧ jv = .int .i64 j ∧ nv = .int .i64 (tot (L.take j) : Nat) ∧ Below w7.heap.size w7 wj) (fun _ j _ => L.length - (intOf j).toNat)
            case atStart => exact ⟨0, Nat.zero_le _, rfl, rfl, Below.refl _ _⟩
            case round =>
              obtain ⟨j, hj, rfl, rfl, hBj⟩ := hrel
              by_cases hjt : j < L.length
              · obtain ⟨f, hf⟩ : ∃ f, L[j]? = some f := ⟨_, List.getElem?_eq_getElem hjt⟩
                have hJ : (j : Int) < (L.length : Int) := by omega
                have hjn : IntKind.i64.wrap ((j : Int) + 1) = (j : Int) + 1 := IntWalk.i64_in _ (by omega)
                have hXj := hX7.keep (fun b hb _ => hBj.block b hb) hBj.size
                have hnj := hn7.below hBj
                obtain ⟨gn, on, rfl, hgn, csn⟩ := strs_el hnj (i := j) (s := f.n) (by rw [List.getElem?_map, hf]; rfl)
                have Hfd : Hid (findF (nowF D') f.n = some f.b) := by show _ = _; rw [← HL.out]; exact uq_find huq j f hf
                have Hnz : Hid (f.n.size ≤ maxLen) := hXj.nm f (by rw [← HL.out]; exact List.mem_of_getElem? hf)
                have hts := tot_snoc hf
                have htl := tot_take L (j + 1)
                have hwr : IntKind.i64.wrap ((tot (L.take j) : Int) + (f.b.length : Int)) = (tot (L.take j) : Int) + (f.b.length : Int) := IntWalk.i64_in _ (by omega)
                obtain ⟨T, hT⟩ : ∃ T, T = tot (L.take j) := ⟨_, rfl⟩
                rw [← hT] at hts hwr ⊢
                have Hts := hid hts
                clear hT hts htl hf hnj
                go_wp2_with (fail)
                refine (read10_any _ M6 F6 D' f.n _ hXj hsm Hnz.out).mono ?_
                rintro e w8 ⟨vb, rfl, hvb, hB8⟩
                rw [Hfd.out] at hvb ⊢
                have hvb : Rd w8 (fun b => wr.heap.size ≤ b) vb (bys f.b) := hvb
                obtain ⟨Ab, cb, rfl⟩ := hvb.shape
                have hB8' := hBj.trans (hB8.mono hBj.size)
                clear hvb hXj csn hB8 hBj
                go_wp2
                go_roundw
                case rel => exact ⟨j + 1, by omega, by go_num, by rw [Hts.out]; simp, hB8'⟩
                case measure => simp [intOf]; omega
              · have hj' : j = L.length := by omega
                subst hj'
                have hJ : ¬ (L.length : Int) < (L.length : Int) := by omega
                have hXj := hX7.keep (fun b hb _ => hBj.block b hb) hBj.size
                have hBB := hB7'.trans (hBj.mono hB7'.size)
                have hgt : ¬ (x : Int) < (tot (L.take L.length) : Int) := by rw [List.take_length]; omega
                have htr : (tot (nowF D') : Int) ≤ roomF (x : Int) := by rw [← HL.out]; exact htot
                obtain ⟨T, hT⟩ : ∃ T, T = tot (L.take L.length) := ⟨_, rfl⟩
                rw [← hT] at hgt ⊢
                have Htr := hid htr
                clear hT htot htr hn7 hX7 hBj hB7'
                go_wp2
                go_roundw
                case rel => exact ⟨i + 1, M6, F6, D', by omega, by go_num, hXj, hM6, hI', Htr.out, hBB⟩
                case measure => simp [intOf]; omega
        · rw [decide_eq_false hk]
          go_wp2
          go_roundw
          case rel => exact ⟨i + 1, M, F', D, by omega, by go_num, hX5, hM, hI.mono (by omega), ht, hB5'⟩
          case measure => simp [intOf]; omega
      · have hi' : i = l.length := by omega
        subst hi'
        have hI0 : ¬ (l.length : Int) < (l.length : Int) := by omega
        go_wp2
        go_ret
        exact ⟨rfl, hB⟩
end Go.Proofs.Ytjaiffefgjopmaa
