/- T8: layer 3: the law MacVector. -/
import Derived.Test.YtlehdpoedmaghaaDoorT7
namespace Go.V
theorem flatten_at32 : ∀ (l : List (List UInt8)) (_ : ∀ x ∈ l, x.length = 32) (i : Nat) (x : List UInt8) (_ : l[i]? = some x) (j : Nat) (u : UInt8), x[j]? = some u → l.flatten[i * 32 + j]? = some u
  | [], _, i, x, hx, _, _, _ => by simp at hx
  | y :: l, h, 0, x, hx, j, u, hu => by
    simp at hx
    subst hx
    have hj := (List.getElem?_eq_some_iff.1 hu).1
    rw [List.flatten_cons, Nat.zero_mul, Nat.zero_add, List.getElem?_append_left hj]
    exact hu
  | y :: l, h, i + 1, x, hx, j, u, hu => by
    have hy := h y (by simp)
    rw [List.flatten_cons, List.getElem?_append_right (by rw [hy]; omega), hy, show (i + 1) * 32 + j - 32 = i * 32 + j from by omega]
    exact flatten_at32 l (fun z hz => h z (by simp [hz])) i x (by simpa using hx) j u hu
end Go.V
namespace Go.Proofs.YtlehdpoedmaghaaDoor
open Go.RowKit Go.V
set_option maxRecDepth 100000 in
set_option maxHeartbeats 2000000 in
theorem macVector_law (kv tv : Value) (keys : List (List UInt8)) (text : List UInt8) (F G : Nat → Prop) (w : World) (hK : KS w) (hk : Rd w F kv (tx keys)) (ht : Rd w G tv (bys text)) :
    Calls Tryd.prog 5 #[kv, tv] w fun e w' => e = .returned (.bool true) ∧ Below w.heap.size w w' := by
  have hk0 := hk
  unfold tx at hk
  obtain ⟨A, c, rfl, hc1, hc2⟩ := hk.slShape
  obtain ⟨A2, c2, rfl⟩ := ht.shape
  unfold maxLen at hc2
  by_cases h1 : 20 < keys.length
  · go_enter Tryd.func5, Tryd.ntmps5
    go_wp2_with (fail)
    refine (wakes_any _ hK).mono ?_
    rintro e w1 ⟨rfl, hB1⟩
    go_wp2
    go_ret
    exact ⟨rfl, hB1⟩
  by_cases h2 : 500 < text.length
  · go_enter Tryd.func5, Tryd.ntmps5
    go_wp2_with (fail)
    refine (wakes_any _ hK).mono ?_
    rintro e w1 ⟨rfl, hB1⟩
    go_wp2
    go_ret
    exact ⟨rfl, hB1⟩
  have d1 : decide (20 < (keys.length : Int)) = false := by simp; omega
  have d2 : decide (500 < (text.length : Int)) = false := by simp; omega
  go_enter Tryd.func5, Tryd.ntmps5
  go_wp2_with (fail)
  refine (wakes_any _ hK).mono ?_
  rintro e w1 ⟨rfl, hB1⟩
  have hk1 := hk.below hB1
  obtain ⟨n, hn⟩ : ∃ n, n = keys.length := ⟨_, rfl⟩
  rw [← hn] at d1 h1 hk1 hc1 ⊢
  have Hn := hid hn
  clear hn
  go_wp2_with (fail)
  clear d1 d2
  go_loop [20] (fun iv => ∃ i : Nat, i ≤ n ∧ iv = .int .i64 i ∧ ∀ k ∈ keys.take i, k.length ≤ 300) (fun iv => n - (intOf iv).toNat)
  case atStart => exact ⟨0, by omega, rfl, fun k hk => by simp at hk⟩
  case round =>
    obtain ⟨i, hi, rfl, hall⟩ := hrel
    by_cases hil : i < n
    · obtain ⟨ki, hki⟩ : ∃ t, keys[i]? = some t := ⟨_, List.getElem?_eq_getElem (by rw [← Hn.out]; exact hil)⟩
      obtain ⟨g, off, u, rfl, hgl, hcu, hru⟩ := hk1.elem i (bys ki) (by rw [List.getElem?_map, hki]; rfl)
      obtain ⟨Ai, ci, rfl⟩ := hru.shape
      have hru0 := hru.cap
      by_cases hl : 300 < ki.length
      · clear hki
        go_wp2
        go_ret
        exact ⟨rfl, hB1⟩
      · have Hki := hid hki
        clear hki
        go_wp2
        go_round
        case rel => 
          refine ⟨i + 1, by omega, by go_num, fun k hk => ?_⟩
          obtain ⟨hlt, he⟩ := List.getElem?_eq_some_iff.1 Hki.out
          rw [List.take_succ_eq_append_getElem hlt, he] at hk
          rcases List.mem_append.1 hk with h | h
          · exact hall k h
          · simp at h; subst h; omega
        case measure => simp [intOf]; omega
    · have hall : ∀ k ∈ keys, k.length ≤ 300 := by
        intro k hk
        refine hall k ?_
        rw [List.take_of_length_le (by rw [← Hn.out]; omega)]
        exact hk
      have hk1' : Rd w1 F (.slice A n c) (tx keys) := by unfold tx; rw [← Hn.out]; exact hk1
      clear hk hk0
      go_wp2_with (fail)
      refine (vector_any _ _ keys text _ _ _ (hK.below hB1) hk1' (ht.below hB1) (fun k hk => by have := hall k hk; omega) (by rw [← Hn.out]; omega) (by omega)).mono ?_
      rintro e w2 ⟨gv, rfl, hgv, hbv, hB2⟩
      rw [← Hn.out]
      have hB2' := hB1.trans (hB2.mono hB1.size)
      have hk2 := hk1.below hB2
      have ht2 := ht.below hB2'
      have hnn : ((n : Int) != (n : Int)) = false := by simp
      go_wp2_with (fail)
      obtain ⟨T, hT⟩ : ∃ T, T = (keys.map fun k => tagF k text) := ⟨_, rfl⟩
      rw [← hT] at hbv
      have HT := hid hT
      clear hT hk1 hnn
      go_loopw [40] (fun iv wr => ∃ i : Nat, i ≤ n ∧ iv = .int .i64 i ∧ Blk wr gv 25 (bvs T.flatten) ∧ Below w2.heap.size w2 wr) (fun iv _ => n - (intOf iv).toNat)
      case atStart => exact ⟨0, by omega, rfl, hbv, Below.refl _ _⟩
      case round =>
        obtain ⟨i, hi, rfl, hb, hBr⟩ := hrel
        by_cases hil : i < n
        · obtain ⟨ki, hki⟩ : ∃ t, keys[i]? = some t := ⟨_, List.getElem?_eq_getElem (by rw [← Hn.out]; exact hil)⟩
          have hkl := hall ki (List.mem_of_getElem? hki)
          obtain ⟨g, off, u, rfl, hgl, hcu, hru⟩ := (hk2.below hBr).elem i (bys ki) (by rw [List.getElem?_map, hki]; rfl)
          obtain ⟨Ai, ci, rfl⟩ := hru.shape
          obtain ⟨r, hr⟩ : ∃ r, r = tagF ki text := ⟨_, rfl⟩
          have hTi : T[i]? = some r := by rw [HT.out, List.getElem?_map, hki, hr]; rfl
          have Hrl : Hid (r.length = 32) := by show _ = _; rw [hr]; exact len_tag _ _
          have hrg : wr.rangeAt gv (0 + i * 32) (bvs r) := hb.range _ _ (fun j v hv => by
            rw [Nat.zero_add]
            unfold bvs at hv ⊢
            rw [List.getElem?_map] at hv ⊢
            cases hj : r[j]? with
            | none => rw [hj] at hv; cases hv
            | some x =>
              rw [flatten_at32 T (by rw [HT.out]; intro y hy; obtain ⟨k, _, rfl⟩ := List.mem_map.1 hy; exact len_tag _ _) i r hTi j x hj]
              rw [hj] at hv
              exact hv)
          have Hr := hid hr
          have HRG : Hid (∀ W, Ch nob wr W → W.rangeAt gv (0 + i * 32) (bvs r)) := fun W h j v hv => (World.cell?_of_block (h.block gv hb.lt (fun h => h))).trans (hrg j v hv)
          have HCE : Hid (∀ W, Ch nob wr W → W.cell? ⟨g, off + i, none⟩ = some (.slice Ai ki.length ci)) := fun W h => (World.cell?_of_block (h.block g (lt_of_cell hcu) (fun h => h))).trans hcu
          have HKI : Hid (∀ W, Ch nob wr W → Rd W F (.slice Ai ki.length ci) (bys ki)) := fun W h => hru.ext h
          have htr := ht2.below hBr
          have HB := hid hb
          have HT1 : Hid (∀ W, Ch nob wr W → Rd W G (.slice A2 text.length c2) (bys text)) := fun W h => htr.ext h
          have heq := eqH r r Hrl.out Hrl.out
          rw [beq_self_eq_true] at heq
          clear hki hTi hr hrg hcu hru htr
          go_wp2
          refine wp_region_noPanic ?_
          refine wp_region_held_drew (S := Ch nob wr) (by kernel_rfl) ((Ch.refl _ _).drew) (fun hHeld => ?_)
          refine wpAnyH_take (i := 0) (oi := ⟨some 43, _, _, _, _, none⟩) (v := ?_) rfl (by kernel_rfl) (by kernel_rfl) (by kernel_rfl) (fun _ _ _ h => h) (Or.inl ⟨by rfl, ?_⟩) (by assumption) ?_
          rotate_left
          · intro w hSw; go_simp; try with_reducible rfl
          try simp only [Act.put, List.setIfInBounds_toArray, List.set_cons_zero, List.set_cons_succ]
          refine wpAnyH_take (i := 1) (oi := ⟨some 44, _, _, _, _, none⟩) (v := ?_) rfl (by kernel_rfl) (by kernel_rfl) (by kernel_rfl) (fun _ _ _ h => h) (Or.inl ⟨by rfl, ?_⟩) (by assumption) ?_
          rotate_left
          · intro w hSw; go_simp; try with_reducible rfl
          try simp only [Act.put, List.setIfInBounds_toArray, List.set_cons_zero, List.set_cons_succ]
          refine wpAnyH_take (i := 2) (oi := ⟨some 45, _, _, _, _, none⟩) (v := _) rfl (by kernel_rfl) (by kernel_rfl) (by kernel_rfl) (fun _ _ _ h => h) (yi_ixa (by rfl) 30 (.tmp 43) (.tmp 44) (by rfl) (by rfl) (by rfl) Tryd.underlying30 hil size25) (by assumption) ?_
          try simp only [Act.put, List.setIfInBounds_toArray, List.set_cons_zero, List.set_cons_succ]
          refine wpAnyH_take (i := 3) (oi := ⟨some 46, .load 25 (.tmp 45), _, _, _, none⟩) (v := _) rfl (by kernel_rfl) (by kernel_rfl) (by kernel_rfl) (fun _ _ _ h => h) (yieldsIf_load_mid (by rfl) 25 (.tmp 45) (by rfl) _ (0 + i * 32) (by rfl) _ _ (fun _ hs => HRG.out _ hs) und25 rfl (by rw [len_bvs, Hrl.out]; exact size25)) (by assumption) ?_
          try simp only [Act.put, List.setIfInBounds_toArray, List.set_cons_zero, List.set_cons_succ]
          refine wpAnyH_take (i := 4) (oi := ⟨some 47, _, _, _, _, none⟩) (v := ?_) rfl (by kernel_rfl) (by kernel_rfl) (by kernel_rfl) (fun _ _ _ h => h) (Or.inl ⟨by rfl, ?_⟩) (by assumption) ?_
          rotate_left
          · intro w hSw; go_simp; try with_reducible rfl
          try simp only [Act.put, List.setIfInBounds_toArray, List.set_cons_zero, List.set_cons_succ]
          refine wpAnyH_take (i := 5) (oi := ⟨some 48, _, _, _, _, none⟩) (v := ?_) rfl (by kernel_rfl) (by kernel_rfl) (by kernel_rfl) (fun _ _ _ h => h) (Or.inl ⟨by rfl, ?_⟩) (by assumption) ?_
          rotate_left
          · intro w hSw; go_simp; try with_reducible rfl
          try simp only [Act.put, List.setIfInBounds_toArray, List.set_cons_zero, List.set_cons_succ]
          refine wpAnyH_take (i := 6) (oi := ⟨some 49, _, _, _, _, none⟩) (v := ?_) rfl (by kernel_rfl) (by kernel_rfl) (by kernel_rfl) (fun _ _ _ h => h) (Or.inl ⟨by rfl, ?_⟩) (by assumption) ?_
          rotate_left
          · intro w hSw; go_simp; try with_reducible rfl
          try simp only [Act.put, List.setIfInBounds_toArray, List.set_cons_zero, List.set_cons_succ]
          refine wpAnyH_take (i := 7) (oi := ⟨some 50, _, _, _, _, none⟩) (v := ?_) rfl (by kernel_rfl) (by kernel_rfl) (by kernel_rfl) (fun _ _ _ h => h) (Or.inl ⟨by rfl, ?_⟩) (by assumption) ?_
          rotate_left
          · intro w hSw; have hcw := HCE.out w hSw; go_simp; try with_reducible rfl
          try simp only [Act.put, List.setIfInBounds_toArray, List.set_cons_zero, List.set_cons_succ]
          refine wpAnyH_take (i := 8) (oi := ⟨some 51, _, _, _, _, none⟩) (v := ?_) rfl (by kernel_rfl) (by kernel_rfl) (by kernel_rfl) (fun _ _ _ h => h) (Or.inl ⟨by rfl, ?_⟩) (by assumption) ?_
          rotate_left
          · intro w hSw; go_simp; try with_reducible rfl
          try simp only [Act.put, List.setIfInBounds_toArray, List.set_cons_zero, List.set_cons_succ]
          refine wpAnyH_ready (rs := [9]) (by kernel_rfl) (by simp) ?_
          refine AllReadyH.cons (o := ⟨some 52, _, _, _, _, none⟩) rfl (fun K hK => ?_) AllReadyH.nil
          go_simp
          refine (rtag_any _ _ ki text _ _ _ (HKI.out _ hHeld) (HT1.out _ hHeld) (by omega) (by omega)).mono ?_
          rintro e' w13 ⟨rfl, hB13⟩
          rw [← Hr.out]
          have hC13 := hHeld.belowG hB13
          refine hK.out _ _ (hC13) (fun hHeld => ?_)
          clear hK K
          try simp only [Act.put, List.setIfInBounds_toArray, List.set_cons_zero, List.set_cons_succ]
          refine wpAnyH_take (i := 10) (oi := ⟨some 53, _, _, _, _, none⟩) (v := ?_) rfl (by kernel_rfl) (by kernel_rfl) (by kernel_rfl) (fun _ _ _ h => h) (Or.inl ⟨by rfl, ?_⟩) (by assumption) ?_
          rotate_left
          · intro w hSw; go_simp; try with_reducible rfl
          try simp only [Act.put, List.setIfInBounds_toArray, List.set_cons_zero, List.set_cons_succ]
          refine wpAnyH_done (by kernel_rfl) ?_ _
          refine NoPanic.normal ?_
          go_wp2
          exact ⟨⟨i + 1, by omega, by go_num, HB.out.below hC13.below, hBr.trans (hC13.below.mono hBr.size)⟩, by simp [intOf]; omega⟩
        · have hB3 := hB2'.trans (hBr.mono hB2'.size)
          go_wp2
          go_ret
          exact ⟨rfl, hB3⟩
end Go.Proofs.YtlehdpoedmaghaaDoor
