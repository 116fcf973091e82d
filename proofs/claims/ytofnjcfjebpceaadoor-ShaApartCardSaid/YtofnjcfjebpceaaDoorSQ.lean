/- SQ: the law ShaAll. -/
import Derived.Test.YtofnjcfjebpceaaDoorSC
namespace Go.Proofs.YtofnjcfjebpceaaDoor
open Go.RowKit Go.V

theorem C2.bl {x h : List UInt8} {b7 b3 : Nat} {w w' : World} (H : C2 x h b7 b3 w w') : Below w.heap.size w w' := H.2.2.2
theorem flat_le : ∀ (ts : List (List UInt8)), (∀ t ∈ ts, t.length ≤ 200) → (ts.map tt).flatten.length ≤ ts.length * 210
  | [], _ => by simp
  | t :: ts, h => by
    have h1 := flat_le ts (fun x hx => h x (List.mem_cons_of_mem _ hx))
    have h2 := h t (List.mem_cons_self)
    have h3 := tt_len t (by omega)
    simp only [List.map_cons, List.flatten_cons, List.length_append, List.length_cons]
    omega
set_option maxRecDepth 100000 in
set_option maxHeartbeats 1000000 in
theorem shaAll_law (v : Value) (ts : List (List UInt8)) (x y : List UInt8) (F : Nat → Prop) (w : World) (hK : KS w) (ht0 : Rd w F v (tx ts)) (hx : x.length = 32) (hy : y.length = 32) :
    Calls Tryd.prog 4 #[v, .agg (bvs x).toArray, .agg (bvs y).toArray] w fun e w' => e = .returned (.bool true) ∧ Below w.heap.size w w' := by
  have Hx := hid hx
  have Hy := hid hy
  clear hx hy
  have ht := ht0.weak (F' := fun b => b < w.heap.size) (fun b hb _ => hb)
  clear ht0
  have htx := ht
  unfold tx at ht
  obtain ⟨A, c, rfl, hc1, hc2⟩ := ht.slShape
  unfold maxLen at hc2
  have hC0 : C2 x y w.heap.size (w.heap.size + 1) w ((w.alloc (.cells (bvs x).toArray 25)).alloc (.cells (bvs y).toArray 25)) := by
    refine ⟨(Blk.new' w 25 _).alloc _, ?_, hK.below (((Below.refl _ _).alloc (Nat.le_refl _) _).alloc (by simp) _), ((Below.refl _ _).alloc (Nat.le_refl _) _).alloc (by simp) _⟩
    have := Blk.new' (w.alloc (.cells (bvs x).toArray 25)) 25 (bvs y)
    simpa using this
  go_enter Tryd.func4, Tryd.ntmps4
  go_wp2_with (fail)
  refine (wakes_any _ hC0.ks).mono ?_
  rintro e w1 ⟨rfl, hB1⟩
  have hC := hC0.below hB1
  clear hC0 hB1
  by_cases hl : 30 < ts.length
  · go_wp2
    go_ret
    exact ⟨rfl, hC.bl⟩
  · go_wp2
    go_loop [15] (fun iv => ∃ i : Nat, i ≤ ts.length ∧ iv = .int .i64 i ∧ ∀ t ∈ ts.take i, t.length ≤ 200) (fun iv => ts.length - (intOf iv).toNat)
    case atStart => exact ⟨0, by omega, rfl, fun t ht => by simp at ht⟩
    case round =>
      obtain ⟨i, hi, rfl, hall⟩ := hrel
      by_cases hil : i < ts.length
      · obtain ⟨ti, hti⟩ : ∃ t, ts[i]? = some t := ⟨_, List.getElem?_eq_getElem hil⟩
        obtain ⟨g, off, u, rfl, hgl, hcu, hru⟩ := (ht.below hC.bl).elem i (bys ti) (by rw [List.getElem?_map, hti]; rfl)
        obtain ⟨Au, cu, rfl⟩ := hru.shape
        have Hti := hid hti
        clear hti
        have hti64 : ti.length ≤ 9223372036854775807 := by
          obtain ⟨_, c', e, _, h2, _⟩ := hru.bytes
          have h3 := hru.cap.2
          injection e with e1 e2 e3
          unfold maxLen at h2
          omega
        by_cases hbig : 200 < ti.length
        · go_wp2
          go_ret
          exact ⟨rfl, hC.bl⟩
        · have Hall := hid hall
          clear hall
          go_wp2
          go_round
          case rel =>
            refine ⟨i + 1, by omega, by go_num, fun t ht' => ?_⟩
            have hib := hil
            rw [List.take_succ_eq_append_getElem hib] at ht'
            rcases List.mem_append.1 ht' with h | h
            · exact Hall.out t h
            · simp at h
              have h5 := Hti.out
              rw [List.getElem?_eq_getElem hib] at h5
              injection h5 with h5
              rw [h, h5]
              omega
          case measure => simp [intOf]; omega
      · have hii : i = ts.length := by omega
        rw [hii, List.take_length] at hall
        have Hall := hid hall
        have Hfl := hid (flat_le ts hall)
        clear hii hall
        have heq := eqB (shaF (ts.map tt).flatten) (len_sha _)
        have heq2 := eqB (shaF (x ++ y)) (len_sha _)
        have hfl2 : (ts.map tt).flatten.length ≤ 8796093022208 := by have := Hfl.out; omega
        have Hs : Hid (∀ t ∈ ts, t.length ≤ 17592186044416) := fun t ht' => by have := Hall.out t ht'; omega
        go_wp2
        refine wp_region_noPanic ?_
        refine wp_region_held_drew (S := C2 x y w.heap.size (w.heap.size + 1) w) (by kernel_rfl) hC.drew (fun hHeld => ?_)
        refine wpAnyH_take (i := 0) (oi := ⟨some 25, .move (.tmp 0), _, _, _, none⟩) (v := ?_) rfl (by kernel_rfl) (by kernel_rfl) (by kernel_rfl) (fun _ _ _ h => h) (Or.inl ⟨by rfl, ?_⟩) (by assumption) ?_
        rotate_left
        · intro w hSw; go_simp; try with_reducible rfl
        try simp only [Act.put, List.setIfInBounds_toArray, List.set_cons_zero, List.set_cons_succ]
        refine wpAnyH_take (i := 2) (oi := ⟨some 27, .move (.tmp 0), _, _, _, none⟩) (v := ?_) rfl (by kernel_rfl) (by kernel_rfl) (by kernel_rfl) (fun _ _ _ h => h) (Or.inl ⟨by rfl, ?_⟩) (by assumption) ?_
        rotate_left
        · intro w hSw; go_simp; try with_reducible rfl
        try simp only [Act.put, List.setIfInBounds_toArray, List.set_cons_zero, List.set_cons_succ]
        refine wpAnyH_ready (rs := [1]) (by kernel_rfl) (by simp) ?_
        refine AllReadyH.cons (o := ⟨some 26, _, _, _, _, none⟩) rfl (fun K hK => ?_) AllReadyH.nil
        go_simp
        refine (all_any _ ts (fun b => b < w.heap.size) _ hHeld.ks (htx.below hHeld.bl) Hs.out (by omega) (by omega)).mono ?_
        rintro e' w5 ⟨rfl, hB5⟩
        have hC5 := hHeld.below hB5
        refine hK.out _ _ hC5 (fun hHeld => ?_)
        clear hK K
        try simp only [Act.put, List.setIfInBounds_toArray, List.set_cons_zero, List.set_cons_succ]
        refine wpAnyH_ready (rs := [3]) (by kernel_rfl) (by simp) ?_
        refine AllReadyH.cons (o := ⟨some 28, _, _, _, _, none⟩) rfl (fun K hK => ?_) AllReadyH.nil
        go_simp
        refine (ref_all_any _ ts (fun b => b < w.heap.size) _ (htx.below hC5.bl) Hs.out (by omega) hfl2).mono ?_
        rintro e' w6 ⟨rfl, hB6⟩
        have hC6 := hC5.below hB6
        refine hK.out _ _ hC6 (fun hHeld => ?_)
        clear hK K
        try simp only [Act.put, List.setIfInBounds_toArray, List.set_cons_zero, List.set_cons_succ]
        refine wpAnyH_take (i := 4) (oi := ⟨some 29, _, _, _, _, none⟩) (v := ?_) rfl (by kernel_rfl) (by kernel_rfl) (by kernel_rfl) (fun _ _ _ h => h) (Or.inl ⟨by rfl, ?_⟩) (by assumption) ?_
        rotate_left
        · intro w hSw; go_simp; try with_reducible rfl
        try simp only [Act.put, List.setIfInBounds_toArray, List.set_cons_zero, List.set_cons_succ]
        refine wpAnyH_take (i := 5) (oi := ⟨some 30, .move (.tmp 29), _, _, _, none⟩) (v := ?_) rfl (by kernel_rfl) (by kernel_rfl) (by kernel_rfl) (fun _ _ _ h => h) (Or.inl ⟨by rfl, ?_⟩) (by assumption) ?_
        rotate_left
        · intro w hSw; go_simp; try with_reducible rfl
        try simp only [Act.put, List.setIfInBounds_toArray, List.set_cons_zero, List.set_cons_succ]
        refine wpAnyH_take (i := 6) (oi := ⟨some 31, .load 25 (.tmp 4), _, _, _, some (5, true)⟩) (v := _) rfl (by kernel_rfl) (by kernel_rfl) (by kernel_rfl) (fun _ _ _ h => h) (yieldsIf_load_mid (by rfl) 25 (.tmp 4) (by rfl) _ 0 (by rfl) _ _ (fun _ hs => C2.r7 hs) und25 rfl (by rw [len_bvs, Hx.out]; exact size25)) (by assumption) ?_
        try simp only [Act.put, List.setIfInBounds_toArray, List.set_cons_zero, List.set_cons_succ]
        refine wpAnyH_take (i := 7) (oi := ⟨some 32, .load 25 (.tmp 5), _, _, _, some (5, true)⟩) (v := _) rfl (by kernel_rfl) (by kernel_rfl) (by kernel_rfl) (fun _ _ _ h => h) (yieldsIf_load_mid (by rfl) 25 (.tmp 5) (by rfl) _ 0 (by rfl) _ _ (fun _ hs => C2.r3 hs) und25 rfl (by rw [len_bvs, Hy.out]; exact size25)) (by assumption) ?_
        try simp only [Act.put, List.setIfInBounds_toArray, List.set_cons_zero, List.set_cons_succ]
        refine wpAnyH_take (i := 9) (oi := ⟨some 34, .load 25 (.tmp 4), _, _, _, some (5, true)⟩) (v := _) rfl (by kernel_rfl) (by kernel_rfl) (by kernel_rfl) (fun _ _ _ h => h) (yieldsIf_load_mid (by rfl) 25 (.tmp 4) (by rfl) _ 0 (by rfl) _ _ (fun _ hs => C2.r7 hs) und25 rfl (by rw [len_bvs, Hx.out]; exact size25)) (by assumption) ?_
        try simp only [Act.put, List.setIfInBounds_toArray, List.set_cons_zero, List.set_cons_succ]
        refine wpAnyH_take (i := 10) (oi := ⟨some 35, .load 25 (.tmp 5), _, _, _, some (5, true)⟩) (v := _) rfl (by kernel_rfl) (by kernel_rfl) (by kernel_rfl) (fun _ _ _ h => h) (yieldsIf_load_mid (by rfl) 25 (.tmp 5) (by rfl) _ 0 (by rfl) _ _ (fun _ hs => C2.r3 hs) und25 rfl (by rw [len_bvs, Hy.out]; exact size25)) (by assumption) ?_
        try simp only [Act.put, List.setIfInBounds_toArray, List.set_cons_zero, List.set_cons_succ]
        refine wpAnyH_ready (rs := [8]) (by kernel_rfl) (by simp) ?_
        refine AllReadyH.cons (o := ⟨some 33, _, _, _, _, some (5, true)⟩) rfl (fun K hK => ?_) AllReadyH.nil
        go_simp
        refine (pair_any x y _ hC6.ks Hx.out Hy.out).mono ?_
        rintro e' w7 ⟨rfl, hB7⟩
        have hC7 := hC6.below hB7
        refine hK.out _ _ hC7 (fun hHeld => ?_)
        clear hK K
        try simp only [Act.put, List.setIfInBounds_toArray, List.set_cons_zero, List.set_cons_succ]
        refine wpAnyH_ready (rs := [11]) (by kernel_rfl) (by simp) ?_
        refine AllReadyH.cons (o := ⟨some 36, _, _, _, _, some (5, true)⟩) rfl (fun K hK => ?_) AllReadyH.nil
        go_simp
        refine (ref_pair_any x y _ Hx.out Hy.out).mono ?_
        rintro e' w8 ⟨rfl, hB8⟩
        have hC8 := hC7.below hB8
        refine hK.out _ _ hC8 (fun hHeld => ?_)
        clear hK K
        try simp only [Act.put, List.setIfInBounds_toArray, List.set_cons_zero, List.set_cons_succ]
        refine wpAnyH_take (i := 12) (oi := ⟨some 37, _, _, _, _, some (5, true)⟩) (v := ?_) rfl (by kernel_rfl) (by kernel_rfl) (by kernel_rfl) (fun _ _ _ h => h) (Or.inl ⟨by rfl, ?_⟩) (by assumption) ?_
        rotate_left
        · intro w hSw; go_simp; try with_reducible rfl
        try simp only [Act.put, List.setIfInBounds_toArray, List.set_cons_zero, List.set_cons_succ]
        refine wpAnyH_take (i := 13) (oi := ⟨some 38, _, _, _, _, none⟩) (v := ?_) rfl (by kernel_rfl) (by kernel_rfl) (by kernel_rfl) (fun _ _ _ h => h) (Or.inl ⟨by rfl, ?_⟩) (by assumption) ?_
        rotate_left
        · intro w hSw; go_simp; try with_reducible rfl
        try simp only [Act.put, List.setIfInBounds_toArray, List.set_cons_zero, List.set_cons_succ]
        refine wpAnyH_take (i := 14) (oi := ⟨some 6, .assign (.tmp 38), _, _, _, none⟩) (v := ?_) rfl (by kernel_rfl) (by kernel_rfl) (by kernel_rfl) (fun _ _ _ h => h) (Or.inl ⟨by rfl, ?_⟩) (by assumption) ?_
        rotate_left
        · intro w hSw; go_simp; try with_reducible rfl
        try simp only [Act.put, List.setIfInBounds_toArray, List.set_cons_zero, List.set_cons_succ]
        refine wpAnyH_done (by kernel_rfl) ?_ _
        refine NoPanic.normal ?_
        go_wp2
        go_ret
        exact ⟨rfl, hC8.bl⟩
end Go.Proofs.YtofnjcfjebpceaaDoor
