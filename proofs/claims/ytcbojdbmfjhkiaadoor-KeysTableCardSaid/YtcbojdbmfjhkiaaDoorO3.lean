/- O3: layer 4: contracts of the document's Public, Sign, Recover. -/
import Derived.Test.YtcbojdbmfjhkiaaDoorO2
import Derived.IntWalk
namespace Go.V
open Go.RowKit
/-- n pieces, one behind the other -/
def catF (f : Nat → List UInt8) (n : Nat) : List UInt8 := (List.range n).flatMap f
theorem cat_succ (f : Nat → List UInt8) (n : Nat) : catF f (n + 1) = catF f n ++ f n := by simp [catF, List.range_succ]
theorem len_cat (f : Nat → List UInt8) (hf : ∀ j, (f j).length = 16) : ∀ n, (catF f n).length = 16 * n
  | 0 => rfl
  | n + 1 => by rw [cat_succ, List.length_append, len_cat f hf n, hf]; omega
def pubF (seed : List UInt8) (idx : Int) : List UInt8 := shaF (catF (fun j => walkF (secF seed idx j) j 0 15) 35)
def sigF (seed : List UInt8) (idx : Int) (text : List UInt8) : List UInt8 := catF (fun j => walkF (secF seed idx j) j 0 ((digF (shaF text)).getD j 0)) 35
def recF (text sig : List UInt8) : List UInt8 := shaF (catF (fun j => walkF ((sig.drop (16 * j)).take 16) j ((digF (shaF text)).getD j 0) (15 - (digF (shaF text)).getD j 0)) 35)
theorem cat_piece (f : Nat → List UInt8) (hf : ∀ j, (f j).length = 16) (n j : Nat) (hj : j < n) : ((catF f n).drop (16 * j)).take 16 = f j := by
  induction n with
  | zero => omega
  | succ n ih =>
    rw [cat_succ]
    have hl := len_cat f hf n
    by_cases h : j < n
    · rw [List.drop_append_of_le_length (by omega), List.take_append_of_le_length (by rw [List.length_drop]; omega)]
      exact ih h
    · have : j = n := by omega
      subst this
      rw [← hl, List.drop_left, List.take_of_length_le (by rw [hf]; omega)]
theorem cat_congr (f g : Nat → List UInt8) (n : Nat) (h : ∀ j, j < n → f j = g j) : catF f n = catF g n := by
  induction n with
  | zero => rfl
  | succ n ih => rw [cat_succ, cat_succ, ih (fun j hj => h j (by omega)), h n (by omega)]
theorem ivs_at (l : List Nat) (j n : Nat) (h : l[j]? = some n) : (ivs l)[j]? = some (.int .i64 (n : Int)) := by simp [ivs, h]
/-- a row's cells, in its own words -/
theorem own_cellAt {w : World} {base : Nat} {e : TypeId} {v : Value} {n : Nat} {xs : List Value} (h : w.ownsRow base e 1 v n xs) (j : Nat) (u : Value) (hu : xs[j]? = some u) : ∃ g c, v = .slice (some ⟨g, 0, none⟩) n c ∧ base ≤ g ∧ g < w.heap.size ∧ w.cell? ⟨g, j, none⟩ = some u := by
  rcases h.2 with ⟨rfl, rfl⟩ | ⟨g, cap, cur, rfl, hg, hh, h1, h2, h3, h4⟩
  · have := h.1
    rw [List.eq_nil_of_length_eq_zero (by omega : xs.length = 0)] at hu
    simp at hu
  · refine ⟨g, cap, rfl, hg, lt_of_block hh, ?_⟩
    have := h.cells (g := g) rfl j u hu
    rwa [add_mk, Nat.zero_add] at this
theorem own_ivs {w : World} {base : Nat} {e : TypeId} {v : Value} {n : Nat} {D : List Nat} (h : w.ownsRow base e 1 v n (ivs D)) (hn : 0 < n) : ∃ g c, v = .slice (some ⟨g, 0, none⟩) n c ∧ base ≤ g ∧ g < w.heap.size ∧ ∀ (j k : Nat), D[j]? = some k → w.cell? ⟨g, j, none⟩ = some (.int .i64 (k : Int)) := by
  have hl : D.length = n := by have := h.1; rw [len_ivs] at this; omega
  obtain ⟨k0, hk0⟩ : ∃ k, D[0]? = some k := ⟨_, List.getElem?_eq_getElem (by omega)⟩
  obtain ⟨g, c, rfl, hg, hlt, _⟩ := own_cellAt h 0 _ (ivs_at D 0 k0 hk0)
  refine ⟨g, c, rfl, hg, hlt, fun j k hk => ?_⟩
  obtain ⟨g', c', e, _, _, hc⟩ := own_cellAt h j _ (ivs_at D j k hk)
  injection e with e1
  injection e1 with e1
  injection e1 with e2
  subst e2
  exact hc
end Go.V
namespace Go.Proofs.YtcbojdbmfjhkiaaDoor
open Go.RowKit Go.V
theorem len_pub (seed : List UInt8) (idx : Int) : (pubF seed idx).length = 32 := len_sha _
theorem len_rec (text sig : List UInt8) : (recF text sig).length = 32 := len_sha _
theorem len_sig (seed : List UInt8) (idx : Int) (text : List UInt8) : (sigF seed idx text).length = 560 := len_cat _ (fun _ => len_walk _ _ _ (len_sec _ _ _) _) 35
theorem rwalk_i (v : Value) (p : List UInt8) (j f n : Nat) (jv fv nv : Int) (F : Nat → Prop) (w : World) (ht : Rd w F v (bys p)) (hp : p.length = 16) (hj : j ≤ 1000) (hf : f ≤ 1000) (hn : n ≤ 1000) (e1 : jv = j) (e2 : fv = f) (e3 : nv = n) :
    Calls Tryd.prog 33 #[v, .int .i64 jv, .int .i64 fv, .int .i64 nv] w fun e w' => ∃ v', e = .returned v' ∧ Rd w' (fun b => F b ∨ w.heap.size ≤ b) v' (bys (walkF p j f (n - f))) ∧ Below w.heap.size w w' := by
  subst e1 e2 e3
  exact rwalk_any v p j f n F w ht hp hj hf hn
set_option maxRecDepth 100000 in
set_option maxHeartbeats 1000000 in
theorem rpublic_any (seed : List UInt8) (idx : Int) (w : World) (hl : seed.length = 32) (h1 : -9223372036854775808 ≤ idx) (h2 : idx ≤ 9223372036854775807) :
    Calls Tryd.prog 19 #[.agg (bvs seed).toArray, .int .i64 idx] w fun e w' => e = .returned (.agg (bvs (pubF seed idx)).toArray) ∧ Below w.heap.size w w' := by
  have Hl := hid hl
  clear hl
  have hsd := (Blk.new' w 23 (bvs seed)).alloc (.cells (zs8 32).toArray 23)
  have hz := Blk.new' (w.alloc (.cells (bvs seed).toArray 23)) 23 (zs8 32)
  have hB := ((Below.refl w.heap.size w).alloc (Nat.le_refl _) (.cells (bvs seed).toArray 23)).alloc (by simp) (.cells (zs8 32).toArray 23)
  rw [show (w.alloc (.cells (bvs seed).toArray 23)).heap.size = w.heap.size + 1 from by simp] at hz
  go_enter Tryd.func19, Tryd.ntmps19
  go_wp2_with (refine wp_new 23 rfl rfl zero25 ?_)
  obtain ⟨w0, hw0⟩ : ∃ w0, w0 = (w.alloc (.cells (bvs seed).toArray 23)).alloc (.cells (zs8 32).toArray 23) := ⟨_, rfl⟩
  rw [← hw0] at hsd hz hB ⊢
  have hz0 : w0.heap.size = w.heap.size + 1 + 1 := by rw [hw0]; simp
  have Hz0 := hid hz0
  clear hw0 hz0
  have h0 := World.ownsRow_nil w0 w0.heap.size 5 1
  go_loopw [5, 6] (fun bv jv wr => ∃ j : Nat, j ≤ 35 ∧ jv = .int .i64 j ∧ wr.ownsRow w0.heap.size 5 1 bv (16 * j) (bvs (catF (fun j => walkF (secF seed idx j) j 0 15) j)) ∧ Below w0.heap.size w0 wr) (fun _ jv _ => 35 - (intOf jv).toNat)
  case atStart => exact ⟨0, by omega, rfl, h0, Below.refl _ _⟩
  case round =>
    obtain ⟨j, hj, rfl, ho, hB1⟩ := hrel
    obtain ⟨C, hC⟩ : ∃ C, C = catF (fun j => walkF (secF seed idx j) j 0 15) j := ⟨_, rfl⟩
    rw [← hC] at ho
    have HC := hid hC
    clear hC
    have hbs := hB1.size
    by_cases hlt : j < 35
    · have hsr := hsd.below hB1
      go_wp2_with (refine wp_ld 23 (.tmp 2) rfl rfl rfl hsr.whole und25 rfl (by rw [len_bvs, Hl.out]; exact size25) ?_)
      refine (rsecret_any seed idx j _ Hl.out h1 h2 (by omega)).mono ?_
      rintro e w4 ⟨v4, rfl, hr4, hB4⟩
      go_wp2_with (fail)
      refine (rwalk_i _ (secF seed idx j) j 0 15 _ _ _ _ _ hr4 (len_sec _ _ _) (by omega) (by omega) (by omega) rfl rfl rfl).mono ?_
      rintro e w5 ⟨v5, rfl, hr5, hB5⟩
      have hwl : Hid ((walkF (secF seed idx j) j 0 (15 - 0)).length = 16) := len_walk _ _ _ (len_sec _ _ _) _
      obtain ⟨q, hq⟩ : ∃ q, q = walkF (secF seed idx j) j 0 (15 - 0) := ⟨_, rfl⟩
      rw [← hq] at hr5 hwl
      have hcs : Hid (catF (fun j => walkF (secF seed idx j) j 0 15) (j + 1) = C ++ q) := by show _ = _; rw [cat_succ, HC.out, hq]
      clear hq
      have hB45 := hB4.trans (hB5.mono hB4.size)
      have hB5' := hB1.trans (hB45.mono hbs)
      have ho5 := own_keepB ho hB45
      obtain ⟨A5, c5, rfl⟩ := hr5.shape
      have hs5 := hr5.src
      rw [hwl.out] at hs5 ⊢
      have hz5 := hB5'.size
      go_wp2_with (with_reducible refine wp_at 18 rfl ?_)
      refine wp_on ?_
      refine wp_app (.tmp 11) (.tmp 17) slB rfl rfl rfl ho5 rfl hs5 (oneCell_bvs q) (by simp only [maxLen]; omega) (by omega) (by omega) ?_
      intro v6 w6 ho6 hG6 hat6
      rw [show bvs C ++ bvs q = bvs (C ++ q) from by simp [bvs]] at ho6
      have hB6 := hB5'.grown hG6 hz5 (fun k hk => (ho5.lt k hk).1)
      go_wp2
      go_roundw
      case rel => exact ⟨j + 1, by omega, by go_num, by rw [hcs.out]; exact ho6, hB6⟩
      case measure => simp [intOf]; omega
    · have h35 : j = 35 := by omega
      subst h35
      have hzr := hz.below hB1
      have hBr := hB.trans (hB1.mono hB.size)
      have hrd := Rd.of_own ho
      have hcl : Hid (C.length = 560) := by show _ = _; rw [HC.out]; exact len_cat _ (fun _ => len_walk _ _ _ (len_sec _ _ _) _) 35
      go_wp2_with (fail)
      refine (rsum_any _ C _ _ hrd (by rw [hcl.out]; omega)).mono ?_
      rintro e w7 ⟨rfl, hB7⟩
      have hpu : Hid (pubF seed idx = shaF C) := by show _ = _; rw [HC.out]; rfl
      rw [← hpu.out]
      obtain ⟨r, hr⟩ : ∃ r, r = pubF seed idx := ⟨_, rfl⟩
      rw [← hr]
      have hrl : Hid (r.length = 32) := by show _ = _; rw [hr]; exact len_pub _ _
      have Hr := hid hr
      clear hr hpu
      have hz7 := hzr.below hB7
      have hB7' := hBr.trans (hB7.mono hBr.size)
      go_wp2_with (refine wp_st 23 (.tmp 4) (.tmp 20) rfl rfl rfl (f := 0) rfl (l := bvs r) rfl hz7 (by simp [zs8, len_bvs, hrl.out]) (by rw [len_bvs, hrl.out]; exact size25) (oneCell_bvs _) ?_; intro w8 hb8 hG8)
      rw [set25 _ hrl.out] at hb8
      refine ret_cell rfl rfl hb8.whole und25 rfl (by rw [len_bvs, hrl.out]; exact size25) rfl ?_
      exact ⟨by rw [Hr.out], hB7'.grown hG8 hB7'.size (by intro k hk; injection hk with hk; omega)⟩
set_option maxRecDepth 100000 in
set_option maxHeartbeats 2000000 in
theorem rsign_any (seed : List UInt8) (idx : Int) (tv : Value) (text : List UInt8) (F : Nat → Prop) (w : World) (hl : seed.length = 32) (h1 : -9223372036854775808 ≤ idx) (h2 : idx ≤ 9223372036854775807) (ht : Rd w F tv (bys text)) (hn : text.length ≤ 17592186044416) :
    Calls Tryd.prog 25 #[.agg (bvs seed).toArray, .int .i64 idx, tv] w fun e w' => ∃ v', e = .returned v' ∧ NewB w w' v' (sigF seed idx text) := by
  obtain ⟨At, ct, rfl⟩ := ht.shape
  have Hl := hid hl
  clear hl
  have hsd := Blk.new' w 23 (bvs seed)
  have hB := (Below.refl w.heap.size w).alloc (Nat.le_refl _) (.cells (bvs seed).toArray 23)
  go_enter Tryd.func25, Tryd.ntmps25
  go_wp2_with (fail)
  refine (rsum_any _ text _ _ (ht.below hB) hn).mono ?_
  rintro e w1 ⟨rfl, hB1⟩
  go_wp2_with (fail)
  refine (rdigits_any (shaF text) _ (len_sha _)).mono ?_
  rintro e wd ⟨dv, rfl, hod, hB2⟩
  have hB12 := hB1.trans (hB2.mono hB1.size)
  have hBd := hB.trans (hB12.mono hB.size)
  have hsd := hsd.below hB12
  obtain ⟨D, hD⟩ : ∃ D, D = digF (shaF text) := ⟨_, rfl⟩
  rw [← hD] at hod
  have hDl : Hid (D.length = 35) := by show _ = _; rw [hD]; exact len_dig _ (by rw [len_sha]; omega)
  have hD15 : Hid (∀ n ∈ D, n ≤ 15) := by show ∀ n ∈ D, n ≤ 15; rw [hD]; exact dig_le _
  have HD := hid hD
  clear hD
  obtain ⟨gd, cd, rfl, hgd, hgl, hdc⟩ := own_ivs hod (by omega)
  have HDC := hid hdc
  clear hdc
  have hsl := hsd.lt
  obtain ⟨g3, hg3⟩ : ∃ g, g = w.heap.size := ⟨_, rfl⟩
  rw [← hg3] at hsd hsl
  have Hg3 := hid hg3
  have h0 := World.ownsRow_nil wd wd.heap.size 5 1
  go_wp2_with (fail)
  rw [← hg3]
  clear hg3
  go_loopw [8, 9] (fun bv jv wr => ∃ j : Nat, j ≤ 35 ∧ jv = .int .i64 j ∧ wr.ownsRow wd.heap.size 5 1 bv (16 * j) (bvs (catF (fun j => walkF (secF seed idx j) j 0 (D.getD j 0)) j)) ∧ Below wd.heap.size wd wr) (fun _ jv _ => 35 - (intOf jv).toNat)
  case atStart => exact ⟨0, by omega, rfl, h0, Below.refl _ _⟩
  case round =>
    obtain ⟨j, hj, rfl, ho, hB3⟩ := hrel
    obtain ⟨C, hC⟩ : ∃ C, C = catF (fun j => walkF (secF seed idx j) j 0 (D.getD j 0)) j := ⟨_, rfl⟩
    rw [← hC] at ho
    have HC := hid hC
    clear hC
    have hbs := hB3.size
    by_cases hlt : j < 35
    · obtain ⟨dj, hdj⟩ : ∃ n, D[j]? = some n := ⟨_, List.getElem?_eq_getElem (by rw [hDl.out]; omega)⟩
      have hd15 := hD15.out dj (List.mem_of_getElem? hdj)
      have hcell := HDC.out j dj hdj
      have HSD : Hid (∀ W, Ch (fun b => wd.heap.size ≤ b) wr W → W.rangeAt g3 0 (bvs seed)) := fun W h => (hsd.below hB3).chAt (by show ¬ wd.heap.size ≤ g3; omega) h
      have HDG : Hid (∀ W, Ch (fun b => wd.heap.size ≤ b) wr W → W.cell? ⟨gd, j, none⟩ = some (.int .i64 (dj : Int))) := fun W h => (World.cell?_of_block ((h.block gd (by omega) (by show ¬ wd.heap.size ≤ gd; omega)).trans (hB3.block gd hgl))).trans hcell
      have hcs0 : Hid (catF (fun j => walkF (secF seed idx j) j 0 (D.getD j 0)) (j + 1) = C ++ walkF (secF seed idx j) j 0 dj) := by
        show _ = _
        rw [cat_succ, HC.out]
        simp [hdj]
      clear hdj hcell
      go_wp2
      refine wp_region_noPanic ?_
      refine wp_region_held_drew (S := Ch (fun b => wd.heap.size ≤ b) wr) (by kernel_rfl) ((Ch.refl _ _).drew) (fun hHeld => ?_)
      refine wpAnyH_take (i := 0) (oi := ⟨some 17, _, _, _, _, none⟩) (v := ?_) rfl (by kernel_rfl) (by kernel_rfl) (by kernel_rfl) (fun _ _ _ h => h) (Or.inl ⟨by rfl, ?_⟩) (by assumption) ?_
      rotate_left
      · intro w hSw; go_simp; try with_reducible rfl
      try simp only [Act.put, List.setIfInBounds_toArray, List.set_cons_zero, List.set_cons_succ]
      refine wpAnyH_take (i := 1) (oi := ⟨some 18, .load 23 (.tmp 3), _, _, _, none⟩) (v := _) rfl (by kernel_rfl) (by kernel_rfl) (by kernel_rfl) (fun _ _ _ h => h) (yieldsIf_load_mid (by rfl) 23 (.tmp 3) (by rfl) _ (0) (by rfl) _ _ (fun _ hs => HSD.out _ hs) und25 rfl (by rw [len_bvs, Hl.out]; exact size25)) (by assumption) ?_
      try simp only [Act.put, List.setIfInBounds_toArray, List.set_cons_zero, List.set_cons_succ]
      refine wpAnyH_take (i := 2) (oi := ⟨some 19, _, _, _, _, none⟩) (v := ?_) rfl (by kernel_rfl) (by kernel_rfl) (by kernel_rfl) (fun _ _ _ h => h) (Or.inl ⟨by rfl, ?_⟩) (by assumption) ?_
      rotate_left
      · intro w hSw; go_simp; try with_reducible rfl
      try simp only [Act.put, List.setIfInBounds_toArray, List.set_cons_zero, List.set_cons_succ]
      refine wpAnyH_take (i := 3) (oi := ⟨some 20, _, _, _, _, none⟩) (v := ?_) rfl (by kernel_rfl) (by kernel_rfl) (by kernel_rfl) (fun _ _ _ h => h) (Or.inl ⟨by rfl, ?_⟩) (by assumption) ?_
      rotate_left
      · intro w hSw; go_simp; try with_reducible rfl
      try simp only [Act.put, List.setIfInBounds_toArray, List.set_cons_zero, List.set_cons_succ]
      refine wpAnyH_take (i := 5) (oi := ⟨some 22, _, _, _, _, none⟩) (v := ?_) rfl (by kernel_rfl) (by kernel_rfl) (by kernel_rfl) (fun _ _ _ h => h) (Or.inl ⟨by rfl, ?_⟩) (by assumption) ?_
      rotate_left
      · intro w hSw; go_simp; try with_reducible rfl
      try simp only [Act.put, List.setIfInBounds_toArray, List.set_cons_zero, List.set_cons_succ]
      refine wpAnyH_take (i := 6) (oi := ⟨some 23, _, _, _, _, none⟩) (v := ?_) rfl (by kernel_rfl) (by kernel_rfl) (by kernel_rfl) (fun _ _ _ h => h) (Or.inl ⟨by rfl, ?_⟩) (by assumption) ?_
      rotate_left
      · intro w hSw; go_simp; try with_reducible rfl
      try simp only [Act.put, List.setIfInBounds_toArray, List.set_cons_zero, List.set_cons_succ]
      refine wpAnyH_take (i := 7) (oi := ⟨some 24, _, _, _, _, none⟩) (v := ?_) rfl (by kernel_rfl) (by kernel_rfl) (by kernel_rfl) (fun _ _ _ h => h) (Or.inl ⟨by rfl, ?_⟩) (by assumption) ?_
      rotate_left
      · intro w hSw; go_simp; try with_reducible rfl
      try simp only [Act.put, List.setIfInBounds_toArray, List.set_cons_zero, List.set_cons_succ]
      refine wpAnyH_take (i := 8) (oi := ⟨some 25, _, _, _, _, none⟩) (v := ?_) rfl (by kernel_rfl) (by kernel_rfl) (by kernel_rfl) (fun _ _ _ h => h) (Or.inl ⟨by rfl, ?_⟩) (by assumption) ?_
      rotate_left
      · intro w hSw; go_simp; try with_reducible rfl
      try simp only [Act.put, List.setIfInBounds_toArray, List.set_cons_zero, List.set_cons_succ]
      refine wpAnyH_take (i := 9) (oi := ⟨some 26, _, _, _, _, none⟩) (v := ?_) rfl (by kernel_rfl) (by kernel_rfl) (by kernel_rfl) (fun _ _ _ h => h) (Or.inl ⟨by rfl, ?_⟩) (by assumption) ?_
      rotate_left
      · intro w hSw; have hcw := HDG.out w hSw; go_simp; try with_reducible rfl
      try simp only [Act.put, List.setIfInBounds_toArray, List.set_cons_zero, List.set_cons_succ]
      refine wpAnyH_ready (rs := [4]) (by kernel_rfl) (by simp) ?_
      refine AllReadyH.cons (o := ⟨some 21, _, _, _, _, none⟩) rfl (fun K hK => ?_) AllReadyH.nil
      go_simp
      refine (rsecret_any seed idx j _ Hl.out h1 h2 (by omega)).mono ?_
      rintro e' w4 ⟨v4, rfl, hr4, hB4⟩
      have hC4 := hHeld.belowG hB4
      have ho4 := own_keepB ho.drew hB4
      refine hK.out _ _ (hC4) (fun hHeld => ?_)
      clear hK K
      try simp only [Act.put, List.setIfInBounds_toArray, List.set_cons_zero, List.set_cons_succ]
      refine wpAnyH_ready (rs := [10]) (by kernel_rfl) (by simp) ?_
      refine AllReadyH.cons (o := ⟨some 27, _, _, _, _, none⟩) rfl (fun K hK => ?_) AllReadyH.nil
      go_simp
      refine (rwalk_i _ (secF seed idx j) j 0 dj _ _ _ _ _ hr4 (len_sec _ _ _) (by omega) (by omega) (by omega) rfl rfl rfl).mono ?_
      rintro e' w5 ⟨v5, rfl, hr5, hB5⟩
      have hC5 := hC4.belowG hB5
      have ho5 := own_keepB ho4 hB5
      have hwl : Hid ((walkF (secF seed idx j) j 0 (dj - 0)).length = 16) := len_walk _ _ _ (len_sec _ _ _) _
      rw [Nat.sub_zero] at hr5 hwl
      obtain ⟨q, hq⟩ : ∃ q, q = walkF (secF seed idx j) j 0 dj := ⟨_, rfl⟩
      rw [← hq] at hr5 hwl
      have Hq := hid hq
      clear hq
      obtain ⟨A5, c5, rfl⟩ := hr5.shape
      have hs5 := hr5.src
      rw [hwl.out] at hs5 ⊢
      refine hK.out _ _ (hC5) (fun hHeld => ?_)
      clear hK K
      try simp only [Act.put, List.setIfInBounds_toArray, List.set_cons_zero, List.set_cons_succ]
      refine wpAnyH_ready (rs := [11]) (by kernel_rfl) (by simp) ?_
      refine AllReadyH.cons (o := ⟨some 28, _, _, _, _, none⟩) rfl (fun K hK => ?_) AllReadyH.nil
      refine step_app (.tmp 17) (.tmp 27) slB (by rfl) (by rfl) (by rfl) ho5 (by rfl) hs5 (oneCell_bvs q) (by simp only [maxLen]; omega) (by omega) (by have := hC5.size; omega) ?_
      intro v6 w6 ho6 hG6
      have hC6 := hC5.growOwn hG6 (fun k hk => (ho5.lt k hk).1)
      refine hK.out _ _ (hC6) (fun hHeld => ?_)
      clear hK K
      try simp only [Act.put, List.setIfInBounds_toArray, List.set_cons_zero, List.set_cons_succ]
      refine wpAnyH_take (i := 12) (oi := ⟨some 8, _, _, _, _, none⟩) (v := ?_) rfl (by kernel_rfl) (by kernel_rfl) (by kernel_rfl) (fun _ _ _ h => h) (Or.inl ⟨by rfl, ?_⟩) (by assumption) ?_
      rotate_left
      · intro w hSw; go_simp; try with_reducible rfl
      try simp only [Act.put, List.setIfInBounds_toArray, List.set_cons_zero, List.set_cons_succ]
      refine wpAnyH_done (by kernel_rfl) ?_ _
      refine NoPanic.normal ?_
      rw [show bvs C ++ bvs q = bvs (C ++ q) from by simp [bvs], Hq.out, ← hcs0.out] at ho6
      go_wp2
      go_roundw
      case rel => exact ⟨j + 1, by omega, by go_num, ho6, hB3.trans ⟨hC6.os, hC6.tape, hC6.output, hC6.size, fun k hk => hC6.block k (by omega) (by show ¬ wd.heap.size ≤ k; omega)⟩⟩
      case measure => simp [intOf]; omega
    · have h35 : j = 35 := by omega
      subst h35
      have hfin : Hid (sigF seed idx text = C) := by show _ = _; rw [HC.out, HD.out]; rfl
      go_wp2
      go_ret
      refine ⟨_, rfl, ?_, hBd.trans (hB3.mono hBd.size)⟩
      rw [len_sig, hfin.out]
      exact own_base ho hBd.size
def recE (sig : List UInt8) : Int := if sig.length = 560 then 0 else 2
def recH (text sig : List UInt8) : List UInt8 := if sig.length = 560 then recF text sig else List.replicate 32 0
theorem len_recH (text sig : List UInt8) : (recH text sig).length = 32 := by
  unfold recH
  by_cases h : sig.length = 560
  · rw [if_pos h]; exact len_rec _ _
  · rw [if_neg h]; simp
theorem zs8_bvs (n : Nat) : zs8 n = bvs (List.replicate n 0) := by simp [zs8, bvs, byteV]
set_option maxRecDepth 100000 in
set_option maxHeartbeats 2000000 in
theorem rrecover_any (tv sv : Value) (text sig : List UInt8) (F G : Nat → Prop) (w : World) (ht : Rd w F tv (bys text)) (hs : Rd w G sv (bys sig)) (hn : text.length ≤ 17592186044416) :
    Calls Tryd.prog 28 #[tv, sv] w fun e w' => e = .returned (.tuple #[.agg (bvs (recH text sig)).toArray, .int .i64 (recE sig)]) ∧ Below w.heap.size w w' := by
  obtain ⟨At, ct, rfl⟩ := ht.shape
  have hs := hs.weak (F' := fun b => b < w.heap.size) (fun b hb _ => hb)
  obtain ⟨As, cs, rfl⟩ := hs.shape
  have hcap := hs.cap
  have hsm : sig.length ≤ 9223372036854775807 := by
    obtain ⟨_, c', e, _, h2, _⟩ := hs.bytes
    injection e with e1 e2 e3
    unfold maxLen at h2
    omega
  have hz := Blk.new' w 23 (zs8 32)
  have hB := (Below.refl w.heap.size w).alloc (Nat.le_refl _) (.cells (zs8 32).toArray 23)
  by_cases h560 : sig.length = 560
  · have HE : Hid (recE sig = 0) := if_pos h560
    have HH : Hid (recH text sig = recF text sig) := if_pos h560
    rw [h560] at hs ⊢
    have hne : ((560 : Int) != 560) = false := by decide
    have Hs := hid h560
    clear h560 hcap hsm
    go_enter Tryd.func28, Tryd.ntmps28
    go_wp2_with (refine wp_new 23 rfl rfl zero25 ?_)
    refine (rsum_any _ text _ _ (ht.below hB) hn).mono ?_
    rintro e w1 ⟨rfl, hB1⟩
    go_wp2_with (fail)
    refine (rdigits_any (shaF text) _ (len_sha _)).mono ?_
    rintro e wd ⟨dv, rfl, hod, hB2⟩
    have hB12 := hB1.trans (hB2.mono hB1.size)
    have hBd := hB.trans (hB12.mono hB.size)
    have hzd := hz.below hB12
    have hsd := hs.below hBd
    obtain ⟨D, hD⟩ : ∃ D, D = digF (shaF text) := ⟨_, rfl⟩
    rw [← hD] at hod
    have hDl : Hid (D.length = 35) := by show _ = _; rw [hD]; exact len_dig _ (by rw [len_sha]; omega)
    have hD15 : Hid (∀ n ∈ D, n ≤ 15) := by show ∀ n ∈ D, n ≤ 15; rw [hD]; exact dig_le _
    have HD := hid hD
    clear hD
    obtain ⟨gd, cd, rfl, hgd, hgl, hdc⟩ := own_ivs hod (by omega)
    have HDC := hid hdc
    clear hdc hne
    have hzl := hzd.lt
    have h0 := World.ownsRow_nil wd wd.heap.size 5 1
    go_wp2_with (fail)
    go_loopw [7, 8] (fun bv jv wr => ∃ j : Nat, j ≤ 35 ∧ jv = .int .i64 j ∧ wr.ownsRow wd.heap.size 5 1 bv (16 * j) (bvs (catF (fun j => walkF ((sig.drop (16 * j)).take 16) j (D.getD j 0) (15 - D.getD j 0)) j)) ∧ Below wd.heap.size wd wr) (fun _ jv _ => 35 - (intOf jv).toNat)
    case atStart => exact ⟨0, by omega, rfl, h0, Below.refl _ _⟩
    case round =>
      obtain ⟨j, hj, rfl, ho, hB3⟩ := hrel
      obtain ⟨C, hC⟩ : ∃ C, C = catF (fun j => walkF ((sig.drop (16 * j)).take 16) j (D.getD j 0) (15 - D.getD j 0)) j := ⟨_, rfl⟩
      rw [← hC] at ho
      have HC := hid hC
      clear hC
      have hbs := hB3.size
      by_cases hlt : j < 35
      · obtain ⟨dj, hdj⟩ : ∃ n, D[j]? = some n := ⟨_, List.getElem?_eq_getElem (by rw [hDl.out]; omega)⟩
        have hd15 := hD15.out dj (List.mem_of_getElem? hdj)
        have hcell := HDC.out j dj hdj
        have HDG : Hid (∀ W, Ch (fun b => wd.heap.size ≤ b) wr W → W.cell? ⟨gd, j, none⟩ = some (.int .i64 (dj : Int))) := fun W h => (World.cell?_of_block ((h.block gd (by omega) (by show ¬ wd.heap.size ≤ gd; omega)).trans (hB3.block gd hgl))).trans hcell
        have hcs0 : Hid (catF (fun j => walkF ((sig.drop (16 * j)).take 16) j (D.getD j 0) (15 - D.getD j 0)) (j + 1) = C ++ walkF ((sig.drop (16 * j)).take 16) j dj (15 - dj)) := by
          show _ = _
          rw [cat_succ, HC.out]
          simp [hdj]
        have hpl : Hid (((sig.drop (16 * j)).take 16).length = 16) := by show _ = _; rw [List.length_take, List.length_drop, Hs.out]; omega
        obtain ⟨A9, m9, c9, hcut, hcr⟩ := Rd.cut slB (hsd.below hB3) (16 * (j : Int)) (16 * (j : Int) + 16) (by omega) (by omega) (by rw [Hs.out]; omega)
        rw [show (16 * (j : Int)).toNat = 16 * j from by omega, show (16 * (j : Int) + 16).toNat - 16 * j = 16 from by omega] at hcr
        have hwm : IntKind.i64.wrap (16 * (j : Int)) = 16 * (j : Int) := IntWalk.i64_in _ (by omega)
        have hwa : IntKind.i64.wrap (16 * (j : Int) + 16) = 16 * (j : Int) + 16 := IntWalk.i64_in _ (by omega)
        have hbd := hBd.size
        clear hdj hcell
        go_wp2
        refine wp_region_noPanic ?_
        refine wp_region_held_drew (S := Ch (fun b => wd.heap.size ≤ b) wr) (by kernel_rfl) ((Ch.refl _ _).drew) (fun hHeld => ?_)
        refine wpAnyH_take (i := 0) (oi := ⟨some 20, _, _, _, _, none⟩) (v := ?_) rfl (by kernel_rfl) (by kernel_rfl) (by kernel_rfl) (fun _ _ _ h => h) (Or.inl ⟨by rfl, ?_⟩) (by assumption) ?_
        rotate_left
        · intro w hSw; go_simp; try with_reducible rfl
        try simp only [Act.put, List.setIfInBounds_toArray, List.set_cons_zero, List.set_cons_succ]
        refine wpAnyH_take (i := 1) (oi := ⟨some 21, _, _, _, _, none⟩) (v := ?_) rfl (by kernel_rfl) (by kernel_rfl) (by kernel_rfl) (fun _ _ _ h => h) (Or.inl ⟨by rfl, ?_⟩) (by assumption) ?_
        rotate_left
        · intro w hSw; go_simp; try with_reducible rfl
        try simp only [Act.put, List.setIfInBounds_toArray, List.set_cons_zero, List.set_cons_succ]
        refine wpAnyH_take (i := 2) (oi := ⟨some 22, _, _, _, _, none⟩) (v := ?_) rfl (by kernel_rfl) (by kernel_rfl) (by kernel_rfl) (fun _ _ _ h => h) (Or.inl ⟨by rfl, ?_⟩) (by assumption) ?_
        rotate_left
        · intro w hSw; go_simp; try with_reducible rfl
        try simp only [Act.put, List.setIfInBounds_toArray, List.set_cons_zero, List.set_cons_succ]
        refine wpAnyH_take (i := 3) (oi := ⟨some 23, _, _, _, _, none⟩) (v := ?_) rfl (by kernel_rfl) (by kernel_rfl) (by kernel_rfl) (fun _ _ _ h => h) (Or.inl ⟨by rfl, ?_⟩) (by assumption) ?_
        rotate_left
        · intro w hSw; go_simp; try with_reducible rfl
        try simp only [Act.put, List.setIfInBounds_toArray, List.set_cons_zero, List.set_cons_succ]
        refine wpAnyH_take (i := 4) (oi := ⟨some 24, _, _, _, _, none⟩) (v := ?_) rfl (by kernel_rfl) (by kernel_rfl) (by kernel_rfl) (fun _ _ _ h => h) (Or.inl ⟨by rfl, ?_⟩) (by assumption) ?_
        rotate_left
        · intro w hSw; go_simp; try with_reducible rfl
        try simp only [Act.put, List.setIfInBounds_toArray, List.set_cons_zero, List.set_cons_succ]
        refine wpAnyH_take (i := 5) (oi := ⟨some 25, _, _, _, _, none⟩) (v := ?_) rfl (by kernel_rfl) (by kernel_rfl) (by kernel_rfl) (fun _ _ _ h => h) (Or.inl ⟨by rfl, ?_⟩) (by assumption) ?_
        rotate_left
        · intro w hSw; go_simp; try with_reducible rfl
        try simp only [Act.put, List.setIfInBounds_toArray, List.set_cons_zero, List.set_cons_succ]
        refine wpAnyH_take (i := 6) (oi := ⟨some 26, _, _, _, _, none⟩) (v := ?_) rfl (by kernel_rfl) (by kernel_rfl) (by kernel_rfl) (fun _ _ _ h => h) (Or.inl ⟨by rfl, ?_⟩) (by assumption) ?_
        rotate_left
        · intro w hSw; go_simp; try with_reducible rfl
        try simp only [Act.put, List.setIfInBounds_toArray, List.set_cons_zero, List.set_cons_succ]
        refine wpAnyH_take (i := 7) (oi := ⟨some 27, _, _, _, _, none⟩) (v := ?_) rfl (by kernel_rfl) (by kernel_rfl) (by kernel_rfl) (fun _ _ _ h => h) (Or.inl ⟨by rfl, ?_⟩) (by assumption) ?_
        rotate_left
        · intro w hSw; go_simp; try with_reducible rfl
        try simp only [Act.put, List.setIfInBounds_toArray, List.set_cons_zero, List.set_cons_succ]
        refine wpAnyH_take (i := 8) (oi := ⟨some 28, _, _, _, _, none⟩) (v := ?_) rfl (by kernel_rfl) (by kernel_rfl) (by kernel_rfl) (fun _ _ _ h => h) (Or.inl ⟨by rfl, ?_⟩) (by assumption) ?_
        rotate_left
        · intro w hSw; go_simp; try with_reducible rfl
        try simp only [Act.put, List.setIfInBounds_toArray, List.set_cons_zero, List.set_cons_succ]
        refine wpAnyH_take (i := 9) (oi := ⟨some 29, _, _, _, _, none⟩) (v := ?_) rfl (by kernel_rfl) (by kernel_rfl) (by kernel_rfl) (fun _ _ _ h => h) (Or.inl ⟨by rfl, ?_⟩) (by assumption) ?_
        rotate_left
        · intro w hSw; go_simp; try with_reducible rfl
        try simp only [Act.put, List.setIfInBounds_toArray, List.set_cons_zero, List.set_cons_succ]
        refine wpAnyH_take (i := 10) (oi := ⟨some 30, _, _, _, _, none⟩) (v := ?_) rfl (by kernel_rfl) (by kernel_rfl) (by kernel_rfl) (fun _ _ _ h => h) (Or.inl ⟨by rfl, ?_⟩) (by assumption) ?_
        rotate_left
        · intro w hSw; go_simp; try with_reducible rfl
        try simp only [Act.put, List.setIfInBounds_toArray, List.set_cons_zero, List.set_cons_succ]
        refine wpAnyH_take (i := 11) (oi := ⟨some 31, _, _, _, _, none⟩) (v := ?_) rfl (by kernel_rfl) (by kernel_rfl) (by kernel_rfl) (fun _ _ _ h => h) (Or.inl ⟨by rfl, ?_⟩) (by assumption) ?_
        rotate_left
        · intro w hSw; go_simp; try with_reducible rfl
        try simp only [Act.put, List.setIfInBounds_toArray, List.set_cons_zero, List.set_cons_succ]
        refine wpAnyH_take (i := 12) (oi := ⟨some 32, _, _, _, _, none⟩) (v := ?_) rfl (by kernel_rfl) (by kernel_rfl) (by kernel_rfl) (fun _ _ _ h => h) (Or.inl ⟨by rfl, ?_⟩) (by assumption) ?_
        rotate_left
        · intro w hSw; have hcw := HDG.out w hSw; go_simp; try with_reducible rfl
        try simp only [Act.put, List.setIfInBounds_toArray, List.set_cons_zero, List.set_cons_succ]
        refine wpAnyH_ready (rs := [13]) (by kernel_rfl) (by simp) ?_
        refine AllReadyH.cons (o := ⟨some 33, _, _, _, _, none⟩) rfl (fun K hK => ?_) AllReadyH.nil
        go_simp
        refine (rwalk_i _ ((sig.drop (16 * j)).take 16) j dj 15 _ _ _ _ _ (hcr.ch hHeld (fun b hb hg => by have : b < w.heap.size := hb; have : wd.heap.size ≤ b := hg; omega)) hpl.out (by omega) (by omega) (by omega) rfl rfl rfl).mono ?_
        rintro e' w5 ⟨v5, rfl, hr5, hB5⟩
        have hC5 := hHeld.belowG hB5
        have ho5 := own_keepB ho.drew hB5
        have hwl : Hid ((walkF ((sig.drop (16 * j)).take 16) j dj (15 - dj)).length = 16) := len_walk _ _ _ hpl.out _
        obtain ⟨q, hq⟩ : ∃ q, q = walkF ((sig.drop (16 * j)).take 16) j dj (15 - dj) := ⟨_, rfl⟩
        rw [← hq] at hr5 hwl
        have Hq := hid hq
        clear hq
        obtain ⟨A5, c5, rfl⟩ := hr5.shape
        have hs5 := hr5.src
        rw [hwl.out] at hs5 ⊢
        refine hK.out _ _ (hC5) (fun hHeld => ?_)
        clear hK K
        try simp only [Act.put, List.setIfInBounds_toArray, List.set_cons_zero, List.set_cons_succ]
        refine wpAnyH_ready (rs := [14]) (by kernel_rfl) (by simp) ?_
        refine AllReadyH.cons (o := ⟨some 34, _, _, _, _, none⟩) rfl (fun K hK => ?_) AllReadyH.nil
        refine step_app (.tmp 20) (.tmp 33) slB (by rfl) (by rfl) (by rfl) ho5 (by rfl) hs5 (oneCell_bvs q) (by simp only [maxLen]; omega) (by omega) (by have := hC5.size; omega) ?_
        intro v6 w6 ho6 hG6
        have hC6 := hC5.growOwn hG6 (fun k hk => (ho5.lt k hk).1)
        refine hK.out _ _ (hC6) (fun hHeld => ?_)
        clear hK K
        try simp only [Act.put, List.setIfInBounds_toArray, List.set_cons_zero, List.set_cons_succ]
        refine wpAnyH_take (i := 15) (oi := ⟨some 7, _, _, _, _, none⟩) (v := ?_) rfl (by kernel_rfl) (by kernel_rfl) (by kernel_rfl) (fun _ _ _ h => h) (Or.inl ⟨by rfl, ?_⟩) (by assumption) ?_
        rotate_left
        · intro w hSw; go_simp; try with_reducible rfl
        try simp only [Act.put, List.setIfInBounds_toArray, List.set_cons_zero, List.set_cons_succ]
        refine wpAnyH_done (by kernel_rfl) ?_ _
        refine NoPanic.normal ?_
        rw [show bvs C ++ bvs q = bvs (C ++ q) from by simp [bvs], Hq.out, ← hcs0.out] at ho6
        go_wp2
        go_roundw
        case rel => exact ⟨j + 1, by omega, by go_num, ho6, hB3.trans ⟨hC6.os, hC6.tape, hC6.output, hC6.size, fun k hk => hC6.block k (by omega) (by show ¬ wd.heap.size ≤ k; omega)⟩⟩
        case measure => simp [intOf]; omega
      · have h35 : j = 35 := by omega
        subst h35
        have hzr := hzd.below hB3
        have hBr := hBd.trans (hB3.mono hBd.size)
        have hrd := Rd.of_own ho
        have hcl : Hid (C.length = 560) := by
          show _ = _
          have := ho.1
          rw [len_bvs] at this
          omega
        go_wp2_with (fail)
        refine (rsum_any _ C _ _ hrd (by rw [hcl.out]; omega)).mono ?_
        rintro e w7 ⟨rfl, hB7⟩
        have hfin : Hid (recF text sig = shaF C) := by show _ = _; rw [HC.out, HD.out]; rfl
        rw [← hfin.out]
        obtain ⟨r, hr⟩ : ∃ r, r = recF text sig := ⟨_, rfl⟩
        rw [← hr]
        have hrl : Hid (r.length = 32) := by show _ = _; rw [hr]; exact len_rec _ _
        have Hr := hid hr
        clear hr hfin
        have hz7 := hzr.below hB7
        have hB7' := hBr.trans (hB7.mono hBr.size)
        go_wp2_with (refine wp_st 23 (.tmp 4) (.tmp 36) rfl rfl rfl (f := 0) rfl (l := bvs r) rfl hz7 (by simp [zs8, len_bvs, hrl.out]) (by rw [len_bvs, hrl.out]; exact size25) (oneCell_bvs _) ?_; intro w8 hb8 hG8)
        rw [set25 _ hrl.out] at hb8
        refine ret_cell1 rfl rfl rfl hb8.whole und25 rfl (by rw [len_bvs, hrl.out]; exact size25) rfl ?_
        exact ⟨by rw [HE.out, HH.out, Hr.out]; rfl, hB7'.grown hG8 hB7'.size (by intro k hk; injection hk with hk; omega)⟩
  · have HE : Hid (recE sig = 2) := if_neg h560
    have HH : Hid (recH text sig = List.replicate 32 0) := if_neg h560
    have hne : ((sig.length : Int) != 560) = true := by rw [bne_iff_ne]; omega
    clear h560
    go_enter Tryd.func28, Tryd.ntmps28
    go_wp2_with (first | (refine wp_new 23 rfl rfl zero25 ?_) | (refine wp_bld 23 [] rfl rfl [] rfl bld25 ?_) | (refine wp_st 23 (.tmp 4) (.tmp 12) rfl rfl rfl (f := 0) rfl (l := zs8 32) rfl hz (by simp [zs8]) (by exact size25) one_zs8 ?_; intro w8 hb8 hG8))
    rw [show (zs8 32).take 0 ++ zs8 32 ++ (zs8 32).drop (0 + (zs8 32).length) = zs8 32 from rfl] at hb8
    go_wp2
    refine ret_cell1 rfl rfl rfl hb8.whole und25 rfl (by exact size25) rfl ?_
    exact ⟨by rw [HE.out, HH.out, ← zs8_bvs]; rfl, hB.grown hG8 (by simp) (by intro k hk; injection hk with hk; omega)⟩
theorem rec_sig (seed : List UInt8) (idx : Int) (text : List UInt8) : recF text (sigF seed idx text) = pubF seed idx := by
  unfold recF pubF
  congr 1
  refine cat_congr _ _ 35 (fun j hj => ?_)
  have hd : (digF (shaF text)).getD j 0 ≤ 15 := by
    have hl := len_dig (shaF text) (by rw [len_sha]; omega)
    rw [List.getD_eq_getElem?_getD, List.getElem?_eq_getElem (by omega)]
    exact dig_le _ _ (List.getElem_mem _)
  have hp : ((sigF seed idx text).drop (16 * j)).take 16 = walkF (secF seed idx j) j 0 ((digF (shaF text)).getD j 0) := cat_piece (fun j => walkF (secF seed idx j) j 0 ((digF (shaF text)).getD j 0)) (fun _ => len_walk _ _ _ (len_sec _ _ _) _) 35 j hj
  rw [hp]
  have := walkF_add (secF seed idx j) j 0 ((digF (shaF text)).getD j 0) (15 - (digF (shaF text)).getD j 0)
  rw [Nat.zero_add] at this
  rw [this, show (digF (shaF text)).getD j 0 + (15 - (digF (shaF text)).getD j 0) = 15 from by omega]
end Go.Proofs.YtcbojdbmfjhkiaaDoor
