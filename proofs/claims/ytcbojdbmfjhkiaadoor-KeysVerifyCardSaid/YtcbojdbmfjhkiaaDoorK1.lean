/- K1: layer 5: the tree as a list; contract of the document's Tree. -/
import Derived.Test.YtcbojdbmfjhkiaaDoorO3
import Derived.Test.YtcbojdbmfjhkiaaDoorVD
namespace Go.V
def leafT (seed : List UInt8) (n : Nat) : List (List UInt8) := (List.range n).map fun (k : Nat) => pubF seed (k : Int)
def treeF (seed : List UInt8) : Nat → List (List UInt8)
  | 0 => leafT seed 8
  | m + 1 => treeF seed m ++ [shaF ((treeF seed m).getD (2 * m) [] ++ (treeF seed m).getD (2 * m + 1) [])]
theorem leaf_succ (seed : List UInt8) (n : Nat) : leafT seed (n + 1) = leafT seed n ++ [pubF seed (n : Int)] := by simp [leafT, List.range_succ]
end Go.V
namespace Go.Proofs.YtcbojdbmfjhkiaaDoor
open Go.RowKit Go.V
theorem leaf_32 (seed : List UInt8) (n : Nat) : ∀ x ∈ leafT seed n, x.length = 32 := by
  intro x hx
  obtain ⟨k, _, rfl⟩ := List.mem_map.1 hx
  exact len_pub _ _
theorem tree_32 (seed : List UInt8) : ∀ m, ∀ x ∈ treeF seed m, x.length = 32
  | 0 => leaf_32 seed 8
  | m + 1 => by
    intro x hx
    rw [treeF] at hx
    rcases List.mem_append.1 hx with h | h
    · exact tree_32 seed m x h
    · simp at h
      subst h
      exact len_sha _
theorem tree_len (seed : List UInt8) : ∀ m, (treeF seed m).length = 8 + m
  | 0 => by simp [treeF, leafT]
  | m + 1 => by rw [treeF, List.length_append, tree_len seed m]; simp; omega
theorem slH : SlW Tryd.prog 26 23 (zs8 32) 32 32 := .of Tryd.underlying26 (by kernel_rfl) (by simp [zs8]) (by omega) (by omega)
set_option maxRecDepth 100000 in
set_option maxHeartbeats 1000000 in
theorem rtree_any (seed : List UInt8) (w : World) (hl : seed.length = 32) :
    Calls Tryd.prog 8 #[.agg (bvs seed).toArray] w fun e w' => ∃ v', e = .returned v' ∧ w'.ownsRow w.heap.size 23 32 v' 15 (bvs (treeF seed 7).flatten) ∧ Below w.heap.size w w' := by
  have Hl := hid hl
  clear hl
  have hsd := Blk.new' w 23 (bvs seed)
  have hB := (Below.refl w.heap.size w).alloc (Nat.le_refl _) (.cells (bvs seed).toArray 23)
  go_enter Tryd.func8, Tryd.ntmps8
  go_wp2_with (fail)
  obtain ⟨w0, hw0⟩ : ∃ w0, w0 = w.alloc (.cells (bvs seed).toArray 23) := ⟨_, rfl⟩
  rw [← hw0] at hsd hB ⊢
  have hz0 : w0.heap.size = w.heap.size + 1 := by rw [hw0]; simp
  have Hz0 := hid hz0
  clear hw0 hz0
  have h0 := World.ownsRow_nil w0 w0.heap.size 23 32
  go_loopw [3, 4] (fun lv kv wr => ∃ k : Nat, k ≤ 8 ∧ kv = .int .i64 k ∧ wr.ownsRow w0.heap.size 23 32 lv k (bvs (leafT seed k).flatten) ∧ Below w0.heap.size w0 wr) (fun _ kv _ => 8 - (intOf kv).toNat)
  case atStart => exact ⟨0, by omega, rfl, h0, Below.refl _ _⟩
  case round =>
    obtain ⟨k, hk, rfl, ho, hB1⟩ := hrel
    obtain ⟨C, hC⟩ : ∃ C, C = leafT seed k := ⟨_, rfl⟩
    rw [← hC] at ho
    have HC := hid hC
    clear hC
    have hbs := hB1.size
    by_cases hlt : k < 8
    · have hsr := hsd.below hB1
      go_wp2_with (refine wp_ld 23 (.tmp 1) rfl rfl rfl hsr.whole und25 rfl (by rw [len_bvs, Hl.out]; exact size25) ?_)
      refine (rpublic_any seed (k : Int) _ Hl.out (by omega) (by omega)).mono ?_
      rintro e w4 ⟨rfl, hB4⟩
      obtain ⟨r, hr⟩ : ∃ r, r = pubF seed (k : Int) := ⟨_, rfl⟩
      rw [← hr]
      have Hrl : Hid (r.length = 32) := by show _ = _; rw [hr]; exact len_pub _ _
      have hcs : Hid (bvs C.flatten ++ bvs r = bvs (leafT seed (k + 1)).flatten) := by
        show _ = _
        rw [leaf_succ, HC.out, hr]
        simp [bvs]
      clear hr
      have ho4 := own_keepB ho hB4
      have hB4' := hB1.trans (hB4.mono hbs)
      have hz4 := hB4'.size
      go_wp2_with (with_reducible refine wp_at 14 rfl ?_)
      refine wp_on ?_
      refine wp_pushW (.tmp 10) (.tmp 13) 14 slH rfl rfl rfl rfl rfl (us := bvs r) rfl (by rw [len_bvs, Hrl.out]) (oneCell_bvs r) (by simp) rfl ho4 (by simp only [maxLen]; omega) (by omega) hz4 ?_
      intro v6 w6 ho6 hG6 hat6
      rw [hcs.out] at ho6
      have hB6 := hB4'.grown hG6 hz4 (fun k hk => (ho4.lt k hk).1)
      go_wp2
      go_roundw
      case rel => exact ⟨k + 1, by omega, by go_num, ho6, hB6⟩
      case measure => simp [intOf]; omega
    · have h8 : k = 8 := by omega
      subst h8
      have hC8 : Hid (C = treeF seed 0) := by show _ = _; rw [HC.out]; rfl
      rw [hC8.out] at ho
      clear HC hC8 hlt
      have hBw := hB1
      rw [show ((8 : Nat) : Int) = 8 from rfl]
      go_wp2_with (fail)
      go_loopw [3, 5] (fun lv iv wr => ∃ m : Nat, m ≤ 7 ∧ iv = .int .i64 ((2 * m : Nat) : Int) ∧ wr.ownsRow w0.heap.size 23 32 lv (8 + m) (bvs (treeF seed m).flatten) ∧ Below w0.heap.size w0 wr) (fun _ iv _ => 14 - (intOf iv).toNat)
      case atStart => exact ⟨0, by omega, rfl, ho, hBw⟩
      case round =>
        obtain ⟨m, hm, rfl, ho, hB1⟩ := hrel
        obtain ⟨i, hi⟩ : ∃ i, i = 2 * m := ⟨_, rfl⟩
        obtain ⟨n, hn⟩ : ∃ n, n = 8 + m := ⟨_, rfl⟩
        rw [← hn] at ho
        rw [← hi]
        have hbs := hB1.size
        by_cases hlt : m < 7
        · have hin : i < n := by omega
          have hin1 : i + 1 < n := by omega
          have hi14 : i < 14 := by omega
          have hn15 : n ≤ 15 := by omega
          have hT := tree_32 seed m
          have hTl := tree_len seed m
          obtain ⟨x, hx⟩ : ∃ x, (treeF seed m)[i]? = some x := ⟨_, List.getElem?_eq_getElem (by omega)⟩
          obtain ⟨y, hy⟩ : ∃ y, (treeF seed m)[i + 1]? = some y := ⟨_, List.getElem?_eq_getElem (by omega)⟩
          have Hxl := hid (hT x (List.mem_of_getElem? hx))
          have Hyl := hid (hT y (List.mem_of_getElem? hy))
          obtain ⟨g, c, rfl, hg, hgl, hrg⟩ := ownW_range ho (by omega)
          have hxr := row32 hrg hT i x hx
          have hyr := row32 hrg hT (i + 1) y hy
          have htn : Hid (bvs (treeF seed m).flatten ++ bvs (shaF (x ++ y)) = bvs (treeF seed (m + 1)).flatten) := by
            show _ = _
            rw [treeF, ← hi, List.getD_eq_getElem?_getD, List.getD_eq_getElem?_getD, hx, hy]
            simp [bvs]
          have hwi : IntKind.i64.wrap ((i : Int) + 1) = (i : Int) + 1 := IntWalk.i64_in _ (by omega)
          clear hx hy hrg hT hTl
          have Hi := hid hi
          have Hn := hid hn
          clear hi hn
          go_wp2
          obtain ⟨wd, hwd⟩ : ∃ wd, wd = wr.drew := ⟨_, rfl⟩
          have hxr : wd.rangeAt g (0 + i * 32) (bvs x) := by rw [hwd]; exact hxr
          have hyr : wd.rangeAt g (0 + (i + 1) * 32) (bvs y) := by rw [hwd]; exact hyr
          have ho := ho.drew
          have hB1 := hB1.drew
          rw [← hwd] at ho hB1
          refine wp_region_noPanic ?_
          refine wp_region_any (by kernel_rfl) ?_
          change wpAny _ _ _ _ _ _ _ (World.drew _)
          rw [← hwd]
          clear hwd
          refine wpAny_take (i := 0) (oi := ⟨some 20, _, _, _, _, none⟩) (v := ?_) rfl (by kernel_rfl) (by kernel_rfl) (by kernel_rfl) (fun _ _ _ h => h) (Or.inl ⟨by rfl, ?_⟩) ?_
          rotate_left
          · intro w; go_simp; try with_reducible rfl
          try simp only [Act.put, List.setIfInBounds_toArray, List.set_cons_zero, List.set_cons_succ]
          refine wpAny_take (i := 1) (oi := ⟨some 21, _, _, _, _, none⟩) (v := ?_) rfl (by kernel_rfl) (by kernel_rfl) (by kernel_rfl) (fun _ _ _ h => h) (Or.inl ⟨by rfl, ?_⟩) ?_
          rotate_left
          · intro w; go_simp; try with_reducible rfl
          try simp only [Act.put, List.setIfInBounds_toArray, List.set_cons_zero, List.set_cons_succ]
          refine wpAny_take (i := 2) (oi := ⟨some 22, _, _, _, _, none⟩) (v := ?_) rfl (by kernel_rfl) (by kernel_rfl) (by kernel_rfl) (fun _ _ _ h => h) (Or.inl ⟨by rfl, ?_⟩) ?_
          rotate_left
          · intro w; go_simp; try with_reducible rfl
          try simp only [Act.put, List.setIfInBounds_toArray, List.set_cons_zero, List.set_cons_succ]
          refine wpAny_take (i := 3) (oi := ⟨some 23, _, _, _, _, none⟩) (v := _) rfl (by kernel_rfl) (by kernel_rfl) (by kernel_rfl) (fun _ _ _ h => h) (y_ixa (by rfl) 26 (.tmp 21) (.tmp 22) (by rfl) (by rfl) (by rfl) Tryd.underlying26 hin size25) ?_
          try simp only [Act.put, List.setIfInBounds_toArray, List.set_cons_zero, List.set_cons_succ]
          refine wpAny_take (i := 5) (oi := ⟨some 25, _, _, _, _, none⟩) (v := ?_) rfl (by kernel_rfl) (by kernel_rfl) (by kernel_rfl) (fun _ _ _ h => h) (Or.inl ⟨by rfl, ?_⟩) ?_
          rotate_left
          · intro w; go_simp; try with_reducible rfl
          try simp only [Act.put, List.setIfInBounds_toArray, List.set_cons_zero, List.set_cons_succ]
          refine wpAny_take (i := 6) (oi := ⟨some 26, _, _, _, _, none⟩) (v := ?_) rfl (by kernel_rfl) (by kernel_rfl) (by kernel_rfl) (fun _ _ _ h => h) (Or.inl ⟨by rfl, ?_⟩) ?_
          rotate_left
          · intro w; go_simp; try with_reducible rfl
          try simp only [Act.put, List.setIfInBounds_toArray, List.set_cons_zero, List.set_cons_succ]
          refine wpAny_take (i := 7) (oi := ⟨some 27, _, _, _, _, none⟩) (v := ?_) rfl (by kernel_rfl) (by kernel_rfl) (by kernel_rfl) (fun _ _ _ h => h) (Or.inl ⟨by rfl, ?_⟩) ?_
          rotate_left
          · intro w; go_simp; try with_reducible rfl
          try simp only [Act.put, List.setIfInBounds_toArray, List.set_cons_zero, List.set_cons_succ]
          refine wpAny_take (i := 8) (oi := ⟨some 28, _, _, _, _, none⟩) (v := _) rfl (by kernel_rfl) (by kernel_rfl) (by kernel_rfl) (fun _ _ _ h => h) (y_ixa (by rfl) 26 (.tmp 25) (.tmp 27) (by rfl) (by rfl) (i := i + 1) (by rfl) Tryd.underlying26 hin1 size25) ?_
          try simp only [Act.put, List.setIfInBounds_toArray, List.set_cons_zero, List.set_cons_succ]
          refine wpAny_ready (rs := [4, 9]) (by kernel_rfl) (by simp) ?_
          refine AllReady.cons (o := ⟨some 24, .load 23 (.tmp 23), _, _, _, none⟩) rfl (fun K hK => ?_) ?_
          · refine step_ld 23 (.tmp 23) (by rfl) (by rfl) (by rfl) hxr und25 rfl (by rw [len_bvs, Hxl.out]; exact size25) ?_
            refine hK _ _ ?_
            clear hK K
            try simp only [Act.put, List.setIfInBounds_toArray, List.set_cons_zero, List.set_cons_succ]
            refine wpAny_ready (rs := [9]) (by kernel_rfl) (by simp) ?_
            refine AllReady.cons (o := ⟨some 29, .load 23 (.tmp 28), _, _, _, none⟩) rfl (fun K hK => ?_) AllReady.nil
            refine step_ld 23 (.tmp 28) (by rfl) (by rfl) (by rfl) hyr und25 rfl (by rw [len_bvs, Hyl.out]; exact size25) ?_
            refine hK _ _ ?_
            clear hK K
            try simp only [Act.put, List.setIfInBounds_toArray, List.set_cons_zero, List.set_cons_succ]
            refine wpAny_ready (rs := [10]) (by kernel_rfl) (by simp) ?_
            refine AllReady.cons (o := ⟨some 30, _, _, _, _, none⟩) rfl (fun K hK => ?_) AllReady.nil
            go_simp
            refine (ref_pair_any x y _ Hxl.out Hyl.out).mono ?_
            rintro e' w4 ⟨rfl, hB4⟩
            have ho4 := own_keepB ho hB4
            have hB4' := hB1.trans (hB4.mono hB1.size)
            obtain ⟨r, hr⟩ : ∃ r, r = shaF (x ++ y) := ⟨_, rfl⟩
            rw [← hr]
            rw [← hr] at htn
            have Hrl : Hid (r.length = 32) := by show _ = _; rw [hr]; exact len_sha _
            clear hr
            refine hK _ _ ?_
            clear hK K
            try simp only [Act.put, List.setIfInBounds_toArray, List.set_cons_zero, List.set_cons_succ]
            refine wpAny_ready (rs := [11]) (by kernel_rfl) (by simp) ?_
            refine AllReady.cons (o := ⟨some 31, .buildSlice _ _ _, _, _, _, none⟩) rfl (fun K hK => ?_) AllReady.nil
            refine step_bsW (.tmp 30) slH (by rfl) (by rfl) (us := bvs r) (by rfl) (by rw [len_bvs, Hrl.out]) ?_
            refine hK _ _ ?_
            clear hK K
            try simp only [Act.put, List.setIfInBounds_toArray, List.set_cons_zero, List.set_cons_succ]
            refine wpAny_ready (rs := [12]) (by kernel_rfl) (by simp) ?_
            refine AllReady.cons (o := ⟨some 32, _, _, _, _, none⟩) rfl (fun K hK => ?_) AllReady.nil
            refine step_appW (.tmp 20) (.tmp 31) slH (by rfl) (by rfl) (us := bvs r) (by rw [len_bvs, Hrl.out]) (oneCell_bvs r) (by rfl) ho4 (by rfl) (by simp only [maxLen]; omega) (by omega) hB4'.size ?_
            intro v6 w6 ho6 hG6
            rw [htn.out] at ho6
            have hB6 := hB4'.grown hG6 hB4'.size (fun k hk => (ho4.lt k hk).1)
            refine hK _ _ ?_
            clear hK K
            try simp only [Act.put, List.setIfInBounds_toArray, List.set_cons_zero, List.set_cons_succ]
            refine wpAny_take (i := 13) (oi := ⟨some 3, _, _, _, _, none⟩) (v := ?_) rfl (by kernel_rfl) (by kernel_rfl) (by kernel_rfl) (fun _ _ _ h => h) (Or.inl ⟨by rfl, ?_⟩) ?_
            rotate_left
            · intro w; go_simp; try with_reducible rfl
            try simp only [Act.put, List.setIfInBounds_toArray, List.set_cons_zero, List.set_cons_succ]
            refine wpAny_done (by kernel_rfl) ?_ _
            refine NoPanic.normal ?_
            go_wp2
            go_roundw
            case rel => exact ⟨m + 1, by omega, by have := Hi.out; go_num, by rw [show 8 + (m + 1) = n + 1 from by have := Hn.out; omega]; exact ho6, hB6⟩
            case measure => simp [intOf]; omega
          refine AllReady.cons (o := ⟨some 29, .load 23 (.tmp 28), _, _, _, none⟩) rfl (fun K hK => ?_) AllReady.nil
          refine step_ld 23 (.tmp 28) (by rfl) (by rfl) (by rfl) hyr und25 rfl (by rw [len_bvs, Hyl.out]; exact size25) ?_
          refine hK _ _ ?_
          clear hK K
          try simp only [Act.put, List.setIfInBounds_toArray, List.set_cons_zero, List.set_cons_succ]
          refine wpAny_ready (rs := [4]) (by kernel_rfl) (by simp) ?_
          refine AllReady.cons (o := ⟨some 24, .load 23 (.tmp 23), _, _, _, none⟩) rfl (fun K hK => ?_) AllReady.nil
          refine step_ld 23 (.tmp 23) (by rfl) (by rfl) (by rfl) hxr und25 rfl (by rw [len_bvs, Hxl.out]; exact size25) ?_
          refine hK _ _ ?_
          clear hK K
          try simp only [Act.put, List.setIfInBounds_toArray, List.set_cons_zero, List.set_cons_succ]
          refine wpAny_ready (rs := [10]) (by kernel_rfl) (by simp) ?_
          refine AllReady.cons (o := ⟨some 30, _, _, _, _, none⟩) rfl (fun K hK => ?_) AllReady.nil
          go_simp
          refine (ref_pair_any x y _ Hxl.out Hyl.out).mono ?_
          rintro e' w4 ⟨rfl, hB4⟩
          have ho4 := own_keepB ho hB4
          have hB4' := hB1.trans (hB4.mono hB1.size)
          obtain ⟨r, hr⟩ : ∃ r, r = shaF (x ++ y) := ⟨_, rfl⟩
          rw [← hr]
          rw [← hr] at htn
          have Hrl : Hid (r.length = 32) := by show _ = _; rw [hr]; exact len_sha _
          clear hr
          refine hK _ _ ?_
          clear hK K
          try simp only [Act.put, List.setIfInBounds_toArray, List.set_cons_zero, List.set_cons_succ]
          refine wpAny_ready (rs := [11]) (by kernel_rfl) (by simp) ?_
          refine AllReady.cons (o := ⟨some 31, .buildSlice _ _ _, _, _, _, none⟩) rfl (fun K hK => ?_) AllReady.nil
          refine step_bsW (.tmp 30) slH (by rfl) (by rfl) (us := bvs r) (by rfl) (by rw [len_bvs, Hrl.out]) ?_
          refine hK _ _ ?_
          clear hK K
          try simp only [Act.put, List.setIfInBounds_toArray, List.set_cons_zero, List.set_cons_succ]
          refine wpAny_ready (rs := [12]) (by kernel_rfl) (by simp) ?_
          refine AllReady.cons (o := ⟨some 32, _, _, _, _, none⟩) rfl (fun K hK => ?_) AllReady.nil
          refine step_appW (.tmp 20) (.tmp 31) slH (by rfl) (by rfl) (us := bvs r) (by rw [len_bvs, Hrl.out]) (oneCell_bvs r) (by rfl) ho4 (by rfl) (by simp only [maxLen]; omega) (by omega) hB4'.size ?_
          intro v6 w6 ho6 hG6
          rw [htn.out] at ho6
          have hB6 := hB4'.grown hG6 hB4'.size (fun k hk => (ho4.lt k hk).1)
          refine hK _ _ ?_
          clear hK K
          try simp only [Act.put, List.setIfInBounds_toArray, List.set_cons_zero, List.set_cons_succ]
          refine wpAny_take (i := 13) (oi := ⟨some 3, _, _, _, _, none⟩) (v := ?_) rfl (by kernel_rfl) (by kernel_rfl) (by kernel_rfl) (fun _ _ _ h => h) (Or.inl ⟨by rfl, ?_⟩) ?_
          rotate_left
          · intro w; go_simp; try with_reducible rfl
          try simp only [Act.put, List.setIfInBounds_toArray, List.set_cons_zero, List.set_cons_succ]
          refine wpAny_done (by kernel_rfl) ?_ _
          refine NoPanic.normal ?_
          go_wp2
          go_roundw
          case rel => exact ⟨m + 1, by omega, by have := Hi.out; go_num, by rw [show 8 + (m + 1) = n + 1 from by have := Hn.out; omega]; exact ho6, hB6⟩
          case measure => simp [intOf]; omega
        · have h7 : m = 7 := by omega
          subst h7
          subst hn
          have hBr := hB.trans (hB1.mono hB.size)
          go_wp2
          go_ret
          exact ⟨_, rfl, own_base ho hB.size, hBr⟩
end Go.Proofs.YtcbojdbmfjhkiaaDoor
