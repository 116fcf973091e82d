/- O5: layer 4: wakes; the laws OtsRecovers, OtsOther. -/
import Derived.Test.YtigojjdoacfdgaaDoorO4
import Derived.Stop.BytesEq
namespace Go.Proofs.YtigojjdoacfdgaaDoor
open Go.RowKit Go.V
theorem und38 : Tryd.prog.underlying 38 = some (.array 35 3) := Tryd.underlying38
theorem size38 : (Tryd.prog.info? 38).map (·.size) = some 35 := by kernel_rfl
def zsi (n : Nat) : List Value := List.replicate n (.int .i64 0)
theorem zero38 : (Tryd.prog.info? 38).map (·.zero) = some (some (.agg (zsi 35).toArray)) := by kernel_rfl
theorem set38 (l : List Nat) (hl : l.length = 35) : (zsi 35).take 0 ++ ivs l ++ (zsi 35).drop (0 + (ivs l).length) = ivs l := by
  rw [List.take_zero, List.nil_append, len_ivs, hl, List.drop_of_length_le (by simp [zsi]), List.append_nil]
theorem eqH4 (p q : List UInt8) (hp : p.length = 32) (hq : q.length = 32) : ∀ W : World, (Op.equalIn 10000 23 (.agg (bvs p).toArray) (.agg (bvs q).toArray)).run Tryd.prog W = .ok (p == q) W := fun W =>
  run_equalIn_bytes (P := Tryd.prog) W 9998 23 5 32 und25 Tryd.underlying5 Tryd.sizeOf5 p q hp hq
theorem dig_zero : digF (List.replicate 32 0) = List.replicate 32 0 ++ [1, 14, 0] := by decide +kernel
set_option maxRecDepth 100000 in
set_option maxHeartbeats 1000000 in
theorem wakes4_any (w : World) :
    Calls Tryd.prog 6 #[] w fun e w' => e = .returned (.bool true) ∧ Below w.heap.size w w' := by
  have hz := Blk.new' w 38 (zsi 35)
  go_enter Tryd.func6, Tryd.ntmps6
  go_wp2_with (refine wp_bld 23 [] rfl rfl [] rfl bld25 ?_)
  rw [zs8_bvs]
  refine (digits_any (List.replicate 32 0) _ (by simp)).mono ?_
  rintro e w1 ⟨rfl, hB1⟩
  obtain ⟨D, hD⟩ : ∃ D, D = digF (List.replicate 32 0) := ⟨_, rfl⟩
  rw [← hD]
  have hDl : Hid (D.length = 35) := by show _ = _; rw [hD]; exact len_dig _ (by simp)
  have hD0 : Hid (D[0]? = some 0 ∧ D[31]? = some 0 ∧ D[32]? = some 1 ∧ D[33]? = some 14 ∧ D[34]? = some 0) := by show _ ∧ _; rw [hD, dig_zero]; decide
  clear hD
  have hz1 := Blk.new' w1 38 (zsi 35)
  have hB2 := hB1.alloc hB1.size (.cells (zsi 35).toArray 38)
  go_wp2_with (first | (refine wp_new 38 rfl rfl zero38 ?_) | (refine wp_st 38 (.tmp 1) (.tmp 3) rfl rfl rfl (f := 0) rfl (l := ivs D) rfl hz1 (by simp [zsi, len_ivs, hDl.out]) (by rw [len_ivs, hDl.out]; exact size38) (oneCell_ivs _) ?_; intro w5 hb5 hG5; refine wp_stop ?_))
  rw [set38 _ hDl.out] at hb5
  have hB5 := hB2.grown hG5 hB2.size (by intro k hk; injection hk with hk; have := hB1.size; omega)
  refine wp_go ?_
  have c0 := hb5.cellAt 0 _ (ivs_at D 0 0 hD0.out.1)
  have c1 := hb5.cellAt 31 _ (ivs_at D 31 0 hD0.out.2.1)
  have c2 := hb5.cellAt 32 _ (ivs_at D 32 1 hD0.out.2.2.1)
  have c3 := hb5.cellAt 33 _ (ivs_at D 33 14 hD0.out.2.2.2.1)
  have c4 := hb5.cellAt 34 _ (ivs_at D 34 0 hD0.out.2.2.2.2)
  rw [show ((0 : Nat) : Int) = 0 from rfl] at c0 c1 c4
  rw [show ((1 : Nat) : Int) = 1 from rfl] at c2
  rw [show ((14 : Nat) : Int) = 14 from rfl] at c3
  go_wp2
  go_ret
  exact ⟨rfl, hB5⟩
set_option maxRecDepth 100000 in
set_option maxHeartbeats 2000000 in
theorem otsRecovers_law (tv sv : Value) (text sig : List UInt8) (F G : Nat → Prop) (w : World) (hK : KS w) (ht : Rd w F tv (bys text)) (hs : Rd w G sv (bys sig)) :
    Calls Tryd.prog 4 #[tv, sv] w fun e w' => e = .returned (.bool true) ∧ Below w.heap.size w w' := by
  obtain ⟨A, c, rfl⟩ := ht.shape
  obtain ⟨A2, c2, rfl⟩ := hs.shape
  by_cases h1 : 500 < text.length
  · go_enter Tryd.func4, Tryd.ntmps4
    go_wp2_with (fail)
    refine (wakes4_any _).mono ?_
    rintro e w1 ⟨rfl, hB1⟩
    go_wp2
    go_ret
    exact ⟨rfl, hB1⟩
  by_cases h2 : 2000 < sig.length
  · go_enter Tryd.func4, Tryd.ntmps4
    go_wp2_with (fail)
    refine (wakes4_any _).mono ?_
    rintro e w1 ⟨rfl, hB1⟩
    go_wp2
    go_ret
    exact ⟨rfl, hB1⟩
  go_enter Tryd.func4, Tryd.ntmps4
  go_wp2_with (fail)
  refine (wakes4_any _).mono ?_
  rintro e w1 ⟨rfl, hB1⟩
  have hbs : ∀ W : World, (Instr.buildSlice 24 0 #[]).run Tryd.prog W = .ok (.slice (some ⟨W.heap.size, 0, none⟩) 0 0) (W.alloc (.cells #[] 5)) := fun W => by kernel_rfl
  have h0 : (w1.alloc (.cells #[] 5)).ownsRow w1.heap.size 5 1 (.slice (some ⟨w1.heap.size, 0, none⟩) 0 0) 0 [] := World.ownsRow_made w1 #[] 0 (Nat.le_refl _) (by simp [maxLen]) rfl
  have hal : Below w.heap.size w (w1.alloc (.cells #[] 5)) := hB1.alloc hB1.size _
  have hs1 := hs.below hal
  go_wp2_with (with_reducible refine wp_at 22 rfl ?_)
  refine wp_on ?_
  refine wp_app (.tmp 20) (.tmp 21) slB rfl rfl rfl h0 rfl hs1.src (oneCell_bvs sig) (by simp only [maxLen]; omega) (by omega) (by simp) ?_
  intro v2 w2 ho2 hG2 hat2
  have hB2 := hal.grown hG2 hal.size (fun k hk => by have := (h0.lt k hk).1; have := hB1.size; omega)
  rw [List.nil_append, Nat.zero_add] at ho2
  obtain ⟨Ao, co, rfl⟩ := own_shape ho2
  have hr2 := Rd.of_own ho2
  have ht2 := ht.below hB2
  have hs2 := hs.below hB2
  go_wp2_with (fail)
  ((with_reducible refine (recover_any _ _ text sig _ _ _ (hK.below hB2) ht2 hr2 (by omega)).mono ?_))
  rintro e w3 ⟨rfl, hB3⟩
  have hB3' := hB2.trans (hB3.mono hB2.size)
  obtain ⟨r, hr⟩ : ∃ r, r = recH text sig := ⟨_, rfl⟩
  rw [← hr]
  have Hrl : Hid (r.length = 32) := by show _ = _; rw [hr]; exact len_recH _ _
  have Hr := hid hr
  obtain ⟨er, her⟩ : ∃ er, er = recE sig := ⟨_, rfl⟩
  rw [← her]
  have Her := hid her
  clear hr her
  have hz3 := Blk.new' w3 23 (zs8 32)
  have hB4 := hB3'.alloc hB3'.size (.cells (zs8 32).toArray 23)
  have hal3 := (Below.refl w3.heap.size w3).alloc (Nat.le_refl _) (.cells (zs8 32).toArray 23)
  go_wp2_with (first | (refine wp_new 23 rfl rfl zero25 ?_) | (refine wp_st (o := ⟨none, .store _ (.tmp 6) (.tmp 27), _, _, _, none⟩) 23 (.tmp 6) (.tmp 27) rfl rfl rfl (f := 0) rfl (l := bvs r) rfl hz3 (by simp [zs8, len_bvs, Hrl.out]) (by rw [len_bvs, Hrl.out]; exact size25) (oneCell_bvs _) ?_; intro w5 hb5 hG5; refine wp_stop ?_))
  rw [set25 _ Hrl.out] at hb5
  have hB5 := hB4.grown hG5 hB4.size (by intro k hk; injection hk with hk; have := hB3'.size; omega)
  have hB35 : Below w3.heap.size w3 w5 := hal3.grown hG5 (by simp) (by intro k hk; injection hk with hk; omega)
  have hr5 := (hr2.below hB3).below hB35
  have ht5 := ht.below hB5
  have hs5 := hs.below hB5
  refine wp_go ?_
  go_wp2_with (fail)
  ((with_reducible refine (rrecover_any _ _ text sig _ _ _ ht5 hs5 (by omega)).mono ?_))
  rintro e w6 ⟨rfl, hB6⟩
  rw [← Hr.out, ← Her.out]
  have hB6' := hB5.trans (hB6.mono hB5.size)
  have hb6 := hb5.below hB6
  have hz6 := Blk.new' w6 23 (zs8 32)
  have hb7 := hb6.alloc (.cells (zs8 32).toArray 23)
  have hB7 := hB6'.alloc hB6'.size (.cells (zs8 32).toArray 23)
  have hal6 := (Below.refl w6.heap.size w6).alloc (Nat.le_refl _) (.cells (zs8 32).toArray 23)
  have hb6l := hb6.lt
  go_wp2_with (first | (refine wp_new 23 rfl rfl zero25 ?_) | (refine wp_st (o := ⟨none, .store _ (.tmp 8) (.tmp 33), _, _, _, none⟩) 23 (.tmp 8) (.tmp 33) rfl rfl rfl (f := 0) rfl (l := bvs r) rfl hz6 (by simp [zs8, len_bvs, Hrl.out]) (by rw [len_bvs, Hrl.out]; exact size25) (oneCell_bvs _) ?_; intro w8 hb8 hG8; refine wp_stop ?_))
  rw [set25 _ Hrl.out] at hb8
  have hB8 := hB7.grown hG8 hB7.size (by intro k hk; injection hk with hk; have := hB6'.size; omega)
  have hb78 := hb7.keep (hG8.block _ hb7.lt (by intro e; injection e with e; omega))
  have hB68 : Below w6.heap.size w6 w8 := hal6.grown hG8 (by simp) (by intro k hk; injection hk with hk; omega)
  have hr8 := (hr5.below hB6).below hB68
  have hs8 := hs.below hB8
  have heq := eqH4 r r Hrl.out Hrl.out
  rw [beq_self_eq_true] at heq
  refine wp_go ?_
  go_wp2_with (with_reducible refine wp_at 35 rfl ?_)
  refine wp_on ?_
  refine wp_ld 23 (.tmp 6) rfl rfl rfl hb78.whole und25 rfl (by rw [len_bvs, Hrl.out]; exact size25) ?_
  go_wp2_with (with_reducible refine wp_at 36 rfl ?_)
  refine wp_on ?_
  refine wp_ld 23 (.tmp 8) rfl rfl rfl hb8.whole und25 rfl (by rw [len_bvs, Hrl.out]; exact size25) ?_
  have hee : (er == er) = true := beq_self_eq_true er
  go_wp2_with (fail)
  ((with_reducible refine (same_b _ _ sig sig _ _ _ hr8 hs8).mono ?_))
  rintro e w9 ⟨rfl, hB9⟩
  rw [decide_eq_true rfl]
  go_wp2
  go_ret
  exact ⟨rfl, hB8.trans (hB9.mono hB8.size)⟩
end Go.Proofs.YtigojjdoacfdgaaDoor
