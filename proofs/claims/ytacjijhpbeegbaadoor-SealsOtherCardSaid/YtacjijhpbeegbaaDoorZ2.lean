/- Z2: layer 9: wakes. -/
import Derived.Test.YtacjijhpbeegbaaDoorZC
namespace Go.V
open Go.RowKit
theorem tx_one {w : World} {F : Nat → Prop} {g : Nat} {t : TypeId} {u : Value} {x : List UInt8} (h : Blk w g t [u]) (hF : F g) (hu : Rd w F u (bys x)) : Rd w F (.slice (some ⟨g, 0, none⟩) 1 1) (tx [x]) :=
  tx_blk h hF ⟨rfl, fun i v y hv hy => by
    match i with
    | 0 => simp at hv hy; subst hv hy; exact hu
    | i + 1 => simp at hv⟩ rfl (by simp [maxLen])
theorem tx_two {w : World} {F : Nat → Prop} {g : Nat} {t : TypeId} {u v : Value} {x y : List UInt8} (h : Blk w g t [u, v]) (hF : F g) (hu : Rd w F u (bys x)) (hv : Rd w F v (bys y)) : Rd w F (.slice (some ⟨g, 0, none⟩) 2 2) (tx [x, y]) :=
  tx_blk h hF ⟨rfl, fun i z q hz hq => by
    match i with
    | 0 => simp at hz hq; subst hz hq; exact hu
    | 1 => simp at hz hq; subst hz hq; exact hv
    | i + 2 => simp at hz⟩ rfl (by simp [maxLen])
end Go.V
namespace Go.Proofs.YtacjijhpbeegbaaDoor
open Go.RowKit Go.V
def mW9 : Mg := ⟨2, 1, 0, 0, 0, List.replicate 32 0, [], []⟩
theorem mW9_in : MgIn mW9 := ⟨by unfold in64w mW9; decide, by unfold in64w mW9; decide, by unfold in64w mW9; decide, by unfold in64w mW9; decide, by unfold in64w mW9; decide, rfl⟩
theorem mW9_sm : MgSm mW9 := ⟨by decide, by decide, by intro t ht; cases ht⟩
theorem mW9_lo : longB mW9 = false := by decide
theorem errS_M {ks : List (List UInt8)} {m : Mg} (hh : m.h.length = 32) (hlo : longB m = false) : errS ks m = if errM m = 0 then (if (ks.length : Int) ≤ m.f then 6 else 0) else errM m := by
  unfold errS; rw [errG_M hh hlo]
theorem mW9_err : errS [[1], [2]] mW9 = 0 := by rw [errS_M rfl mW9_lo]; decide
theorem mW9_len : (slS [[1], [2]] mW9).length = 74 := by
  unfold slS
  rw [List.length_append, len_tag, len_by2 rfl]
  decide
theorem op_nil (ks : List (List UInt8)) : opR ks [] = .error 1 := rfl
theorem bld9 : ∀ W : World, (Instr.build 27 #[(0, .int .i64 2), (1, .int .i64 1)]).run Tryd.prog W = .ok (.agg (mW9.l (.slice none 0 0) (.slice none 0 0)).toArray) W := fun _ => by kernel_rfl
theorem bld9K (A : Option Addr) (n c : Nat) : ∀ W : World, (Instr.build 33 #[(0, .slice A n c)]).run Tryd.prog W = .ok (.agg #[.slice A n c, .slice none 0 0]) W := fun _ => by kernel_rfl
theorem bld22 (A B : Option Addr) (n c m d : Nat) : ∀ W : World, (Instr.buildSlice 22 2 #[(0, .slice A n c), (1, .slice B m d)]).run Tryd.prog W = .ok (.slice (some ⟨W.heap.size, 0, none⟩) 2 2) (W.alloc (.cells #[.slice A n c, .slice B m d] 25)) := fun _ => by kernel_rfl
theorem sizeKeys : (Tryd.prog.info? 33).map (·.size) = some 2 := by kernel_rfl
def zKeys : List Value := [.slice none 0 0, .slice none 0 0]
theorem zeroKeys : (Tryd.prog.info? 33).map (·.zero) = some (some (.agg zKeys.toArray)) := by kernel_rfl
theorem one_keys {A : Option Addr} {n c : Nat} : ∀ v ∈ [Value.slice A n c, .slice none 0 0], v.oneCell' = true := by
  intro v hv
  simp at hv
  rcases hv with rfl | rfl <;> rfl
set_option maxRecDepth 100000 in
set_option maxHeartbeats 2000000 in
theorem wakes9_any (w : World) (hK : KS w) :
    Calls Tryd.prog 6 #[] w fun e w' => e = .returned (.bool true) ∧ Below w.heap.size w w' := by
  have hks : KsSm [[1], [2]] := ⟨by simp, by intro k hk; simp at hk; rcases hk with rfl | rfl <;> simp⟩
  go_enter Tryd.func6, Tryd.ntmps6
  go_wp2_with (refine wp_bsl slB (.const (.int .u8 1)) rfl rfl (u := byteV 1) rfl rfl ?_; intro w1 hb1 hB1; refine wp_stop ?_)
  have hr1 := rd_one (F := fun _ => True) hb1 trivial
  have hB := hB1
  obtain ⟨g1, hg1⟩ : ∃ g, g = w.heap.size := ⟨_, rfl⟩
  rw [← hg1] at hr1 hb1 ⊢
  have hg1w : w.heap.size ≤ g1 := by omega
  clear hg1 hB1
  refine wp_go ?_
  go_wp2_with (refine wp_bsl slB (.const (.int .u8 2)) rfl rfl (u := byteV 2) rfl rfl ?_; intro w2 hb2 hB2; refine wp_stop ?_)
  have hr1 := hr1.below hB2
  have hr2 := rd_one (F := fun _ => True) hb2 trivial
  have hB := hB.trans (hB2.mono hB.size)
  obtain ⟨g2, hg2⟩ : ∃ g, g = w1.heap.size := ⟨_, rfl⟩
  rw [← hg2] at hr2 hb2 ⊢
  clear hg2 hB2 hb1 hb2
  refine wp_go ?_
  go_wp2_with (refine wp_bsl2 22 25 (.tmp 8) (.tmp 9) rfl rfl (u := .slice (some ⟨g1, 0, none⟩) 1 1) (v := .slice (some ⟨g2, 0, none⟩) 1 1) rfl rfl (bld22 _ _ _ _ _ _) ?_; intro w3 hb3 hB3; refine wp_stop ?_)
  have hk := tx_two (F := fun _ => True) hb3 trivial (hr1.below hB3) (hr2.below hB3)
  have hB := hB.trans (hB3.mono hB.size)
  obtain ⟨g3, hg3⟩ : ∃ g, g = w2.heap.size := ⟨_, rfl⟩
  rw [← hg3] at hk ⊢
  clear hg3 hB3 hb3 hr1 hr2
  refine wp_go ?_
  go_wp2_with (first | refine wp_bld 33 [(0, .tmp 10)] rfl rfl [(0, .slice (some ⟨g3, 0, none⟩) 2 2)] rfl (bld9K _ _ _) ?_ | refine wp_newst 33 1 (.tmp 11) rfl rfl rfl rfl rfl rfl zeroKeys (l := [.slice (some ⟨g3, 0, none⟩) 2 2, .slice none 0 0]) rfl rfl sizeKeys one_keys (by simp [Act.put]) ?_; intro w4 hx4 hB4 hs4; refine wp_stop ?_)
  have hk := hk.below hB4
  have hB := hB.trans (hB4.mono hB.size)
  obtain ⟨gx, hgx⟩ : ∃ g, g = w3.heap.size := ⟨_, rfl⟩
  rw [← hgx] at hx4 ⊢
  clear hgx hB4 hs4
  refine wp_go ?_
  go_wp2_with (refine wp_ld 33 (.tmp 1) rfl rfl rfl hx4.whole Tryd.underlying33 rfl sizeKeys ?_)
  have ho := open9_any [[1], [2]] [] (.slice (some ⟨g3, 0, none⟩) 2 2) (.slice none 0 0) (.slice none 0 0) _ nob w4 (hK.below hB) hks hk (Rd.nil _ _) (by simp)
  rw [op_nil] at ho
  refine ho.mono ?_
  rintro e w5 ⟨rfl, hB5⟩
  have hk := hk.below hB5
  have hx4 := hx4.below hB5
  have hB := hB.trans (hB5.mono hB.size)
  clear hB5 ho
  go_wp2_with (refine wp_newst 27 2 (.tmp 15) rfl rfl rfl rfl rfl rfl zeroM (l := zM) rfl rfl (by rw [len_zM]; exact sizeM) one_zM8 (by simp) ?_; intro w6 hx6 hB6 hs6; refine wp_stop ?_)
  have hk := hk.below hB6
  have hx4 := hx4.below hB6
  have hB := hB.trans (hB6.mono hB.size)
  clear hB6 hs6 hx6
  have hse := seal9_any [[1], [2]] mW9 (.slice (some ⟨g3, 0, none⟩) 2 2) (.slice none 0 0) (.slice none 0 0) (.slice none 0 0) _ nob nob w6 (hK.below hB) mW9_in mW9_sm hks hk (Rd.nil _ _) (Rd.nil _ _)
  rw [mW9_err, if_pos rfl] at hse
  have hop := op_sl (ks := [[1], [2]]) (m := mW9) rfl mW9_err
  have hsl := mW9_len
  obtain ⟨S, hS⟩ : ∃ S, S = slS [[1], [2]] mW9 := ⟨_, rfl⟩
  rw [← hS] at hse hop hsl
  unfold Mg.val at hse
  have hb9 := bld9
  have hml : ∀ u v, (mW9.l u v)[1]? = some (.int .i64 1) := fun u v => rfl
  have hmn : ∀ u v, (mW9.l u v).length = 39 := fun u v => len_mg rfl u v
  have hb : mW9.b = [] := rfl
  have hp : mW9.ps = [] := rfl
  have h1c : ∀ A B n c k d, ∀ v ∈ mW9.l (.slice A n c) (.slice B k d), v.oneCell' = true := fun A B n c k d => one_mg
  have hmi : ReadP = ReadP := rfl
  obtain ⟨M, hM⟩ : ∃ M, M = mW9 := ⟨_, rfl⟩
  rw [← hM] at hop hse hb9 hml hmn hb hp h1c
  have Hml := hid hml
  have Hmn := hid hmn
  have Hse := hid hse
  have Hop := hid hop
  have Hsl := hid hsl
  have H1 := hid h1c
  clear hM hS hse hop hsl hml hmn hmi h1c
  obtain ⟨l, hl⟩ : ∃ l, l = M.l (.slice none 0 0) (.slice none 0 0) := ⟨_, rfl⟩
  have Hse2 : Hid (Calls Tryd.prog 9 #[.agg #[.slice (some ⟨g3, 0, none⟩) 2 2, .slice none 0 0], .agg l.toArray] w6 fun e w' => ∃ v', e = .returned (.tuple #[v', .int .i64 0]) ∧ NewB w6 w' v' S) := by
    have := Hse.out
    rwa [← hl] at this
  rw [← hl] at hb9
  clear Hse hl
  refine wp_go ?_
  go_wp2_with (first | refine wp_ld 33 (.tmp 1) rfl rfl rfl hx4.whole Tryd.underlying33 rfl sizeKeys ?_ | refine wp_bld 27 [(0, .const (.int .i64 2)), (1, .const (.int .i64 1))] rfl rfl [(0, .int .i64 2), (1, .int .i64 1)] rfl hb9 ?_)
  refine Hse2.out.mono ?_
  rintro e w7 ⟨v7, rfl, ho7, hB7⟩
  obtain ⟨A7, c7, rfl⟩ := own_shape ho7
  have hr7 := Rd.of_own ho7
  have hk := hk.below hB7
  have hx4 := hx4.below hB7
  have hB := hB.trans (hB7.mono hB.size)
  clear hB7 ho7 Hse2 hb9
  have ho := open9_any [[1], [2]] S (.slice (some ⟨g3, 0, none⟩) 2 2) (.slice none 0 0) (.slice A7 S.length c7) _ _ w7 (hK.below hB) hks hk hr7 (by rw [Hsl.out]; omega)
  rw [Hop.out] at ho
  have Ho := hid ho
  clear ho
  go_wp2_with (refine wp_ld 33 (.tmp 1) rfl rfl rfl hx4.whole Tryd.underlying33 rfl sizeKeys ?_)
  refine Ho.out.mono ?_
  rintro e w8 ⟨⟨ub8, up8, rfl, hub8, hup8⟩, hB8⟩
  obtain ⟨A8, c8, rfl⟩ := hub8.shape
  obtain ⟨A9, c9, rfl, _, _⟩ := hup8.slShape
  unfold Mg.val
  have hB := hB.trans (hB8.mono hB.size)
  obtain ⟨l8, hl8⟩ : ∃ l, l = M.l (.slice A8 M.b.length c8) (.slice A9 M.ps.length c9) := ⟨_, rfl⟩
  have h81 : l8[1]? = some (.int .i64 1) := by rw [hl8]; exact Hml.out _ _
  have h8n : l8.length = 39 := by rw [hl8]; exact Hmn.out _ _
  have h8o : ∀ v ∈ l8, v.oneCell' = true := by rw [hl8]; exact H1.out _ _ _ _ _ _
  rw [← hl8]
  have H8n := hid h8n
  have H8o := hid h8o
  clear hl8 h8n h8o hB8 hub8 hup8 hx4 hk hr7 Ho
  go_wp2_with (refine wp_newst 27 6 (.tmp 27) rfl rfl rfl rfl rfl rfl zeroM (l := l8) rfl (by rw [H8n.out]; exact len_zM) (by rw [H8n.out]; exact sizeM) H8o.out (by simp) ?_; intro w9 hx9 hB9 hs9; refine wp_stop ?_)
  have hB := hB.trans (hB9.mono hB.size)
  obtain ⟨gy, hgy⟩ : ∃ g, g = w8.heap.size := ⟨_, rfl⟩
  rw [← hgy] at hx9 ⊢
  clear hgy hB9 hs9
  have c1 := hx9.cellAt 1 _ h81
  have hSl := Hsl.out
  rw [hSl]
  refine wp_go ?_
  go_wp2
  go_ret
  exact ⟨rfl, hB⟩
end Go.Proofs.YtacjijhpbeegbaaDoor
