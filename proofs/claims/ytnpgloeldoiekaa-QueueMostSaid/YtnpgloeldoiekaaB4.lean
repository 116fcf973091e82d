/- B4: layer 16: the laws' wakes. -/
import Derived.Test.YtnpgloeldoiekaaBM
namespace Go.Proofs.Ytnpgloeldoiekaa
open Go.RowKit Go.V
def rg16 (s : Int) : Rq := ⟨1, s, 1, 0, 0, 0, []⟩
def zR6 : List Rp := List.replicate 6 ⟨0, 0, 0, false, 0⟩
theorem bldOp16 : ∀ W : World, (Instr.build 29 #[(0, .int .i64 1)]).run Try.prog W = .ok (.agg #[.int .i64 1, .int .i64 0, .int .i64 0, .int .i64 0]) W := fun _ => by kernel_rfl
theorem bldRq16 (s : Int) : ∀ W : World, (Instr.build 32 #[(0, .int .i64 1), (1, .int .i64 s), (2, .agg #[.int .i64 1, .int .i64 0, .int .i64 0, .int .i64 0])]).run Try.prog W = .ok (.agg ((rg16 s).l (.slice none 0 0)).toArray) W := fun _ => by kernel_rfl
theorem bldR6 : ∀ W : World, (Instr.build 37 #[]).run Try.prog W = .ok (.agg (ras zR6).toArray) W := fun _ => by kernel_rfl
set_option maxRecDepth 100000 in
theorem get16_any (s : Int) (w : World) :
    Calls Try.prog 23 #[.int .i64 s] w fun e w' => e = .returned (.agg ((rg16 s).l (.slice none 0 0)).toArray) ∧ Below w.heap.size w w' := by
  have b2 := Blk.new' w 32 zRq16
  have hB : Below w.heap.size w (w.alloc (.cells zRq16.toArray 32)) := (Below.refl _ _).alloc (Nat.le_refl _) _
  obtain ⟨w0, hw0⟩ : ∃ x, x = w.alloc (.cells zRq16.toArray 32) := ⟨_, rfl⟩
  rw [← hw0] at b2 hB
  go_enter Try.func23, Try.ntmps23
  go_wp2_with (first | (refine wp_new 32 rfl rfl zeroRq16 ?_; refine wp_stop ?_))
  rw [← hw0]
  clear hw0
  obtain ⟨g2, hg2⟩ : ∃ g, g = w.heap.size := ⟨_, rfl⟩
  have hw2 : w.heap.size ≤ g2 := by omega
  rw [← hg2] at b2 ⊢
  clear hg2
  refine wp_go ?_
  go_wp2_with (first | refine wp_bld 29 [(0, .const (.int .i64 1))] rfl rfl [(0, .int .i64 1)] rfl bldOp16 ?_ | refine wp_bld 32 [(0, .const (.int .i64 1)), (1, .tmp 3), (2, .tmp 4)] rfl rfl [(0, .int .i64 1), (1, .int .i64 s), (2, .agg #[.int .i64 1, .int .i64 0, .int .i64 0, .int .i64 0])] rfl (bldRq16 s) ?_ | (refine wp_st 32 (.tmp 2) (.tmp 5) rfl rfl rfl (f := 0) rfl (l := (rg16 s).l (.slice none 0 0)) rfl b2 (by show 0 + 7 ≤ 7; omega) sizeRq16 (one_rq16 _ _ _ _) ?_; intro x1 k2 G2))
  rw [set_all zRq16 ((rg16 s).l (.slice none 0 0)) rfl] at k2
  refine ret_cell rfl rfl k2.whole Try.underlying32 rfl sizeRq16 rfl ?_
  exact ⟨rfl, hB.grown G2 hB.size (by intro k hk; injection hk with hk; omega)⟩
theorem wk1 : addE [] (rg16 1) = 0 := by decide
theorem wk2 : addE [rg16 1] (rg16 3) = 0 := by decide
theorem wk3 : addE [rg16 1, rg16 3] (rg16 2) = 0 := by decide
theorem wk4 : batQ zR6 [rg16 1, rg16 3, rg16 2] = [rg16 1, rg16 3] := by kernel_rfl
theorem rg_in (s : Int) : in64 (rg16 s).a ∧ in64 (rg16 s).b := ⟨⟨by show (-9223372036854775808 : Int) ≤ 0; omega, by show (0 : Int) ≤ _; omega⟩, ⟨by show (-9223372036854775808 : Int) ≤ 0; omega, by show (0 : Int) ≤ _; omega⟩⟩
set_option maxRecDepth 100000 in
set_option maxHeartbeats 4000000 in
theorem wakes16_any (w : World) :
    Calls Try.prog 9 #[] w fun e w' => e = .returned (.bool true) ∧ Below w.heap.size w w' := by
  have hbr := bldR6
  have hadd := hid (fun (l : List Rq) (s : Int) (h0 : addE l (rg16 s) = 0) (v : Value) (M : Nat → Prop) (X : World) (h : QX X v M l) => (show Calls Try.prog 12 #[v, .agg ((rg16 s).l (.slice none 0 0)).toArray] X (fun e w' => e = .returned (.int .i64 0) ∧ ∃ M', QP X M w' v (l ++ [rg16 s]) M') from by
    have := qadd16_any v M l (rg16 s) (.slice none 0 0) (fun _ => False) X h (Rd.nil _ _) (fun b h => h.elim) (rg_in s) (Nat.zero_le _)
    rw [h0, addL_z h0] at this
    exact this))
  obtain ⟨G, hG⟩ : ∃ G : Int → List Value, G = fun s => (rg16 s).l (.slice none 0 0) := ⟨_, rfl⟩
  have hge := hid (fun (s : Int) X => (show Calls Try.prog 23 #[.int .i64 s] X (fun e w' => e = .returned (.agg (G s).toArray) ∧ Below X.heap.size X w') from by rw [hG]; exact get16_any s X))
  have hadd2 := hid (fun l s h0 v M X h => (show Calls Try.prog 12 #[v, .agg (G s).toArray] X (fun e w' => e = .returned (.int .i64 0) ∧ ∃ M', QP X M w' v (l ++ [rg16 s]) M') from by rw [hG]; exact hadd.out l s h0 v M X h))
  have hbat := hid (fun v M X (h : QX X v M [rg16 1, rg16 3, rg16 2]) => (show Calls Try.prog 15 #[v, .agg (ras zR6).toArray] X (fun e w' => ∃ v', e = .returned v' ∧ Rd w' (fun b => X.heap.size ≤ b) v' (rqs [rg16 1, rg16 3]) ∧ Below X.heap.size X w') from by rw [← wk4]; exact qbatch16_any v M _ zR6 X h rfl))
  obtain ⟨zr, hzr⟩ : ∃ q, q = ras zR6 := ⟨_, rfl⟩
  rw [← hzr] at hbat hbr
  clear hG hadd hzr
  go_enter Try.func9, Try.ntmps9
  go_wp2_with (fail)
  refine (qnew16_any _).mono ?_
  rintro e w1 ⟨qv, M1, rfl, hq, hM1, hB1⟩
  go_wp2_with (fail)
  refine (hge.out 1 _).mono ?_
  rintro e w2 ⟨rfl, hB2⟩
  have hq := hq.below hB2
  have hB := hB1.trans (hB2.mono hB1.size)
  go_wp2_with (fail)
  refine (hadd2.out _ 1 wk1 _ _ _ hq).mono ?_
  rintro e w3 ⟨rfl, M3, hp3⟩
  obtain ⟨hB, hM3⟩ := hp3.bel hB hM1 hB.size
  have hq := hp3.q
  clear hp3 hB2 hB1 hM1
  go_wp2_with (fail)
  refine (hge.out 3 _).mono ?_
  rintro e w4 ⟨rfl, hB4⟩
  have hq := hq.below hB4
  have hB := hB.trans (hB4.mono hB.size)
  go_wp2_with (fail)
  refine (hadd2.out _ 3 wk2 _ _ _ hq).mono ?_
  rintro e w5 ⟨rfl, M5, hp5⟩
  obtain ⟨hB, hM5⟩ := hp5.bel hB hM3 hB.size
  have hq := hp5.q
  clear hp5 hB4 hM3
  go_wp2_with (fail)
  refine (hge.out 2 _).mono ?_
  rintro e w6 ⟨rfl, hB6⟩
  have hq := hq.below hB6
  have hB := hB.trans (hB6.mono hB.size)
  go_wp2_with (fail)
  refine (hadd2.out _ 2 wk3 _ _ _ hq).mono ?_
  rintro e w7 ⟨rfl, M7, hp7⟩
  obtain ⟨hB, hM7⟩ := hp7.bel hB hM5 hB.size
  have hq := hp7.q
  clear hp7 hB6 hM5
  go_wp2_with (refine wp_bld 37 [] rfl rfl [] rfl hbr ?_)
  refine (hbat.out _ _ _ hq).mono ?_
  rintro e w8 ⟨bv, rfl, hr8, hB8⟩
  have hq := hq.below hB8
  have hB := hB.trans (hB8.mono hB.size)
  obtain ⟨g8, o8, c8, rfl⟩ := rqs_spot hr8 (by simp)
  obtain ⟨u0, h0, _⟩ := rqs_el hr8 (i := 0) (r := rg16 1) rfl
  obtain ⟨u1, h1, _⟩ := rqs_el hr8 (i := 1) (r := rg16 3) rfl
  have c0 : w8.cell? ⟨g8, o8 + 1, none⟩ = some (.int .i64 1) := h0 1 _ rfl
  have c1 : w8.cell? ⟨g8, o8 + 7 + 1, none⟩ = some (.int .i64 3) := h1 1 _ rfl
  have hln := hid (qlen16_any qv M7 _ w8 hq)
  clear h0 h1 hr8 hge hadd2 hbat
  go_wp2_with (fail)
  refine hln.out.mono ?_
  rintro e w9 ⟨rfl, hB9⟩
  have hB := hB.trans (hB9.mono hB.size)
  go_wp2
  go_ret
  exact ⟨rfl, hB⟩
end Go.Proofs.Ytnpgloeldoiekaa
