/- Xs: layer 19: the laws' wakes. -/
import Derived.Test.YtnhhbbjkeekneaaDoorZ2
import Derived.Test.YtnhhbbjkeekneaaDoorXk
import Derived.Test.YtnhhbbjkeekneaaDoorQA
import Derived.Test.YtnhhbbjkeekneaaDoorAV
namespace Go.Proofs.YtnhhbbjkeekneaaDoor
open Go.RowKit Go.V
theorem bldV19 : ∀ W : World, (Instr.build 24 #[(1, .int .u16 15)]).run Tryd.prog W = .ok (.agg #[.int .i64 0, .int .u16 15]) W := fun _ => by kernel_rfl
theorem bldW19 (f r : Int) : ∀ W : World, (Instr.build 48 #[(0, .int .i64 4), (1, .int .i64 f), (3, .int .i64 r)]).run Tryd.prog W = .ok (.agg ((⟨4, f, 0, r, 0, List.replicate 32 0, [], []⟩ : Mg).l (.slice none 0 0) (.slice none 0 0)).toArray) W := fun _ => by kernel_rfl
set_option maxRecDepth 100000 in
set_option maxHeartbeats 8000000 in
theorem wakes19_any (w : World) (hK : KS w) :
    Calls Tryd.prog 5 #[] w fun e w' => e = .returned (.bool true) ∧ Below w.heap.size w w' := by
  have hbv := bldV19
  have hba := bldA19
  have hkf := hid (fun Y => keys19_any (.int .i64 0) (.int .u16 0) (.int .i64 0) (.int .i64 0) none 0 0 Y)
  go_enter Tryd.func5, Tryd.ntmps5
  go_wp2_with (refine wp_bld 36 [] rfl rfl [] rfl hba ?_)
  refine (hkf.out _).mono ?_
  rintro e w1 ⟨uk, rfl, hk, hB⟩
  obtain ⟨Ak, ck, rfl, _, _⟩ := hk.slShape
  clear hba hkf
  go_wp2_with (first | (refine wp_newst 33 1 (.tmp 7) rfl rfl rfl rfl rfl rfl zeroKs17 (l := [.slice Ak ks17.length ck, .slice none 0 0]) rfl rfl sizeKs19 (by intro v hv; simp at hv; rcases hv with rfl | rfl <;> rfl) (by simp) ?_; intro w2 b1 hB2 hs2; refine wp_stop ?_))
  have hk2 := hk.below hB2
  have hB2' := hB.trans (hB2.mono hB.size)
  have hs1 := hB.size
  obtain ⟨g1, hg1⟩ : ∃ g, g = w1.heap.size := ⟨_, rfl⟩
  rw [← hg1] at b1 hs1 ⊢
  have Hin : Hid (Calls Tryd.prog 7 #[.agg #[.slice Ak ks17.length ck, .slice none 0 0], .agg #[.int .i64 0, .int .u16 15]] w2 fun e w' => ∃ v M, e = .returned v ∧ SX w' v M (fun b => w.heap.size ≤ b ∧ b < w2.heap.size) ks17 ⟨0, 15⟩ w0W ∧ (∀ b, M b → w2.heap.size ≤ b) ∧ Below w2.heap.size w2 w') :=
    hid (snew19_any ks17 ⟨0, 15⟩ (.slice Ak ks17.length ck) (.slice none 0 0) _ w2 (hK.below hB2') ks17_sm hk2 ⟨by unfold in64w; decide, by decide⟩)
  obtain ⟨lk, hlk⟩ : ∃ l : List Value, l = [.slice Ak ks17.length ck, .slice none 0 0] := ⟨_, rfl⟩
  have Lk : Hid (lk.length = 2) := hid (by rw [hlk]; rfl)
  have Hlk := hid hlk
  rw [← hlk] at b1
  have h12 := b1.lt
  have B1 := hid b1
  have HK2 := hid hk2
  clear hlk hs2 hB2 hg1 hB hk
  have hsz2 : w.heap.size ≤ w2.heap.size := hB2'.size
  refine wp_go ?_
  go_wp2_with (first | refine wp_ld 33 (.tmp 1) rfl rfl rfl b1.whole Tryd.underlying33 rfl (by rw [Lk.out]; exact sizeKs19) ?_ | refine wp_bld 24 [(1, .const (.int .u16 15))] rfl rfl [(1, .int .u16 15)] rfl hbv ?_)
  rw [Hlk.out]
  refine (Hin.out).mono ?_
  rintro e w3 ⟨xv, M0, rfl, hx, hM0, hB3⟩
  have hM0 : ∀ b, M0 b → w2.heap.size ≤ b := hM0
  obtain ⟨N, hN⟩ : ∃ N : Nat → Prop, N = fun b => w.heap.size ≤ b ∧ b < w2.heap.size := ⟨_, rfl⟩
  rw [← hN] at hx
  have HB2 := hid hB2'
  clear hN Hin hB2' hbv b1 hk2
  go_wp2
  go_loopw [11] (fun iv wr => ∃ (i : Nat) (M : Nat → Prop), i ≤ 2 ∧ iv = .int .i64 i ∧ Hid (SX wr xv M N ks17 ⟨0, 15⟩ (wS i) ∧ ∀ b, M b → w2.heap.size ≤ b) ∧ Below w2.heap.size w2 wr) (fun i _ => 2 - (intOf i).toNat)
  case atStart => exact ⟨0, M0, by omega, rfl, hid ⟨hx, hM0⟩, hB3⟩
  case round =>
    clear hx hM0 hB3
    obtain ⟨i, M, hi, rfl, Hx, hD⟩ := hrel
    have hBr := HB2.out.trans (hD.mono hsz2)
    have hKr := hK.below hBr
    have b1 := B1.out.below hD
    by_cases hlt : i < 2
    · have hI : (i : Int) < 2 := by omega
      have hw : IntKind.i64.wrap (2 + (i : Int)) = 2 + (i : Int) := IntWalk.i64_in _ (by omega)
      have hsl := sS19_len hlt
      have hbm := bldW19 (i : Int) (2 + (i : Int))
      have hse : Calls Tryd.prog 13 #[.agg #[.slice Ak ks17.length ck, .slice none 0 0], .agg ((⟨4, (i : Int), 0, 2 + (i : Int), 0, List.replicate 32 0, [], []⟩ : Mg).l (.slice none 0 0) (.slice none 0 0)).toArray] wr fun e w' => ∃ v', e = .returned (.tuple #[v', .int .i64 0]) ∧ NewB wr w' v' (sS19 i) := by
        have := seal9_any ks17 (mS i) (.slice Ak ks17.length ck) (.slice none 0 0) (.slice none 0 0) (.slice none 0 0) _ nob nob wr hKr (mS_in hlt) (mS_sm i) ks17_sm (HK2.out.below hD) (Rd.nil _ _) (Rd.nil _ _)
        rw [mS_err hlt, if_pos rfl] at this
        exact this
      have Hse := hid hse
      have htk : ∀ (u : Value) (F : Nat → Prop) (Y : World), KS Y → SX Y xv M N ks17 ⟨0, 15⟩ (wS i) → Rd Y F u (bys (sS19 i)) → Calls Tryd.prog 9 #[xv, u] Y fun e w' => e = .returned (.int .i64 0) ∧ ∃ M', SP Y M w' xv N ks17 ⟨0, 15⟩ (wS (i + 1)) M' := by
        intro u F Y h1 h2 h3
        have := stake19_any xv M N ks17 ⟨0, 15⟩ (wS i) (sS19 i) u F Y h1 ks17_sm h2 h3 (by omega)
        rw [(ts_W19 hlt).1, (ts_W19 hlt).2] at this
        exact this
      have Htk := hid htk
      obtain ⟨lm, hlm⟩ : ∃ l, l = (⟨4, (i : Int), 0, 2 + (i : Int), 0, List.replicate 32 0, [], []⟩ : Mg).l (.slice none 0 0) (.slice none 0 0) := ⟨_, rfl⟩
      rw [← hlm] at hbm Hse
      obtain ⟨S, hS⟩ : ∃ S, S = sS19 i := ⟨_, rfl⟩
      rw [← hS] at Hse Htk hsl
      clear hlm hS hse htk
      go_wp2_with (first | refine wp_ld 33 (.tmp 1) rfl rfl rfl b1.whole Tryd.underlying33 rfl (by rw [Lk.out]; exact sizeKs19) ?_ | refine wp_bld 48 [(0, .const (.int .i64 4)), (1, .tmp 16), (3, .tmp 18)] rfl rfl [(0, .int .i64 4), (1, .int .i64 (i : Int)), (3, .int .i64 (2 + (i : Int)))] rfl hbm ?_)
      rw [Hlk.out]
      refine (Hse.out).mono ?_
      rintro e w4 ⟨v4, rfl, ho4, hB4⟩
      have hv4 := (Rd.of_own ho4)
      obtain ⟨A4, c4, rfl⟩ := own_shape ho4
      have hD4 := hD.trans (hB4.mono hD.size)
      have hK4 := hKr.below hB4
      have hx4 := Hx.out.1.below hB4
      have hM4 := Hx.out.2
      clear hB4 ho4 Hse hbm b1 hw
      go_wp2_with (fail)
      refine (Htk.out _ _ _ hK4 hx4 hv4).mono ?_
      rintro e w5 ⟨rfl, M5, hP⟩
      have hD5 := Ch.below_of hD4 hP.c hM4 hD4.size
      have hM5 : ∀ b, M5 b → w2.heap.size ≤ b := fun b h => by
        rcases hP.m b h with h | h
        · exact hM4 b h
        · have := hD4.size; omega
      have hx5 := hP.x
      clear hP Htk hv4
      go_wp2
      go_roundw
      case rel => exact ⟨i + 1, M5, by omega, by go_num, hid ⟨hx5, hM5⟩, hD5⟩
      case measure => simp [intOf]; omega
    · have hi' : i = 2 := by omega
      subst hi'
      have hI : ¬ (2 : Int) < 2 := by omega
      have hso := hid (fun Y h => ssome19_any xv M N ks17 ⟨0, 15⟩ (wS 2) 0 Y ⟨by omega, by omega⟩ h)
      have hen := hid (fun Y h => senough19_any xv M N ks17 ⟨0, 15⟩ (wS 2) 0 Y ⟨by omega, by omega⟩ h)
      have hct := hid (fun Y h => scount19_3 xv M N ks17 ⟨0, 15⟩ (wS 2) Y h)
      rw [gr_W19.1] at hso
      rw [gr_W19.2.1] at hen
      rw [gr_W19.2.2] at hct
      have hx := Hx.out.1
      clear b1
      go_wp2_with (fail)
      refine (hso.out _ hx).mono ?_
      rintro e w6 ⟨rfl, hB6⟩
      have hx := hx.below hB6
      have hBr := hBr.trans (hB6.mono hBr.size)
      clear hB6
      go_wp2_with (fail)
      refine (hen.out _ hx).mono ?_
      rintro e w7 ⟨rfl, hB7⟩
      have hx := hx.below hB7
      have hBr := hBr.trans (hB7.mono hBr.size)
      clear hB7
      go_wp2_with (fail)
      refine (hct.out _ hx).mono ?_
      rintro e w8 ⟨rfl, hB8⟩
      have hBr := hBr.trans (hB8.mono hBr.size)
      clear hB8
      go_wp2
      go_ret
      exact ⟨by simp, hBr⟩
end Go.Proofs.YtnhhbbjkeekneaaDoor
