/- SL: several texts in one (Xs Xb SB SL). -/
import Derived.Test.YtnhhbbjkeekneaaGreatDoorQ7
import Derived.Test.YtnhhbbjkeekneaaGreatDoorAV
import Derived.Test.YtnhhbbjkeekneaaGreatDoorSA
import Derived.Stop.BytesEq
import Derived.Lib.SlBytesConst
/- Xs: layer 19: the laws' wakes. -/
namespace Go.Proofs.YtnhhbbjkeekneaaGreatDoor
open Go.RowKit Go.V
theorem bldV19 : ∀ W : World, (Instr.build 24 #[(1, .int .u16 15)]).run Tryz.prog W = .ok (.agg #[.int .i64 0, .int .u16 15]) W := fun _ => by kernel_rfl
theorem bldW19 (f r : Int) : ∀ W : World, (Instr.build 47 #[(0, .int .i64 4), (1, .int .i64 f), (3, .int .i64 r)]).run Tryz.prog W = .ok (.agg ((⟨4, f, 0, r, 0, List.replicate 32 0, [], []⟩ : Mg).l (.slice none 0 0) (.slice none 0 0)).toArray) W := fun _ => by kernel_rfl
set_option maxRecDepth 100000 in
set_option maxHeartbeats 8000000 in
theorem wakes19_any (w : World) (hK : KS w) :
    Calls Tryz.prog 5 #[] w fun e w' => e = .returned (.bool true) ∧ Below w.heap.size w w' := by
  have hbv := bldV19
  have hba := bldA19
  have hkf := hid (fun Y => keys19_any (.int .i64 0) (.int .u16 0) (.int .i64 0) (.int .i64 0) none 0 0 Y)
  go_enter Tryz.func5, Tryz.ntmps5
  go_wp2_with (refine wp_bld 27 [] rfl rfl [] rfl hba ?_)
  refine (hkf.out _).mono ?_
  rintro e w1 ⟨uk, rfl, hk, hB⟩
  obtain ⟨Ak, ck, rfl, _, _⟩ := hk.slShape
  clear hba hkf
  go_wp2_with (first | (refine wp_newst 40 1 (.tmp 7) rfl rfl rfl rfl rfl rfl zeroKs17 (l := [.slice Ak ks17.length ck, .slice none 0 0]) rfl rfl sizeKs19 (by intro v hv; simp at hv; rcases hv with rfl | rfl <;> rfl) (by simp) ?_; intro w2 b1 hB2 hs2; refine wp_stop ?_))
  have hk2 := hk.below hB2
  have hB2' := hB.trans (hB2.mono hB.size)
  have hs1 := hB.size
  obtain ⟨g1, hg1⟩ : ∃ g, g = w1.heap.size := ⟨_, rfl⟩
  rw [← hg1] at b1 hs1 ⊢
  have Hin : Hid (Calls Tryz.prog 13 #[.agg #[.slice Ak ks17.length ck, .slice none 0 0], .agg #[.int .i64 0, .int .u16 15]] w2 fun e w' => ∃ v M, e = .returned v ∧ SX w' v M (fun b => w.heap.size ≤ b ∧ b < w2.heap.size) ks17 ⟨0, 15⟩ w0W ∧ (∀ b, M b → w2.heap.size ≤ b) ∧ Below w2.heap.size w2 w') :=
    hid (snew19_any ks17 ⟨0, 15⟩ (.slice Ak ks17.length ck) (.slice none 0 0) _ w2 (hK.below hB2') ks17_sm hk2 ⟨by unfold in64w; decide, by decide⟩)
  obtain ⟨lk, hlk⟩ : ∃ l : List Value, l = [.slice Ak ks17.length ck, .slice none 0 0] := ⟨_, rfl⟩
  have Lk : Hid (lk.length = 2) := hid (by rw [hlk]; rfl)
  have Hlk := hid hlk
  rw [← hlk] at b1
  have h12 := b1.lt
  have B1 := hid b1
  have HK2 := hid hk2
  clear hlk hs2 hB2 hg1 hB hk
  have hsz2 : w.heap.size ≤ w2.heap.size := hB2'.size
  refine wp_go ?_
  go_wp2_with (first | refine wp_ld 40 (.tmp 1) rfl rfl rfl b1.whole Tryz.underlying40 rfl (by rw [Lk.out]; exact sizeKs19) ?_ | refine wp_bld 24 [(1, .const (.int .u16 15))] rfl rfl [(1, .int .u16 15)] rfl hbv ?_)
  rw [Hlk.out]
  refine (Hin.out).mono ?_
  rintro e w3 ⟨xv, M0, rfl, hx, hM0, hB3⟩
  have hM0 : ∀ b, M0 b → w2.heap.size ≤ b := hM0
  obtain ⟨N, hN⟩ : ∃ N : Nat → Prop, N = fun b => w.heap.size ≤ b ∧ b < w2.heap.size := ⟨_, rfl⟩
  rw [← hN] at hx
  have HB2 := hid hB2'
  clear hN Hin hB2' hbv b1 hk2
  go_wp2
  go_loopw [11] (fun iv wr => ∃ (i : Nat) (M : Nat → Prop), i ≤ 2 ∧ iv = .int .i64 i ∧ Hid (SX wr xv M N ks17 ⟨0, 15⟩ (wS i) ∧ ∀ b, M b → w2.heap.size ≤ b) ∧ Below w2.heap.size w2 wr) (fun i _ => 2 - (intOf i).toNat)
  case atStart => exact ⟨0, M0, by omega, rfl, hid ⟨hx, hM0⟩, hB3⟩
  case round =>
    clear hx hM0 hB3
    obtain ⟨i, M, hi, rfl, Hx, hD⟩ := hrel
    have hBr := HB2.out.trans (hD.mono hsz2)
    have hKr := hK.below hBr
    have b1 := B1.out.below hD
    by_cases hlt : i < 2
    · have hI : (i : Int) < 2 := by omega
      have hw : IntKind.i64.wrap (2 + (i : Int)) = 2 + (i : Int) := IntWalk.i64_in _ (by omega)
      have hsl := sS19_len hlt
      have hbm := bldW19 (i : Int) (2 + (i : Int))
      have hse : Calls Tryz.prog 14 #[.agg #[.slice Ak ks17.length ck, .slice none 0 0], .agg ((⟨4, (i : Int), 0, 2 + (i : Int), 0, List.replicate 32 0, [], []⟩ : Mg).l (.slice none 0 0) (.slice none 0 0)).toArray] wr fun e w' => ∃ v', e = .returned (.tuple #[v', .int .i64 0]) ∧ NewB wr w' v' (sS19 i) := by
        have := seal9_any ks17 (mS i) (.slice Ak ks17.length ck) (.slice none 0 0) (.slice none 0 0) (.slice none 0 0) _ nob nob wr hKr (mS_in hlt) (mS_sm i) ks17_sm (HK2.out.below hD) (Rd.nil _ _) (Rd.nil _ _)
        rw [mS_err hlt, if_pos rfl] at this
        exact this
      have Hse := hid hse
      have htk : ∀ (u : Value) (F : Nat → Prop) (Y : World), KS Y → SX Y xv M N ks17 ⟨0, 15⟩ (wS i) → Rd Y F u (bys (sS19 i)) → Calls Tryz.prog 15 #[xv, u] Y fun e w' => e = .returned (.int .i64 0) ∧ ∃ M', SP Y M w' xv N ks17 ⟨0, 15⟩ (wS (i + 1)) M' := by
        intro u F Y h1 h2 h3
        have := stake19_any xv M N ks17 ⟨0, 15⟩ (wS i) (sS19 i) u F Y h1 ks17_sm h2 h3 (by omega)
        rw [(ts_W19 hlt).1, (ts_W19 hlt).2] at this
        exact this
      have Htk := hid htk
      obtain ⟨lm, hlm⟩ : ∃ l, l = (⟨4, (i : Int), 0, 2 + (i : Int), 0, List.replicate 32 0, [], []⟩ : Mg).l (.slice none 0 0) (.slice none 0 0) := ⟨_, rfl⟩
      rw [← hlm] at hbm Hse
      obtain ⟨S, hS⟩ : ∃ S, S = sS19 i := ⟨_, rfl⟩
      rw [← hS] at Hse Htk hsl
      clear hlm hS hse htk
      go_wp2_with (first | refine wp_ld 40 (.tmp 1) rfl rfl rfl b1.whole Tryz.underlying40 rfl (by rw [Lk.out]; exact sizeKs19) ?_ | refine wp_bld 47 [(0, .const (.int .i64 4)), (1, .tmp 16), (3, .tmp 18)] rfl rfl [(0, .int .i64 4), (1, .int .i64 (i : Int)), (3, .int .i64 (2 + (i : Int)))] rfl hbm ?_)
      rw [Hlk.out]
      refine (Hse.out).mono ?_
      rintro e w4 ⟨v4, rfl, ho4, hB4⟩
      have hv4 := (Rd.of_own ho4)
      obtain ⟨A4, c4, rfl⟩ := own_shape ho4
      have hD4 := hD.trans (hB4.mono hD.size)
      have hK4 := hKr.below hB4
      have hx4 := Hx.out.1.below hB4
      have hM4 := Hx.out.2
      clear hB4 ho4 Hse hbm b1 hw
      go_wp2_with (fail)
      refine (Htk.out _ _ _ hK4 hx4 hv4).mono ?_
      rintro e w5 ⟨rfl, M5, hP⟩
      have hD5 := Ch.below_of hD4 hP.c hM4 hD4.size
      have hM5 : ∀ b, M5 b → w2.heap.size ≤ b := fun b h => by
        rcases hP.m b h with h | h
        · exact hM4 b h
        · have := hD4.size; omega
      have hx5 := hP.x
      clear hP Htk hv4
      go_wp2
      go_roundw
      case rel => exact ⟨i + 1, M5, by omega, by go_num, hid ⟨hx5, hM5⟩, hD5⟩
      case measure => simp [intOf]; omega
    · have hi' : i = 2 := by omega
      subst hi'
      have hI : ¬ (2 : Int) < 2 := by omega
      have hso := hid (fun Y h => ssome19_any xv M N ks17 ⟨0, 15⟩ (wS 2) 0 Y ⟨by omega, by omega⟩ h)
      have hen := hid (fun Y h => senough19_any xv M N ks17 ⟨0, 15⟩ (wS 2) 0 Y ⟨by omega, by omega⟩ h)
      have hct := hid (fun Y h => scount19_3 xv M N ks17 ⟨0, 15⟩ (wS 2) Y h)
      rw [gr_W19.1] at hso
      rw [gr_W19.2.1] at hen
      rw [gr_W19.2.2] at hct
      have hx := Hx.out.1
      clear b1
      go_wp2_with (fail)
      refine (hso.out _ hx).mono ?_
      rintro e w6 ⟨rfl, hB6⟩
      have hx := hx.below hB6
      have hBr := hBr.trans (hB6.mono hBr.size)
      clear hB6
      go_wp2_with (fail)
      refine (hen.out _ hx).mono ?_
      rintro e w7 ⟨rfl, hB7⟩
      have hx := hx.below hB7
      have hBr := hBr.trans (hB7.mono hBr.size)
      clear hB7
      go_wp2_with (fail)
      refine (hct.out _ hx).mono ?_
      rintro e w8 ⟨rfl, hB8⟩
      have hBr := hBr.trans (hB8.mono hBr.size)
      clear hB8
      go_wp2
      go_ret
      exact ⟨by simp, hBr⟩
end Go.Proofs.YtnhhbbjkeekneaaGreatDoor
/- Xb: layer 19: StopsBound. -/
namespace Go.Proofs.YtnhhbbjkeekneaaGreatDoor
open Go.RowKit Go.V
theorem zeroBi : (Tryz.prog.info? 51).map (·.zero) = some (some (.agg (bdL zBd (.slice none 0 0)).toArray)) := by kernel_rfl
theorem sizeAk9 : (Tryz.prog.info? 27).map (·.size) = some 5 := by kernel_rfl
theorem sizeVx19 : (Tryz.prog.info? 24).map (·.size) = some 2 := by kernel_rfl
theorem zCi_hl : zCi.h = false ∧ zCi.l = 0 := ⟨rfl, rfl⟩
set_option maxRecDepth 100000 in
set_option maxHeartbeats 16000000 in
theorem stopsBound_law (n : Int) (M : Nat) (fi rg : Int) (R : List Hx) (P : List (List UInt8)) (ur pv : Value) (FR H : Nat → Prop) (w : World) (hKS : KS w) (hn : in64w n) (hM : M < 65536) (_hfi : in64w fi) (hrg : in64w rg) (hR : Rd w FR ur (wds hxD R)) (hp : Rd w H pv (tx P)) :
    Calls Tryz.prog 4 #[.agg #[.int .i64 n, .int .u16 (M : Int), .int .i64 fi, .int .i64 rg, ur], pv] w fun e w' => e = .returned (.bool true) ∧ Below w.heap.size w w' := by
  obtain ⟨A, c, rfl, hcA, hcm⟩ := hp.slShape
  obtain ⟨AR, cR, rfl, _, _⟩ := wds_shape hR
  have b2 := Blk.new' w 27 [.int .i64 n, .int .u16 (M : Int), .int .i64 fi, .int .i64 rg, .slice AR R.length cR]
  have hB : Below w.heap.size w (w.alloc (.cells #[.int .i64 n, .int .u16 (M : Int), .int .i64 fi, .int .i64 rg, .slice AR R.length cR] 27)) := (Below.refl _ _).alloc (Nat.le_refl _) _
  have Hlo := hid (fun Y h => long19_any P (.slice A P.length c) H Y h)
  have hkf := hid (fun Y => keys19_any (.int .i64 n) (.int .u16 (M : Int)) (.int .i64 fi) (.int .i64 rg) AR R.length cR Y)
  go_enter Tryz.func4, Tryz.ntmps4
  go_wp2_with (fail)
  obtain ⟨w0, hw0⟩ : ∃ x, x = w.alloc (.cells #[.int .i64 n, .int .u16 (M : Int), .int .i64 fi, .int .i64 rg, .slice AR R.length cR] 27) := ⟨_, rfl⟩
  rw [← hw0] at b2 hB ⊢
  obtain ⟨g2, hg2⟩ : ∃ g, g = w.heap.size := ⟨_, rfl⟩
  rw [← hg2] at b2 ⊢
  clear hw0 hg2
  refine (wakes19_any _ (hKS.below hB)).mono ?_
  rintro e w1 ⟨rfl, hB1⟩
  have b2 := b2.below hB1
  have hB := hB.trans (hB1.mono hB.size)
  clear hB1
  go_wp2_with (fail)
  refine (Hlo.out _ (hp.below hB)).mono ?_
  rintro e w2 ⟨rfl, hB2⟩
  have b2 := b2.below hB2
  have hB := hB.trans (hB2.mono hB.size)
  have c2 := b2.cellAt 2 _ rfl
  have c4 := b2.cellAt 4 _ rfl
  clear hB2 Hlo
  cases hL : longS P with
  | true =>
    clear hL
    go_wp2
    go_ret
    exact ⟨rfl, hB⟩
  | false =>
    obtain ⟨h24, h6000⟩ := longS_bd hL
    have H6 := hid h6000
    clear hL h6000
    by_cases hr10 : 10 < R.length
    · have hrI : (10 : Int) < (R.length : Int) := by omega
      go_wp2
      go_ret
      exact ⟨rfl, hB⟩
    have hrI : ¬ (10 : Int) < (R.length : Int) := by omega
    by_cases hf1 : 1000 < fi
    · go_wp2
      go_ret
      exact ⟨rfl, hB⟩
    by_cases hf2 : fi < -1000
    · go_wp2
      go_ret
      exact ⟨rfl, hB⟩
    have hch := hid (fun (uk : Value) (Y : World) (h1 : KS Y) {F : Nat → Prop} (h2 : Rd Y F uk (tx ks17)) (h3 : Rd Y FR (.slice AR R.length cR) (wds hxD R)) (h4 : Rd Y H (.slice A P.length c) (tx P)) => (show Calls Tryz.prog 7 #[.agg #[uk, .slice AR R.length cR], .agg #[.int .i64 n, .int .u16 (M : Int)], .int .i64 fi, .int .i64 rg, .slice A P.length c] Y (ChQ Y (choC ks17 R ⟨n, M⟩ fi rg P)) from cchoose19_any ks17 R ⟨n, M⟩ fi rg P uk _ _ F FR H Y h1 ks17_sm h2 h3 ⟨hn, hM⟩ h4 (by omega) (fun X hX => by have := H6.out X hX; omega) hrg ⟨by omega, by omega⟩))
    have hva := hid (fun (m : Mg) (uk ub up : Value) (Y : World) (h1 : KS Y) {F G H : Nat → Prop} (h2 : Rd Y F uk (tx ks17)) (h3 : Rd Y FR (.slice AR R.length cR) (wds hxD R)) (hm : MgIn m) (h5 : Rd Y G ub (bys m.b)) (h6 : Rd Y H up (tx m.ps)) (h7 : m.b.length ≤ 1000000) (h8 : ∀ X ∈ m.ps, X.length ≤ 1000000) (h9 : m.ps.length ≤ 1000) (h10 : -1000000000000 ≤ m.s ∧ m.s ≤ 1000000000000) => (show Calls Tryz.prog 12 #[.agg #[uk, .slice AR R.length cR], .agg #[.int .i64 n, .int .u16 (M : Int)], .int .i64 fi, .agg (m.l ub up).toArray] Y (VaP Y G (valC ks17 R ⟨n, M⟩ fi m)) from cvalid19_any ks17 R ⟨n, M⟩ fi m uk _ ub up F FR G H Y h1 ks17_sm h2 h3 ⟨hn, hM⟩ hm h5 h6 h7 h8 h9 h10 ⟨by omega, by omega⟩))
    have hbad := hid (fun h => cho_bad (ks := ks17) (R := R) (V := ⟨n, M⟩) (first := fi) (reg := rg) (P := P) h)
    have heach := hid (fun h X hX => cho_each (ks := ks17) (R := R) (V := ⟨n, M⟩) (first := fi) (reg := rg) (P := P) h (X := X) hX)
    obtain ⟨ch, hch2⟩ : ∃ x, x = choC ks17 R ⟨n, M⟩ fi rg P := ⟨_, rfl⟩
    have Hd32 : Hid (ch.1.d.length = 32) := hid (by rw [hch2]; exact cho_len _ _ _ _ _ _)
    rw [← hch2] at hch hbad heach
    obtain ⟨vl, hvl⟩ : ∃ f : Mg → Int × Bd, f = valC ks17 R ⟨n, M⟩ fi := ⟨_, rfl⟩
    have Hvd := hid (fun m => val_len ks17 R ⟨n, M⟩ fi m)
    rw [← hvl] at heach hva Hvd
    clear hch2 hvl hn hM hrg
    have XA := b2.whole
    go_wp2_with (first | refine wp_ld 27 (.tmp 2) rfl rfl rfl XA Tryz.underlying27 rfl sizeAk9 ?_)
    refine (hkf.out _).mono ?_
    rintro e w3 ⟨uk, rfl, hk, hB3⟩
    have hw3 := hB.size
    have b2 := b2.below hB3
    have hB := hB.trans (hB3.mono hB.size)
    obtain ⟨Ak, ck, rfl, _, _⟩ := hk.slShape
    clear XA c2 c4 hkf hB3
    go_wp2_with (first | (refine wp_newst 40 5 (.tmp 35) rfl rfl rfl rfl rfl rfl zeroKs17 (l := [.slice Ak ks17.length ck, .slice AR R.length cR]) rfl rfl sizeKs19 (by intro v hv; simp at hv; rcases hv with rfl | rfl <;> rfl) (by simp) ?_; intro w4 b5 hB4 hs4; refine wp_stop ?_))
    have b2 := b2.below hB4
    have hk := hk.below hB4
    have hB := hB.trans (hB4.mono hB.size)
    obtain ⟨g5, hg5⟩ : ∃ g, g = w3.heap.size := ⟨_, rfl⟩
    rw [← hg5] at b5 ⊢
    obtain ⟨lk, hlk⟩ : ∃ l : List Value, l = [.slice Ak ks17.length ck, .slice AR R.length cR] := ⟨_, rfl⟩
    have Lk : Hid (lk.length = 2) := hid (by rw [hlk]; rfl)
    have Hlk := hid hlk
    rw [← hlk] at b5
    have XV := b2.range 0 [.int .i64 n, .int .u16 (M : Int)] (fun j v hv => by
      match j with
      | 0 => simpa using hv
      | 1 => simpa using hv
      | j + 2 => simp at hv)
    have c2 := b2.cellAt 2 _ rfl
    have c3 := b2.cellAt 3 _ rfl
    have hKr := hKS.below hB
    have hRr := hR.below hB
    have hpr := hp.below hB
    clear hlk hs4 hB4 hg5
    refine wp_go ?_
    go_wp2_with (first | refine wp_ld 40 (.tmp 5) rfl rfl rfl b5.whole Tryz.underlying40 rfl (by rw [Lk.out]; exact sizeKs19) ?_ | refine wp_ld 24 (.tmp 38) rfl rfl rfl XV Tryz.underlying24 rfl sizeVx19 ?_)
    rw [Hlk.out]
    refine (hch.out _ _ hKr hk hRr hpr).mono ?_
    rintro e w5 ⟨ub, rfl, hub, hB5⟩
    obtain ⟨Ab, cb, rfl⟩ := hub.shape
    have b2 := b2.below hB5
    have b5 := b5.below hB5
    have hk := hk.below hB5
    have hB := hB.trans (hB5.mono hB.size)
    have Lc := hid (len_ci Hd32.out (.slice Ab ch.1.b.length cb))
    have Oc := hid (one_ci (x := ch.1) (A := Ab) (n := ch.1.b.length) (c := cb))
    have Hc0 : Hid ((ciL ch.1 (.slice Ab ch.1.b.length cb))[0]? = some (.int .i64 ch.1.l)) := hid rfl
    have Hc1 : Hid ((ciL ch.1 (.slice Ab ch.1.b.length cb))[1]? = some (.bool ch.1.h)) := hid rfl
    obtain ⟨lc, hlc⟩ : ∃ l, l = ciL ch.1 (.slice Ab ch.1.b.length cb) := ⟨_, rfl⟩
    rw [← hlc] at Lc Oc Hc0 Hc1 ⊢
    clear hlc hub XV c2 c3 hch hKr hRr hpr hB5 Hd32
    go_wp2_with (first | (refine wp_newst 35 6 (.tmp 46) rfl rfl rfl rfl rfl rfl zeroCi (l := lc) rfl (by rw [Lc.out]; exact len_ci (x := zCi) rfl _) (by rw [Lc.out]; exact sizeCi) Oc.out (by simp) ?_; intro w6 b6 hB6 hs6; refine wp_stop ?_))
    have b2 := b2.below hB6
    have b5 := b5.below hB6
    have hk := hk.below hB6
    have hB := hB.trans (hB6.mono hB.size)
    obtain ⟨g6, hg6⟩ : ∃ g, g = w5.heap.size := ⟨_, rfl⟩
    rw [← hg6] at b6 ⊢
    obtain ⟨er, her⟩ : ∃ x, x = ch.2 := ⟨_, rfl⟩
    rw [← her] at hbad heach ⊢
    have k0 := b6.cellAt 0 _ Hc0.out
    have k1 := b6.cellAt 1 _ Hc1.out
    clear hs6 hB6 hg6 her
    refine wp_go ?_
    by_cases he0 : er = 0
    · have Heach := hid (heach.out he0)
      obtain ⟨cl, hcl⟩ : ∃ x, x = ch.1.l := ⟨_, rfl⟩
      obtain ⟨cbd, hcb⟩ : ∃ x, x = ch.1.h := ⟨_, rfl⟩
      rw [← hcl] at Heach Hc0 k0
      rw [← hcb] at Heach Hc1 k1
      subst he0
      have B2 := hid b2
      have B5 := hid b5
      have B6 := hid b6
      have HK := hid hk
      have hs6 := hB.size
      clear hcl hcb hbad heach b2 b5 b6 hk k0 k1
      go_wp2
      go_loopw [60] (fun iv wr => ∃ j : Nat, j ≤ P.length ∧ iv = .int .i64 j ∧ Below w6.heap.size w6 wr) (fun j _ => P.length - (intOf j).toNat)
      case atStart => exact ⟨0, Nat.zero_le _, rfl, Below.refl _ _⟩
      case round =>
        obtain ⟨j, hj, rfl, hD⟩ := hrel
        have hBx := hB.trans (hD.mono hs6)
        by_cases hlt : j < P.length
        · have hI : (j : Int) < (P.length : Int) := by omega
          obtain ⟨X, hX⟩ : ∃ X, P[j]? = some X := ⟨_, List.getElem?_eq_getElem hlt⟩
          obtain ⟨gp, offp, u, hAp, _, hcu, hu⟩ := Rd.elem (hp.below hBx) j (bys X) (by rw [List.getElem?_map, hX]; rfl)
          subst hAp
          obtain ⟨Au, cu, rfl⟩ := hu.shape
          have hXl := H6.out X (List.mem_of_getElem? hX)
          obtain ⟨m, hop, hv0, hvl, hvh⟩ := Heach.out X (List.mem_of_getElem? hX)
          have Hop := hid (open9_any ks17 X (.slice Ak ks17.length ck) (.slice AR R.length cR) (.slice Au X.length cu) _ _ wr (hKS.below hBx) ks17_sm (HK.out.below hD) hu (by omega))
          rw [hop] at Hop
          obtain ⟨hmi, _, _, _, _, hms0, hms1⟩ := op_in hop
          obtain ⟨hmb, hmp, hmt⟩ := op_bd hop
          have Hmi := hid hmi
          have b5 := B5.out.below hD
          have hlt2 := hlt
          clear hX hop hmi
          go_wp2_with (first | refine wp_ld 40 (.tmp 5) rfl rfl rfl b5.whole Tryz.underlying40 rfl (by rw [Lk.out]; exact sizeKs19) ?_)
          rw [Hlk.out]
          refine (Hop.out).mono ?_
          rintro e w7 ⟨⟨xb, xp, rfl, hxb, hxp⟩, hB7⟩
          obtain ⟨Ab2, cb2, rfl⟩ := hxb.shape
          obtain ⟨Ap2, cp2, rfl, _, _⟩ := hxp.slShape
          have hD7 := hD.trans (hB7.mono hD.size)
          have Lm := hid (len_mg Hmi.out.h (.slice Ab2 m.b.length cb2) (.slice Ap2 m.ps.length cp2))
          have Om := hid (mg_one m Ab2 Ap2 m.b.length cb2 m.ps.length cp2)
          have hmv : m.val (.slice Ab2 m.b.length cb2) (.slice Ap2 m.ps.length cp2) = .agg (m.l (.slice Ab2 m.b.length cb2) (.slice Ap2 m.ps.length cp2)).toArray := rfl
          rw [hmv]
          obtain ⟨lm, hlm⟩ : ∃ l, l = m.l (.slice Ab2 m.b.length cb2) (.slice Ap2 m.ps.length cp2) := ⟨_, rfl⟩
          rw [← hlm] at Lm Om ⊢
          have Hlm := hid hlm
          clear hlm hmv Hop b5 hB7 hcu hu
          go_wp2_with (first | (refine wp_newst 47 10 (.tmp 68) rfl rfl rfl rfl rfl rfl zeroM (l := lm) rfl (by rw [Lm.out]; exact len_zM) (by rw [Lm.out]; exact sizeM) Om.out (by simp) ?_; intro w8 b10 hB8 hs8; refine wp_stop ?_))
          have hxb := hxb.below hB8
          have hxp := hxp.below hB8
          have hD8 := hD7.trans (hB8.mono hD7.size)
          obtain ⟨g10, hg10⟩ : ∃ g, g = w7.heap.size := ⟨_, rfl⟩
          rw [← hg10] at b10 ⊢
          have b5 := B5.out.below hD8
          have b2 := B2.out.below hD8
          have XV := b2.range 0 [.int .i64 n, .int .u16 (M : Int)] (fun j v hv => by
            match j with
            | 0 => simpa using hv
            | 1 => simpa using hv
            | j + 2 => simp at hv)
          have c2 := b2.cellAt 2 _ rfl
          have hBy := hB.trans (hD8.mono hs6)
          have Hva := hid (hva.out m (.slice Ak ks17.length ck) (.slice Ab2 m.b.length cb2) (.slice Ap2 m.ps.length cp2) w8 (hKS.below hBy) (HK.out.below hD8) (hR.below hBy) Hmi.out hxb hxp (by omega) (fun Y hY => by have := hmt Y hY; omega) (by omega) ⟨by omega, by omega⟩)
          rw [← Hlm.out] at Hva
          clear hs8 hB8 hg10 hD7 hD
          refine wp_go ?_
          go_wp2_with (first | refine wp_ld 40 (.tmp 5) rfl rfl rfl b5.whole Tryz.underlying40 rfl (by rw [Lk.out]; exact sizeKs19) ?_ | refine wp_ld 24 (.tmp 72) rfl rfl rfl XV Tryz.underlying24 rfl sizeVx19 ?_ | refine wp_ld 47 (.tmp 10) rfl rfl rfl b10.whole Tryz.underlying47 rfl (by rw [Lm.out]; exact sizeM) ?_)
          rw [Hlk.out]
          refine (Hva.out).mono ?_
          rintro e w9 ⟨ub, rfl, hub, hB9⟩
          obtain ⟨Ad, cd, rfl⟩ := hub.shape
          have hD9 := hD8.trans (hB9.mono hD8.size)
          have Ld := hid (len_bd (Hvd.out m) (.slice Ad (vl m).2.b.length cd))
          have Od := hid (one_bd (x := (vl m).2) (A := Ad) (n := (vl m).2.b.length) (c := cd))
          have Hb0 := hid (bd_l (vl m).2 (.slice Ad (vl m).2.b.length cd))
          have Hb1 := hid (bd_h (vl m).2 (.slice Ad (vl m).2.b.length cd))
          obtain ⟨ld, hld⟩ : ∃ l, l = bdL (vl m).2 (.slice Ad (vl m).2.b.length cd) := ⟨_, rfl⟩
          rw [← hld] at Ld Od Hb0 Hb1 ⊢
          rw [hv0]
          clear hld b5 b2 XV c2 Hva hub hxb hxp b10 hB9 hD8
          go_wp2_with (first | (refine wp_newst 51 12 (.tmp 78) rfl rfl rfl rfl rfl rfl zeroBi (l := ld) rfl (by rw [Ld.out]; exact len_bd (x := zBd) rfl _) (by rw [Ld.out]; exact sizeBd19) Od.out (by simp) ?_; intro w10 b12 hB10 hs10; refine wp_stop ?_))
          have hDa := hD9.trans (hB10.mono hD9.size)
          have b6 := B6.out.below hDa
          have k0 := b6.cellAt 0 _ Hc0.out
          have k1 := b6.cellAt 1 _ Hc1.out
          obtain ⟨g12, hg12⟩ : ∃ g, g = w9.heap.size := ⟨_, rfl⟩
          rw [← hg12] at b12 ⊢
          obtain ⟨bl, hbl⟩ : ∃ x, x = (vl m).2.l := ⟨_, rfl⟩
          obtain ⟨bh, hbh⟩ : ∃ x, x = (vl m).2.h := ⟨_, rfl⟩
          rw [← hbl] at hvl hvh Hb0
          rw [← hbh] at hvh Hb1
          have d0 := b12.cellAt 0 _ Hb0.out
          have d1 := b12.cellAt 1 _ Hb1.out
          have hgt : ¬ cl < bl := by omega
          clear hs10 hB10 hg12 hbl hbh hD9
          refine wp_go ?_
          by_cases heq : bl = cl
          · have heqb : (bl == cl) = true := by rw [heq]; simp
            cases bh with
            | false =>
              clear hvh heq
              go_wp2
              go_roundw
              case rel => exact ⟨j + 1, by omega, by go_num, hDa⟩
              case measure => simp [intOf]; omega
            | true =>
              have hcb := hvh heq rfl
              subst hcb
              clear hvh heq
              go_wp2
              go_roundw
              case rel => exact ⟨j + 1, by omega, by go_num, hDa⟩
              case measure => simp [intOf]; omega
          · have heqb : (bl == cl) = false := by rw [beq_eq_false_iff_ne]; exact heq
            clear hvh heq
            go_wp2
            go_roundw
            case rel => exact ⟨j + 1, by omega, by go_num, hDa⟩
            case measure => simp [intOf]; omega
        · have hI : ¬ (j : Int) < (P.length : Int) := by omega
          go_wp2
          go_ret
          exact ⟨rfl, hBx⟩
    · have hz := hbad.out he0
      have hneb : (er != 0) = true := bneN he0
      rw [hz, zCi_hl.2] at k0
      rw [hz, zCi_hl.1] at k1
      clear hz he0 hbad heach
      go_wp2
      go_ret
      exact ⟨by simp, hB⟩
end Go.Proofs.YtnhhbbjkeekneaaGreatDoor
/- SB: contracts of the document's All and Chain. -/
namespace Go.Proofs.YtnhhbbjkeekneaaGreatDoor
open Go.RowKit Go.V

end Go.Proofs.YtnhhbbjkeekneaaGreatDoor
/- SL: the laws of layer 2: what each law's Go function comes to. -/
namespace Go.Proofs.YtnhhbbjkeekneaaGreatDoor
open Go.RowKit Go.V

end Go.Proofs.YtnhhbbjkeekneaaGreatDoor
