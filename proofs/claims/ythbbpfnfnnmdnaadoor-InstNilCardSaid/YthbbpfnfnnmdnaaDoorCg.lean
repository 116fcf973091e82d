/- Cg: layer 17, the document's side: contract of ref08.Get over any bytes. -/
import Derived.Test.YthbbpfnfnnmdnaaDoorLW
import Derived.Test.YthbbpfnfnnmdnaaDoorCr
import Derived.Test.YthbbpfnfnnmdnaaDoorI5
import Derived.Test.YthbbpfnfnnmdnaaDoorNE
import Derived.Test.YthbbpfnfnnmdnaaDoorS9
import Derived.Deep.DeepCutAuto
import Derived.Deep.RegionHeld3
namespace Go.V
open Go.RowKit
/-- a struct's literal, in a region that draws its order -/
theorem yi_bld {P : Program} {ops : Array Oper} {S : World → Prop} {o : Oper} {a : Act} (hw : Region.wanted o (yielded ops a.tmps) = true) (t : TypeId) (parts : List (Nat × Operand)) (ho : o.op = .build t parts.toArray) (vs : List (Nat × Value)) (hp : (parts.map fun x => (x.1, a.eval x.2)) = vs) {cells : Array Value} (hr : ∀ W : World, (Instr.build t vs.toArray).run P W = .ok (.agg cells) W) :
    YieldsIf P ops S o (.agg cells) a := by
  refine .inl ⟨hw, fun w _ => ?_⟩
  have e : (parts.toArray.map fun (i, x) => (i, a.eval x)) = vs.toArray := by rw [List.map_toArray, ← hp]
  unfold execOp
  simp only [ho, e, Sem.run_bind, Sem.run_pure, hr, Result.andThen_ok]
end Go.V
namespace Go.Proofs.YthbbpfnfnnmdnaaDoor
open Go.RowKit Go.V
/-- a message's head while it is read: its cells -/
def hdL (k f v r s : Int) (h : List UInt8) (ub up : Value) : List Value := (⟨k, f, v, r, s, h, [], []⟩ : Mg).l ub up
theorem bldHd (a b : Int) : ∀ W : World, (Instr.build 59 [(0, .int .i64 a), (1, .int .i64 b)].toArray).run Tryd.prog W = .ok (.agg (hdL a b 0 0 0 (List.replicate 32 0) (.slice none 0 0) (.slice none 0 0)).toArray) W := fun _ => by kernel_rfl
theorem one_hd (k f v r s : Int) (h : List UInt8) (A B : Option Addr) (n c d e : Nat) : ∀ x ∈ hdL k f v r s h (.slice A n c) (.slice B d e), x.oneCell' = true := one_mg
set_option maxRecDepth 100000 in
theorem bldG0 (k f v r s : Int) (h : List UInt8) (hh : h.length = 32) (A B : Option Addr) (n c d e : Nat) : ∀ W : World, (Instr.build 96 [(0, .agg (hdL k f v r s h (.slice A n c) (.slice B d e)).toArray)].toArray).run Tryd.prog W = .ok (.agg (gM (hdL k f v r s h (.slice A n c) (.slice B d e)) 0).toArray) W := by
  match h, hh with
  | [a0, a1, a2, a3, a4, a5, a6, a7, a8, a9, a10, a11, a12, a13, a14, a15, a16, a17, a18, a19, a20, a21, a22, a23, a24, a25, a26, a27, a28, a29, a30, a31], _ => intro W; kernel_rfl
theorem bvs_set (h : List UInt8) (j : Nat) (x : UInt8) : (bvs h).set j (.int .u8 (x.toNat : Int)) = bvs (h.set j x) := by unfold bvs; rw [List.map_set]; rfl
theorem hd_set (k f v r s : Int) (h : List UInt8) (ub up : Value) (j : Nat) (hj : j < h.length) (x : UInt8) : (hdL k f v r s h ub up).set (5 + j) (.int .u8 (x.toNat : Int)) = hdL k f v r s (h.set j x) ub up := by
  unfold hdL Mg.l
  rw [show 5 + j = j + 1 + 1 + 1 + 1 + 1 from by omega]
  simp only [List.set_cons_succ]
  rw [List.set_append_left _ _ (by rw [len_bvs]; exact hj), bvs_set]
theorem fill_set (l : List UInt8) (i n : Nat) (hi : i < n) (hl : n ≤ l.length) : (l.take i ++ List.replicate (n - i) 0).set i (l[i]'(by omega)) = l.take (i + 1) ++ List.replicate (n - (i + 1)) 0 := by
  rw [List.set_append_right _ _ (by rw [List.length_take]; omega), List.length_take, show i - min i l.length = 0 from by omega, show n - i = (n - (i + 1)) + 1 from by omega, List.replicate_succ, List.set_cons_zero, List.take_succ_eq_append_getElem (by omega), List.append_assoc]
  rfl
set_option maxRecDepth 100000 in
set_option maxHeartbeats 4000000 in
theorem rget8_any (v : Value) (X : List UInt8) (F : Nat → Prop) (w : World) (hv : Rd w F v (bys X)) (hX : X.length ≤ 1000000) :
    Calls Tryd.prog 69 #[v] w (RdP w (getR X)) := by
  have hbl := bldG8
  obtain ⟨A, c, rfl⟩ := hv.shape
  have hz := Blk.new' w 96 (gM zM 0)
  have hB : Below w.heap.size w (w.alloc (.cells (gM zM 0).toArray 96)) := (Below.refl _ _).alloc (Nat.le_refl _) _
  have hv := hv.below hB
  have h4 : 65504 < X.length → getR X = .error 4 := fun h => by unfold getR; rw [if_pos h]
  have h1 : ¬ 65504 < X.length → X.length < 40 → getR X = .error 1 := fun h h' => by unfold getR; rw [if_neg h]; exact rd_short h'
  have hh : ¬ 65504 < X.length → getR X = rdM X := fun h => by unfold getR; rw [if_neg h]
  obtain ⟨r, hr⟩ : ∃ r, r = getR X := ⟨_, rfl⟩
  rw [← hr] at h4 h1 hh ⊢
  have H4 := hid h4
  have H1 := hid h1
  have HH := hid hh
  have hlz := hid (len_gM len_zM 0)
  have hlz1 := hid (len_gM len_zM)
  have hoz := hid (one_gM one_zM8)
  clear hr h4 h1 hh
  go_enter Tryd.func69, Tryd.ntmps69
  go_wp2_with (refine wp_new 96 rfl rfl zeroG8 ?_; refine wp_stop ?_)
  obtain ⟨w0, hw0⟩ : ∃ x, x = w.alloc (.cells (gM zM 0).toArray 96) := ⟨_, rfl⟩
  rw [← hw0] at hz hB hv ⊢
  clear hw0
  have hv := hv.weak (F' := fun b => b < w0.heap.size) (fun b hb _ => hb)
  obtain ⟨g2, hg2⟩ : ∃ g, g = w.heap.size := ⟨_, rfl⟩
  rw [← hg2] at hz ⊢
  have hgw : w.heap.size ≤ g2 := by omega
  clear hg2
  have HERR : Hid (∀ (k : Nat) (W : World), r = .error k → Below w.heap.size w W → RdP w r (.returned (.agg (gM zM k).toArray)) W) := hid (fun k W h hb => by rw [h]; exact ⟨rfl, hb⟩)
  refine wp_go ?_
  by_cases h4 : 65504 < X.length
  · have hI : (65504 : Int) < (X.length : Int) := by omega
    have HO := hid (H4.out h4)
    have hb1 := hbl 4
    have ho1 := hid (hoz.out 4)
    have hl1 := hid (hlz1.out 4)
    have HE := hid (HERR.out 4 · HO.out)
    obtain ⟨l1, hle⟩ : ∃ l, l = gM zM 4 := ⟨_, rfl⟩
    rw [← hle] at hb1 ho1 hl1 HE
    clear h4 hle hbl hoz hlz1 HERR HO H4 H1 HH
    go_wp2_with (first | refine wp_bld 96 [(1, .const (.int .i64 4))] rfl rfl [(1, .int .i64 4)] rfl hb1 ?_ | refine wp_st 96 (.tmp 2) (.tmp 13) rfl rfl rfl (f := 0) rfl (l := l1) rfl hz (by rw [hlz.out, hl1.out]; omega) (by rw [hl1.out]; exact sizeG8) ho1.out ?_; intro w3 hz3 hG3; refine wp_stop ?_)
    rw [set_all _ _ (by rw [hlz.out, hl1.out])] at hz3
    refine wp_go ?_
    go_wp2
    refine ret_cell rfl rfl hz3.whole Tryd.underlying96 rfl (by rw [hl1.out]; exact sizeG8) rfl ?_
    exact HE.out _ (hB.grown hG3 hB.size (fun k hk => by injection hk with hk; omega))
  have hI : ¬ (65504 : Int) < (X.length : Int) := by omega
  by_cases h40 : X.length < 40
  · have hI2 : (X.length : Int) < 40 := by omega
    have HO := hid (H1.out h4 h40)
    have hb1 := hbl 1
    have ho1 := hid (hoz.out 1)
    have hl1 := hid (hlz1.out 1)
    have HE := hid (HERR.out 1 · HO.out)
    obtain ⟨l1, hle⟩ : ∃ l, l = gM zM 1 := ⟨_, rfl⟩
    rw [← hle] at hb1 ho1 hl1 HE
    clear h4 h40 hle hbl hoz hlz1 HERR HO H4 H1 HH
    go_wp2_with (first | refine wp_bld 96 [(1, .const (.int .i64 1))] rfl rfl [(1, .int .i64 1)] rfl hb1 ?_ | refine wp_st 96 (.tmp 2) (.tmp 17) rfl rfl rfl (f := 0) rfl (l := l1) rfl hz (by rw [hlz.out, hl1.out]; omega) (by rw [hl1.out]; exact sizeG8) ho1.out ?_; intro w3 hz3 hG3; refine wp_stop ?_)
    rw [set_all _ _ (by rw [hlz.out, hl1.out])] at hz3
    refine wp_go ?_
    go_wp2
    refine ret_cell rfl rfl hz3.whole Tryd.underlying96 rfl (by rw [hl1.out]; exact sizeG8) rfl ?_
    exact HE.out _ (hB.grown hG3 hB.size (fun k hk => by injection hk with hk; omega))
  have hI2 : ¬ (X.length : Int) < 40 := by omega
  have HR := hid ((HH.out h4).trans (rd_head (by omega)))
  have hn : 40 ≤ X.length ∧ X.length ≤ 65504 := by omega
  have hI0 : (0 : Int) < (X.length : Int) := by omega
  have hI1 : (1 : Int) < (X.length : Int) := by omega
  have hN0 : 0 < X.length := by omega
  have hN1 : 1 < X.length := by omega
  obtain ⟨g0, off, rfl, hF0, hc0⟩ := hv.byteAt 0 (by omega)
  obtain ⟨g0', off', he, hF1, hc1⟩ := hv.byteAt 1 (by omega)
  injection he with he
  injection he with he1 he2
  subst he1 he2
  have hd0 : X[0]'(by omega) = X.getD 0 0 := by rw [List.getD_eq_getElem?_getD, List.getElem?_eq_getElem (by omega)]; rfl
  have hd1 : X[1]'(by omega) = X.getD 1 0 := by rw [List.getD_eq_getElem?_getD, List.getElem?_eq_getElem (by omega)]; rfl
  rw [hd0, Nat.add_zero] at hc0
  rw [hd1] at hc1
  obtain ⟨x0, hx0⟩ : ∃ x, x = (X.getD 0 0).toNat := ⟨_, rfl⟩
  obtain ⟨x1, hx1⟩ : ∃ x, x = (X.getD 1 0).toNat := ⟨_, rfl⟩
  rw [← hx0] at hc0
  rw [← hx1] at hc1
  have hx0l : x0 < 256 := by rw [hx0]; exact (X.getD 0 0).toNat_lt
  have hx1l : x1 < 256 := by rw [hx1]; exact (X.getD 1 0).toNat_lt
  have hw0x : IntKind.i64.wrap (x0 : Int) = (x0 : Int) := IntWalk.i64_in _ (by omega)
  have hw1x : IntKind.i64.wrap (x1 : Int) = (x1 : Int) := IntWalk.i64_in _ (by omega)
  have Hx0 := hid hx0
  have Hx1 := hid hx1
  have HC0 := hid (fun W (h : Ch nob w0 W) => (h.below.cell (lt_of_cell hc0)).trans hc0)
  have HC1 := hid (fun W (h : Ch nob w0 W) => (h.below.cell (lt_of_cell hc1)).trans hc1)
  have hbm := bldHd (x0 : Int) (x1 : Int)
  have H51 := hid (one_hd (x0 : Int) (x1 : Int) 0 0 0 (List.replicate 32 0) none none 0 0 0 0)
  have H5 := hid (show (hdL (x0 : Int) (x1 : Int) 0 0 0 (List.replicate 32 0) (.slice none 0 0) (.slice none 0 0)).length = 39 from len_mg (by rfl) _ _)
  obtain ⟨l5, hl5⟩ : ∃ l, l = hdL (x0 : Int) (x1 : Int) 0 0 0 (List.replicate 32 0) (.slice none 0 0) (.slice none 0 0) := ⟨_, rfl⟩
  rw [← hl5] at hbm H51 H5
  have Hl5 := hid hl5
  clear H4 H1 HH h4 h40 hX hd0 hd1 hx0 hx1 hc0 hc1 hF0 hF1 hl5
  go_upto_region 5 with (fail)
  go_cut [3] (fun s3 wx => ∃ g, s3 = .pointer (some ⟨g, 0, none⟩) ∧ Blk wx g 59 l5 ∧ w0.heap.size ≤ g ∧ Below w0.heap.size w0 wx)
  case first =>
    refine wp_region_noPanic ?_
    refine wp_region_held_drew (S := Ch nob w0) (by kernel_rfl) ((Ch.refl _ _).drew) (fun hHeld => ?_)
    refine tkP 0 rfl ?_
    refine tkP 1 rfl ?_
    refine tkF 2 rfl HC0.out ?_
    refine tkP 3 rfl ?_
    refine tkP 4 rfl ?_
    refine tkP 5 rfl ?_
    refine tkF 6 rfl HC1.out ?_
    refine tkP 7 rfl ?_
    refine tkY 8 rfl (yi_bld (by rfl) 59 [(0, .tmp 21), (1, .tmp 25)] (by rfl) [(0, .int .i64 (x0 : Int)), (1, .int .i64 (x1 : Int))] (by rfl) hbm) ?_
    refine rdH 9 rfl (fun K hK => ?_)
    refine step_new 59 (by rfl) (by rfl) zeroM ?_
    intro g9 w9 hg9 hgl9 hz9 hB9
    have hg9 : w0.heap.size ≤ g9 := Nat.le_trans hHeld.size hg9
    refine hK.out _ _ (hHeld.belowG hB9) (fun hHeld => ?_)
    clear hK K
    try simp only [nP]
    refine rdH 10 rfl (fun K hK => ?_)
    refine step_st 59 (.tmp 3) (.tmp 26) (by rfl) (by rfl) (by rfl) (f := 0) (by rfl) (l := l5) (by rfl) hz9 (by rw [H5.out, len_zM]; omega) (by rw [H5.out]; exact sizeM) H51.out ?_
    intro w11 hz11 hG11
    rw [set_all _ _ (by rw [H5.out, len_zM])] at hz11
    refine hK.out _ _ (hHeld.grow hG11 (fun k hk => .inr (by injection hk with hk; omega))) (fun hHeld => ?_)
    clear hK K
    try simp only [nP]
    refine wpAnyH_done (by kernel_rfl) ?_ _
    refine NoPanic.normal ?_
    go_wp2
    go_meet
    exact ⟨g9, rfl, hz11, hg9, hHeld.below⟩
  case rest =>
    obtain ⟨g3, rfl, hm, hg3, hB2⟩ := hcut
    have hv := hv.below hB2
    have hzl := hz.lt
    have hz := hz.below hB2
    have hs0 := hB.size
    have hv := hv.weak (F' := fun b => b ≠ g3) (fun b _ h => by have h' : b < w0.heap.size := h; omega)
    have h23 : g2 ≠ g3 := by omega
    have hwg3 : w.heap.size ≤ g3 := by omega
    have hB := hB.trans (hB2.mono hB.size)
    clear HC0 HC1 hB2 hbm
    have hf2 := fld54 ((nb X 2 2 : Nat) : Int) 0 2
    have hn2 := nb_lt X 2 2
    have hw2 : IntKind.i64.wrap ((nb X 2 2 : Nat) : Int) = ((nb X 2 2 : Nat) : Int) := IntWalk.i64_in _ (by omega)
    obtain ⟨a, ha⟩ : ∃ x, x = nb X 2 2 := ⟨_, rfl⟩
    have r2 := fun W h => readx_any (.slice (some ⟨g0, off, none⟩) X.length c) X 2 2 (fun b => b ≠ g3) W h (by omega) (by omega)
    rw [← ha] at hf2 hn2 hw2 r2
    have R2 := hid r2
    have Ha := hid ha
    clear r2 ha
    go_wp2_with (fail)
    refine (R2.out _ hv).mono ?_
    rintro e w2 ⟨rfl, hB2⟩
    have hv := hv.below hB2
    have hz := hz.below hB2
    have hm := hm.below hB2
    have hB := hB.trans (hB2.mono hB.size)
    clear R2 hB2
    go_wp2_with (refine wp_st1 3 (.tmp 31) (.tmp 30) rfl rfl rfl (f := 2) rfl (v := .int .i64 (a : Int)) rfl hm (by rw [H5.out]; omega) sizeI8 rfl rfl ?_; intro v2 hm hG2; refine wp_stop ?_)
    have hv := hv.keep (F' := fun b => b ≠ g3) (fun b hb hF => ⟨hF, hG2.block b hb (by intro h; injection h with h; exact hF h)⟩)
    have hz := hz.keep (hG2.block _ hz.lt (by intro h; injection h with h; exact h23 h))
    have hB := hB.grown hG2 hB.size (fun k hk => by injection hk with hk; omega)
    have H6l : Hid (l5.set 2 (.int .i64 (a : Int)) = hdL (x0 : Int) (x1 : Int) (a : Int) 0 0 (List.replicate 32 0) (.slice none 0 0) (.slice none 0 0)) := hid (by rw [Hl5.out]; rfl)
    obtain ⟨l6, hl6⟩ : ∃ l, l = l5.set 2 (.int .i64 (a : Int)) := ⟨_, rfl⟩
    have H6 : Hid (l6.length = 39) := hid (by rw [hl6, List.length_set]; exact H5.out)
    rw [← hl6] at hm H6l
    clear hl6 hG2 hf2 hw2
    refine wp_go ?_
    have hf3 := fld54 ((nb X 4 2 : Nat) : Int) 0 2
    have hn3 := nb_lt X 4 2
    have hw3 : IntKind.i64.wrap ((nb X 4 2 : Nat) : Int) = ((nb X 4 2 : Nat) : Int) := IntWalk.i64_in _ (by omega)
    obtain ⟨b, hb⟩ : ∃ x, x = nb X 4 2 := ⟨_, rfl⟩
    have r3 := fun W h => readx_any (.slice (some ⟨g0, off, none⟩) X.length c) X 4 2 (fun b => b ≠ g3) W h (by omega) (by omega)
    rw [← hb] at hf3 hn3 hw3 r3
    have R3 := hid r3
    have Hb := hid hb
    clear r3 hb
    go_wp2_with (fail)
    refine (R3.out _ hv).mono ?_
    rintro e w3 ⟨rfl, hB3⟩
    have hv := hv.below hB3
    have hz := hz.below hB3
    have hm := hm.below hB3
    have hB := hB.trans (hB3.mono hB.size)
    clear R3 hB3
    go_wp2_with (refine wp_st1 3 (.tmp 36) (.tmp 35) rfl rfl rfl (f := 3) rfl (v := .int .i64 (b : Int)) rfl hm (by rw [H6.out]; omega) sizeI8 rfl rfl ?_; intro v3 hm hG3; refine wp_stop ?_)
    have hv := hv.keep (F' := fun b => b ≠ g3) (fun b hb hF => ⟨hF, hG3.block b hb (by intro h; injection h with h; exact hF h)⟩)
    have hz := hz.keep (hG3.block _ hz.lt (by intro h; injection h with h; exact h23 h))
    have hB := hB.grown hG3 hB.size (fun k hk => by injection hk with hk; omega)
    have H7l : Hid (l6.set 3 (.int .i64 (b : Int)) = hdL (x0 : Int) (x1 : Int) (a : Int) (b : Int) 0 (List.replicate 32 0) (.slice none 0 0) (.slice none 0 0)) := hid (by rw [H6l.out]; rfl)
    obtain ⟨l7, hl7⟩ : ∃ l, l = l6.set 3 (.int .i64 (b : Int)) := ⟨_, rfl⟩
    have H7 : Hid (l7.length = 39) := hid (by rw [hl7, List.length_set]; exact H6.out)
    rw [← hl7] at hm H7l
    clear hl7 hG3 hf3 hw3
    refine wp_go ?_
    have hf4 := fld54 ((nb X 6 2 : Nat) : Int) 0 2
    have hn4 := nb_lt X 6 2
    have hw4 : IntKind.i64.wrap ((nb X 6 2 : Nat) : Int) = ((nb X 6 2 : Nat) : Int) := IntWalk.i64_in _ (by omega)
    obtain ⟨d, hd⟩ : ∃ x, x = nb X 6 2 := ⟨_, rfl⟩
    have r4 := fun W h => readx_any (.slice (some ⟨g0, off, none⟩) X.length c) X 6 2 (fun b => b ≠ g3) W h (by omega) (by omega)
    rw [← hd] at hf4 hn4 hw4 r4
    have R4 := hid r4
    have Hd := hid hd
    clear r4 hd
    go_wp2_with (fail)
    refine (R4.out _ hv).mono ?_
    rintro e w4 ⟨rfl, hB4⟩
    have hv := hv.below hB4
    have hz := hz.below hB4
    have hm := hm.below hB4
    have hB := hB.trans (hB4.mono hB.size)
    clear R4 hB4
    go_wp2_with (refine wp_st1 3 (.tmp 41) (.tmp 40) rfl rfl rfl (f := 4) rfl (v := .int .i64 (d : Int)) rfl hm (by rw [H7.out]; omega) sizeI8 rfl rfl ?_; intro v4 hm hG4; refine wp_stop ?_)
    have hv := hv.keep (F' := fun b => b ≠ g3) (fun b hb hF => ⟨hF, hG4.block b hb (by intro h; injection h with h; exact hF h)⟩)
    have hz := hz.keep (hG4.block _ hz.lt (by intro h; injection h with h; exact h23 h))
    have hB := hB.grown hG4 hB.size (fun k hk => by injection hk with hk; omega)
    have H8l : Hid (l7.set 4 (.int .i64 (d : Int)) = hdL (x0 : Int) (x1 : Int) (a : Int) (b : Int) (d : Int) (List.replicate 32 0) (.slice none 0 0) (.slice none 0 0)) := hid (by rw [H7l.out]; rfl)
    obtain ⟨l8, hl8⟩ : ∃ l, l = l7.set 4 (.int .i64 (d : Int)) := ⟨_, rfl⟩
    have H8 : Hid (l8.length = 39) := hid (by rw [hl8, List.length_set]; exact H7.out)
    rw [← hl8] at hm H8l
    clear hl8 hG4 hf4 hw4
    refine wp_go ?_
    have H0 := hid (show Blk v4 g3 59 (hdL (x0 : Int) (x1 : Int) (a : Int) (b : Int) (d : Int) ((X.drop 8).take 0 ++ List.replicate (32 - 0) 0) (.slice none 0 0) (.slice none 0 0)) from by rw [show (X.drop 8).take 0 ++ List.replicate (32 - 0) 0 = List.replicate 32 (0 : UInt8) from by simp, ← H8l.out]; exact hm)
    have HV0 := hid hv
    have HZ0 := hid hz
    have HB0 := hid hB
    clear hm hv hz hB H5 H51 Hl5 H6 H6l H7 H7l H8 H8l
    go_wp2
    go_loopw [4] (fun iv wr => ∃ (i : Nat), i ≤ 32 ∧ iv = .int .i64 i ∧ Blk wr g3 59 (hdL (x0 : Int) (x1 : Int) (a : Int) (b : Int) (d : Int) ((X.drop 8).take i ++ List.replicate (32 - i) 0) (.slice none 0 0) (.slice none 0 0)) ∧ Blk wr g2 96 (gM zM 0) ∧ Rd wr (fun b => b ≠ g3) (.slice (some ⟨g0, off, none⟩) X.length c) (bys X) ∧ Below w.heap.size w wr) (fun i _ => 32 - (intOf i).toNat)
    case atStart => exact ⟨0, by omega, rfl, H0.out, HZ0.out, HV0.out, HB0.out⟩
    case round =>
      clear H0 HV0 HZ0 HB0
      obtain ⟨i, hi, rfl, hm, hz, hv, hB⟩ := hrel
      by_cases hlt : i < 32
      · have hI : (i : Int) < 32 := by omega
        have hln : ((X.drop 8).take i ++ List.replicate (32 - i) (0 : UInt8)).length = 32 := by rw [List.length_append, List.length_take, List.length_drop, List.length_replicate]; omega
        have hl39 := hid (show (hdL (x0 : Int) (x1 : Int) (a : Int) (b : Int) (d : Int) ((X.drop 8).take i ++ List.replicate (32 - i) 0) (.slice none 0 0) (.slice none 0 0)).length = 39 from len_mg hln _ _)
        obtain ⟨gq, offq, he, hFq, hcq⟩ := hv.byteAt (8 + i) (by omega)
        injection he with he
        injection he with he1 he2
        subst he1 he2
        obtain ⟨x, hx⟩ : ∃ x, x = X[8 + i]'(by omega) := ⟨_, rfl⟩
        rw [← hx] at hcq
        have hst := hid (show (hdL (x0 : Int) (x1 : Int) (a : Int) (b : Int) (d : Int) ((X.drop 8).take i ++ List.replicate (32 - i) 0) (.slice none 0 0) (.slice none 0 0)).set (5 + i) (.int .u8 (x.toNat : Int)) = hdL (x0 : Int) (x1 : Int) (a : Int) (b : Int) (d : Int) ((X.drop 8).take (i + 1) ++ List.replicate (32 - (i + 1)) 0) (.slice none 0 0) (.slice none 0 0) from by
          rw [hd_set _ _ _ _ _ _ _ _ _ (by rw [hln]; exact hlt), ← fill_set (X.drop 8) i 32 hlt (by rw [List.length_drop]; omega), List.getElem_drop, hx])
        have hNb : 8 + i < X.length := by omega
        have hIw : IntKind.i64.wrap (8 + (i : Int)) = ((8 + i : Nat) : Int) := (IntWalk.i64_in _ (by omega)).trans (by omega)
        have hIw1 : IntKind.i64.wrap ((i : Int) + 1) = ((i + 1 : Nat) : Int) := (IntWalk.i64_in _ (by omega)).trans (by omega)
        obtain ⟨li, hli⟩ : ∃ l, l = hdL (x0 : Int) (x1 : Int) (a : Int) (b : Int) (d : Int) ((X.drop 8).take i ++ List.replicate (32 - i) 0) (.slice none 0 0) (.slice none 0 0) := ⟨_, rfl⟩
        rw [← hli] at hm hl39 hst
        clear hln hx hli
        go_wp2_with (refine wp_st1 5 (.tmp 53) (.tmp 51) rfl rfl rfl (f := 5 + i) rfl (v := .int .u8 (x.toNat : Int)) rfl hm (by rw [hl39.out]; omega) size8 rfl rfl ?_; intro v5 hm hG5; refine wp_stop ?_)
        have hv := hv.keep (F' := fun b => b ≠ g3) (fun b hb hF => ⟨hF, hG5.block b hb (by intro h; injection h with h; exact hF h)⟩)
        have hz := hz.keep (hG5.block _ hz.lt (by intro h; injection h with h; exact h23 h))
        have hB := hB.grown hG5 hB.size (fun k hk => by injection hk with hk; omega)
        rw [hst.out] at hm
        clear hG5 hst hl39
        refine wp_go ?_
        go_wp2
        go_roundw
        case rel => exact ⟨i + 1, by omega, by go_num, hm, hz, hv, hB⟩
        case measure => simp [intOf]; omega
      · have hi' : i = 32 := by omega
        subst hi'
        rw [show (X.drop 8).take 32 ++ List.replicate (32 - 32) (0 : UInt8) = (X.drop 8).take 32 from by simp] at hm
        have hHl : ((X.drop 8).take 32).length = 32 := by rw [List.length_take, List.length_drop]; omega
        have hmk : ∀ bt ts, mkH X bt ts = (⟨(x0 : Int), (x1 : Int), (a : Int), (b : Int), (d : Int), (X.drop 8).take 32, bt, ts⟩ : Mg) := by
          intro bt ts
          unfold mkH
          rw [← Hx0.out, ← Hx1.out, ← nb_fix X 2 2 (by omega), ← nb_fix X 4 2 (by omega), ← nb_fix X 6 2 (by omega), ← Ha.out, ← Hb.out, ← Hd.out]
        obtain ⟨H, hH⟩ : ∃ H, H = (X.drop 8).take 32 := ⟨_, rfl⟩
        rw [← hH] at hm hHl hmk
        have HHl := hid hHl
        have Hmk := hid hmk
        clear hH hHl hmk Hx0 Hx1 Ha Hb Hd hi
        have hrt := rtext_any (.slice (some ⟨g0, off, none⟩) X.length c) X 40 65536 (fun b => b ≠ g3) _ hv (by omega) (by omega) (by omega)
        cases htx : textR 65536 (X.drop 40) with
        | error e =>
          rw [show ((65536 : Nat) : Int) = 65536 from rfl, htx] at hrt
          have he := textR_err htx
          have Hrt := hid (show Calls Tryd.prog 84 #[.slice (some ⟨g0, off, none⟩) X.length c, .int .i64 40, .int .i64 65536] wr (fun e' w' => e' = .returned (.agg (gotL 0 (.slice none 0 0) 0 e).toArray) ∧ Below wr.heap.size wr w') from hrt)
          have hre : r = .error e := by rw [HR.out, htx]
          have Hre := hid hre
          clear hrt htx hre HR
          go_wp2_with (fail)
          refine Hrt.out.mono ?_
          rintro e' w1 ⟨rfl, hB1⟩
          have hB := hB.trans (hB1.mono hB.size)
          have hz := hz.below hB1
          have hm := hm.below hB1
          have hv := hv.below hB1
          go_wp2_with (first | (refine wp_newst 143 5 (.tmp 55) rfl rfl rfl rfl rfl rfl zeroGot (l := gotL 0 (.slice none 0 0) 0 e) rfl rfl sizeGot (one_got 0 0 e _ _ _) (by simp) ?_; intro w3 b5 hB5 hs5; refine wp_stop ?_))
          have hB := hB.trans (hB5.mono hB.size)
          have hv := hv.below hB5
          have hz := hz.below hB5
          have hm := hm.below hB5
          have c3 := b5.cellAt 3 _ rfl
          have ne : ((e : Int) != 0) = true := by rw [bne_iff_ne]; omega
          refine wp_go ?_
          have HO := hid (Hre.out)
          have hb1 := hbl e
          have ho1 := hid (hoz.out e)
          have hl1 := hid (hlz1.out e)
          have HE := hid (HERR.out e · HO.out)
          obtain ⟨l1, hle⟩ : ∃ l, l = gM zM e := ⟨_, rfl⟩
          rw [← hle] at hb1 ho1 hl1 HE
          clear hle hbl hoz hlz1 HERR
          go_wp2_with (first | refine wp_bld 96 [(1, .tmp 60)] rfl rfl [(1, .int .i64 (e : Int))] rfl hb1 ?_ | (refine wp_st 96 (.tmp 2) (.tmp 61) rfl rfl rfl (f := 0) rfl (l := l1) rfl hz (by rw [hlz.out, hl1.out]; omega) (by rw [hl1.out]; exact sizeG8) ho1.out ?_; intro wz hz3 hG3; refine wp_stop ?_))
          rw [set_all _ _ (by rw [hlz.out, hl1.out])] at hz3
          refine wp_go ?_
          go_wp2
          refine ret_cell rfl rfl hz3.whole Tryd.underlying96 rfl (by rw [hl1.out]; exact sizeG8) rfl ?_
          exact HE.out _ (hB.grown hG3 hB.size (fun k hk => by injection hk with hk; omega))
        | ok p =>
          obtain ⟨n, z⟩ := p
          rw [show ((65536 : Nat) : Int) = 65536 from rfl, htx] at hrt
          have hok := textR_ok htx
          rw [List.length_drop] at hok
          obtain ⟨B, hBt⟩ : ∃ B, B = ((X.drop 40).drop z).take n := ⟨_, rfl⟩
          have hBl : B.length ≤ 65536 := by rw [hBt, List.length_take]; omega
          obtain ⟨sn, hsn⟩ : ∃ sn, sn = z + n := ⟨_, rfl⟩
          have hsl : 40 + sn ≤ X.length := by omega
          obtain ⟨K1, hK1⟩ : ∃ K1, K1 = 40 + sn := ⟨_, rfl⟩
          have HR : Hid (r = match cntR 16 (readPk (X.drop K1)) with
            | .error e => .error e
            | .ok (c, y) => match prtR c (K1 + y) X with
              | .error e => .error e
              | .ok (ts, k) => if k < X.length then .error 2 else if numB (mkH X B ts) = true then .ok (mkH X B ts) else .error 15) := by
            show _ = _
            rw [HR.out, htx]
            dsimp only
            rw [← hsn, ← hK1, ← hBt]
            rfl
          have Hrt := hid (show Calls Tryd.prog 84 #[.slice (some ⟨g0, off, none⟩) X.length c, .int .i64 40, .int .i64 65536] wr (fun e' w' => ∃ v, e' = .returned (.agg (gotL 0 v sn 0).toArray) ∧ Rd w' (fun b => wr.heap.size ≤ b) v (bys B) ∧ Below wr.heap.size wr w') from by rw [hBt, hsn]; exact hrt)
          have hwK : IntKind.i64.wrap (40 + (sn : Int)) = (K1 : Int) := (IntWalk.i64_in _ (by omega)).trans (by omega)
          have hK1l : K1 ≤ X.length := by omega
          clear hrt htx hBt hsn hok hsl hK1
          go_wp2_with (fail)
          refine Hrt.out.mono ?_
          rintro e' w1 ⟨v1, rfl, hv1, hB1⟩
          obtain ⟨A1, c1', rfl⟩ := hv1.shape
          have hv1 := hv1.weak (F' := fun b => w.heap.size ≤ b ∧ b < w1.heap.size ∧ b ≠ g3 ∧ b ≠ g2) (fun b hb hF => by have h1 := hB.size; have h2 := hm.lt; have h3 := hz.lt; have hF : wr.heap.size ≤ b := hF; exact ⟨by omega, hb, by omega, by omega⟩)
          have hB := hB.trans (hB1.mono hB.size)
          have hz := hz.below hB1
          have hm := hm.below hB1
          have hv := hv.below hB1
          have hg35 := hm.lt
          clear Hrt hB1
          go_wp2_with (first | (refine wp_newst 143 5 (.tmp 55) rfl rfl rfl rfl rfl rfl zeroGot (l := gotL 0 (.slice A1 B.length c1') sn 0) rfl rfl sizeGot (one_got 0 sn 0 _ _ _) (by simp) ?_; intro w3 b5 hB5 hs5; refine wp_stop ?_))
          have hB := hB.trans (hB5.mono hB.size)
          have hv := hv.below hB5
          have hz := hz.below hB5
          have hm := hm.below hB5
          have hv1 := hv1.below hB5
          obtain ⟨g5, hg5⟩ : ∃ g, g = w1.heap.size := ⟨_, rfl⟩
          rw [← hg5] at b5 hv1 hs5 hg35 ⊢
          clear hg5 hB5
          have c3 := b5.cellAt 3 _ rfl
          have c1 := b5.cellAt 1 _ rfl
          refine wp_go ?_
          obtain ⟨l9, hl9⟩ : ∃ l, l = hdL (x0 : Int) (x1 : Int) (a : Int) (b : Int) (d : Int) H (.slice none 0 0) (.slice none 0 0) := ⟨_, rfl⟩
          have H9 : Hid (l9.length = 39) := hid (by rw [hl9]; exact len_mg HHl.out _ _)
          have H9s : Hid (∀ v, l9.set 37 v = hdL (x0 : Int) (x1 : Int) (a : Int) (b : Int) (d : Int) H v (.slice none 0 0)) := hid (fun v => by rw [hl9]; exact set37 (m := ⟨x0, x1, a, b, d, H, [], []⟩) HHl.out _ _ _)
          rw [← hl9] at hm
          clear hl9
          go_wp2_with (first | (refine wp_st1 35 (.tmp 64) (.tmp 63) rfl rfl rfl (f := 37) rfl (v := .slice A1 B.length c1') rfl hm (by rw [H9.out]; omega) sizeSl8 rfl rfl ?_; intro w4 hm hG4; refine wp_stop ?_))
          rw [H9s.out] at hm
          have hv := hv.keep (F' := fun b => b ≠ g3) (fun b hb hF => ⟨hF, hG4.block b hb (by intro h; injection h with h; exact hF h)⟩)
          have hv1 := hv1.keep (F' := fun b => w.heap.size ≤ b ∧ b < g5 ∧ b ≠ g3 ∧ b ≠ g2) (fun b hb hF => ⟨hF, hG4.block b hb (by intro h; injection h with h; exact hF.2.2.1 h)⟩)
          have hz := hz.keep (hG4.block _ hz.lt (by intro h; injection h with h; exact h23 h))
          have b5 := b5.keep (hG4.block _ b5.lt (by intro h; injection h with h; omega))
          have hB := hB.grown hG4 hB.size (fun k hk => by injection hk with hk; omega)
          have c2 := b5.cellAt 2 _ rfl
          clear hG4 H9 H9s c3 c1
          refine wp_go ?_
          have hrc := rcount_any (.slice (some ⟨g0, off, none⟩) X.length c) X K1 16 (fun b => b ≠ g3) _ hv hK1l (by omega) (by omega)
          cases hct : cntR 16 (readPk (X.drop K1)) with
          | error e =>
            have he := cnt_err hct (fun _ h => rd_err h)
            rw [show ((16 : Nat) : Int) = 16 from rfl, hct] at hrc
            have Hrc := hid hrc
            have Hre := hid (show r = .error e by rw [HR.out, hct])
            clear hrc hct HR
            go_wp2_with (fail)
            refine Hrc.out.mono ?_
            rintro e' w6 ⟨rfl, hB6⟩
            have hB := hB.trans (hB6.mono hB.size)
            have hz := hz.below hB6
            have hm := hm.below hB6
            have hv := hv.below hB6
            go_wp2_with (first | (refine wp_newst 143 7 (.tmp 70) rfl rfl rfl rfl rfl rfl zeroGot (l := gotL 0 (.slice none 0 0) 0 e) rfl rfl sizeGot (one_got 0 0 e _ _ _) (by simp) ?_; intro w7 b7 hB7 hs7; refine wp_stop ?_))
            have hB := hB.trans (hB7.mono hB.size)
            have hv := hv.below hB7
            have hz := hz.below hB7
            have hm := hm.below hB7
            have c3 := b7.cellAt 3 _ rfl
            have ne : ((e : Int) != 0) = true := by rw [bne_iff_ne]; omega
            refine wp_go ?_
            have HO := hid (Hre.out)
            have hb1 := hbl e
            have ho1 := hid (hoz.out e)
            have hl1 := hid (hlz1.out e)
            have HE := hid (HERR.out e · HO.out)
            obtain ⟨l1, hle⟩ : ∃ l, l = gM zM e := ⟨_, rfl⟩
            rw [← hle] at hb1 ho1 hl1 HE
            clear hle hbl hoz hlz1 HERR
            go_wp2_with (first | refine wp_bld 96 [(1, .tmp 75)] rfl rfl [(1, .int .i64 (e : Int))] rfl hb1 ?_ | (refine wp_st 96 (.tmp 2) (.tmp 76) rfl rfl rfl (f := 0) rfl (l := l1) rfl hz (by rw [hlz.out, hl1.out]; omega) (by rw [hl1.out]; exact sizeG8) ho1.out ?_; intro wz hz3 hG3; refine wp_stop ?_))
            rw [set_all _ _ (by rw [hlz.out, hl1.out])] at hz3
            refine wp_go ?_
            go_wp2
            refine ret_cell rfl rfl hz3.whole Tryd.underlying96 rfl (by rw [hl1.out]; exact sizeG8) rfl ?_
            exact HE.out _ (hB.grown hG3 hB.size (fun k hk => by injection hk with hk; omega))
          | ok p =>
            obtain ⟨q, y⟩ := p
            have hcq := cnt_ok hct
            rw [List.length_drop] at hcq
            rw [show ((16 : Nat) : Int) = 16 from rfl, hct] at hrc
            obtain ⟨K2, hK2⟩ : ∃ K2, K2 = K1 + y := ⟨_, rfl⟩
            have HR : Hid (r = match prtR q K2 X with
              | .error e => .error e
              | .ok (ts, k) => if k < X.length then .error 2 else if numB (mkH X B ts) = true then .ok (mkH X B ts) else .error 15) := by
              show _ = _
              rw [HR.out, hct]
              dsimp only
              rw [← hK2]
            have Hrc := hid hrc
            have hwK2 : IntKind.i64.wrap ((K1 : Int) + (y : Int)) = (K2 : Int) := (IntWalk.i64_in _ (by omega)).trans (by omega)
            have hK2l : K2 ≤ X.length := by omega
            have hwq : IntKind.i64.wrap (q : Int) = (q : Int) := IntWalk.i64_in _ (by omega)
            clear hrc hct hK2
            go_wp2_with (fail)
            refine Hrc.out.mono ?_
            rintro e' w6 ⟨rfl, hB6⟩
            have hB := hB.trans (hB6.mono hB.size)
            have hz := hz.below hB6
            have hm := hm.below hB6
            have hv := hv.below hB6
            have hv1 := hv1.below hB6
            have hg56 : g5 < w6.heap.size := Nat.lt_of_lt_of_le b5.lt hB6.size
            clear hB6 c2 b5
            go_wp2_with (first | (refine wp_newst 143 7 (.tmp 70) rfl rfl rfl rfl rfl rfl zeroGot (l := gotL q (.slice none 0 0) y 0) rfl rfl sizeGot (one_got q y 0 _ _ _) (by simp) ?_; intro w7 b7 hB7 hs7; refine wp_stop ?_))
            have hB := hB.trans (hB7.mono hB.size)
            have hv := hv.below hB7
            have hz := hz.below hB7
            have hm := hm.below hB7
            have hv1 := hv1.below hB7
            obtain ⟨g7, hg7⟩ : ∃ g, g = w6.heap.size := ⟨_, rfl⟩
            rw [← hg7] at b7 hg56 hs7 ⊢
            clear hg7 hB7
            have c3 := b7.cellAt 3 _ rfl
            have c2 := b7.cellAt 2 _ rfl
            refine wp_go ?_
            have hs7w := hB.size
            have h7l := b7.lt
            have h3l := hm.lt
            have h2l := hz.lt
            have hOT := OT.nil w7 35 w7.heap.size nob
            obtain ⟨ub, hub⟩ : ∃ u : Value, u = .slice A1 B.length c1' := ⟨_, rfl⟩
            rw [← hub] at hm hv1
            have Hub := hid hub
            clear hub
            go_wp2
            go_loopw [6, 8] (fun kv iv wr => ∃ (i k : Nat) (ts : List (List UInt8)) (us : List Value) (pv : Value), i ≤ q ∧ iv = .int .i64 i ∧ kv = .int .i64 k ∧ k ≤ X.length ∧ Hid (prtR i K2 X = .ok (ts, k)) ∧ OT wr 35 w7.heap.size nob pv ts us ∧ Blk wr g3 59 (hdL (x0 : Int) (x1 : Int) (a : Int) (b : Int) (d : Int) H ub pv) ∧ Blk wr g7 143 (gotL q (.slice none 0 0) y 0) ∧ Blk wr g2 96 (gM zM 0) ∧ Rd wr (fun b => w.heap.size ≤ b ∧ b < g5 ∧ b ≠ g3 ∧ b ≠ g2) ub (bys B) ∧ Rd wr (fun b => b ≠ g3 ∧ b < w7.heap.size) (.slice (some ⟨g0, off, none⟩) X.length c) (bys X) ∧ w7.heap.size ≤ wr.heap.size ∧ Below w.heap.size w wr) (fun _ i _ => q - (intOf i).toNat)
            case atStart => exact ⟨0, K2, [], [], _, by omega, rfl, rfl, hK2l, rfl, hOT, hm, b7, hz, hv1, hv.weak (F' := fun b => b ≠ g3 ∧ b < w7.heap.size) (fun b hb hF => ⟨hF, hb⟩), Nat.le_refl _, hB⟩
            case round =>
              clear hOT hm b7 hz hv1 hv hB c3 c2
              obtain ⟨i, k, ts, us, pv, hi, rfl, rfl, hkl, Hpr, hOT, hm, b7, hz, hv1, hv, hsz, hB⟩ := hrel
              have c0 := b7.cellAt 0 _ rfl
              by_cases hlt : i < q
              · have hI : (i : Int) < (q : Int) := by omega
                have hrt := rtext_any (.slice (some ⟨g0, off, none⟩) X.length c) X k 65536 _ _ hv hkl (by omega) (by omega)
                cases htx : textR 65536 (X.drop k) with
                | error e =>
                  rw [show ((65536 : Nat) : Int) = 65536 from rfl, htx] at hrt
                  have he := textR_err htx
                  have Hrt := hid (show Calls Tryd.prog 84 #[.slice (some ⟨g0, off, none⟩) X.length c, .int .i64 (k : Int), .int .i64 65536] wr (fun e' w' => e' = .returned (.agg (gotL 0 (.slice none 0 0) 0 e).toArray) ∧ Below wr.heap.size wr w') from hrt)
                  have hpe : prtR q K2 X = .error e := by
                    have := prtR_err i (q - i - 1) K2 X ts k e Hpr.out htx
                    rwa [show i + (q - i - 1 + 1) = q from by omega] at this
                  have Hre := hid (show r = .error e by rw [HR.out, hpe])
                  clear hrt htx HR hpe Hpr
                  go_wp2_with (fail)
                  refine Hrt.out.mono ?_
                  rintro e' w8 ⟨rfl, hB8⟩
                  have hB := hB.trans (hB8.mono hB.size)
                  have hz := hz.below hB8
                  go_wp2_with (first | (refine wp_newst 143 9 (.tmp 90) rfl rfl rfl rfl rfl rfl zeroGot (l := gotL 0 (.slice none 0 0) 0 e) rfl rfl sizeGot (one_got 0 0 e _ _ _) (by simp) ?_; intro w9 b9 hB9 hs9; refine wp_stop ?_))
                  have hB := hB.trans (hB9.mono hB.size)
                  have hz := hz.below hB9
                  have c3 := b9.cellAt 3 _ rfl
                  have ne : ((e : Int) != 0) = true := by rw [bne_iff_ne]; omega
                  refine wp_go ?_
                  have HO := hid (Hre.out)
                  have hb1 := hbl e
                  have ho1 := hid (hoz.out e)
                  have hl1 := hid (hlz1.out e)
                  have HE := hid (HERR.out e · HO.out)
                  obtain ⟨l1, hle⟩ : ∃ l, l = gM zM e := ⟨_, rfl⟩
                  rw [← hle] at hb1 ho1 hl1 HE
                  clear hle hbl hoz hlz1 HERR
                  go_wp2_with (first | refine wp_bld 96 [(1, .tmp 95)] rfl rfl [(1, .int .i64 (e : Int))] rfl hb1 ?_ | (refine wp_st 96 (.tmp 2) (.tmp 96) rfl rfl rfl (f := 0) rfl (l := l1) rfl hz (by rw [hlz.out, hl1.out]; omega) (by rw [hl1.out]; exact sizeG8) ho1.out ?_; intro wz hz3 hG3; refine wp_stop ?_))
                  rw [set_all _ _ (by rw [hlz.out, hl1.out])] at hz3
                  refine wp_go ?_
                  go_wp2
                  refine ret_cell rfl rfl hz3.whole Tryd.underlying96 rfl (by rw [hl1.out]; exact sizeG8) rfl ?_
                  exact HE.out _ (hB.grown hG3 hB.size (fun k hk => by injection hk with hk; omega))
                | ok p =>
                  obtain ⟨n2, z2⟩ := p
                  rw [show ((65536 : Nat) : Int) = 65536 from rfl, htx] at hrt
                  have hok := textR_ok htx
                  rw [List.length_drop] at hok
                  have hpr2 := prtR_snoc i K2 X ts k n2 z2 Hpr.out htx
                  obtain ⟨T, hT⟩ : ∃ T, T = ((X.drop k).drop z2).take n2 := ⟨_, rfl⟩
                  have hTl : T.length ≤ 65536 := by rw [hT, List.length_take]; omega
                  obtain ⟨sn2, hsn2⟩ : ∃ sn, sn = z2 + n2 := ⟨_, rfl⟩
                  have Hrt := hid (show Calls Tryd.prog 84 #[.slice (some ⟨g0, off, none⟩) X.length c, .int .i64 (k : Int), .int .i64 65536] wr (fun e' w' => ∃ v, e' = .returned (.agg (gotL 0 v sn2 0).toArray) ∧ Rd w' (fun b => wr.heap.size ≤ b) v (bys T) ∧ Below wr.heap.size wr w') from by rw [hT, hsn2]; exact hrt)
                  obtain ⟨k', hk'⟩ : ∃ k', k' = k + sn2 := ⟨_, rfl⟩
                  rw [← hT, ← hsn2, ← hk'] at hpr2
                  have Hpr2 := hid hpr2
                  have hkl2 : k' ≤ X.length := by omega
                  have hwk : IntKind.i64.wrap ((k : Int) + (sn2 : Int)) = (k' : Int) := (IntWalk.i64_in _ (by omega)).trans (by omega)
                  have Hpr0 := Hpr
                  clear hrt htx hT hsn2 hok hpr2 hk' Hpr
                  have hrow : ∀ b, pv.ownBlock = some b → w7.heap.size ≤ b ∧ b < wr.heap.size := fun b h => hOT.own.lt b h
                  go_wp2_with (fail)
                  refine Hrt.out.mono ?_
                  rintro e' w8 ⟨v9, rfl, hv9, hB8⟩
                  obtain ⟨A9, c9, rfl⟩ := hv9.shape
                  have hq8 := hB8.size
                  have hv9 := hv9.weak (F' := fun b => w7.heap.size ≤ b ∧ ¬ nob b ∧ pv.ownBlock ≠ some b) (fun b hb hF => ⟨by have hF : wr.heap.size ≤ b := hF; omega, fun h => h, fun h => by have := (hOT.own.lt b h).2; have hF : wr.heap.size ≤ b := hF; omega⟩)
                  have hOT := hOT.ch (Ch.of_below hB8) (fun b hb => hb.elim)
                  have hB := hB.trans (hB8.mono hB.size)
                  have hz := hz.below hB8
                  have hm := hm.below hB8
                  have b7 := b7.below hB8
                  have hv1 := hv1.below hB8
                  have hv := hv.below hB8
                  clear Hrt hB8 c0
                  go_wp2_with (first | (refine wp_newst 143 9 (.tmp 90) rfl rfl rfl rfl rfl rfl zeroGot (l := gotL 0 (.slice A9 T.length c9) sn2 0) rfl rfl sizeGot (one_got 0 sn2 0 _ _ _) (by simp) ?_; intro w9 b9 hB9 hs9; refine wp_stop ?_))
                  have hOT := hOT.ch (Ch.of_below hB9) (fun b hb => hb.elim)
                  have hB := hB.trans (hB9.mono hB.size)
                  have hz := hz.below hB9
                  have hm := hm.below hB9
                  have b7 := b7.below hB9
                  have hv1 := hv1.below hB9
                  have hv := hv.below hB9
                  have hv9 := hv9.below hB9
                  have hq9 := hB9.size
                  obtain ⟨g9, hg9⟩ : ∃ g, g = w8.heap.size := ⟨_, rfl⟩
                  have h9l := hs9
                  rw [← hg9] at b9 hq8 hq9 h9l ⊢
                  clear hg9 hB9 hs9
                  have c3 := b9.cellAt 3 _ rfl
                  have c1 := b9.cellAt 1 _ rfl
                  have p38 : w9.cell? ⟨g3, 38, none⟩ = some pv := hm.cellAt 38 _ (mg_parts (m := ⟨x0, x1, a, b, d, H, [], []⟩) HHl.out _ _)
                  have htsl : ts.length = i := prtR_len _ _ _ _ _ Hpr0.out
                  clear Hpr0
                  refine wp_go ?_
                  go_wp2_with (first | (refine wp_push (.tmp 98) (.tmp 100) 101 slBB8 rfl rfl rfl rfl rfl (u := .slice A9 T.length c9) rfl rfl rfl (by simp [Act.put]) rfl hOT.own (by simp only [maxLen]; omega) (by omega) (by omega) ?_; intro v10 w10 ho10 hG10 hd10; refine wp_stop ?_))
                  have hOT := OT.pushG hOT hv9 (fun b h => h.elim) ho10 hG10 hd10
                  have hm := hm.keep (hG10.block _ hm.lt (by intro e; have := hrow _ e.symm; omega))
                  have b7 := b7.keep (hG10.block _ b7.lt (by intro e; have := hrow _ e.symm; omega))
                  have hz := hz.keep (hG10.block _ hz.lt (by intro e; have := hrow _ e.symm; omega))
                  have b9 := b9.keep (hG10.block _ b9.lt (by intro e; have := hrow _ e.symm; omega))
                  have hv1 := hv1.keep (F' := fun b => w.heap.size ≤ b ∧ b < g5 ∧ b ≠ g3 ∧ b ≠ g2) (fun b hb hF => ⟨hF, hG10.block b hb (by intro e; have := hrow _ e.symm; omega)⟩)
                  have hv := hv.keep (F' := fun b => b ≠ g3 ∧ b < w7.heap.size) (fun b hb hF => ⟨hF, hG10.block b hb (by intro e; have := hrow _ e.symm; omega)⟩)
                  have hB := hB.grown hG10 hB.size (fun k hk => by have := hrow _ hk; omega)
                  have hs10 := hG10.size
                  obtain ⟨A10, c10, rfl⟩ := own_shape ho10
                  obtain ⟨lm, hlm⟩ : ∃ l, l = hdL (x0 : Int) (x1 : Int) (a : Int) (b : Int) (d : Int) H ub pv := ⟨_, rfl⟩
                  have Hlm : Hid (lm.length = 39) := hid (by rw [hlm]; exact len_mg HHl.out _ _)
                  have Hls : Hid (∀ v, lm.set 38 v = hdL (x0 : Int) (x1 : Int) (a : Int) (b : Int) (d : Int) H ub v) := hid (fun v => by rw [hlm]; exact set38 (m := ⟨x0, x1, a, b, d, H, [], []⟩) HHl.out _ _ _)
                  rw [← hlm] at hm
                  clear hlm hG10 ho10 hd10 hv9 c3 c1 p38
                  refine wp_go ?_
                  go_wp2_with (first | (refine wp_st1 30 (.tmp 103) (.tmp 102) rfl rfl rfl (f := 38) rfl (v := .slice A10 (ts.length + 1) c10) rfl hm (by rw [Hlm.out]; omega) sizeSS8 rfl rfl ?_; intro w11 hm hG11; refine wp_stop ?_))
                  rw [Hls.out] at hm
                  have hOT := hOT.ch (G := fun b => b = g3) ((Ch.refl _ _).grow hG11 (fun k hk => by injection hk with hk; exact .inl hk.symm)) (fun b hb => .inr (by omega))
                  have b7 := b7.keep (hG11.block _ b7.lt (by intro e; injection e with e; omega))
                  have hz := hz.keep (hG11.block _ hz.lt (by intro e; injection e with e; omega))
                  have b9 := b9.keep (hG11.block _ b9.lt (by intro e; injection e with e; omega))
                  have hv1 := hv1.keep (F' := fun b => w.heap.size ≤ b ∧ b < g5 ∧ b ≠ g3 ∧ b ≠ g2) (fun b hb hF => ⟨hF, hG11.block b hb (by intro e; injection e with e; omega)⟩)
                  have hv := hv.keep (F' := fun b => b ≠ g3 ∧ b < w7.heap.size) (fun b hb hF => ⟨hF, hG11.block b hb (by intro e; injection e with e; omega)⟩)
                  have hB := hB.grown hG11 hB.size (fun k hk => by injection hk with hk; omega)
                  have hs11 := hG11.size
                  have c2 := b9.cellAt 2 _ rfl
                  clear hG11 Hlm Hls
                  refine wp_go ?_
                  go_wp2
                  go_roundw
                  case rel => exact ⟨i + 1, k', ts ++ [T], _, _, by omega, by go_num, rfl, hkl2, Hpr2, hOT, hm, b7, hz, hv1, hv, by omega, hB⟩
                  case measure => simp [intOf]; omega
              · have hi' : i = q := by omega
                subst hi'
                have hI : ¬ (i : Int) < (i : Int) := by omega
                obtain ⟨m, hmm⟩ : ∃ m : Mg, m = ⟨(x0 : Int), (x1 : Int), (a : Int), (b : Int), (d : Int), H, B, ts⟩ := ⟨_, rfl⟩
                have HR : Hid (r = if k < X.length then .error 2 else if numB m = true then .ok m else .error 15) := by
                  show _ = _
                  rw [HR.out, Hpr.out]
                  dsimp only
                  rw [Hmk.out, ← hmm]
                clear Hpr
                by_cases hk2 : k < X.length
                · have hI2 : (k : Int) < (X.length : Int) := by omega
                  have Hre := hid (show r = .error 2 by rw [HR.out, if_pos hk2])
                  clear HR hk2
                  have HO := hid (Hre.out)
                  have hb1 := hbl 2
                  have ho1 := hid (hoz.out 2)
                  have hl1 := hid (hlz1.out 2)
                  have HE := hid (HERR.out 2 · HO.out)
                  obtain ⟨l1, hle⟩ : ∃ l, l = gM zM 2 := ⟨_, rfl⟩
                  rw [← hle] at hb1 ho1 hl1 HE
                  clear hle hbl hoz hlz1 HERR
                  go_wp2_with (first | refine wp_bld 96 [(1, .const (.int .i64 2))] rfl rfl [(1, .int .i64 2)] rfl hb1 ?_ | (refine wp_st 96 (.tmp 2) (.tmp 112) rfl rfl rfl (f := 0) rfl (l := l1) rfl hz (by rw [hlz.out, hl1.out]; omega) (by rw [hl1.out]; exact sizeG8) ho1.out ?_; intro wz hz3 hG3; refine wp_stop ?_))
                  rw [set_all _ _ (by rw [hlz.out, hl1.out])] at hz3
                  refine wp_go ?_
                  go_wp2
                  refine ret_cell rfl rfl hz3.whole Tryd.underlying96 rfl (by rw [hl1.out]; exact sizeG8) rfl ?_
                  exact HE.out _ (hB.grown hG3 hB.size (fun k hk => by injection hk with hk; omega))
                · have hI2 : ¬ (k : Int) < (X.length : Int) := by omega
                  have hup := hOT.rd
                  obtain ⟨Ap, cp, rfl⟩ := own_shape hOT.own
                  have hubE := Hub.out
                  subst hubE
                  have hl : hdL (x0 : Int) (x1 : Int) (a : Int) (b : Int) (d : Int) H (.slice A1 B.length c1') (.slice Ap ts.length cp) = m.l (.slice A1 B.length c1') (.slice Ap ts.length cp) := by rw [hmm]; rfl
                  have hbg := bldG0 (x0 : Int) (x1 : Int) (a : Int) (b : Int) (d : Int) H HHl.out A1 Ap B.length c1' ts.length cp
                  have hl39 : (m.l (.slice A1 B.length c1') (.slice Ap ts.length cp)).length = 39 := by rw [← hl]; exact len_mg HHl.out _ _
                  have hone : ∀ v ∈ m.l (.slice A1 B.length c1') (.slice Ap ts.length cp), v.oneCell' = true := by rw [← hl]; exact one_hd _ _ _ _ _ _ _ _ _ _ _ _
                  rw [hl] at hm hbg
                  have hps : m.ps = ts := by rw [hmm]
                  have hbs : m.b = B := by rw [hmm]
                  have Hnum := hid (fun Y => (show Calls Tryd.prog 86 #[.agg (m.l (.slice A1 B.length c1') (.slice Ap ts.length cp)).toArray] Y (fun e w' => e = .returned (.bool (numB m)) ∧ Below Y.heap.size Y w') from num8_any m _ _ Y))
                  have Hfin : Hid (∀ W, r = .ok m → Rd W (fun b => w.heap.size ≤ b) (.slice A1 B.length c1') (bys B) → Rd W (fun b => w.heap.size ≤ b) (.slice Ap ts.length cp) (tx ts) → Below w.heap.size w W → RdP w r (.returned (.agg (gM (m.l (.slice A1 B.length c1') (.slice Ap ts.length cp)) 0).toArray)) W) := fun W h1 h2 h3 h4 => by
                    rw [h1]
                    exact ⟨⟨_, _, rfl, by rw [hbs]; exact h2, by rw [hps]; exact h3⟩, h4⟩
                  obtain ⟨lm, hlm⟩ : ∃ l, l = m.l (.slice A1 B.length c1') (.slice Ap ts.length cp) := ⟨_, rfl⟩
                  rw [← hlm] at hm hbg hl39 hone Hnum Hfin
                  have Hl39 := hid hl39
                  have Hone := hid (one_gM hone 0)
                  have Hlg := hid (len_gM hl39 0)
                  clear hlm hl hl39 hps hbs hmm hone
                  go_wp2_with (refine wp_ld 59 (.tmp 3) rfl rfl rfl hm.whole Tryd.underlying59 rfl (by rw [Hl39.out]; exact sizeM) ?_)
                  refine (Hnum.out _).mono ?_
                  rintro e' w8 ⟨rfl, hB8⟩
                  have hB := hB.trans (hB8.mono hB.size)
                  have hz := hz.below hB8
                  have hm := hm.below hB8
                  have hv1 := hv1.below hB8
                  have hup := hup.below hB8
                  clear hB8 hv Hnum
                  cases hnb : numB m with
                  | false =>
                    have Hre := hid (show r = .error 15 by rw [HR.out, if_neg hk2, hnb]; rfl)
                    clear HR hk2 hnb
                    have HO := hid (Hre.out)
                    have hb1 := hbl 15
                    have ho1 := hid (hoz.out 15)
                    have hl1 := hid (hlz1.out 15)
                    have HE := hid (HERR.out 15 · HO.out)
                    obtain ⟨l1, hle⟩ : ∃ l, l = gM zM 15 := ⟨_, rfl⟩
                    rw [← hle] at hb1 ho1 hl1 HE
                    clear hle hbl hoz hlz1 HERR
                    go_wp2_with (first | refine wp_bld 96 [(1, .const (.int .i64 15))] rfl rfl [(1, .int .i64 15)] rfl hb1 ?_ | (refine wp_st 96 (.tmp 2) (.tmp 116) rfl rfl rfl (f := 0) rfl (l := l1) rfl hz (by rw [hlz.out, hl1.out]; omega) (by rw [hl1.out]; exact sizeG8) ho1.out ?_; intro wz hz3 hG3; refine wp_stop ?_))
                    rw [set_all _ _ (by rw [hlz.out, hl1.out])] at hz3
                    refine wp_go ?_
                    go_wp2
                    refine ret_cell rfl rfl hz3.whole Tryd.underlying96 rfl (by rw [hl1.out]; exact sizeG8) rfl ?_
                    exact HE.out _ (hB.grown hG3 hB.size (fun k hk => by injection hk with hk; omega))
                  | true =>
                    have Hre := hid (show r = .ok m by rw [HR.out, if_neg hk2, hnb]; rfl)
                    clear HR hk2 hnb
                    obtain ⟨lg, hlg⟩ : ∃ l, l = gM lm 0 := ⟨_, rfl⟩
                    rw [← hlg] at hbg Hone Hlg Hfin
                    clear hlg
                    go_wp2_with (first | refine wp_ld 59 (.tmp 3) rfl rfl rfl hm.whole Tryd.underlying59 rfl (by rw [Hl39.out]; exact sizeM) ?_ | refine wp_bld 96 [(0, .tmp 117)] rfl rfl [(0, .agg lm.toArray)] rfl hbg ?_ | (refine wp_st 96 (.tmp 2) (.tmp 118) rfl rfl rfl (f := 0) rfl (l := lg) rfl hz (by rw [hlz.out, Hlg.out]; omega) (by rw [Hlg.out]; exact sizeG8) Hone.out ?_; intro wz hz3 hG3; refine wp_stop ?_))
                    rw [set_all _ _ (by rw [hlz.out, Hlg.out])] at hz3
                    have hv1 := hv1.keep (F' := fun b => w.heap.size ≤ b) (fun b hb hF => ⟨hF.1, hG3.block b hb (by intro e; injection e with e; exact hF.2.2.2 e)⟩)
                    have hup := hup.keep (F' := fun b => w.heap.size ≤ b) (fun b hb hF => ⟨by have hF : w7.heap.size ≤ b := hF; omega, hG3.block b hb (by have hF : w7.heap.size ≤ b := hF; intro e; injection e with e; omega)⟩)
                    refine wp_go ?_
                    go_wp2
                    refine ret_cell rfl rfl hz3.whole Tryd.underlying96 rfl (by rw [Hlg.out]; exact sizeG8) rfl ?_
                    exact Hfin.out _ Hre.out hv1 hup (hB.grown hG3 hB.size (fun k hk => by injection hk with hk; omega))
end Go.Proofs.YthbbpfnfnnmdnaaDoor
