/- Ct: several texts in one (Cr Cg Cs Ct). -/
import Derived.Test.YtmjpkdehkdpdpaaDoorCA
import Derived.Test.YtmjpkdehkdpdpaaDoorI5
import Derived.Test.YtmjpkdehkdpdpaaDoorOT
import Derived.Test.YtmjpkdehkdpdpaaDoorR3
import Derived.Deep.DeepCutAuto
import Derived.Deep.RegionHeld3
import Derived.Test.YtmjpkdehkdpdpaaDoorT5
import Derived.Test.YtmjpkdehkdpdpaaDoorRB
import Derived.Test.YtmjpkdehkdpdpaaDoorW4
/- Cr: layer 17, the document's side: what ref08.Get and ref09.Open answer (a message and an error, in one struct). -/
namespace Go.Proofs.YtmjpkdehkdpdpaaDoor
open Go.RowKit Go.V
/-- its cells -/
def gM (l : List Value) (e : Nat) : List Value := l ++ [.int .i64 (e : Int)]
theorem len_gM {l : List Value} (h : l.length = 39) (e : Nat) : (gM l e).length = 40 := by unfold gM; rw [List.length_append, h]; rfl
theorem sizeG8 : (Tryd.prog.info? 96).map (·.size) = some 40 := by kernel_rfl
theorem zeroG8 : (Tryd.prog.info? 96).map (·.zero) = some (some (.agg (gM zM 0).toArray)) := by kernel_rfl
theorem bldG8 (e : Nat) : ∀ W : World, (Instr.build 96 [(1, .int .i64 (e : Int))].toArray).run Tryd.prog W = .ok (.agg (gM zM e).toArray) W := fun _ => by kernel_rfl
theorem one_gM {l : List Value} (h : ∀ v ∈ l, v.oneCell' = true) (e : Nat) : ∀ v ∈ gM l e, v.oneCell' = true := by
  intro v hv
  unfold gM at hv
  rw [List.mem_append, List.mem_singleton] at hv
  rcases hv with hv | rfl
  · exact h v hv
  · rfl
theorem gM_err {l : List Value} (h : l.length = 39) (e : Nat) : (gM l e)[39]? = some (.int .i64 (e : Int)) := by
  unfold gM
  rw [List.getElem?_append_right (by omega), h]
  rfl
theorem gM_get {l : List Value} (h : l.length = 39) (e k : Nat) (hk : k < 39) : (gM l e)[k]? = l[k]? := by
  unfold gM
  rw [List.getElem?_append_left (by omega)]
/-- what such a call leaves -/
def RdP (w : World) (r : Except Nat Mg) (e : Ending) (w' : World) : Prop := match r with
  | .ok m => (∃ ub up, e = .returned (.agg (gM (m.l ub up) 0).toArray) ∧ Rd w' (fun b => w.heap.size ≤ b) ub (bys m.b) ∧ Rd w' (fun b => w.heap.size ≤ b) up (tx m.ps)) ∧ Below w.heap.size w w'
  | .error k => e = .returned (.agg (gM zM k).toArray) ∧ Below w.heap.size w w'
end Go.Proofs.YtmjpkdehkdpdpaaDoor
/- Cg: layer 17, the document's side: contract of ref08.Get over any bytes. -/
namespace Go.V
open Go.RowKit
/-- a struct's literal, in a region that draws its order -/
theorem yi_bld {P : Program} {ops : Array Oper} {S : World → Prop} {o : Oper} {a : Act} (hw : Region.wanted o (yielded ops a.tmps) = true) (t : TypeId) (parts : List (Nat × Operand)) (ho : o.op = .build t parts.toArray) (vs : List (Nat × Value)) (hp : (parts.map fun x => (x.1, a.eval x.2)) = vs) {cells : Array Value} (hr : ∀ W : World, (Instr.build t vs.toArray).run P W = .ok (.agg cells) W) :
    YieldsIf P ops S o (.agg cells) a := by
  refine .inl ⟨hw, fun w _ => ?_⟩
  have e : (parts.toArray.map fun (i, x) => (i, a.eval x)) = vs.toArray := by rw [List.map_toArray, ← hp]
  unfold execOp
  simp only [ho, e, Sem.run_bind, Sem.run_pure, hr, Result.andThen_ok]
end Go.V
namespace Go.Proofs.YtmjpkdehkdpdpaaDoor
open Go.RowKit Go.V
/-- a message's head while it is read: its cells -/
def hdL (k f v r s : Int) (h : List UInt8) (ub up : Value) : List Value := (⟨k, f, v, r, s, h, [], []⟩ : Mg).l ub up
theorem bldHd (a b : Int) : ∀ W : World, (Instr.build 59 [(0, .int .i64 a), (1, .int .i64 b)].toArray).run Tryd.prog W = .ok (.agg (hdL a b 0 0 0 (List.replicate 32 0) (.slice none 0 0) (.slice none 0 0)).toArray) W := fun _ => by kernel_rfl
theorem one_hd (k f v r s : Int) (h : List UInt8) (A B : Option Addr) (n c d e : Nat) : ∀ x ∈ hdL k f v r s h (.slice A n c) (.slice B d e), x.oneCell' = true := one_mg
set_option maxRecDepth 100000 in
theorem bldG0 (k f v r s : Int) (h : List UInt8) (hh : h.length = 32) (A B : Option Addr) (n c d e : Nat) : ∀ W : World, (Instr.build 96 [(0, .agg (hdL k f v r s h (.slice A n c) (.slice B d e)).toArray)].toArray).run Tryd.prog W = .ok (.agg (gM (hdL k f v r s h (.slice A n c) (.slice B d e)) 0).toArray) W := by
  match h, hh with
  | [a0, a1, a2, a3, a4, a5, a6, a7, a8, a9, a10, a11, a12, a13, a14, a15, a16, a17, a18, a19, a20, a21, a22, a23, a24, a25, a26, a27, a28, a29, a30, a31], _ => intro W; kernel_rfl
theorem bvs_set (h : List UInt8) (j : Nat) (x : UInt8) : (bvs h).set j (.int .u8 (x.toNat : Int)) = bvs (h.set j x) := by unfold bvs; rw [List.map_set]; rfl
theorem hd_set (k f v r s : Int) (h : List UInt8) (ub up : Value) (j : Nat) (hj : j < h.length) (x : UInt8) : (hdL k f v r s h ub up).set (5 + j) (.int .u8 (x.toNat : Int)) = hdL k f v r s (h.set j x) ub up := by
  unfold hdL Mg.l
  rw [show 5 + j = j + 1 + 1 + 1 + 1 + 1 from by omega]
  simp only [List.set_cons_succ]
  rw [List.set_append_left _ _ (by rw [len_bvs]; exact hj), bvs_set]
theorem fill_set (l : List UInt8) (i n : Nat) (hi : i < n) (hl : n ≤ l.length) : (l.take i ++ List.replicate (n - i) 0).set i (l[i]'(by omega)) = l.take (i + 1) ++ List.replicate (n - (i + 1)) 0 := by
  rw [List.set_append_right _ _ (by rw [List.length_take]; omega), List.length_take, show i - min i l.length = 0 from by omega, show n - i = (n - (i + 1)) + 1 from by omega, List.replicate_succ, List.set_cons_zero, List.take_succ_eq_append_getElem (by omega), List.append_assoc]
  rfl
set_option maxRecDepth 100000 in
set_option maxHeartbeats 4000000 in
theorem rget8_any (v : Value) (X : List UInt8) (F : Nat → Prop) (w : World) (hv : Rd w F v (bys X)) (hX : X.length ≤ 1000000) :
    Calls Tryd.prog 69 #[v] w (RdP w (getR X)) := by
  have hbl := bldG8
  obtain ⟨A, c, rfl⟩ := hv.shape
  have hz := Blk.new' w 96 (gM zM 0)
  have hB : Below w.heap.size w (w.alloc (.cells (gM zM 0).toArray 96)) := (Below.refl _ _).alloc (Nat.le_refl _) _
  have hv := hv.below hB
  have h4 : 65504 < X.length → getR X = .error 4 := fun h => by unfold getR; rw [if_pos h]
  have h1 : ¬ 65504 < X.length → X.length < 40 → getR X = .error 1 := fun h h' => by unfold getR; rw [if_neg h]; exact rd_short h'
  have hh : ¬ 65504 < X.length → getR X = rdM X := fun h => by unfold getR; rw [if_neg h]
  obtain ⟨r, hr⟩ : ∃ r, r = getR X := ⟨_, rfl⟩
  rw [← hr] at h4 h1 hh ⊢
  have H4 := hid h4
  have H1 := hid h1
  have HH := hid hh
  have hlz := hid (len_gM len_zM 0)
  have hlz1 := hid (len_gM len_zM)
  have hoz := hid (one_gM one_zM8)
  clear hr h4 h1 hh
  go_enter Tryd.func69, Tryd.ntmps69
  go_wp2_with (refine wp_new 96 rfl rfl zeroG8 ?_; refine wp_stop ?_)
  obtain ⟨w0, hw0⟩ : ∃ x, x = w.alloc (.cells (gM zM 0).toArray 96) := ⟨_, rfl⟩
  rw [← hw0] at hz hB hv ⊢
  clear hw0
  have hv := hv.weak (F' := fun b => b < w0.heap.size) (fun b hb _ => hb)
  obtain ⟨g2, hg2⟩ : ∃ g, g = w.heap.size := ⟨_, rfl⟩
  rw [← hg2] at hz ⊢
  have hgw : w.heap.size ≤ g2 := by omega
  clear hg2
  have HERR : Hid (∀ (k : Nat) (W : World), r = .error k → Below w.heap.size w W → RdP w r (.returned (.agg (gM zM k).toArray)) W) := hid (fun k W h hb => by rw [h]; exact ⟨rfl, hb⟩)
  refine wp_go ?_
  by_cases h4 : 65504 < X.length
  · have hI : (65504 : Int) < (X.length : Int) := by omega
    have HO := hid (H4.out h4)
    have hb1 := hbl 4
    have ho1 := hid (hoz.out 4)
    have hl1 := hid (hlz1.out 4)
    have HE := hid (HERR.out 4 · HO.out)
    obtain ⟨l1, hle⟩ : ∃ l, l = gM zM 4 := ⟨_, rfl⟩
    rw [← hle] at hb1 ho1 hl1 HE
    clear h4 hle hbl hoz hlz1 HERR HO H4 H1 HH
    go_wp2_with (first | refine wp_bld 96 [(1, .const (.int .i64 4))] rfl rfl [(1, .int .i64 4)] rfl hb1 ?_ | refine wp_st 96 (.tmp 2) (.tmp 13) rfl rfl rfl (f := 0) rfl (l := l1) rfl hz (by rw [hlz.out, hl1.out]; omega) (by rw [hl1.out]; exact sizeG8) ho1.out ?_; intro w3 hz3 hG3; refine wp_stop ?_)
    rw [set_all _ _ (by rw [hlz.out, hl1.out])] at hz3
    refine wp_go ?_
    go_wp2
    refine ret_cell rfl rfl hz3.whole Tryd.underlying96 rfl (by rw [hl1.out]; exact sizeG8) rfl ?_
    exact HE.out _ (hB.grown hG3 hB.size (fun k hk => by injection hk with hk; omega))
  have hI : ¬ (65504 : Int) < (X.length : Int) := by omega
  by_cases h40 : X.length < 40
  · have hI2 : (X.length : Int) < 40 := by omega
    have HO := hid (H1.out h4 h40)
    have hb1 := hbl 1
    have ho1 := hid (hoz.out 1)
    have hl1 := hid (hlz1.out 1)
    have HE := hid (HERR.out 1 · HO.out)
    obtain ⟨l1, hle⟩ : ∃ l, l = gM zM 1 := ⟨_, rfl⟩
    rw [← hle] at hb1 ho1 hl1 HE
    clear h4 h40 hle hbl hoz hlz1 HERR HO H4 H1 HH
    go_wp2_with (first | refine wp_bld 96 [(1, .const (.int .i64 1))] rfl rfl [(1, .int .i64 1)] rfl hb1 ?_ | refine wp_st 96 (.tmp 2) (.tmp 17) rfl rfl rfl (f := 0) rfl (l := l1) rfl hz (by rw [hlz.out, hl1.out]; omega) (by rw [hl1.out]; exact sizeG8) ho1.out ?_; intro w3 hz3 hG3; refine wp_stop ?_)
    rw [set_all _ _ (by rw [hlz.out, hl1.out])] at hz3
    refine wp_go ?_
    go_wp2
    refine ret_cell rfl rfl hz3.whole Tryd.underlying96 rfl (by rw [hl1.out]; exact sizeG8) rfl ?_
    exact HE.out _ (hB.grown hG3 hB.size (fun k hk => by injection hk with hk; omega))
  have hI2 : ¬ (X.length : Int) < 40 := by omega
  have HR := hid ((HH.out h4).trans (rd_head (by omega)))
  have hn : 40 ≤ X.length ∧ X.length ≤ 65504 := by omega
  have hI0 : (0 : Int) < (X.length : Int) := by omega
  have hI1 : (1 : Int) < (X.length : Int) := by omega
  have hN0 : 0 < X.length := by omega
  have hN1 : 1 < X.length := by omega
  obtain ⟨g0, off, rfl, hF0, hc0⟩ := hv.byteAt 0 (by omega)
  obtain ⟨g0', off', he, hF1, hc1⟩ := hv.byteAt 1 (by omega)
  injection he with he
  injection he with he1 he2
  subst he1 he2
  have hd0 : X[0]'(by omega) = X.getD 0 0 := by rw [List.getD_eq_getElem?_getD, List.getElem?_eq_getElem (by omega)]; rfl
  have hd1 : X[1]'(by omega) = X.getD 1 0 := by rw [List.getD_eq_getElem?_getD, List.getElem?_eq_getElem (by omega)]; rfl
  rw [hd0, Nat.add_zero] at hc0
  rw [hd1] at hc1
  obtain ⟨x0, hx0⟩ : ∃ x, x = (X.getD 0 0).toNat := ⟨_, rfl⟩
  obtain ⟨x1, hx1⟩ : ∃ x, x = (X.getD 1 0).toNat := ⟨_, rfl⟩
  rw [← hx0] at hc0
  rw [← hx1] at hc1
  have hx0l : x0 < 256 := by rw [hx0]; exact (X.getD 0 0).toNat_lt
  have hx1l : x1 < 256 := by rw [hx1]; exact (X.getD 1 0).toNat_lt
  have hw0x : IntKind.i64.wrap (x0 : Int) = (x0 : Int) := IntWalk.i64_in _ (by omega)
  have hw1x : IntKind.i64.wrap (x1 : Int) = (x1 : Int) := IntWalk.i64_in _ (by omega)
  have Hx0 := hid hx0
  have Hx1 := hid hx1
  have HC0 := hid (fun W (h : Ch nob w0 W) => (h.below.cell (lt_of_cell hc0)).trans hc0)
  have HC1 := hid (fun W (h : Ch nob w0 W) => (h.below.cell (lt_of_cell hc1)).trans hc1)
  have hbm := bldHd (x0 : Int) (x1 : Int)
  have H51 := hid (one_hd (x0 : Int) (x1 : Int) 0 0 0 (List.replicate 32 0) none none 0 0 0 0)
  have H5 := hid (show (hdL (x0 : Int) (x1 : Int) 0 0 0 (List.replicate 32 0) (.slice none 0 0) (.slice none 0 0)).length = 39 from len_mg (by rfl) _ _)
  obtain ⟨l5, hl5⟩ : ∃ l, l = hdL (x0 : Int) (x1 : Int) 0 0 0 (List.replicate 32 0) (.slice none 0 0) (.slice none 0 0) := ⟨_, rfl⟩
  rw [← hl5] at hbm H51 H5
  have Hl5 := hid hl5
  clear H4 H1 HH h4 h40 hX hd0 hd1 hx0 hx1 hc0 hc1 hF0 hF1 hl5
  go_upto_region 5 with (fail)
  go_cut [3] (fun s3 wx => ∃ g, s3 = .pointer (some ⟨g, 0, none⟩) ∧ Blk wx g 59 l5 ∧ w0.heap.size ≤ g ∧ Below w0.heap.size w0 wx)
  case first =>
    refine wp_region_noPanic ?_
    refine wp_region_held_drew (S := Ch nob w0) (by kernel_rfl) ((Ch.refl _ _).drew) (fun hHeld => ?_)
    refine wpAnyH_take (i := 0) (oi := ⟨some 18, _, _, _, _, none⟩) (v := ?_) rfl (by kernel_rfl) (by kernel_rfl) (by kernel_rfl) (fun _ _ _ h => h) (Or.inl ⟨by rfl, ?_⟩) (by assumption) ?_
    rotate_left
    · intro w hSw; go_simp; try with_reducible rfl
    try simp only [Act.put, List.setIfInBounds_toArray, List.set_cons_zero, List.set_cons_succ]
    refine wpAnyH_take (i := 1) (oi := ⟨some 19, _, _, _, _, none⟩) (v := ?_) rfl (by kernel_rfl) (by kernel_rfl) (by kernel_rfl) (fun _ _ _ h => h) (Or.inl ⟨by rfl, ?_⟩) (by assumption) ?_
    rotate_left
    · intro w hSw; go_simp; try with_reducible rfl
    try simp only [Act.put, List.setIfInBounds_toArray, List.set_cons_zero, List.set_cons_succ]
    refine wpAnyH_take (i := 2) (oi := ⟨some 20, _, _, _, _, none⟩) (v := ?_) rfl (by kernel_rfl) (by kernel_rfl) (by kernel_rfl) (fun _ _ _ h => h) (Or.inl ⟨by rfl, ?_⟩) (by assumption) ?_
    rotate_left
    · intro w hSw; have hcw := HC0.out w hSw; go_simp; try with_reducible rfl
    try simp only [Act.put, List.setIfInBounds_toArray, List.set_cons_zero, List.set_cons_succ]
    refine wpAnyH_take (i := 3) (oi := ⟨some 21, _, _, _, _, none⟩) (v := ?_) rfl (by kernel_rfl) (by kernel_rfl) (by kernel_rfl) (fun _ _ _ h => h) (Or.inl ⟨by rfl, ?_⟩) (by assumption) ?_
    rotate_left
    · intro w hSw; go_simp; try with_reducible rfl
    try simp only [Act.put, List.setIfInBounds_toArray, List.set_cons_zero, List.set_cons_succ]
    refine wpAnyH_take (i := 4) (oi := ⟨some 22, _, _, _, _, none⟩) (v := ?_) rfl (by kernel_rfl) (by kernel_rfl) (by kernel_rfl) (fun _ _ _ h => h) (Or.inl ⟨by rfl, ?_⟩) (by assumption) ?_
    rotate_left
    · intro w hSw; go_simp; try with_reducible rfl
    try simp only [Act.put, List.setIfInBounds_toArray, List.set_cons_zero, List.set_cons_succ]
    refine wpAnyH_take (i := 5) (oi := ⟨some 23, _, _, _, _, none⟩) (v := ?_) rfl (by kernel_rfl) (by kernel_rfl) (by kernel_rfl) (fun _ _ _ h => h) (Or.inl ⟨by rfl, ?_⟩) (by assumption) ?_
    rotate_left
    · intro w hSw; go_simp; try with_reducible rfl
    try simp only [Act.put, List.setIfInBounds_toArray, List.set_cons_zero, List.set_cons_succ]
    refine wpAnyH_take (i := 6) (oi := ⟨some 24, _, _, _, _, none⟩) (v := ?_) rfl (by kernel_rfl) (by kernel_rfl) (by kernel_rfl) (fun _ _ _ h => h) (Or.inl ⟨by rfl, ?_⟩) (by assumption) ?_
    rotate_left
    · intro w hSw; have hcw := HC1.out w hSw; go_simp; try with_reducible rfl
    try simp only [Act.put, List.setIfInBounds_toArray, List.set_cons_zero, List.set_cons_succ]
    refine wpAnyH_take (i := 7) (oi := ⟨some 25, _, _, _, _, none⟩) (v := ?_) rfl (by kernel_rfl) (by kernel_rfl) (by kernel_rfl) (fun _ _ _ h => h) (Or.inl ⟨by rfl, ?_⟩) (by assumption) ?_
    rotate_left
    · intro w hSw; go_simp; try with_reducible rfl
    try simp only [Act.put, List.setIfInBounds_toArray, List.set_cons_zero, List.set_cons_succ]
    refine wpAnyH_take (i := 8) (oi := ⟨some 26, _, _, _, _, none⟩) (v := _) rfl (by kernel_rfl) (by kernel_rfl) (by kernel_rfl) (fun _ _ _ h => h) (yi_bld (by rfl) 59 [(0, .tmp 21), (1, .tmp 25)] (by rfl) [(0, .int .i64 (x0 : Int)), (1, .int .i64 (x1 : Int))] (by rfl) hbm) (by assumption) ?_
    try simp only [Act.put, List.setIfInBounds_toArray, List.set_cons_zero, List.set_cons_succ]
    refine wpAnyH_ready (rs := [9]) (by kernel_rfl) (by simp) ?_
    refine AllReadyH.cons (o := ⟨some 3, .alloc _, _, _, _, none⟩) rfl (fun K hK => ?_) AllReadyH.nil
    refine step_new 59 (by rfl) (by rfl) zeroM ?_
    intro g9 w9 hg9 hgl9 hz9 hB9
    have hg9 : w0.heap.size ≤ g9 := Nat.le_trans hHeld.size hg9
    refine hK.out _ _ (hHeld.belowG hB9) (fun hHeld => ?_)
    clear hK K
    try simp only [Act.put, List.setIfInBounds_toArray, List.set_cons_zero, List.set_cons_succ]
    refine wpAnyH_ready (rs := [10]) (by kernel_rfl) (by simp) ?_
    refine AllReadyH.cons (o := ⟨none, .store _ (.tmp 3) (.tmp 26), _, _, _, none⟩) rfl (fun K hK => ?_) AllReadyH.nil
    refine step_st 59 (.tmp 3) (.tmp 26) (by rfl) (by rfl) (by rfl) (f := 0) (by rfl) (l := l5) (by rfl) hz9 (by rw [H5.out, len_zM]; omega) (by rw [H5.out]; exact sizeM) H51.out ?_
    intro w11 hz11 hG11
    rw [set_all _ _ (by rw [H5.out, len_zM])] at hz11
    refine hK.out _ _ (hHeld.grow hG11 (fun k hk => .inr (by injection hk with hk; omega))) (fun hHeld => ?_)
    clear hK K
    try simp only [Act.put, List.setIfInBounds_toArray, List.set_cons_zero, List.set_cons_succ]
    refine wpAnyH_done (by kernel_rfl) ?_ _
    refine NoPanic.normal ?_
    go_wp2
    go_meet
    exact ⟨g9, rfl, hz11, hg9, hHeld.below⟩
  case rest =>
    obtain ⟨g3, rfl, hm, hg3, hB2⟩ := hcut
    have hv := hv.below hB2
    have hzl := hz.lt
    have hz := hz.below hB2
    have hs0 := hB.size
    have hv := hv.weak (F' := fun b => b ≠ g3) (fun b _ h => by have h' : b < w0.heap.size := h; omega)
    have h23 : g2 ≠ g3 := by omega
    have hwg3 : w.heap.size ≤ g3 := by omega
    have hB := hB.trans (hB2.mono hB.size)
    clear HC0 HC1 hB2 hbm
    have hf2 := fld54 ((nb X 2 2 : Nat) : Int) 0 2
    have hn2 := nb_lt X 2 2
    have hw2 : IntKind.i64.wrap ((nb X 2 2 : Nat) : Int) = ((nb X 2 2 : Nat) : Int) := IntWalk.i64_in _ (by omega)
    obtain ⟨a, ha⟩ : ∃ x, x = nb X 2 2 := ⟨_, rfl⟩
    have r2 := fun W h => readx_any (.slice (some ⟨g0, off, none⟩) X.length c) X 2 2 (fun b => b ≠ g3) W h (by omega) (by omega)
    rw [← ha] at hf2 hn2 hw2 r2
    have R2 := hid r2
    have Ha := hid ha
    clear r2 ha
    go_wp2_with (fail)
    refine (R2.out _ hv).mono ?_
    rintro e w2 ⟨rfl, hB2⟩
    have hv := hv.below hB2
    have hz := hz.below hB2
    have hm := hm.below hB2
    have hB := hB.trans (hB2.mono hB.size)
    clear R2 hB2
    go_wp2_with (refine wp_st1 3 (.tmp 31) (.tmp 30) rfl rfl rfl (f := 2) rfl (v := .int .i64 (a : Int)) rfl hm (by rw [H5.out]; omega) sizeI8 rfl rfl ?_; intro v2 hm hG2; refine wp_stop ?_)
    have hv := hv.keep (F' := fun b => b ≠ g3) (fun b hb hF => ⟨hF, hG2.block b hb (by intro h; injection h with h; exact hF h)⟩)
    have hz := hz.keep (hG2.block _ hz.lt (by intro h; injection h with h; exact h23 h))
    have hB := hB.grown hG2 hB.size (fun k hk => by injection hk with hk; omega)
    have H6l : Hid (l5.set 2 (.int .i64 (a : Int)) = hdL (x0 : Int) (x1 : Int) (a : Int) 0 0 (List.replicate 32 0) (.slice none 0 0) (.slice none 0 0)) := hid (by rw [Hl5.out]; rfl)
    obtain ⟨l6, hl6⟩ : ∃ l, l = l5.set 2 (.int .i64 (a : Int)) := ⟨_, rfl⟩
    have H6 : Hid (l6.length = 39) := hid (by rw [hl6, List.length_set]; exact H5.out)
    rw [← hl6] at hm H6l
    clear hl6 hG2 hf2 hw2
    refine wp_go ?_
    have hf3 := fld54 ((nb X 4 2 : Nat) : Int) 0 2
    have hn3 := nb_lt X 4 2
    have hw3 : IntKind.i64.wrap ((nb X 4 2 : Nat) : Int) = ((nb X 4 2 : Nat) : Int) := IntWalk.i64_in _ (by omega)
    obtain ⟨b, hb⟩ : ∃ x, x = nb X 4 2 := ⟨_, rfl⟩
    have r3 := fun W h => readx_any (.slice (some ⟨g0, off, none⟩) X.length c) X 4 2 (fun b => b ≠ g3) W h (by omega) (by omega)
    rw [← hb] at hf3 hn3 hw3 r3
    have R3 := hid r3
    have Hb := hid hb
    clear r3 hb
    go_wp2_with (fail)
    refine (R3.out _ hv).mono ?_
    rintro e w3 ⟨rfl, hB3⟩
    have hv := hv.below hB3
    have hz := hz.below hB3
    have hm := hm.below hB3
    have hB := hB.trans (hB3.mono hB.size)
    clear R3 hB3
    go_wp2_with (refine wp_st1 3 (.tmp 36) (.tmp 35) rfl rfl rfl (f := 3) rfl (v := .int .i64 (b : Int)) rfl hm (by rw [H6.out]; omega) sizeI8 rfl rfl ?_; intro v3 hm hG3; refine wp_stop ?_)
    have hv := hv.keep (F' := fun b => b ≠ g3) (fun b hb hF => ⟨hF, hG3.block b hb (by intro h; injection h with h; exact hF h)⟩)
    have hz := hz.keep (hG3.block _ hz.lt (by intro h; injection h with h; exact h23 h))
    have hB := hB.grown hG3 hB.size (fun k hk => by injection hk with hk; omega)
    have H7l : Hid (l6.set 3 (.int .i64 (b : Int)) = hdL (x0 : Int) (x1 : Int) (a : Int) (b : Int) 0 (List.replicate 32 0) (.slice none 0 0) (.slice none 0 0)) := hid (by rw [H6l.out]; rfl)
    obtain ⟨l7, hl7⟩ : ∃ l, l = l6.set 3 (.int .i64 (b : Int)) := ⟨_, rfl⟩
    have H7 : Hid (l7.length = 39) := hid (by rw [hl7, List.length_set]; exact H6.out)
    rw [← hl7] at hm H7l
    clear hl7 hG3 hf3 hw3
    refine wp_go ?_
    have hf4 := fld54 ((nb X 6 2 : Nat) : Int) 0 2
    have hn4 := nb_lt X 6 2
    have hw4 : IntKind.i64.wrap ((nb X 6 2 : Nat) : Int) = ((nb X 6 2 : Nat) : Int) := IntWalk.i64_in _ (by omega)
    obtain ⟨d, hd⟩ : ∃ x, x = nb X 6 2 := ⟨_, rfl⟩
    have r4 := fun W h => readx_any (.slice (some ⟨g0, off, none⟩) X.length c) X 6 2 (fun b => b ≠ g3) W h (by omega) (by omega)
    rw [← hd] at hf4 hn4 hw4 r4
    have R4 := hid r4
    have Hd := hid hd
    clear r4 hd
    go_wp2_with (fail)
    refine (R4.out _ hv).mono ?_
    rintro e w4 ⟨rfl, hB4⟩
    have hv := hv.below hB4
    have hz := hz.below hB4
    have hm := hm.below hB4
    have hB := hB.trans (hB4.mono hB.size)
    clear R4 hB4
    go_wp2_with (refine wp_st1 3 (.tmp 41) (.tmp 40) rfl rfl rfl (f := 4) rfl (v := .int .i64 (d : Int)) rfl hm (by rw [H7.out]; omega) sizeI8 rfl rfl ?_; intro v4 hm hG4; refine wp_stop ?_)
    have hv := hv.keep (F' := fun b => b ≠ g3) (fun b hb hF => ⟨hF, hG4.block b hb (by intro h; injection h with h; exact hF h)⟩)
    have hz := hz.keep (hG4.block _ hz.lt (by intro h; injection h with h; exact h23 h))
    have hB := hB.grown hG4 hB.size (fun k hk => by injection hk with hk; omega)
    have H8l : Hid (l7.set 4 (.int .i64 (d : Int)) = hdL (x0 : Int) (x1 : Int) (a : Int) (b : Int) (d : Int) (List.replicate 32 0) (.slice none 0 0) (.slice none 0 0)) := hid (by rw [H7l.out]; rfl)
    obtain ⟨l8, hl8⟩ : ∃ l, l = l7.set 4 (.int .i64 (d : Int)) := ⟨_, rfl⟩
    have H8 : Hid (l8.length = 39) := hid (by rw [hl8, List.length_set]; exact H7.out)
    rw [← hl8] at hm H8l
    clear hl8 hG4 hf4 hw4
    refine wp_go ?_
    have H0 := hid (show Blk v4 g3 59 (hdL (x0 : Int) (x1 : Int) (a : Int) (b : Int) (d : Int) ((X.drop 8).take 0 ++ List.replicate (32 - 0) 0) (.slice none 0 0) (.slice none 0 0)) from by rw [show (X.drop 8).take 0 ++ List.replicate (32 - 0) 0 = List.replicate 32 (0 : UInt8) from by simp, ← H8l.out]; exact hm)
    have HV0 := hid hv
    have HZ0 := hid hz
    have HB0 := hid hB
    clear hm hv hz hB H5 H51 Hl5 H6 H6l H7 H7l H8 H8l
    go_wp2
    go_loopw [4] (fun iv wr => ∃ (i : Nat), i ≤ 32 ∧ iv = .int .i64 i ∧ Blk wr g3 59 (hdL (x0 : Int) (x1 : Int) (a : Int) (b : Int) (d : Int) ((X.drop 8).take i ++ List.replicate (32 - i) 0) (.slice none 0 0) (.slice none 0 0)) ∧ Blk wr g2 96 (gM zM 0) ∧ Rd wr (fun b => b ≠ g3) (.slice (some ⟨g0, off, none⟩) X.length c) (bys X) ∧ Below w.heap.size w wr) (fun i _ => 32 - (intOf i).toNat)
    case atStart => exact ⟨0, by omega, rfl, H0.out, HZ0.out, HV0.out, HB0.out⟩
    case round =>
      clear H0 HV0 HZ0 HB0
      obtain ⟨i, hi, rfl, hm, hz, hv, hB⟩ := hrel
      by_cases hlt : i < 32
      · have hI : (i : Int) < 32 := by omega
        have hln : ((X.drop 8).take i ++ List.replicate (32 - i) (0 : UInt8)).length = 32 := by rw [List.length_append, List.length_take, List.length_drop, List.length_replicate]; omega
        have hl39 := hid (show (hdL (x0 : Int) (x1 : Int) (a : Int) (b : Int) (d : Int) ((X.drop 8).take i ++ List.replicate (32 - i) 0) (.slice none 0 0) (.slice none 0 0)).length = 39 from len_mg hln _ _)
        obtain ⟨gq, offq, he, hFq, hcq⟩ := hv.byteAt (8 + i) (by omega)
        injection he with he
        injection he with he1 he2
        subst he1 he2
        obtain ⟨x, hx⟩ : ∃ x, x = X[8 + i]'(by omega) := ⟨_, rfl⟩
        rw [← hx] at hcq
        have hst := hid (show (hdL (x0 : Int) (x1 : Int) (a : Int) (b : Int) (d : Int) ((X.drop 8).take i ++ List.replicate (32 - i) 0) (.slice none 0 0) (.slice none 0 0)).set (5 + i) (.int .u8 (x.toNat : Int)) = hdL (x0 : Int) (x1 : Int) (a : Int) (b : Int) (d : Int) ((X.drop 8).take (i + 1) ++ List.replicate (32 - (i + 1)) 0) (.slice none 0 0) (.slice none 0 0) from by
          rw [hd_set _ _ _ _ _ _ _ _ _ (by rw [hln]; exact hlt), ← fill_set (X.drop 8) i 32 hlt (by rw [List.length_drop]; omega), List.getElem_drop, hx])
        have hNb : 8 + i < X.length := by omega
        have hIw : IntKind.i64.wrap (8 + (i : Int)) = ((8 + i : Nat) : Int) := (IntWalk.i64_in _ (by omega)).trans (by omega)
        have hIw1 : IntKind.i64.wrap ((i : Int) + 1) = ((i + 1 : Nat) : Int) := (IntWalk.i64_in _ (by omega)).trans (by omega)
        obtain ⟨li, hli⟩ : ∃ l, l = hdL (x0 : Int) (x1 : Int) (a : Int) (b : Int) (d : Int) ((X.drop 8).take i ++ List.replicate (32 - i) 0) (.slice none 0 0) (.slice none 0 0) := ⟨_, rfl⟩
        rw [← hli] at hm hl39 hst
        clear hln hx hli
        go_wp2_with (refine wp_st1 5 (.tmp 53) (.tmp 51) rfl rfl rfl (f := 5 + i) rfl (v := .int .u8 (x.toNat : Int)) rfl hm (by rw [hl39.out]; omega) size8 rfl rfl ?_; intro v5 hm hG5; refine wp_stop ?_)
        have hv := hv.keep (F' := fun b => b ≠ g3) (fun b hb hF => ⟨hF, hG5.block b hb (by intro h; injection h with h; exact hF h)⟩)
        have hz := hz.keep (hG5.block _ hz.lt (by intro h; injection h with h; exact h23 h))
        have hB := hB.grown hG5 hB.size (fun k hk => by injection hk with hk; omega)
        rw [hst.out] at hm
        clear hG5 hst hl39
        refine wp_go ?_
        go_wp2
        go_roundw
        case rel => exact ⟨i + 1, by omega, by go_num, hm, hz, hv, hB⟩
        case measure => simp [intOf]; omega
      · have hi' : i = 32 := by omega
        subst hi'
        rw [show (X.drop 8).take 32 ++ List.replicate (32 - 32) (0 : UInt8) = (X.drop 8).take 32 from by simp] at hm
        have hHl : ((X.drop 8).take 32).length = 32 := by rw [List.length_take, List.length_drop]; omega
        have hmk : ∀ bt ts, mkH X bt ts = (⟨(x0 : Int), (x1 : Int), (a : Int), (b : Int), (d : Int), (X.drop 8).take 32, bt, ts⟩ : Mg) := by
          intro bt ts
          unfold mkH
          rw [← Hx0.out, ← Hx1.out, ← nb_fix X 2 2 (by omega), ← nb_fix X 4 2 (by omega), ← nb_fix X 6 2 (by omega), ← Ha.out, ← Hb.out, ← Hd.out]
        obtain ⟨H, hH⟩ : ∃ H, H = (X.drop 8).take 32 := ⟨_, rfl⟩
        rw [← hH] at hm hHl hmk
        have HHl := hid hHl
        have Hmk := hid hmk
        clear hH hHl hmk Hx0 Hx1 Ha Hb Hd hi
        have hrt := rtext_any (.slice (some ⟨g0, off, none⟩) X.length c) X 40 65536 (fun b => b ≠ g3) _ hv (by omega) (by omega) (by omega)
        cases htx : textR 65536 (X.drop 40) with
        | error e =>
          rw [show ((65536 : Nat) : Int) = 65536 from rfl, htx] at hrt
          have he := textR_err htx
          have Hrt := hid (show Calls Tryd.prog 84 #[.slice (some ⟨g0, off, none⟩) X.length c, .int .i64 40, .int .i64 65536] wr (fun e' w' => e' = .returned (.agg (gotL 0 (.slice none 0 0) 0 e).toArray) ∧ Below wr.heap.size wr w') from hrt)
          have hre : r = .error e := by rw [HR.out, htx]
          have Hre := hid hre
          clear hrt htx hre HR
          go_wp2_with (fail)
          refine Hrt.out.mono ?_
          rintro e' w1 ⟨rfl, hB1⟩
          have hB := hB.trans (hB1.mono hB.size)
          have hz := hz.below hB1
          have hm := hm.below hB1
          have hv := hv.below hB1
          go_wp2_with (first | (refine wp_newst 143 5 (.tmp 55) rfl rfl rfl rfl rfl rfl zeroGot (l := gotL 0 (.slice none 0 0) 0 e) rfl rfl sizeGot (one_got 0 0 e _ _ _) (by simp) ?_; intro w3 b5 hB5 hs5; refine wp_stop ?_))
          have hB := hB.trans (hB5.mono hB.size)
          have hv := hv.below hB5
          have hz := hz.below hB5
          have hm := hm.below hB5
          have c3 := b5.cellAt 3 _ rfl
          have ne : ((e : Int) != 0) = true := by rw [bne_iff_ne]; omega
          refine wp_go ?_
          have HO := hid (Hre.out)
          have hb1 := hbl e
          have ho1 := hid (hoz.out e)
          have hl1 := hid (hlz1.out e)
          have HE := hid (HERR.out e · HO.out)
          obtain ⟨l1, hle⟩ : ∃ l, l = gM zM e := ⟨_, rfl⟩
          rw [← hle] at hb1 ho1 hl1 HE
          clear hle hbl hoz hlz1 HERR
          go_wp2_with (first | refine wp_bld 96 [(1, .tmp 60)] rfl rfl [(1, .int .i64 (e : Int))] rfl hb1 ?_ | (refine wp_st 96 (.tmp 2) (.tmp 61) rfl rfl rfl (f := 0) rfl (l := l1) rfl hz (by rw [hlz.out, hl1.out]; omega) (by rw [hl1.out]; exact sizeG8) ho1.out ?_; intro wz hz3 hG3; refine wp_stop ?_))
          rw [set_all _ _ (by rw [hlz.out, hl1.out])] at hz3
          refine wp_go ?_
          go_wp2
          refine ret_cell rfl rfl hz3.whole Tryd.underlying96 rfl (by rw [hl1.out]; exact sizeG8) rfl ?_
          exact HE.out _ (hB.grown hG3 hB.size (fun k hk => by injection hk with hk; omega))
        | ok p =>
          obtain ⟨n, z⟩ := p
          rw [show ((65536 : Nat) : Int) = 65536 from rfl, htx] at hrt
          have hok := textR_ok htx
          rw [List.length_drop] at hok
          obtain ⟨B, hBt⟩ : ∃ B, B = ((X.drop 40).drop z).take n := ⟨_, rfl⟩
          have hBl : B.length ≤ 65536 := by rw [hBt, List.length_take]; omega
          obtain ⟨sn, hsn⟩ : ∃ sn, sn = z + n := ⟨_, rfl⟩
          have hsl : 40 + sn ≤ X.length := by omega
          obtain ⟨K1, hK1⟩ : ∃ K1, K1 = 40 + sn := ⟨_, rfl⟩
          have HR : Hid (r = match cntR 16 (readPk (X.drop K1)) with
            | .error e => .error e
            | .ok (c, y) => match prtR c (K1 + y) X with
              | .error e => .error e
              | .ok (ts, k) => if k < X.length then .error 2 else if numB (mkH X B ts) = true then .ok (mkH X B ts) else .error 15) := by
            show _ = _
            rw [HR.out, htx]
            dsimp only
            rw [← hsn, ← hK1, ← hBt]
            rfl
          have Hrt := hid (show Calls Tryd.prog 84 #[.slice (some ⟨g0, off, none⟩) X.length c, .int .i64 40, .int .i64 65536] wr (fun e' w' => ∃ v, e' = .returned (.agg (gotL 0 v sn 0).toArray) ∧ Rd w' (fun b => wr.heap.size ≤ b) v (bys B) ∧ Below wr.heap.size wr w') from by rw [hBt, hsn]; exact hrt)
          have hwK : IntKind.i64.wrap (40 + (sn : Int)) = (K1 : Int) := (IntWalk.i64_in _ (by omega)).trans (by omega)
          have hK1l : K1 ≤ X.length := by omega
          clear hrt htx hBt hsn hok hsl hK1
          go_wp2_with (fail)
          refine Hrt.out.mono ?_
          rintro e' w1 ⟨v1, rfl, hv1, hB1⟩
          obtain ⟨A1, c1', rfl⟩ := hv1.shape
          have hv1 := hv1.weak (F' := fun b => w.heap.size ≤ b ∧ b < w1.heap.size ∧ b ≠ g3 ∧ b ≠ g2) (fun b hb hF => by have h1 := hB.size; have h2 := hm.lt; have h3 := hz.lt; have hF : wr.heap.size ≤ b := hF; exact ⟨by omega, hb, by omega, by omega⟩)
          have hB := hB.trans (hB1.mono hB.size)
          have hz := hz.below hB1
          have hm := hm.below hB1
          have hv := hv.below hB1
          have hg35 := hm.lt
          clear Hrt hB1
          go_wp2_with (first | (refine wp_newst 143 5 (.tmp 55) rfl rfl rfl rfl rfl rfl zeroGot (l := gotL 0 (.slice A1 B.length c1') sn 0) rfl rfl sizeGot (one_got 0 sn 0 _ _ _) (by simp) ?_; intro w3 b5 hB5 hs5; refine wp_stop ?_))
          have hB := hB.trans (hB5.mono hB.size)
          have hv := hv.below hB5
          have hz := hz.below hB5
          have hm := hm.below hB5
          have hv1 := hv1.below hB5
          obtain ⟨g5, hg5⟩ : ∃ g, g = w1.heap.size := ⟨_, rfl⟩
          rw [← hg5] at b5 hv1 hs5 hg35 ⊢
          clear hg5 hB5
          have c3 := b5.cellAt 3 _ rfl
          have c1 := b5.cellAt 1 _ rfl
          refine wp_go ?_
          obtain ⟨l9, hl9⟩ : ∃ l, l = hdL (x0 : Int) (x1 : Int) (a : Int) (b : Int) (d : Int) H (.slice none 0 0) (.slice none 0 0) := ⟨_, rfl⟩
          have H9 : Hid (l9.length = 39) := hid (by rw [hl9]; exact len_mg HHl.out _ _)
          have H9s : Hid (∀ v, l9.set 37 v = hdL (x0 : Int) (x1 : Int) (a : Int) (b : Int) (d : Int) H v (.slice none 0 0)) := hid (fun v => by rw [hl9]; exact set37 (m := ⟨x0, x1, a, b, d, H, [], []⟩) HHl.out _ _ _)
          rw [← hl9] at hm
          clear hl9
          go_wp2_with (first | (refine wp_st1 35 (.tmp 64) (.tmp 63) rfl rfl rfl (f := 37) rfl (v := .slice A1 B.length c1') rfl hm (by rw [H9.out]; omega) sizeSl8 rfl rfl ?_; intro w4 hm hG4; refine wp_stop ?_))
          rw [H9s.out] at hm
          have hv := hv.keep (F' := fun b => b ≠ g3) (fun b hb hF => ⟨hF, hG4.block b hb (by intro h; injection h with h; exact hF h)⟩)
          have hv1 := hv1.keep (F' := fun b => w.heap.size ≤ b ∧ b < g5 ∧ b ≠ g3 ∧ b ≠ g2) (fun b hb hF => ⟨hF, hG4.block b hb (by intro h; injection h with h; exact hF.2.2.1 h)⟩)
          have hz := hz.keep (hG4.block _ hz.lt (by intro h; injection h with h; exact h23 h))
          have b5 := b5.keep (hG4.block _ b5.lt (by intro h; injection h with h; omega))
          have hB := hB.grown hG4 hB.size (fun k hk => by injection hk with hk; omega)
          have c2 := b5.cellAt 2 _ rfl
          clear hG4 H9 H9s c3 c1
          refine wp_go ?_
          have hrc := rcount_any (.slice (some ⟨g0, off, none⟩) X.length c) X K1 16 (fun b => b ≠ g3) _ hv hK1l (by omega) (by omega)
          cases hct : cntR 16 (readPk (X.drop K1)) with
          | error e =>
            have he := cnt_err hct (fun _ h => rd_err h)
            rw [show ((16 : Nat) : Int) = 16 from rfl, hct] at hrc
            have Hrc := hid hrc
            have Hre := hid (show r = .error e by rw [HR.out, hct])
            clear hrc hct HR
            go_wp2_with (fail)
            refine Hrc.out.mono ?_
            rintro e' w6 ⟨rfl, hB6⟩
            have hB := hB.trans (hB6.mono hB.size)
            have hz := hz.below hB6
            have hm := hm.below hB6
            have hv := hv.below hB6
            go_wp2_with (first | (refine wp_newst 143 7 (.tmp 70) rfl rfl rfl rfl rfl rfl zeroGot (l := gotL 0 (.slice none 0 0) 0 e) rfl rfl sizeGot (one_got 0 0 e _ _ _) (by simp) ?_; intro w7 b7 hB7 hs7; refine wp_stop ?_))
            have hB := hB.trans (hB7.mono hB.size)
            have hv := hv.below hB7
            have hz := hz.below hB7
            have hm := hm.below hB7
            have c3 := b7.cellAt 3 _ rfl
            have ne : ((e : Int) != 0) = true := by rw [bne_iff_ne]; omega
            refine wp_go ?_
            have HO := hid (Hre.out)
            have hb1 := hbl e
            have ho1 := hid (hoz.out e)
            have hl1 := hid (hlz1.out e)
            have HE := hid (HERR.out e · HO.out)
            obtain ⟨l1, hle⟩ : ∃ l, l = gM zM e := ⟨_, rfl⟩
            rw [← hle] at hb1 ho1 hl1 HE
            clear hle hbl hoz hlz1 HERR
            go_wp2_with (first | refine wp_bld 96 [(1, .tmp 75)] rfl rfl [(1, .int .i64 (e : Int))] rfl hb1 ?_ | (refine wp_st 96 (.tmp 2) (.tmp 76) rfl rfl rfl (f := 0) rfl (l := l1) rfl hz (by rw [hlz.out, hl1.out]; omega) (by rw [hl1.out]; exact sizeG8) ho1.out ?_; intro wz hz3 hG3; refine wp_stop ?_))
            rw [set_all _ _ (by rw [hlz.out, hl1.out])] at hz3
            refine wp_go ?_
            go_wp2
            refine ret_cell rfl rfl hz3.whole Tryd.underlying96 rfl (by rw [hl1.out]; exact sizeG8) rfl ?_
            exact HE.out _ (hB.grown hG3 hB.size (fun k hk => by injection hk with hk; omega))
          | ok p =>
            obtain ⟨q, y⟩ := p
            have hcq := cnt_ok hct
            rw [List.length_drop] at hcq
            rw [show ((16 : Nat) : Int) = 16 from rfl, hct] at hrc
            obtain ⟨K2, hK2⟩ : ∃ K2, K2 = K1 + y := ⟨_, rfl⟩
            have HR : Hid (r = match prtR q K2 X with
              | .error e => .error e
              | .ok (ts, k) => if k < X.length then .error 2 else if numB (mkH X B ts) = true then .ok (mkH X B ts) else .error 15) := by
              show _ = _
              rw [HR.out, hct]
              dsimp only
              rw [← hK2]
            have Hrc := hid hrc
            have hwK2 : IntKind.i64.wrap ((K1 : Int) + (y : Int)) = (K2 : Int) := (IntWalk.i64_in _ (by omega)).trans (by omega)
            have hK2l : K2 ≤ X.length := by omega
            have hwq : IntKind.i64.wrap (q : Int) = (q : Int) := IntWalk.i64_in _ (by omega)
            clear hrc hct hK2
            go_wp2_with (fail)
            refine Hrc.out.mono ?_
            rintro e' w6 ⟨rfl, hB6⟩
            have hB := hB.trans (hB6.mono hB.size)
            have hz := hz.below hB6
            have hm := hm.below hB6
            have hv := hv.below hB6
            have hv1 := hv1.below hB6
            have hg56 : g5 < w6.heap.size := Nat.lt_of_lt_of_le b5.lt hB6.size
            clear hB6 c2 b5
            go_wp2_with (first | (refine wp_newst 143 7 (.tmp 70) rfl rfl rfl rfl rfl rfl zeroGot (l := gotL q (.slice none 0 0) y 0) rfl rfl sizeGot (one_got q y 0 _ _ _) (by simp) ?_; intro w7 b7 hB7 hs7; refine wp_stop ?_))
            have hB := hB.trans (hB7.mono hB.size)
            have hv := hv.below hB7
            have hz := hz.below hB7
            have hm := hm.below hB7
            have hv1 := hv1.below hB7
            obtain ⟨g7, hg7⟩ : ∃ g, g = w6.heap.size := ⟨_, rfl⟩
            rw [← hg7] at b7 hg56 hs7 ⊢
            clear hg7 hB7
            have c3 := b7.cellAt 3 _ rfl
            have c2 := b7.cellAt 2 _ rfl
            refine wp_go ?_
            have hs7w := hB.size
            have h7l := b7.lt
            have h3l := hm.lt
            have h2l := hz.lt
            have hOT := OT.nil w7 35 w7.heap.size nob
            obtain ⟨ub, hub⟩ : ∃ u : Value, u = .slice A1 B.length c1' := ⟨_, rfl⟩
            rw [← hub] at hm hv1
            have Hub := hid hub
            clear hub
            go_wp2
            go_loopw [6, 8] (fun kv iv wr => ∃ (i k : Nat) (ts : List (List UInt8)) (us : List Value) (pv : Value), i ≤ q ∧ iv = .int .i64 i ∧ kv = .int .i64 k ∧ k ≤ X.length ∧ Hid (prtR i K2 X = .ok (ts, k)) ∧ OT wr 35 w7.heap.size nob pv ts us ∧ Blk wr g3 59 (hdL (x0 : Int) (x1 : Int) (a : Int) (b : Int) (d : Int) H ub pv) ∧ Blk wr g7 143 (gotL q (.slice none 0 0) y 0) ∧ Blk wr g2 96 (gM zM 0) ∧ Rd wr (fun b => w.heap.size ≤ b ∧ b < g5 ∧ b ≠ g3 ∧ b ≠ g2) ub (bys B) ∧ Rd wr (fun b => b ≠ g3 ∧ b < w7.heap.size) (.slice (some ⟨g0, off, none⟩) X.length c) (bys X) ∧ w7.heap.size ≤ wr.heap.size ∧ Below w.heap.size w wr) (fun _ i _ => q - (intOf i).toNat)
            case atStart => exact ⟨0, K2, [], [], _, by omega, rfl, rfl, hK2l, rfl, hOT, hm, b7, hz, hv1, hv.weak (F' := fun b => b ≠ g3 ∧ b < w7.heap.size) (fun b hb hF => ⟨hF, hb⟩), Nat.le_refl _, hB⟩
            case round =>
              clear hOT hm b7 hz hv1 hv hB c3 c2
              obtain ⟨i, k, ts, us, pv, hi, rfl, rfl, hkl, Hpr, hOT, hm, b7, hz, hv1, hv, hsz, hB⟩ := hrel
              have c0 := b7.cellAt 0 _ rfl
              by_cases hlt : i < q
              · have hI : (i : Int) < (q : Int) := by omega
                have hrt := rtext_any (.slice (some ⟨g0, off, none⟩) X.length c) X k 65536 _ _ hv hkl (by omega) (by omega)
                cases htx : textR 65536 (X.drop k) with
                | error e =>
                  rw [show ((65536 : Nat) : Int) = 65536 from rfl, htx] at hrt
                  have he := textR_err htx
                  have Hrt := hid (show Calls Tryd.prog 84 #[.slice (some ⟨g0, off, none⟩) X.length c, .int .i64 (k : Int), .int .i64 65536] wr (fun e' w' => e' = .returned (.agg (gotL 0 (.slice none 0 0) 0 e).toArray) ∧ Below wr.heap.size wr w') from hrt)
                  have hpe : prtR q K2 X = .error e := by
                    have := prtR_err i (q - i - 1) K2 X ts k e Hpr.out htx
                    rwa [show i + (q - i - 1 + 1) = q from by omega] at this
                  have Hre := hid (show r = .error e by rw [HR.out, hpe])
                  clear hrt htx HR hpe Hpr
                  go_wp2_with (fail)
                  refine Hrt.out.mono ?_
                  rintro e' w8 ⟨rfl, hB8⟩
                  have hB := hB.trans (hB8.mono hB.size)
                  have hz := hz.below hB8
                  go_wp2_with (first | (refine wp_newst 143 9 (.tmp 90) rfl rfl rfl rfl rfl rfl zeroGot (l := gotL 0 (.slice none 0 0) 0 e) rfl rfl sizeGot (one_got 0 0 e _ _ _) (by simp) ?_; intro w9 b9 hB9 hs9; refine wp_stop ?_))
                  have hB := hB.trans (hB9.mono hB.size)
                  have hz := hz.below hB9
                  have c3 := b9.cellAt 3 _ rfl
                  have ne : ((e : Int) != 0) = true := by rw [bne_iff_ne]; omega
                  refine wp_go ?_
                  have HO := hid (Hre.out)
                  have hb1 := hbl e
                  have ho1 := hid (hoz.out e)
                  have hl1 := hid (hlz1.out e)
                  have HE := hid (HERR.out e · HO.out)
                  obtain ⟨l1, hle⟩ : ∃ l, l = gM zM e := ⟨_, rfl⟩
                  rw [← hle] at hb1 ho1 hl1 HE
                  clear hle hbl hoz hlz1 HERR
                  go_wp2_with (first | refine wp_bld 96 [(1, .tmp 95)] rfl rfl [(1, .int .i64 (e : Int))] rfl hb1 ?_ | (refine wp_st 96 (.tmp 2) (.tmp 96) rfl rfl rfl (f := 0) rfl (l := l1) rfl hz (by rw [hlz.out, hl1.out]; omega) (by rw [hl1.out]; exact sizeG8) ho1.out ?_; intro wz hz3 hG3; refine wp_stop ?_))
                  rw [set_all _ _ (by rw [hlz.out, hl1.out])] at hz3
                  refine wp_go ?_
                  go_wp2
                  refine ret_cell rfl rfl hz3.whole Tryd.underlying96 rfl (by rw [hl1.out]; exact sizeG8) rfl ?_
                  exact HE.out _ (hB.grown hG3 hB.size (fun k hk => by injection hk with hk; omega))
                | ok p =>
                  obtain ⟨n2, z2⟩ := p
                  rw [show ((65536 : Nat) : Int) = 65536 from rfl, htx] at hrt
                  have hok := textR_ok htx
                  rw [List.length_drop] at hok
                  have hpr2 := prtR_snoc i K2 X ts k n2 z2 Hpr.out htx
                  obtain ⟨T, hT⟩ : ∃ T, T = ((X.drop k).drop z2).take n2 := ⟨_, rfl⟩
                  have hTl : T.length ≤ 65536 := by rw [hT, List.length_take]; omega
                  obtain ⟨sn2, hsn2⟩ : ∃ sn, sn = z2 + n2 := ⟨_, rfl⟩
                  have Hrt := hid (show Calls Tryd.prog 84 #[.slice (some ⟨g0, off, none⟩) X.length c, .int .i64 (k : Int), .int .i64 65536] wr (fun e' w' => ∃ v, e' = .returned (.agg (gotL 0 v sn2 0).toArray) ∧ Rd w' (fun b => wr.heap.size ≤ b) v (bys T) ∧ Below wr.heap.size wr w') from by rw [hT, hsn2]; exact hrt)
                  obtain ⟨k', hk'⟩ : ∃ k', k' = k + sn2 := ⟨_, rfl⟩
                  rw [← hT, ← hsn2, ← hk'] at hpr2
                  have Hpr2 := hid hpr2
                  have hkl2 : k' ≤ X.length := by omega
                  have hwk : IntKind.i64.wrap ((k : Int) + (sn2 : Int)) = (k' : Int) := (IntWalk.i64_in _ (by omega)).trans (by omega)
                  have Hpr0 := Hpr
                  clear hrt htx hT hsn2 hok hpr2 hk' Hpr
                  have hrow : ∀ b, pv.ownBlock = some b → w7.heap.size ≤ b ∧ b < wr.heap.size := fun b h => hOT.own.lt b h
                  go_wp2_with (fail)
                  refine Hrt.out.mono ?_
                  rintro e' w8 ⟨v9, rfl, hv9, hB8⟩
                  obtain ⟨A9, c9, rfl⟩ := hv9.shape
                  have hq8 := hB8.size
                  have hv9 := hv9.weak (F' := fun b => w7.heap.size ≤ b ∧ ¬ nob b ∧ pv.ownBlock ≠ some b) (fun b hb hF => ⟨by have hF : wr.heap.size ≤ b := hF; omega, fun h => h, fun h => by have := (hOT.own.lt b h).2; have hF : wr.heap.size ≤ b := hF; omega⟩)
                  have hOT := hOT.ch (Ch.of_below hB8) (fun b hb => hb.elim)
                  have hB := hB.trans (hB8.mono hB.size)
                  have hz := hz.below hB8
                  have hm := hm.below hB8
                  have b7 := b7.below hB8
                  have hv1 := hv1.below hB8
                  have hv := hv.below hB8
                  clear Hrt hB8 c0
                  go_wp2_with (first | (refine wp_newst 143 9 (.tmp 90) rfl rfl rfl rfl rfl rfl zeroGot (l := gotL 0 (.slice A9 T.length c9) sn2 0) rfl rfl sizeGot (one_got 0 sn2 0 _ _ _) (by simp) ?_; intro w9 b9 hB9 hs9; refine wp_stop ?_))
                  have hOT := hOT.ch (Ch.of_below hB9) (fun b hb => hb.elim)
                  have hB := hB.trans (hB9.mono hB.size)
                  have hz := hz.below hB9
                  have hm := hm.below hB9
                  have b7 := b7.below hB9
                  have hv1 := hv1.below hB9
                  have hv := hv.below hB9
                  have hv9 := hv9.below hB9
                  have hq9 := hB9.size
                  obtain ⟨g9, hg9⟩ : ∃ g, g = w8.heap.size := ⟨_, rfl⟩
                  have h9l := hs9
                  rw [← hg9] at b9 hq8 hq9 h9l ⊢
                  clear hg9 hB9 hs9
                  have c3 := b9.cellAt 3 _ rfl
                  have c1 := b9.cellAt 1 _ rfl
                  have p38 : w9.cell? ⟨g3, 38, none⟩ = some pv := hm.cellAt 38 _ (mg_parts (m := ⟨x0, x1, a, b, d, H, [], []⟩) HHl.out _ _)
                  have htsl : ts.length = i := prtR_len _ _ _ _ _ Hpr0.out
                  clear Hpr0
                  refine wp_go ?_
                  go_wp2_with (first | (refine wp_push (.tmp 98) (.tmp 100) 101 slBB8 rfl rfl rfl rfl rfl (u := .slice A9 T.length c9) rfl rfl rfl (by simp [Act.put]) rfl hOT.own (by simp only [maxLen]; omega) (by omega) (by omega) ?_; intro v10 w10 ho10 hG10 hd10; refine wp_stop ?_))
                  have hOT := OT.pushG hOT hv9 (fun b h => h.elim) ho10 hG10 hd10
                  have hm := hm.keep (hG10.block _ hm.lt (by intro e; have := hrow _ e.symm; omega))
                  have b7 := b7.keep (hG10.block _ b7.lt (by intro e; have := hrow _ e.symm; omega))
                  have hz := hz.keep (hG10.block _ hz.lt (by intro e; have := hrow _ e.symm; omega))
                  have b9 := b9.keep (hG10.block _ b9.lt (by intro e; have := hrow _ e.symm; omega))
                  have hv1 := hv1.keep (F' := fun b => w.heap.size ≤ b ∧ b < g5 ∧ b ≠ g3 ∧ b ≠ g2) (fun b hb hF => ⟨hF, hG10.block b hb (by intro e; have := hrow _ e.symm; omega)⟩)
                  have hv := hv.keep (F' := fun b => b ≠ g3 ∧ b < w7.heap.size) (fun b hb hF => ⟨hF, hG10.block b hb (by intro e; have := hrow _ e.symm; omega)⟩)
                  have hB := hB.grown hG10 hB.size (fun k hk => by have := hrow _ hk; omega)
                  have hs10 := hG10.size
                  obtain ⟨A10, c10, rfl⟩ := own_shape ho10
                  obtain ⟨lm, hlm⟩ : ∃ l, l = hdL (x0 : Int) (x1 : Int) (a : Int) (b : Int) (d : Int) H ub pv := ⟨_, rfl⟩
                  have Hlm : Hid (lm.length = 39) := hid (by rw [hlm]; exact len_mg HHl.out _ _)
                  have Hls : Hid (∀ v, lm.set 38 v = hdL (x0 : Int) (x1 : Int) (a : Int) (b : Int) (d : Int) H ub v) := hid (fun v => by rw [hlm]; exact set38 (m := ⟨x0, x1, a, b, d, H, [], []⟩) HHl.out _ _ _)
                  rw [← hlm] at hm
                  clear hlm hG10 ho10 hd10 hv9 c3 c1 p38
                  refine wp_go ?_
                  go_wp2_with (first | (refine wp_st1 30 (.tmp 103) (.tmp 102) rfl rfl rfl (f := 38) rfl (v := .slice A10 (ts.length + 1) c10) rfl hm (by rw [Hlm.out]; omega) sizeSS8 rfl rfl ?_; intro w11 hm hG11; refine wp_stop ?_))
                  rw [Hls.out] at hm
                  have hOT := hOT.ch (G := fun b => b = g3) ((Ch.refl _ _).grow hG11 (fun k hk => by injection hk with hk; exact .inl hk.symm)) (fun b hb => .inr (by omega))
                  have b7 := b7.keep (hG11.block _ b7.lt (by intro e; injection e with e; omega))
                  have hz := hz.keep (hG11.block _ hz.lt (by intro e; injection e with e; omega))
                  have b9 := b9.keep (hG11.block _ b9.lt (by intro e; injection e with e; omega))
                  have hv1 := hv1.keep (F' := fun b => w.heap.size ≤ b ∧ b < g5 ∧ b ≠ g3 ∧ b ≠ g2) (fun b hb hF => ⟨hF, hG11.block b hb (by intro e; injection e with e; omega)⟩)
                  have hv := hv.keep (F' := fun b => b ≠ g3 ∧ b < w7.heap.size) (fun b hb hF => ⟨hF, hG11.block b hb (by intro e; injection e with e; omega)⟩)
                  have hB := hB.grown hG11 hB.size (fun k hk => by injection hk with hk; omega)
                  have hs11 := hG11.size
                  have c2 := b9.cellAt 2 _ rfl
                  clear hG11 Hlm Hls
                  refine wp_go ?_
                  go_wp2
                  go_roundw
                  case rel => exact ⟨i + 1, k', ts ++ [T], _, _, by omega, by go_num, rfl, hkl2, Hpr2, hOT, hm, b7, hz, hv1, hv, by omega, hB⟩
                  case measure => simp [intOf]; omega
              · have hi' : i = q := by omega
                subst hi'
                have hI : ¬ (i : Int) < (i : Int) := by omega
                obtain ⟨m, hmm⟩ : ∃ m : Mg, m = ⟨(x0 : Int), (x1 : Int), (a : Int), (b : Int), (d : Int), H, B, ts⟩ := ⟨_, rfl⟩
                have HR : Hid (r = if k < X.length then .error 2 else if numB m = true then .ok m else .error 15) := by
                  show _ = _
                  rw [HR.out, Hpr.out]
                  dsimp only
                  rw [Hmk.out, ← hmm]
                clear Hpr
                by_cases hk2 : k < X.length
                · have hI2 : (k : Int) < (X.length : Int) := by omega
                  have Hre := hid (show r = .error 2 by rw [HR.out, if_pos hk2])
                  clear HR hk2
                  have HO := hid (Hre.out)
                  have hb1 := hbl 2
                  have ho1 := hid (hoz.out 2)
                  have hl1 := hid (hlz1.out 2)
                  have HE := hid (HERR.out 2 · HO.out)
                  obtain ⟨l1, hle⟩ : ∃ l, l = gM zM 2 := ⟨_, rfl⟩
                  rw [← hle] at hb1 ho1 hl1 HE
                  clear hle hbl hoz hlz1 HERR
                  go_wp2_with (first | refine wp_bld 96 [(1, .const (.int .i64 2))] rfl rfl [(1, .int .i64 2)] rfl hb1 ?_ | (refine wp_st 96 (.tmp 2) (.tmp 112) rfl rfl rfl (f := 0) rfl (l := l1) rfl hz (by rw [hlz.out, hl1.out]; omega) (by rw [hl1.out]; exact sizeG8) ho1.out ?_; intro wz hz3 hG3; refine wp_stop ?_))
                  rw [set_all _ _ (by rw [hlz.out, hl1.out])] at hz3
                  refine wp_go ?_
                  go_wp2
                  refine ret_cell rfl rfl hz3.whole Tryd.underlying96 rfl (by rw [hl1.out]; exact sizeG8) rfl ?_
                  exact HE.out _ (hB.grown hG3 hB.size (fun k hk => by injection hk with hk; omega))
                · have hI2 : ¬ (k : Int) < (X.length : Int) := by omega
                  have hup := hOT.rd
                  obtain ⟨Ap, cp, rfl⟩ := own_shape hOT.own
                  have hubE := Hub.out
                  subst hubE
                  have hl : hdL (x0 : Int) (x1 : Int) (a : Int) (b : Int) (d : Int) H (.slice A1 B.length c1') (.slice Ap ts.length cp) = m.l (.slice A1 B.length c1') (.slice Ap ts.length cp) := by rw [hmm]; rfl
                  have hbg := bldG0 (x0 : Int) (x1 : Int) (a : Int) (b : Int) (d : Int) H HHl.out A1 Ap B.length c1' ts.length cp
                  have hl39 : (m.l (.slice A1 B.length c1') (.slice Ap ts.length cp)).length = 39 := by rw [← hl]; exact len_mg HHl.out _ _
                  have hone : ∀ v ∈ m.l (.slice A1 B.length c1') (.slice Ap ts.length cp), v.oneCell' = true := by rw [← hl]; exact one_hd _ _ _ _ _ _ _ _ _ _ _ _
                  rw [hl] at hm hbg
                  have hps : m.ps = ts := by rw [hmm]
                  have hbs : m.b = B := by rw [hmm]
                  have Hnum := hid (fun Y => (show Calls Tryd.prog 86 #[.agg (m.l (.slice A1 B.length c1') (.slice Ap ts.length cp)).toArray] Y (fun e w' => e = .returned (.bool (numB m)) ∧ Below Y.heap.size Y w') from num8_any m _ _ Y))
                  have Hfin : Hid (∀ W, r = .ok m → Rd W (fun b => w.heap.size ≤ b) (.slice A1 B.length c1') (bys B) → Rd W (fun b => w.heap.size ≤ b) (.slice Ap ts.length cp) (tx ts) → Below w.heap.size w W → RdP w r (.returned (.agg (gM (m.l (.slice A1 B.length c1') (.slice Ap ts.length cp)) 0).toArray)) W) := fun W h1 h2 h3 h4 => by
                    rw [h1]
                    exact ⟨⟨_, _, rfl, by rw [hbs]; exact h2, by rw [hps]; exact h3⟩, h4⟩
                  obtain ⟨lm, hlm⟩ : ∃ l, l = m.l (.slice A1 B.length c1') (.slice Ap ts.length cp) := ⟨_, rfl⟩
                  rw [← hlm] at hm hbg hl39 hone Hnum Hfin
                  have Hl39 := hid hl39
                  have Hone := hid (one_gM hone 0)
                  have Hlg := hid (len_gM hl39 0)
                  clear hlm hl hl39 hps hbs hmm hone
                  go_wp2_with (refine wp_ld 59 (.tmp 3) rfl rfl rfl hm.whole Tryd.underlying59 rfl (by rw [Hl39.out]; exact sizeM) ?_)
                  refine (Hnum.out _).mono ?_
                  rintro e' w8 ⟨rfl, hB8⟩
                  have hB := hB.trans (hB8.mono hB.size)
                  have hz := hz.below hB8
                  have hm := hm.below hB8
                  have hv1 := hv1.below hB8
                  have hup := hup.below hB8
                  clear hB8 hv Hnum
                  cases hnb : numB m with
                  | false =>
                    have Hre := hid (show r = .error 15 by rw [HR.out, if_neg hk2, hnb]; rfl)
                    clear HR hk2 hnb
                    have HO := hid (Hre.out)
                    have hb1 := hbl 15
                    have ho1 := hid (hoz.out 15)
                    have hl1 := hid (hlz1.out 15)
                    have HE := hid (HERR.out 15 · HO.out)
                    obtain ⟨l1, hle⟩ : ∃ l, l = gM zM 15 := ⟨_, rfl⟩
                    rw [← hle] at hb1 ho1 hl1 HE
                    clear hle hbl hoz hlz1 HERR
                    go_wp2_with (first | refine wp_bld 96 [(1, .const (.int .i64 15))] rfl rfl [(1, .int .i64 15)] rfl hb1 ?_ | (refine wp_st 96 (.tmp 2) (.tmp 116) rfl rfl rfl (f := 0) rfl (l := l1) rfl hz (by rw [hlz.out, hl1.out]; omega) (by rw [hl1.out]; exact sizeG8) ho1.out ?_; intro wz hz3 hG3; refine wp_stop ?_))
                    rw [set_all _ _ (by rw [hlz.out, hl1.out])] at hz3
                    refine wp_go ?_
                    go_wp2
                    refine ret_cell rfl rfl hz3.whole Tryd.underlying96 rfl (by rw [hl1.out]; exact sizeG8) rfl ?_
                    exact HE.out _ (hB.grown hG3 hB.size (fun k hk => by injection hk with hk; omega))
                  | true =>
                    have Hre := hid (show r = .ok m by rw [HR.out, if_neg hk2, hnb]; rfl)
                    clear HR hk2 hnb
                    obtain ⟨lg, hlg⟩ : ∃ l, l = gM lm 0 := ⟨_, rfl⟩
                    rw [← hlg] at hbg Hone Hlg Hfin
                    clear hlg
                    go_wp2_with (first | refine wp_ld 59 (.tmp 3) rfl rfl rfl hm.whole Tryd.underlying59 rfl (by rw [Hl39.out]; exact sizeM) ?_ | refine wp_bld 96 [(0, .tmp 117)] rfl rfl [(0, .agg lm.toArray)] rfl hbg ?_ | (refine wp_st 96 (.tmp 2) (.tmp 118) rfl rfl rfl (f := 0) rfl (l := lg) rfl hz (by rw [hlz.out, Hlg.out]; omega) (by rw [Hlg.out]; exact sizeG8) Hone.out ?_; intro wz hz3 hG3; refine wp_stop ?_))
                    rw [set_all _ _ (by rw [hlz.out, Hlg.out])] at hz3
                    have hv1 := hv1.keep (F' := fun b => w.heap.size ≤ b) (fun b hb hF => ⟨hF.1, hG3.block b hb (by intro e; injection e with e; exact hF.2.2.2 e)⟩)
                    have hup := hup.keep (F' := fun b => w.heap.size ≤ b) (fun b hb hF => ⟨by have hF : w7.heap.size ≤ b := hF; omega, hG3.block b hb (by have hF : w7.heap.size ≤ b := hF; intro e; injection e with e; omega)⟩)
                    refine wp_go ?_
                    go_wp2
                    refine ret_cell rfl rfl hz3.whole Tryd.underlying96 rfl (by rw [Hlg.out]; exact sizeG8) rfl ?_
                    exact Hfin.out _ Hre.out hv1 hup (hB.grown hG3 hB.size (fun k hk => by injection hk with hk; omega))
end Go.Proofs.YtmjpkdehkdpdpaaDoor
/- Cs: layer 17, the document's side: contract of ref09.Open over that of ref08.Get. -/
namespace Go.Proofs.YtmjpkdehkdpdpaaDoor
open Go.RowKit Go.V
set_option maxRecDepth 100000 in
set_option maxHeartbeats 4000000 in
theorem ropen9_any (ks : List (List UInt8)) (X : List UInt8) (uk ur v : Value) (F G : Nat → Prop) (w : World) (hks : KsSm ks) (hk : Rd w F uk (tx ks)) (hv : Rd w G v (bys X)) (hX : X.length ≤ 1000000) :
    Calls Tryd.prog 59 #[.agg #[uk, ur], v] w (RdP w (opR ks X)) := by
  have hbl := bldG8
  obtain ⟨AK, ck, rfl, hck, hckm⟩ := hk.slShape
  obtain ⟨A, c, rfl⟩ := hv.shape
  have hkb := Blk.new' w 33 [.slice AK ks.length ck, ur]
  have hBk : Below w.heap.size w (w.alloc (.cells #[.slice AK ks.length ck, ur] 33)) := (Below.refl _ _).alloc (Nat.le_refl _) _
  have hz := Blk.new' (w.alloc (.cells #[.slice AK ks.length ck, ur] 33)) 96 (gM zM 0)
  have hBz : Below (w.alloc (.cells #[.slice AK ks.length ck, ur] 33)).heap.size (w.alloc (.cells #[.slice AK ks.length ck, ur] 33)) ((w.alloc (.cells #[.slice AK ks.length ck, ur] 33)).alloc (.cells (gM zM 0).toArray 96)) := (Below.refl _ _).alloc (Nat.le_refl _) _
  have hkb := hkb.below hBz
  have hB := hBk.trans (hBz.mono hBk.size)
  have hgs : (w.alloc (.cells #[.slice AK ks.length ck, ur] 33)).heap.size = w.heap.size + 1 := by simp
  rw [hgs] at hz
  have hk := hk.below hB
  have hv := hv.below hB
  clear hBk hBz hgs
  obtain ⟨r, hr⟩ : ∃ r, r = opR ks X := ⟨_, rfl⟩
  rw [← hr]
  have hOP : 32 ≤ X.length → r = match getR (X.take (X.length - 32)) with
    | .error e => .error e
    | .ok m => if (ks.length : Int) ≤ m.f then .error 6 else if tagF (keyOf ks m) (X.take (X.length - 32)) = X.drop (X.length - 32) then .ok m else .error 5 := fun h => by rw [hr, opR_getR h]; cases getR (X.take (X.length - 32)) <;> rfl
  have hOS : X.length < 32 → r = .error 1 := fun h => by rw [hr]; unfold opR; rw [if_pos h]
  have HOP := hid hOP
  have HOS := hid hOS
  have hlz := hid (len_gM len_zM 0)
  have hlz1 := hid (len_gM len_zM)
  have hoz := hid (one_gM one_zM8)
  clear hr hOP hOS
  go_enter Tryd.func59, Tryd.ntmps59
  go_wp2_with (refine wp_new 96 rfl rfl zeroG8 ?_; refine wp_stop ?_)
  obtain ⟨w0, hw0⟩ : ∃ x, x = (w.alloc (.cells #[.slice AK ks.length ck, ur] 33)).alloc (.cells (gM zM 0).toArray 96) := ⟨_, rfl⟩
  rw [← hw0] at hz hkb hB hk hv ⊢
  clear hw0
  obtain ⟨gk, hgk⟩ : ∃ g, g = w.heap.size := ⟨_, rfl⟩
  rw [← hgk] at hkb hz ⊢
  obtain ⟨g4, hg4⟩ : ∃ g, g = gk + 1 := ⟨_, rfl⟩
  rw [← hg4] at hz ⊢
  have hgw : w.heap.size ≤ g4 := by omega
  clear hgk hg4
  have hzl := hz.lt
  have HERR : Hid (∀ (k : Nat) (W : World), r = .error k → Below w.heap.size w W → RdP w r (.returned (.agg (gM zM k).toArray)) W) := hid (fun k W h hb => by rw [h]; exact ⟨rfl, hb⟩)
  refine wp_go ?_
  by_cases h32 : X.length < 32
  · have hI : ((X.length : Int)) < 32 := by omega
    have HO := hid (HOS.out h32)
    have hb1 := hbl 1
    have ho1 := hid (hoz.out 1)
    have hl1 := hid (hlz1.out 1)
    have HE := hid (HERR.out 1 · HO.out)
    obtain ⟨l1, hle⟩ : ∃ l, l = gM zM 1 := ⟨_, rfl⟩
    rw [← hle] at hb1 ho1 hl1 HE
    clear h32 hle hbl hoz hlz1 HERR HO
    go_wp2_with (first | refine wp_bld 96 [(1, .const (.int .i64 1))] rfl rfl [(1, .int .i64 1)] rfl hb1 ?_ | refine wp_st 96 (.tmp 4) (.tmp 11) rfl rfl rfl (f := 0) rfl (l := l1) rfl hz (by rw [hlz.out, hl1.out]; omega) (by rw [hl1.out]; exact sizeG8) ho1.out ?_; intro w3 hz3 hG3; refine wp_stop ?_)
    rw [set_all _ _ (by rw [hlz.out, hl1.out])] at hz3
    refine wp_go ?_
    go_wp2
    refine ret_cell rfl rfl hz3.whole Tryd.underlying96 rfl (by rw [hl1.out]; exact sizeG8) rfl ?_
    exact HE.out _ (hB.grown hG3 hB.size (fun k hk => by injection hk with hk; omega))
  obtain ⟨n, hn⟩ : ∃ n, X.length = n + 32 := ⟨X.length - 32, by omega⟩
  have hI : ¬ (((n + 32 : Nat) : Int) < 32) := by omega
  have hI2 : ¬ ((n : Int) < 0) := by omega
  have hI3 : ¬ ((n : Int) + 32 < 32) := by omega
  have hwr : IntKind.i64.wrap (n : Int) = (n : Int) := IntWalk.i64_in _ (by omega)
  have hO := HOP.out (by omega)
  rw [show X.length - 32 = n from by omega] at hO
  obtain ⟨A1, m1, c1, hc1, hY⟩ := Rd.cut_h slB hv (n : Int) (by omega) (by omega)
  obtain ⟨A2, m2, c2, hc2, hD⟩ := Rd.cut_l slB hv (n : Int) (by omega) (by omega)
  rw [Int.toNat_natCast] at hY hD
  have hYl : (X.take n).length = n := by rw [List.length_take]; omega
  have hDl : (X.drop n).length = 32 := by rw [List.length_drop]; omega
  obtain ⟨Y, hYe⟩ : ∃ Y, Y = X.take n := ⟨_, rfl⟩
  obtain ⟨D, hDe⟩ : ∃ D, D = X.drop n := ⟨_, rfl⟩
  rw [← hYe] at hO hY hYl
  rw [← hDe] at hO hD hDl
  rw [hn] at hc1 hc2 ⊢
  have HO := hid hO
  have hYn : Y.length ≤ 1000000 := by omega
  have Hget := hid (rget8_any _ Y _ w0 hY hYn)
  clear h32 hO hYe hDe HOP HOS hDl hYl hn hX
  cases hrm : getR Y with
  | error k =>
    have HW : Hid (∀ e w', RdP w0 (getR Y) e w' → e = .returned (.agg (gM zM k).toArray) ∧ Below w0.heap.size w0 w') := fun e w' h => by
      rw [hrm] at h; exact h
    have hk0 : k ≠ 0 := by
      intro h0; subst h0
      exact getR_nz hrm rfl
    have hne : ((k : Int) != 0) = true := by rw [bne_iff_ne]; omega
    have HR : r = .error k := by rw [HO.out, hrm]
    have ho1 := hid (hoz.out k)
    have hl1 := hid (hlz1.out k)
    have Hf := hid (gM_err len_zM k)
    have HE := hid (HERR.out k · HR)
    obtain ⟨l1, hle⟩ : ∃ l, l = gM zM k := ⟨_, rfl⟩
    rw [← hle] at ho1 hl1 HE HW Hf
    clear hrm HO hle hbl hoz hlz1 HERR HR
    go_wp2_with (fail)
    refine Hget.out.mono ?_
    rintro e w2 h2
    obtain ⟨rfl, hB2⟩ := HW.out _ _ h2
    have hz := hz.below hB2
    have hB := hB.trans (hB2.mono hB.size)
    clear h2 HW Hget hB2
    go_wp2_with (refine wp_newst 96 6 (.tmp 18) rfl rfl rfl rfl rfl rfl zeroG8 (l := l1) rfl (by rw [hl1.out]; exact hlz.out) (by rw [hl1.out]; exact sizeG8) ho1.out (by simp) ?_; intro w3 hx3 hB3 hs3; refine wp_stop ?_)
    have hz := hz.below hB3
    have hB := hB.trans (hB3.mono hB.size)
    obtain ⟨g6, hg6⟩ : ∃ g, g = w2.heap.size := ⟨_, rfl⟩
    rw [← hg6] at hx3 ⊢
    clear hB3 hs3 hg6
    have c39 := hx3.cellAt 39 _ Hf.out
    refine wp_go ?_
    go_wp2_with (first | refine wp_ld 96 (.tmp 6) rfl rfl rfl hx3.whole Tryd.underlying96 rfl (by rw [hl1.out]; exact sizeG8) ?_ | refine wp_st 96 (.tmp 4) (.tmp 22) rfl rfl rfl (f := 0) rfl (l := l1) rfl hz (by rw [hlz.out, hl1.out]; omega) (by rw [hl1.out]; exact sizeG8) ho1.out ?_; intro w4 hz4 hG4; refine wp_stop ?_)
    rw [set_all _ _ (by rw [hlz.out, hl1.out])] at hz4
    refine wp_go ?_
    go_wp2
    refine ret_cell rfl rfl hz4.whole Tryd.underlying96 rfl (by rw [hl1.out]; exact sizeG8) rfl ?_
    exact HE.out _ (hB.grown hG4 hB.size (fun k hk => by injection hk with hk; omega))
  | ok m =>
    obtain ⟨hmh, hnu⟩ := getR_ok hrm
    obtain ⟨hf0, hf15⟩ := errS_num hnu
    obtain ⟨q, hq⟩ : ∃ q : Nat, m.f = (q : Int) := ⟨m.f.toNat, by omega⟩
    have hq15 : q ≤ 15 := by omega
    have HW : Hid (∀ e w', RdP w0 (getR Y) e w' → (∃ ub up, e = .returned (.agg (gM (m.l ub up) 0).toArray) ∧ Rd w' (fun b => w0.heap.size ≤ b) ub (bys m.b) ∧ Rd w' (fun b => w0.heap.size ≤ b) up (tx m.ps)) ∧ Below w0.heap.size w0 w') := fun e w' h => by
      rw [hrm] at h; exact h
    have hR : r = if (ks.length : Int) ≤ m.f then .error 6 else if tagF (keyOf ks m) Y = D then .ok m else .error 5 := by rw [HO.out, hrm]
    rw [hq] at hR
    have hky := hid (fun h => key_at (ks := ks) hq h)
    have hkl := hid (hks.key m)
    have HR0 := hid hR
    clear hR hrm HO hnu hf0 hf15
    go_wp2_with (fail)
    refine Hget.out.mono ?_
    rintro e w2 h2
    obtain ⟨⟨ub, up, rfl, hub, hup⟩, hB2⟩ := HW.out _ _ h2
    obtain ⟨AB, cb, rfl⟩ := hub.shape
    obtain ⟨AP, cpp, rfl, _, _⟩ := hup.slShape
    have hl39 := len_mg hmh (.slice AB m.b.length cb) (.slice AP m.ps.length cpp)
    have hll := hid (len_gM hl39 0)
    have hl1 := hid (one_gM (mg_one m AB AP m.b.length cb m.ps.length cpp) 0)
    have h1c : Hid ((gM (m.l (.slice AB m.b.length cb) (.slice AP m.ps.length cpp)) 0)[1]? = some (.int .i64 (q : Int))) := hid (by rw [gM_get hl39 0 1 (by omega), ← hq]; rfl)
    have h39 := hid (gM_err hl39 0)
    have hfin := hid (fun W (hr : r = .ok m) (h1 : Rd W (fun b => w.heap.size ≤ b) (.slice AB m.b.length cb) (bys m.b)) (h2 : Rd W (fun b => w.heap.size ≤ b) (.slice AP m.ps.length cpp) (tx m.ps)) (h3 : Below w.heap.size w W) => (show RdP w r (.returned (.agg (gM (m.l (.slice AB m.b.length cb) (.slice AP m.ps.length cpp)) 0).toArray)) W by rw [hr]; exact ⟨⟨_, _, rfl, h1, h2⟩, h3⟩))
    obtain ⟨l, hl⟩ : ∃ l, l = gM (m.l (.slice AB m.b.length cb) (.slice AP m.ps.length cpp)) 0 := ⟨_, rfl⟩
    rw [← hl] at hll hl1 h1c h39 hfin ⊢
    have hs0 := hB.size
    have hz := hz.below hB2
    have hkb := hkb.below hB2
    have hk := hk.below hB2
    have hY := hY.below hB2
    have hD := hD.below hB2
    have hB := hB.trans (hB2.mono hB.size)
    have hub := hub.weak (F' := fun b => w.heap.size ≤ b ∧ b ≠ g4) (fun b _ h => by have h' : w0.heap.size ≤ b := h; exact ⟨by omega, by omega⟩)
    have hup := hup.weak (F' := fun b => w.heap.size ≤ b ∧ b ≠ g4) (fun b _ h => by have h' : w0.heap.size ≤ b := h; exact ⟨by omega, by omega⟩)
    clear h2 HW Hget hl hl39 hB2 hmh
    have hg7 := hz.lt
    go_wp2_with (refine wp_newst 96 6 (.tmp 18) rfl rfl rfl rfl rfl rfl zeroG8 (l := l) rfl (by rw [hll.out]; exact hlz.out) (by rw [hll.out]; exact sizeG8) hl1.out (by simp) ?_; intro wq hx hB3 hs3; refine wp_stop ?_)
    have hz := hz.below hB3
    have hkb := hkb.below hB3
    have hk := hk.below hB3
    have hY := hY.below hB3
    have hD := hD.below hB3
    have hub := hub.below hB3
    have hup := hup.below hB3
    have hB := hB.trans (hB3.mono hB.size)
    obtain ⟨g6, hg6⟩ : ∃ g, g = w2.heap.size := ⟨_, rfl⟩
    rw [← hg6] at hx hg7 ⊢
    clear hB3 hs3 hg6
    have c1x := hx.cellAt 1 _ h1c.out
    have c39 := hx.cellAt 39 _ h39.out
    have ck0 := hkb.cellAt 0 _ rfl
    clear hq
    refine wp_go ?_
    have hR := HR0.out
    clear HR0
    by_cases hf : q < ks.length
    · have hkl := hkl.out
      have hfI : ¬ (ks.length : Int) ≤ (q : Int) := by omega
      have hfI2 : (q : Int) < (ks.length : Int) := by omega
      have hfN : ¬ ks.length ≤ q := by omega
      rw [if_neg hfI] at hR
      have hkat := hky.out hf
      obtain ⟨G', off, u, rfl, hG, hcu, hu⟩ := Rd.elem hk q (bys (keyOf ks m)) (by rw [List.getElem?_map, hkat]; rfl)
      obtain ⟨key, hkey⟩ : ∃ key, key = keyOf ks m := ⟨_, rfl⟩
      rw [← hkey] at hu hkl hR
      obtain ⟨A2', c2', rfl⟩ := hu.shape
      have htl := len_tag key Y
      obtain ⟨T, hT⟩ : ∃ T, T = tagF key Y := ⟨_, rfl⟩
      have HT := hid hT
      rw [← hT] at htl hR
      have Htl := hid htl
      obtain ⟨bt, hbt⟩ : ∃ b, b = decide (T = D) := ⟨_, rfl⟩
      have HBT := hid hbt
      have HR : Hid (r = if bt = true then .ok m else .error 5) := hid (by rw [hR, hbt]; simp only [decide_eq_true_eq])
      have HC0 : Hid (∀ W, Ch nob wq W → W.cell? ⟨gk, 0, none⟩ = some (.slice (some ⟨G', off, none⟩) ks.length ck)) := fun W h => (hkb.ch h (fun h => h)).cellAt 0 _ rfl
      have HF : Hid (∀ W, Ch nob wq W → W.cell? ⟨g6, 1, none⟩ = some (.int .i64 (q : Int))) := fun W h => (hx.ch h (fun h => h)).cellAt 1 _ h1c.out
      have HCU := hid (fun W (h : Ch nob wq W) => (h.below.cell (lt_of_cell hcu)).trans hcu)
      have HY : Hid (∀ W, Ch nob wq W → Rd W G (.slice A1 m1 c1) (bys Y)) := fun W h => hY.ext h
      have HU := hid (fun W (h : Ch nob wq W) => hu.ext h)
      clear hkat hkey hky hT htl hbt hR
      go_wp2_with (with_reducible refine wp_at 28 rfl ?_)
      refine wp_on ?_
      go_upto_region 9 with (fail)
      go_cut [7] (fun s7 wx => ∃ g, s7 = .pointer (some ⟨g, 0, none⟩) ∧ Blk wx g 41 (bvs T) ∧ wq.heap.size ≤ g ∧ Below wq.heap.size wq wx)
      case first =>
        refine wp_region_noPanic ?_
        refine wp_region_held_drew (S := Ch nob wq) (by kernel_rfl) ((Ch.refl _ _).drew) (fun hHeld => ?_)
        refine wpAnyH_take (i := 0) (oi := ⟨some 31, _, _, _, _, none⟩) (v := ?_) rfl (by kernel_rfl) (by kernel_rfl) (by kernel_rfl) (fun _ _ _ h => h) (Or.inl ⟨by rfl, ?_⟩) (by assumption) ?_
        rotate_left
        · intro w hSw; go_simp; try with_reducible rfl
        try simp only [Act.put, List.setIfInBounds_toArray, List.set_cons_zero, List.set_cons_succ]
        refine wpAnyH_take (i := 1) (oi := ⟨some 32, _, _, _, _, none⟩) (v := ?_) rfl (by kernel_rfl) (by kernel_rfl) (by kernel_rfl) (fun _ _ _ h => h) (Or.inl ⟨by rfl, ?_⟩) (by assumption) ?_
        rotate_left
        · intro w hSw; have hcw := HC0.out w hSw; go_simp; try with_reducible rfl
        try simp only [Act.put, List.setIfInBounds_toArray, List.set_cons_zero, List.set_cons_succ]
        refine wpAnyH_take (i := 2) (oi := ⟨some 33, _, _, _, _, none⟩) (v := ?_) rfl (by kernel_rfl) (by kernel_rfl) (by kernel_rfl) (fun _ _ _ h => h) (Or.inl ⟨by rfl, ?_⟩) (by assumption) ?_
        rotate_left
        · intro w hSw; go_simp; try with_reducible rfl
        try simp only [Act.put, List.setIfInBounds_toArray, List.set_cons_zero, List.set_cons_succ]
        refine wpAnyH_take (i := 3) (oi := ⟨some 34, _, _, _, _, none⟩) (v := ?_) rfl (by kernel_rfl) (by kernel_rfl) (by kernel_rfl) (fun _ _ _ h => h) (Or.inl ⟨by rfl, ?_⟩) (by assumption) ?_
        rotate_left
        · intro w hSw; go_simp; try with_reducible rfl
        try simp only [Act.put, List.setIfInBounds_toArray, List.set_cons_zero, List.set_cons_succ]
        refine wpAnyH_take (i := 4) (oi := ⟨some 35, _, _, _, _, none⟩) (v := ?_) rfl (by kernel_rfl) (by kernel_rfl) (by kernel_rfl) (fun _ _ _ h => h) (Or.inl ⟨by rfl, ?_⟩) (by assumption) ?_
        rotate_left
        · intro w hSw; have hcw := HF.out w hSw; go_simp; try with_reducible rfl
        try simp only [Act.put, List.setIfInBounds_toArray, List.set_cons_zero, List.set_cons_succ]
        refine wpAnyH_take (i := 5) (oi := ⟨some 36, _, _, _, _, none⟩) (v := ?_) rfl (by kernel_rfl) (by kernel_rfl) (by kernel_rfl) (fun _ _ _ h => h) (Or.inl ⟨by rfl, ?_⟩) (by assumption) ?_
        rotate_left
        · intro w hSw; go_simp; try with_reducible rfl
        try simp only [Act.put, List.setIfInBounds_toArray, List.set_cons_zero, List.set_cons_succ]
        refine wpAnyH_take (i := 6) (oi := ⟨some 37, _, _, _, _, none⟩) (v := ?_) rfl (by kernel_rfl) (by kernel_rfl) (by kernel_rfl) (fun _ _ _ h => h) (Or.inl ⟨by rfl, ?_⟩) (by assumption) ?_
        rotate_left
        · intro w hSw; have hcw := HCU.out w hSw; go_simp; try with_reducible rfl
        try simp only [Act.put, List.setIfInBounds_toArray, List.set_cons_zero, List.set_cons_succ]
        refine wpAnyH_take (i := 7) (oi := ⟨some 38, _, _, _, _, none⟩) (v := ?_) rfl (by kernel_rfl) (by kernel_rfl) (by kernel_rfl) (fun _ _ _ h => h) (Or.inl ⟨by rfl, ?_⟩) (by assumption) ?_
        rotate_left
        · intro w hSw; go_simp; try with_reducible rfl
        try simp only [Act.put, List.setIfInBounds_toArray, List.set_cons_zero, List.set_cons_succ]
        refine wpAnyH_take (i := 8) (oi := ⟨some 39, _, _, _, _, none⟩) (v := ?_) rfl (by kernel_rfl) (by kernel_rfl) (by kernel_rfl) (fun _ _ _ h => h) (Or.inl ⟨by rfl, ?_⟩) (by assumption) ?_
        rotate_left
        · intro w hSw; go_simp; try with_reducible rfl
        try simp only [Act.put, List.setIfInBounds_toArray, List.set_cons_zero, List.set_cons_succ]
        refine wpAnyH_take (i := 9) (oi := ⟨some 40, _, _, _, _, none⟩) (v := ?_) rfl (by kernel_rfl) (by kernel_rfl) (by kernel_rfl) (fun _ _ _ h => h) (Or.inl ⟨by rfl, ?_⟩) (by assumption) ?_
        rotate_left
        · intro w hSw; go_simp; try with_reducible rfl
        try simp only [Act.put, List.setIfInBounds_toArray, List.set_cons_zero, List.set_cons_succ]
        refine wpAnyH_ready (rs := [10, 11]) (by kernel_rfl) (by simp) ?_
        refine AllReadyH.cons (o := ⟨some 41, _, _, _, _, none⟩) rfl (fun K hK => ?_) ?_
        · go_simp
          refine (rtag_any _ _ key Y _ _ _ (HU.out _ hHeld) (HY.out _ hHeld) (by omega) (by omega)).mono ?_
          rintro e' w6 ⟨rfl, hB6⟩
          rw [← HT.out]
          refine hK.out _ _ (hHeld.belowG hB6) (fun hHeld => ?_)
          clear hK K
          try simp only [Act.put, List.setIfInBounds_toArray, List.set_cons_zero, List.set_cons_succ]
          refine wpAnyH_ready (rs := [11]) (by kernel_rfl) (by simp) ?_
          refine AllReadyH.cons (o := ⟨some 7, .alloc _, _, _, _, none⟩) rfl (fun K hK => ?_) AllReadyH.nil
          refine step_new 41 (by rfl) (by rfl) zero25 ?_
          intro g9 w9 hg9 hgl9 hz9 hB9
          have hg9 : wq.heap.size ≤ g9 := Nat.le_trans hHeld.size hg9
          refine hK.out _ _ (hHeld.belowG hB9) (fun hHeld => ?_)
          clear hK K
          try simp only [Act.put, List.setIfInBounds_toArray, List.set_cons_zero, List.set_cons_succ]
          refine wpAnyH_ready (rs := [12]) (by kernel_rfl) (by simp) ?_
          refine AllReadyH.cons (o := ⟨none, .store _ (.tmp 7) (.tmp 41), _, _, _, none⟩) rfl (fun K hK => ?_) AllReadyH.nil
          refine step_st 41 (.tmp 7) (.tmp 41) (by rfl) (by rfl) (by rfl) (f := 0) (by rfl) (l := bvs T) (by rfl) hz9 (by simp [zs8, len_bvs, Htl.out]) (by rw [len_bvs, Htl.out]; exact size25) (oneCell_bvs _) ?_
          intro w11 hz11 hG11
          rw [set25 _ Htl.out] at hz11
          refine hK.out _ _ (hHeld.grow hG11 (fun k hk => .inr (by injection hk with hk; omega))) (fun hHeld => ?_)
          clear hK K
          try simp only [Act.put, List.setIfInBounds_toArray, List.set_cons_zero, List.set_cons_succ]
          refine wpAnyH_done (by kernel_rfl) ?_ _
          refine NoPanic.normal ?_
          go_wp2
          go_meet
          exact ⟨g9, rfl, hz11, hg9, hHeld.below⟩
        refine AllReadyH.cons (o := ⟨some 7, .alloc _, _, _, _, none⟩) rfl (fun K hK => ?_) AllReadyH.nil
        refine step_new 41 (by rfl) (by rfl) zero25 ?_
        intro g9 w9 hg9 hgl9 hz9 hB9
        have hg9 : wq.heap.size ≤ g9 := Nat.le_trans hHeld.size hg9
        refine hK.out _ _ (hHeld.belowG hB9) (fun hHeld => ?_)
        clear hK K
        try simp only [Act.put, List.setIfInBounds_toArray, List.set_cons_zero, List.set_cons_succ]
        refine wpAnyH_ready (rs := [10]) (by kernel_rfl) (by simp) ?_
        refine AllReadyH.cons (o := ⟨some 41, _, _, _, _, none⟩) rfl (fun K hK => ?_) AllReadyH.nil
        go_simp
        refine (rtag_any _ _ key Y _ _ _ (HU.out _ hHeld) (HY.out _ hHeld) (by omega) (by omega)).mono ?_
        rintro e' w6 ⟨rfl, hB6⟩
        rw [← HT.out]
        have hz9 := hz9.below hB6
        refine hK.out _ _ (hHeld.belowG hB6) (fun hHeld => ?_)
        clear hK K
        try simp only [Act.put, List.setIfInBounds_toArray, List.set_cons_zero, List.set_cons_succ]
        refine wpAnyH_ready (rs := [12]) (by kernel_rfl) (by simp) ?_
        refine AllReadyH.cons (o := ⟨none, .store _ (.tmp 7) (.tmp 41), _, _, _, none⟩) rfl (fun K hK => ?_) AllReadyH.nil
        refine step_st 41 (.tmp 7) (.tmp 41) (by rfl) (by rfl) (by rfl) (f := 0) (by rfl) (l := bvs T) (by rfl) hz9 (by simp [zs8, len_bvs, Htl.out]) (by rw [len_bvs, Htl.out]; exact size25) (oneCell_bvs _) ?_
        intro w11 hz11 hG11
        rw [set25 _ Htl.out] at hz11
        refine hK.out _ _ (hHeld.grow hG11 (fun k hk => .inr (by injection hk with hk; omega))) (fun hHeld => ?_)
        clear hK K
        try simp only [Act.put, List.setIfInBounds_toArray, List.set_cons_zero, List.set_cons_succ]
        refine wpAnyH_done (by kernel_rfl) ?_ _
        refine NoPanic.normal ?_
        go_wp2
        go_meet
        exact ⟨g9, rfl, hz11, hg9, hHeld.below⟩
      case rest =>
        obtain ⟨g9, rfl, hz9, hg9, hB2⟩ := hcut
        have hz := hz.below hB2
        have hx := hx.below hB2
        have hD := hD.below hB2
        have hub := hub.below hB2
        have hup := hup.below hB2
        have hB := hB.trans (hB2.mono hB.size)
        clear HC0 HF HCU HY HU HT hB2 hk hY c1x c39 ck0 hcu hu hkb
        have HZ : Hid (∀ W, Ch nob wc W → W.rangeAt g9 0 (bvs T)) := fun W h => (hz9.ch h (fun h => h)).whole
        have HD := hid (fun W (h : Ch nob wc W) => hD.ext h)
        go_upto_region 10 with (fail)
        refine wp_region_noPanic ?_
        refine wp_region_held_drew (S := Ch nob wc) (by kernel_rfl) ((Ch.refl _ _).drew) (fun hHeld => ?_)
        refine wpAnyH_take (i := 0) (oi := ⟨some 42, .load 41 (.tmp 7), _, _, _, none⟩) (v := _) rfl (by kernel_rfl) (by kernel_rfl) (by kernel_rfl) (fun _ _ _ h => h) (yieldsIf_load_mid (by rfl) 41 (.tmp 7) (by rfl) _ (0) (by rfl) _ _ (fun _ hs => HZ.out _ hs) und25 rfl ((by rw [len_bvs, Htl.out]; exact size25))) (by assumption) ?_
        try simp only [Act.put, List.setIfInBounds_toArray, List.set_cons_zero, List.set_cons_succ]
        refine wpAnyH_take (i := 2) (oi := ⟨some 44, _, _, _, _, none⟩) (v := ?_) rfl (by kernel_rfl) (by kernel_rfl) (by kernel_rfl) (fun _ _ _ h => h) (Or.inl ⟨by rfl, ?_⟩) (by assumption) ?_
        rotate_left
        · intro w hSw; go_simp; try with_reducible rfl
        try simp only [Act.put, List.setIfInBounds_toArray, List.set_cons_zero, List.set_cons_succ]
        refine wpAnyH_take (i := 3) (oi := ⟨some 45, _, _, _, _, none⟩) (v := ?_) rfl (by kernel_rfl) (by kernel_rfl) (by kernel_rfl) (fun _ _ _ h => h) (Or.inl ⟨by rfl, ?_⟩) (by assumption) ?_
        rotate_left
        · intro w hSw; go_simp; try with_reducible rfl
        try simp only [Act.put, List.setIfInBounds_toArray, List.set_cons_zero, List.set_cons_succ]
        refine wpAnyH_take (i := 4) (oi := ⟨some 46, _, _, _, _, none⟩) (v := ?_) rfl (by kernel_rfl) (by kernel_rfl) (by kernel_rfl) (fun _ _ _ h => h) (Or.inl ⟨by rfl, ?_⟩) (by assumption) ?_
        rotate_left
        · intro w hSw; go_simp; try with_reducible rfl
        try simp only [Act.put, List.setIfInBounds_toArray, List.set_cons_zero, List.set_cons_succ]
        refine wpAnyH_ready (rs := [1]) (by kernel_rfl) (by simp) ?_
        refine AllReadyH.cons (o := ⟨some 43, _, _, _, _, none⟩) rfl (fun K hK => ?_) AllReadyH.nil
        go_simp
        refine (rbytes_any T _ Htl.out).mono ?_
        rintro e' w12 ⟨v4, rfl, ho4, hB12⟩
        have hr4 := Rd.of_own ho4
        obtain ⟨A4, c4, rfl⟩ := hr4.shape
        refine hK.out _ _ (hHeld.belowG hB12) (fun hHeld => ?_)
        clear hK K
        try simp only [Act.put, List.setIfInBounds_toArray, List.set_cons_zero, List.set_cons_succ]
        refine wpAnyH_ready (rs := [5]) (by kernel_rfl) (by simp) ?_
        refine AllReadyH.cons (o := ⟨some 47, _, _, _, _, none⟩) rfl (fun K hK => ?_) AllReadyH.nil
        go_simp
        refine (same_b _ _ T D _ _ _ hr4 (HD.out _ hHeld)).mono ?_
        rintro e' w13 ⟨rfl, hB13⟩
        rw [← HBT.out]
        refine hK.out _ _ (hHeld.belowG hB13) (fun hHeld => ?_)
        clear hK K
        try simp only [Act.put, List.setIfInBounds_toArray, List.set_cons_zero, List.set_cons_succ]
        refine wpAnyH_take (i := 6) (oi := ⟨some 48, _, _, _, _, none⟩) (v := ?_) rfl (by kernel_rfl) (by kernel_rfl) (by kernel_rfl) (fun _ _ _ h => h) (Or.inl ⟨by rfl, ?_⟩) (by assumption) ?_
        rotate_left
        · intro w hSw; go_simp; try with_reducible rfl
        try simp only [Act.put, List.setIfInBounds_toArray, List.set_cons_zero, List.set_cons_succ]
        refine wpAnyH_done (by kernel_rfl) ?_ _
        refine NoPanic.normal ?_
        have hz := hz.ch hHeld (fun e => e)
        have hx := hx.ch hHeld (fun e => e)
        have hub := hub.ext hHeld
        have hup := hup.ext hHeld
        have hB := hB.trans (hHeld.below.mono hB.size)
        clear HZ HD hHeld hr4 ho4 hB12 hB13 hz9 hD HBT
        cases bt with
        | true =>
          have HR2 : r = .ok m := by rw [HR.out]; rfl
          have hfin := hid (fun W => hfin.out W HR2)
          clear HR HERR HR2
          go_wp2_with (first | refine wp_ld 96 (.tmp 6) rfl rfl rfl hx.whole Tryd.underlying96 rfl (by rw [hll.out]; exact sizeG8) ?_ | refine wp_st 96 (.tmp 4) (.tmp 50) rfl rfl rfl (f := 0) rfl (l := l) rfl hz (by rw [hlz.out, hll.out]; omega) (by rw [hll.out]; exact sizeG8) hl1.out ?_; intro w7 hz7 hG7; refine wp_stop ?_)
          rw [set_all _ _ (by rw [hlz.out, hll.out])] at hz7
          have hub := hub.keep (F' := fun b => w.heap.size ≤ b) (fun b hb hF => ⟨hF.1, hG7.block b hb (by intro h; injection h with h; exact hF.2 h)⟩)
          have hup := hup.keep (F' := fun b => w.heap.size ≤ b) (fun b hb hF => ⟨hF.1, hG7.block b hb (by intro h; injection h with h; exact hF.2 h)⟩)
          have hB := hB.grown hG7 hB.size (fun k hk => by injection hk with hk; omega)
          refine wp_go ?_
          go_wp2
          refine ret_cell rfl rfl hz7.whole Tryd.underlying96 rfl (by rw [hll.out]; exact sizeG8) rfl ?_
          exact hfin.out _ hub hup hB
        | false =>
          have HR2 : r = .error 5 := by rw [HR.out]; rfl
          have hb1 := hbl 5
          have ho1 := hid (hoz.out 5)
          have hq1 := hid (hlz1.out 5)
          have HE := hid (HERR.out 5 · HR2)
          obtain ⟨l1, hle⟩ : ∃ l, l = gM zM 5 := ⟨_, rfl⟩
          rw [← hle] at hb1 ho1 hq1 HE
          clear hle hbl hoz hlz1 HERR HR HR2 hfin hub hup
          go_wp2_with (first | refine wp_bld 96 [(1, .const (.int .i64 5))] rfl rfl [(1, .int .i64 5)] rfl hb1 ?_ | refine wp_st 96 (.tmp 4) (.tmp 49) rfl rfl rfl (f := 0) rfl (l := l1) rfl hz (by rw [hlz.out, hq1.out]; omega) (by rw [hq1.out]; exact sizeG8) ho1.out ?_; intro w4 hz4 hG4; refine wp_stop ?_)
          rw [set_all _ _ (by rw [hlz.out, hq1.out])] at hz4
          refine wp_go ?_
          go_wp2
          refine ret_cell rfl rfl hz4.whole Tryd.underlying96 rfl (by rw [hq1.out]; exact sizeG8) rfl ?_
          exact HE.out _ (hB.grown hG4 hB.size (fun k hk => by injection hk with hk; omega))
    · have hfI : (ks.length : Int) ≤ (q : Int) := by omega
      rw [if_pos hfI] at hR
      have hb1 := hbl 6
      have ho1 := hid (hoz.out 6)
      have hq1 := hid (hlz1.out 6)
      have HE := hid (HERR.out 6 · hR)
      obtain ⟨l1, hle⟩ : ∃ l, l = gM zM 6 := ⟨_, rfl⟩
      rw [← hle] at hb1 ho1 hq1 HE
      clear hle hbl hoz hlz1 HERR hR hky hkl hub hup hY hD hk hfin
      go_wp2_with (first | refine wp_bld 96 [(1, .const (.int .i64 6))] rfl rfl [(1, .int .i64 6)] rfl hb1 ?_ | refine wp_st 96 (.tmp 4) (.tmp 30) rfl rfl rfl (f := 0) rfl (l := l1) rfl hz (by rw [hlz.out, hq1.out]; omega) (by rw [hq1.out]; exact sizeG8) ho1.out ?_; intro w4 hz4 hG4; refine wp_stop ?_)
      rw [set_all _ _ (by rw [hlz.out, hq1.out])] at hz4
      refine wp_go ?_
      go_wp2
      refine ret_cell rfl rfl hz4.whole Tryd.underlying96 rfl (by rw [hq1.out]; exact sizeG8) rfl ?_
      exact HE.out _ (hB.grown hG4 hB.size (fun k hk => by injection hk with hk; omega))
end Go.Proofs.YtmjpkdehkdpdpaaDoor
/- Ct: layer 17, the document's side: contract of ref09.OpenOf over that of ref09.Open. -/
namespace Go.Proofs.YtmjpkdehkdpdpaaDoor
open Go.RowKit Go.V
set_option maxRecDepth 100000 in
set_option maxHeartbeats 4000000 in
theorem ropenof9_any (ks : List (List UInt8)) (V : Vc) (X : List UInt8) (uk ur v : Value) (F G : Nat → Prop) (w : World) (hks : KsSm ks) (hk : Rd w F uk (tx ks)) (hv : Rd w G v (bys X)) (hX : X.length ≤ 1000000) (hV : V.m < 65536) :
    Calls Tryd.prog 47 #[.agg #[uk, ur], vw V.n V.m, v] w (RdP w (opOf ks V X)) := by
  obtain ⟨n, M⟩ := V
  dsimp only at hV
  obtain ⟨A, c, rfl⟩ := hv.shape
  obtain ⟨W1, hW1, b3, b4, hB⟩ := alloc2 w 33 24 [uk, ur] [.int .i64 n, .int .u16 (M : Int)]
  have b6 := Blk.new' W1 96 (gM zM 0)
  have hB6 : Below W1.heap.size W1 (W1.alloc (.cells (gM zM 0).toArray 96)) := (Below.refl _ _).alloc (Nat.le_refl _) _
  have hs1 : W1.heap.size = w.heap.size + 1 + 1 := by rw [hW1]; simp
  have b3 := b3.below hB6
  have b4 := b4.below hB6
  have hB := hB.trans (hB6.mono hB.size)
  have hk := hk.below hB
  have hv := hv.below hB
  have hop := hid (fun (e : Nat) => op_pos (ks := ks) (X := X) (e := e))
  have hnm := hid (fun (m : Mg) => op_num (ks := ks) (X := X) (m := m))
  have hof := hid (show opOf ks ⟨n, M⟩ X = match opR ks X with
    | .ok m => if hasB M m.f = true then .ok m else .error 6
    | .error e => .error e from rfl)
  obtain ⟨R, hR⟩ : ∃ R, R = opOf ks ⟨n, M⟩ X := ⟨_, rfl⟩
  rw [← hR] at hof ⊢
  have hbm := bldG8
  unfold vw
  clear hR hB6
  go_enter Tryd.func47, Tryd.ntmps47
  go_wp2_with (first | (refine wp_new 96 rfl rfl zeroG8 ?_; refine wp_stop ?_))
  rw [hs1] at b6
  obtain ⟨w0, hw0⟩ : ∃ x, x = W1.alloc (.cells (gM zM 0).toArray 96) := ⟨_, rfl⟩
  rw [← hw0] at b3 b4 b6 hB hk hv
  rw [hW1] at hw0
  first | rw [← hw0] | (simp only [List.toArray] at hw0 ⊢; rw [← hw0])
  obtain ⟨g6, hg6⟩ : ∃ g, g = w.heap.size + 1 + 1 := ⟨_, rfl⟩
  rw [← hg6] at b6 ⊢
  obtain ⟨g4, hg4⟩ : ∃ g, g = w.heap.size + 1 := ⟨_, rfl⟩
  rw [← hg4] at b4 ⊢
  obtain ⟨g3, hg3⟩ : ∃ g, g = w.heap.size := ⟨_, rfl⟩
  rw [← hg3] at b3 ⊢
  have hw3 : w.heap.size ≤ g3 := by omega
  have hw6 : w.heap.size ≤ g6 := by omega
  clear hg3 hg4 hg6 hw0 hW1 hs1
  refine wp_go ?_
  have hlz := hid (len_gM len_zM 0)
  have hlz1 := hid (len_gM len_zM)
  have hoz := hid (one_gM one_zM8)
  go_wp2_with (refine wp_ld 33 (.tmp 3) rfl rfl rfl b3.whole Tryd.underlying33 rfl sizeKs17 ?_)
  refine (ropen9_any ks X uk ur _ F G _ hks hk hv hX).mono ?_
  intro e w1 hP
  cases hr : opR ks X with
  | error k =>
    have hRe := hid (hof.out.trans (by rw [hr]))
    have hk0 := hop.out k hr
    rw [hr] at hP
    obtain ⟨rfl, hB1⟩ := hP
    have hl6 := b6.lt
    have b6 := b6.below hB1
    have hB := hB.trans (hB1.mono hB.size)
    have hkI : ((k : Int) == 0) = false := by rw [beq_eq_false_iff_ne]; omega
    obtain ⟨lk, hlk⟩ : ∃ l, l = gM zM k := ⟨_, rfl⟩
    have hone := hid (hoz.out k)
    have hlm := hid (hlz1.out k)
    have Hf1 := hid (gM_err len_zM k)
    have hRD : Hid (∀ W, Below w.heap.size w W → RdP w R (.returned (.agg lk.toArray)) W) := hid (fun W h => by rw [hRe.out, hlk]; exact ⟨rfl, h⟩)
    rw [← hlk] at hone hlm Hf1 ⊢
    clear hlk hRe
    clear hop hnm hof hr b3 b4 hk hv hB1 hk0
    go_wp2_with (first | (refine wp_newst 96 7 (.tmp 10) rfl rfl rfl rfl rfl rfl zeroG8 (l := lk) rfl (by rw [hlm.out]; exact hlz.out) (by rw [hlm.out]; exact sizeG8) hone.out (by simp) ?_; intro w2 b8 hB2 hs2; refine wp_stop ?_))
    have hlt6 := b6.lt
    have b6 := b6.below hB2
    have hB := hB.trans (hB2.mono hB.size)
    obtain ⟨g8, hg8⟩ : ∃ g, g = w1.heap.size := ⟨_, rfl⟩
    rw [← hg8] at b8 hlt6 ⊢
    clear hg8 hs2 hB2
    have c1 := b8.cellAt 39 _ Hf1.out
    refine wp_go ?_
    go_wp2_with (first | refine wp_ld 96 (.tmp 7) rfl rfl rfl b8.whole Tryd.underlying96 rfl (by rw [hlm.out]; exact sizeG8) ?_ | (refine wp_st 96 (.tmp 6) (.tmp 23) rfl rfl rfl (f := 0) rfl (l := lk) rfl b6 (by rw [hlz.out, hlm.out]; omega) (by rw [hlm.out]; exact sizeG8) hone.out ?_; intro w3 k6 G6; refine wp_stop ?_))
    rw [set_all _ _ (by rw [hlz.out, hlm.out])] at k6
    have hB := hB.grown G6 hB.size (fun k hk => by injection hk with hk; omega)
    refine wp_go ?_
    go_wp2
    refine ret_cell rfl rfl k6.whole Tryd.underlying96 rfl (by rw [hlm.out]; exact sizeG8) rfl ?_
    exact hRD.out _ hB
  | ok m =>
    have hRo := hid (hof.out.trans (by rw [hr]))
    have hnb := hnm.out m hr
    rw [hr] at hP
    obtain ⟨⟨ub, up, rfl, hub, hup⟩, hB1⟩ := hP
    have hmb : 0 ≤ m.f ∧ m.f ≤ 15 := by unfold numB at hnb; have := of_decide_eq_true hnb; omega
    have hhl : m.h.length = 32 := op_hash hr
    have hl60 := b6.lt
    have b4 := b4.below hB1
    have b6 := b6.below hB1
    have hub := hub.weak (F' := fun b => w.heap.size ≤ b ∧ b ≠ g6) (fun b _ h => ⟨Nat.le_trans hB.size h, by omega⟩)
    have hup := hup.weak (F' := fun b => w.heap.size ≤ b ∧ b ≠ g6) (fun b _ h => ⟨Nat.le_trans hB.size h, by omega⟩)
    have hB := hB.trans (hB1.mono hB.size)
    obtain ⟨Ab, cb, rfl⟩ := hub.shape
    obtain ⟨Ap, cp, rfl, _, _⟩ := hup.slShape
    have hl39 := len_mg hhl (.slice Ab m.b.length cb) (.slice Ap m.ps.length cp)
    have hone := hid (one_gM (mg_one m Ab Ap m.b.length cb m.ps.length cp) 0)
    have hlm := hid (len_gM hl39 0)
    have Hf0 := hid (gM_err hl39 0)
    have Hf1 : Hid ((gM (m.l (.slice Ab m.b.length cb) (.slice Ap m.ps.length cp)) 0)[1]? = some (.int .i64 m.f)) := hid (by rw [gM_get hl39 0 1 (by omega)]; rfl)
    have hfin := hid (fun W (h1 : Rd W (fun b => w.heap.size ≤ b) (.slice Ab m.b.length cb) (bys m.b)) (h2 : Rd W (fun b => w.heap.size ≤ b) (.slice Ap m.ps.length cp) (tx m.ps)) (h3 : Below w.heap.size w W) => (show RdP w (.ok m) (.returned (.agg (gM (m.l (.slice Ab m.b.length cb) (.slice Ap m.ps.length cp)) 0).toArray)) W from ⟨⟨_, _, rfl, h1, h2⟩, h3⟩))
    obtain ⟨lm, hlm'⟩ : ∃ q, q = gM (m.l (.slice Ab m.b.length cb) (.slice Ap m.ps.length cp)) 0 := ⟨_, rfl⟩
    rw [← hlm'] at hone hlm Hf0 Hf1 hfin ⊢
    clear hlm' hl39 hop hnm hof hr b3 hk hv hB1 hnb
    go_wp2_with (first | (refine wp_newst 96 7 (.tmp 10) rfl rfl rfl rfl rfl rfl zeroG8 (l := lm) rfl (by rw [hlm.out]; exact hlz.out) (by rw [hlm.out]; exact sizeG8) hone.out (by simp) ?_; intro w2 b8 hB2 hs2; refine wp_stop ?_))
    have hlt6 := b6.lt
    have b6 := b6.below hB2
    have b4 := b4.below hB2
    have hub := hub.below hB2
    have hup := hup.below hB2
    have hB := hB.trans (hB2.mono hB.size)
    obtain ⟨g8, hg8⟩ : ∃ g, g = w1.heap.size := ⟨_, rfl⟩
    rw [← hg8] at b8 hlt6 ⊢
    clear hg8 hs2 hB2
    have c1 := b8.cellAt 1 _ Hf1.out
    have c0 := b8.cellAt 39 _ Hf0.out
    refine wp_go ?_
    have hhas := hid (rhas_any n M m.f w2 hV)
    go_wp2_with (first | refine wp_ldg 24 (.tmp 4) (by rfl) rfl rfl b4.whole Tryd.underlying24 rfl sizeVw17 ?_)
    refine hhas.out.mono ?_
    intro e w3 h3
    obtain ⟨rfl, hB3⟩ := h3
    have b6 := b6.below hB3
    have b8 := b8.below hB3
    have hub := hub.below hB3
    have hup := hup.below hB3
    have hB := hB.trans (hB3.mono hB.size)
    clear hhas hB3
    cases hh : hasB M m.f with
    | false =>
      have hRe : Hid (R = .error 6) := hid (hRo.out.trans (by rw [hh]; rfl))
      have hb6' := hbm 6
      have ho6 := hid (hoz.out 6)
      have hl6' := hid (hlz1.out 6)
      have hRD : Hid (∀ W, Below w.heap.size w W → RdP w R (.returned (.agg (gM zM 6).toArray)) W) := hid (fun W h => by rw [hRe.out]; exact ⟨rfl, h⟩)
      obtain ⟨l6, hle⟩ : ∃ l, l = gM zM 6 := ⟨_, rfl⟩
      rw [← hle] at ho6 hl6' hb6' hRD
      clear hRo hfin hub hup c1 hh hle hRe hoz hlz1 hbm
      go_wp2_with (first | refine wp_bld 96 [(1, .const (.int .i64 6))] rfl rfl [(1, .int .i64 6)] rfl hb6' ?_ | (refine wp_st 96 (.tmp 6) (.tmp 22) rfl rfl rfl (f := 0) rfl (l := l6) rfl b6 (by rw [hlz.out, hl6'.out]; omega) (by rw [hl6'.out]; exact sizeG8) ho6.out ?_; intro w4 k6 G6; refine wp_stop ?_))
      rw [set_all _ _ (by rw [hlz.out, hl6'.out])] at k6
      have hB := hB.grown G6 hB.size (fun k hk => by injection hk with hk; omega)
      refine wp_go ?_
      go_wp2
      refine ret_cell rfl rfl k6.whole Tryd.underlying96 rfl (by rw [hl6'.out]; exact sizeG8) rfl ?_
      exact hRD.out _ hB
    | true =>
      have hRe : Hid (R = .ok m) := hid (hRo.out.trans (by rw [hh]; rfl))
      clear hRo hh
      go_wp2_with (first | refine wp_ld 96 (.tmp 7) rfl rfl rfl b8.whole Tryd.underlying96 rfl (by rw [hlm.out]; exact sizeG8) ?_ | (refine wp_st 96 (.tmp 6) (.tmp 23) rfl rfl rfl (f := 0) rfl (l := lm) rfl b6 (by rw [hlz.out, hlm.out]; omega) (by rw [hlm.out]; exact sizeG8) hone.out ?_; intro w4 k6 G6; refine wp_stop ?_))
      rw [set_all _ _ (by rw [hlz.out, hlm.out])] at k6
      have hub := hub.keep (F' := fun b => w.heap.size ≤ b) (fun b hb hF => ⟨hF.1, G6.block b hb (by intro h; injection h with h; exact hF.2 h)⟩)
      have hup := hup.keep (F' := fun b => w.heap.size ≤ b) (fun b hb hF => ⟨hF.1, G6.block b hb (by intro h; injection h with h; exact hF.2 h)⟩)
      have hB := hB.grown G6 hB.size (fun k hk => by injection hk with hk; omega)
      refine wp_go ?_
      go_wp2
      refine ret_cell rfl rfl k6.whole Tryd.underlying96 rfl (by rw [hlm.out]; exact sizeG8) rfl ?_
      rw [hRe.out]
      exact hfin.out _ hub hup hB
end Go.Proofs.YtmjpkdehkdpdpaaDoor
