/- Cp: several texts in one (W3 Cp). -/
import Derived.Test.YtnhhbbjkeekneaaDoorW2
import Derived.Test.YtnhhbbjkeekneaaDoorVA
import Derived.Test.YtnhhbbjkeekneaaDoorW0
/- W3: layer 6: contracts of package views: how many must agree, who leads. -/
namespace Go.V
open Go.RowKit
def fltN (n : Int) (M : Nat) : Nat := if rgt n M then (szM M - 1) / 3 else 0
def enoN (n : Int) (M : Nat) : Nat := if rgt n M then szM M - fltN n M else 0
def somN (n : Int) (M : Nat) : Nat := if rgt n M then fltN n M + 1 else 0
theorem rgt_sz {n : Int} {M : Nat} (h : rgt n M = true) : 0 ≤ n ∧ n ≤ 60 ∧ 4 ≤ szM M ∧ szM M ≤ 7 := by unfold rgt at h; exact of_decide_eq_true h
end Go.V
namespace Go.Proofs.YtnhhbbjkeekneaaDoor
open Go.RowKit Go.V
theorem sizeV : (Tryd.prog.info? 24).map (·.size) = some 2 := by kernel_rfl
theorem flt_any (n : Int) (M : Nat) (w : World) (h : M < 65536) :
    Calls Tryd.prog 29 #[vw n M] w fun e w' => e = .returned (.int .i64 (fltN n M : Int)) ∧ Below w.heap.size w w' := by
  have hsz := (size_any n M · h)
  have hrt := (right_any n M · h)
  unfold vw at hsz hrt ⊢
  have hb := Blk.new' w 24 [.int .i64 n, .int .u16 (M : Int)]
  have hB : Below w.heap.size w (w.alloc (.cells #[.int .i64 n, .int .u16 (M : Int)] 24)) := (Below.refl _ _).alloc (Nat.le_refl _) _
  have hz := rgt_sz (n := n) (M := M)
  have hf : fltN n M = if rgt n M then (szM M - 1) / 3 else 0 := rfl
  obtain ⟨f, hfe⟩ : ∃ f, f = fltN n M := ⟨_, rfl⟩
  rw [← hfe] at hf ⊢
  obtain ⟨s, hs⟩ : ∃ s, s = szM M := ⟨_, rfl⟩
  rw [← hs] at hf hz hsz
  go_enter Tryd.func29, Tryd.ntmps29
  go_wp2_with (fail)
  refine (hrt _).mono ?_
  rintro e w1 ⟨rfl, hB1⟩
  have hb1 := hb.below hB1
  have hB1' := hB.trans (hB1.mono hB.size)
  have c0 := hb1.cellAt 0 _ rfl
  have c1 := hb1.cellAt 1 _ rfl
  clear hfe hs
  cases hr : rgt n M with
  | true =>
    rw [hr, if_pos rfl] at hf
    have hz := hz hr
    have Hf := hid hf
    clear hf hr
    go_wp2_with (fail)
    refine (hsz _).mono ?_
    rintro e w2 ⟨rfl, hB2⟩
    go_wp2
    go_ret
    exact ⟨ret_i (by rw [Hf.out]; omega), hB1'.trans (hB2.mono hB1'.size)⟩
  | false =>
    rw [hr] at hf
    have hf : f = 0 := hf
    have Hf := hid hf
    clear hf hr
    go_wp2
    go_ret
    exact ⟨ret_i (by rw [Hf.out]; rfl), hB1'⟩
set_option maxHeartbeats 1000000 in
theorem eno_any (n : Int) (M : Nat) (w : World) (h : M < 65536) :
    Calls Tryd.prog 19 #[vw n M] w fun e w' => e = .returned (.int .i64 (enoN n M : Int)) ∧ Below w.heap.size w w' := by
  have hsz := (size_any n M · h)
  have hrt := (right_any n M · h)
  have hflt := (flt_any n M · h)
  unfold vw at hsz hrt hflt ⊢
  have hb := Blk.new' w 24 [.int .i64 n, .int .u16 (M : Int)]
  have hB : Below w.heap.size w (w.alloc (.cells #[.int .i64 n, .int .u16 (M : Int)] 24)) := (Below.refl _ _).alloc (Nat.le_refl _) _
  have hz := rgt_sz (n := n) (M := M)
  have hff : rgt n M = true → fltN n M = (szM M - 1) / 3 := fun h => by unfold fltN; rw [if_pos h]
  have hf : enoN n M = if rgt n M then szM M - fltN n M else 0 := rfl
  obtain ⟨q, hqe⟩ : ∃ q, q = enoN n M := ⟨_, rfl⟩
  rw [← hqe] at hf ⊢
  obtain ⟨f, hfe⟩ : ∃ f, f = fltN n M := ⟨_, rfl⟩
  rw [← hfe] at hf hff hflt
  obtain ⟨s, hs⟩ : ∃ s, s = szM M := ⟨_, rfl⟩
  try rw [← hs] at hf
  rw [← hs] at hz hsz hff
  go_enter Tryd.func19, Tryd.ntmps19
  go_wp2_with (fail)
  obtain ⟨w0, hw0⟩ : ∃ w0, w0 = w.alloc (.cells #[.int .i64 n, .int .u16 (M : Int)] 24) := ⟨_, rfl⟩
  rw [← hw0] at hb hB ⊢
  clear hw0
  obtain ⟨g, hg⟩ : ∃ g, g = w.heap.size := ⟨_, rfl⟩
  rw [← hg] at hb ⊢
  clear hg
  refine (hrt _).mono ?_
  rintro e wq ⟨rfl, hB1⟩
  have hb1 := hb.below hB1
  have hB1' := hB.trans (hB1.mono hB.size)
  have c0 := hb1.cellAt 0 _ rfl
  have c1 := hb1.cellAt 1 _ rfl
  have HV : Hid (∀ W, Ch nob wq W → W.rangeAt g 0 [.int .i64 n, .int .u16 (M : Int)]) := fun W h => hb1.chAt (fun h => h) h
  clear hqe hfe hs hb hb1
  cases hr : rgt n M with
  | true =>
    rw [hr, if_pos rfl] at hf
    have hz := hz hr
    have hff := hff hr
    have Hf := hid hf
    have Hff := hid hff
    have hfs : f ≤ s := by omega
    clear hf hr hff c0 c1
    go_wp2_with (fail)
    refine wp_region_noPanic ?_
    refine wp_region_held_drew (S := Ch nob wq) (by kernel_rfl) ((Ch.refl _ _).drew) (fun hHeld => ?_)
    refine wpAnyH_take (i := 0) (oi := ⟨some 6, .load 24 (.tmp 1), _, _, _, none⟩) (v := _) rfl (by kernel_rfl) (by kernel_rfl) (by kernel_rfl) (fun _ _ _ h => h) (yieldsIf_load_mid (by rfl) 24 (.tmp 1) (by rfl) _ (0) (by rfl) _ _ (fun _ hs => HV.out _ hs) Tryd.underlying24 rfl (sizeV)) (by assumption) ?_
    try simp only [Act.put, List.setIfInBounds_toArray, List.set_cons_zero, List.set_cons_succ]
    refine wpAnyH_take (i := 2) (oi := ⟨some 8, .load 24 (.tmp 1), _, _, _, none⟩) (v := _) rfl (by kernel_rfl) (by kernel_rfl) (by kernel_rfl) (fun _ _ _ h => h) (yieldsIf_load_mid (by rfl) 24 (.tmp 1) (by rfl) _ (0) (by rfl) _ _ (fun _ hs => HV.out _ hs) Tryd.underlying24 rfl (sizeV)) (by assumption) ?_
    try simp only [Act.put, List.setIfInBounds_toArray, List.set_cons_zero, List.set_cons_succ]
    refine wpAnyH_ready (rs := [1]) (by kernel_rfl) (by simp) ?_
    refine AllReadyH.cons (o := ⟨some 7, _, _, _, _, none⟩) rfl (fun K hK => ?_) AllReadyH.nil
    go_simp
    refine (hsz _).mono ?_
    rintro e' w5 ⟨rfl, hB5⟩
    have hC5 := hHeld.belowG hB5
    refine hK.out _ _ (hC5) (fun hHeld => ?_)
    clear hK K
    try simp only [Act.put, List.setIfInBounds_toArray, List.set_cons_zero, List.set_cons_succ]
    refine wpAnyH_ready (rs := [3]) (by kernel_rfl) (by simp) ?_
    refine AllReadyH.cons (o := ⟨some 9, _, _, _, _, none⟩) rfl (fun K hK => ?_) AllReadyH.nil
    go_simp
    refine (hflt _).mono ?_
    rintro e' w6 ⟨rfl, hB6⟩
    have hC6 := hHeld.belowG hB6
    refine hK.out _ _ (hC6) (fun hHeld => ?_)
    clear hK K
    try simp only [Act.put, List.setIfInBounds_toArray, List.set_cons_zero, List.set_cons_succ]
    refine wpAnyH_take (i := 4) (oi := ⟨some 10, _, _, _, _, none⟩) (v := ?_) rfl (by kernel_rfl) (by kernel_rfl) (by kernel_rfl) (fun _ _ _ h => h) (Or.inl ⟨by rfl, ?_⟩) (by assumption) ?_
    rotate_left
    · intro w hSw; go_simp; try with_reducible rfl
    try simp only [Act.put, List.setIfInBounds_toArray, List.set_cons_zero, List.set_cons_succ]
    refine wpAnyH_take (i := 5) (oi := ⟨some 2, _, _, _, _, none⟩) (v := ?_) rfl (by kernel_rfl) (by kernel_rfl) (by kernel_rfl) (fun _ _ _ h => h) (Or.inl ⟨by rfl, ?_⟩) (by assumption) ?_
    rotate_left
    · intro w hSw; go_simp; try with_reducible rfl
    try simp only [Act.put, List.setIfInBounds_toArray, List.set_cons_zero, List.set_cons_succ]
    refine wpAnyH_done (by kernel_rfl) ?_ _
    refine NoPanic.normal ?_
    go_wp2
    go_ret
    exact ⟨ret_i (by have := Hff.out; rw [Hf.out, IntWalk.i64_in _ (by omega)]; omega), hB1'.trans (hHeld.below.mono hB1'.size)⟩
  | false =>
    rw [hr] at hf
    have hf : q = 0 := hf
    have Hf := hid hf
    clear hf hr hff
    go_wp2
    go_ret
    exact ⟨ret_i (by rw [Hf.out]; rfl), hB1'⟩
set_option maxHeartbeats 1000000 in
theorem som_any (n : Int) (M : Nat) (w : World) (h : M < 65536) :
    Calls Tryd.prog 18 #[vw n M] w fun e w' => e = .returned (.int .i64 (somN n M : Int)) ∧ Below w.heap.size w w' := by
  have hsz := (size_any n M · h)
  have hrt := (right_any n M · h)
  have hflt := (flt_any n M · h)
  unfold vw at hsz hrt hflt ⊢
  have hb := Blk.new' w 24 [.int .i64 n, .int .u16 (M : Int)]
  have hB : Below w.heap.size w (w.alloc (.cells #[.int .i64 n, .int .u16 (M : Int)] 24)) := (Below.refl _ _).alloc (Nat.le_refl _) _
  have hz := rgt_sz (n := n) (M := M)
  have hff : rgt n M = true → fltN n M = (szM M - 1) / 3 := fun h => by unfold fltN; rw [if_pos h]
  have hf : somN n M = if rgt n M then fltN n M + 1 else 0 := rfl
  obtain ⟨q, hqe⟩ : ∃ q, q = somN n M := ⟨_, rfl⟩
  rw [← hqe] at hf ⊢
  obtain ⟨f, hfe⟩ : ∃ f, f = fltN n M := ⟨_, rfl⟩
  rw [← hfe] at hf hff hflt
  obtain ⟨s, hs⟩ : ∃ s, s = szM M := ⟨_, rfl⟩
  try rw [← hs] at hf
  rw [← hs] at hz hsz hff
  go_enter Tryd.func18, Tryd.ntmps18
  go_wp2_with (fail)
  obtain ⟨w0, hw0⟩ : ∃ w0, w0 = w.alloc (.cells #[.int .i64 n, .int .u16 (M : Int)] 24) := ⟨_, rfl⟩
  rw [← hw0] at hb hB ⊢
  clear hw0
  obtain ⟨g, hg⟩ : ∃ g, g = w.heap.size := ⟨_, rfl⟩
  rw [← hg] at hb ⊢
  clear hg
  refine (hrt _).mono ?_
  rintro e wq ⟨rfl, hB1⟩
  have hb1 := hb.below hB1
  have hB1' := hB.trans (hB1.mono hB.size)
  have c0 := hb1.cellAt 0 _ rfl
  have c1 := hb1.cellAt 1 _ rfl
  have HV : Hid (∀ W, Ch nob wq W → W.rangeAt g 0 [.int .i64 n, .int .u16 (M : Int)]) := fun W h => hb1.chAt (fun h => h) h
  clear hqe hfe hs hb hb1
  cases hr : rgt n M with
  | true =>
    rw [hr, if_pos rfl] at hf
    have hz := hz hr
    have hff := hff hr
    have Hf := hid hf
    have Hff := hid hff
    have hfs : f ≤ s := by omega
    clear hf hr hff
    go_wp2_with (fail)
    refine (hflt _).mono ?_
    rintro e w2 ⟨rfl, hB2⟩
    go_wp2
    go_ret
    exact ⟨ret_i (by have := Hff.out; rw [Hf.out]; omega), hB1'.trans (hB2.mono hB1'.size)⟩
  | false =>
    rw [hr] at hf
    have hf : q = 0 := hf
    have Hf := hid hf
    clear hf hr hff
    go_wp2
    go_ret
    exact ⟨ret_i (by rw [Hf.out]; rfl), hB1'⟩
end Go.Proofs.YtnhhbbjkeekneaaDoor
/- Cp: layer 17, pure: what votes prove. No project text. -/
namespace Go.Proofs.YtnhhbbjkeekneaaDoor
open Go.RowKit Go.V
/-- a view's number and its members -/
structure Vc where
  n : Int
  m : Nat
def opOf (ks : List (List UInt8)) (V : Vc) (X : List UInt8) : Except Nat Mg := match opR ks X with
  | .ok m => if hasB V.m m.f = true then .ok m else .error 6
  | .error e => .error e
/-! what follows -/
/-! the regency that is told -/
end Go.Proofs.YtnhhbbjkeekneaaDoor
