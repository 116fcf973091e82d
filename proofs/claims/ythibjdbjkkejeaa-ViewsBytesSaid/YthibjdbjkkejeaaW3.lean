/- W3: layer 6: contracts of package views: how many must agree, who leads. -/
import Derived.Test.YthibjdbjkkejeaaW2
import Derived.Test.YthibjdbjkkejeaaVC
namespace Go.V
open Go.RowKit
def fltN (n : Int) (M : Nat) : Nat := if rgt n M then (szM M - 1) / 3 else 0
def quoN (n : Int) (M : Nat) : Nat := if rgt n M then (szM M + fltN n M) / 2 + 1 else 0
def enoN (n : Int) (M : Nat) : Nat := if rgt n M then szM M - fltN n M else 0
def somN (n : Int) (M : Nat) : Nat := if rgt n M then fltN n M + 1 else 0
def leadZ (n : Int) (M : Nat) (r : Int) : Int := if rgt n M ∧ 0 ≤ r then (((memL M 16).getD (r.toNat % szM M) 0 : Nat) : Int) else -1
theorem rgt_sz {n : Int} {M : Nat} (h : rgt n M = true) : 0 ≤ n ∧ n ≤ 60 ∧ 4 ≤ szM M ∧ szM M ≤ 7 := by unfold rgt at h; exact of_decide_eq_true h
/-- one cell, in a region that draws its order -/
theorem step_ld1 {P : Program} {w : World} {ops : Array Oper} {o : Oper} {a : Act} {Q : Exit → Act → World → Prop} {K : Act → World → Prop} {E : Prop} (ty : TypeId) (x : Operand) (hgd : o.guard = none) (ho : o.op = .load ty x) {ad : Addr} (hx : a.eval x = .pointer (some ad)) {v : Value} (hc : w.cell? ad = some v)
    (hag : ∀ W : World, (isAgg ty).run P W = .ok false W)
    (h : K (a.put o.dst v) w) : if Region.wanted o (yielded ops a.tmps) = true then Oper.wp P o a w K Q else E := by
  have hw : Region.wanted o (yielded ops a.tmps) = true := by simp [Region.wanted, hgd]
  rw [if_pos hw]
  have hr : (Instr.loadAt ty (.pointer (some ad))).run P w = .ok v w := by
    simp [Instr.loadAt, Instr.sureAddr, loadVar, hag, hc]
  unfold Oper.wp execOp
  simp only [ho, hx, Sem.run_bind, Sem.run_pure, hr, Result.andThen_ok]
  exact h
end Go.V
namespace Go.Proofs.Ythibjdbjkkejeaa
open Go.RowKit Go.V
theorem sizeV : (Try.prog.info? 24).map (·.size) = some 2 := by kernel_rfl
theorem flt_any (n : Int) (M : Nat) (w : World) (h : M < 65536) :
    Calls Try.prog 16 #[vw n M] w fun e w' => e = .returned (.int .i64 (fltN n M : Int)) ∧ Below w.heap.size w w' := by
  have hsz := (size_any n M · h)
  have hrt := (right_any n M · h)
  unfold vw at hsz hrt ⊢
  have hb := Blk.new' w 24 [.int .i64 n, .int .u16 (M : Int)]
  have hB : Below w.heap.size w (w.alloc (.cells #[.int .i64 n, .int .u16 (M : Int)] 24)) := (Below.refl _ _).alloc (Nat.le_refl _) _
  have hz := rgt_sz (n := n) (M := M)
  have hf : fltN n M = if rgt n M then (szM M - 1) / 3 else 0 := rfl
  obtain ⟨f, hfe⟩ : ∃ f, f = fltN n M := ⟨_, rfl⟩
  rw [← hfe] at hf ⊢
  obtain ⟨s, hs⟩ : ∃ s, s = szM M := ⟨_, rfl⟩
  rw [← hs] at hf hz hsz
  go_enter Try.func16, Try.ntmps16
  go_wp2_with (fail)
  refine (hrt _).mono ?_
  rintro e w1 ⟨rfl, hB1⟩
  have hb1 := hb.below hB1
  have hB1' := hB.trans (hB1.mono hB.size)
  have c0 := hb1.cellAt 0 _ rfl
  have c1 := hb1.cellAt 1 _ rfl
  clear hfe hs
  cases hr : rgt n M with
  | true =>
    rw [hr, if_pos rfl] at hf
    have hz := hz hr
    have Hf := hid hf
    clear hf hr
    go_wp2_with (fail)
    refine (hsz _).mono ?_
    rintro e w2 ⟨rfl, hB2⟩
    go_wp2
    go_ret
    exact ⟨ret_i (by rw [Hf.out]; omega), hB1'.trans (hB2.mono hB1'.size)⟩
  | false =>
    rw [hr] at hf
    have hf : f = 0 := hf
    have Hf := hid hf
    clear hf hr
    go_wp2
    go_ret
    exact ⟨ret_i (by rw [Hf.out]; rfl), hB1'⟩
set_option maxHeartbeats 1000000 in
theorem quo_any (n : Int) (M : Nat) (w : World) (h : M < 65536) :
    Calls Try.prog 18 #[vw n M] w fun e w' => e = .returned (.int .i64 (quoN n M : Int)) ∧ Below w.heap.size w w' := by
  have hsz := (size_any n M · h)
  have hrt := (right_any n M · h)
  have hflt := (flt_any n M · h)
  unfold vw at hsz hrt hflt ⊢
  have hb := Blk.new' w 24 [.int .i64 n, .int .u16 (M : Int)]
  have hB : Below w.heap.size w (w.alloc (.cells #[.int .i64 n, .int .u16 (M : Int)] 24)) := (Below.refl _ _).alloc (Nat.le_refl _) _
  have hz := rgt_sz (n := n) (M := M)
  have hff : rgt n M = true → fltN n M = (szM M - 1) / 3 := fun h => by unfold fltN; rw [if_pos h]
  have hf : quoN n M = if rgt n M then (szM M + fltN n M) / 2 + 1 else 0 := rfl
  obtain ⟨q, hqe⟩ : ∃ q, q = quoN n M := ⟨_, rfl⟩
  rw [← hqe] at hf ⊢
  obtain ⟨f, hfe⟩ : ∃ f, f = fltN n M := ⟨_, rfl⟩
  rw [← hfe] at hf hff hflt
  obtain ⟨s, hs⟩ : ∃ s, s = szM M := ⟨_, rfl⟩
  try rw [← hs] at hf
  rw [← hs] at hz hsz hff
  go_enter Try.func18, Try.ntmps18
  go_wp2_with (fail)
  obtain ⟨w0, hw0⟩ : ∃ w0, w0 = w.alloc (.cells #[.int .i64 n, .int .u16 (M : Int)] 24) := ⟨_, rfl⟩
  rw [← hw0] at hb hB ⊢
  clear hw0
  obtain ⟨g, hg⟩ : ∃ g, g = w.heap.size := ⟨_, rfl⟩
  rw [← hg] at hb ⊢
  clear hg
  refine (hrt _).mono ?_
  rintro e wq ⟨rfl, hB1⟩
  have hb1 := hb.below hB1
  have hB1' := hB.trans (hB1.mono hB.size)
  have c0 := hb1.cellAt 0 _ rfl
  have c1 := hb1.cellAt 1 _ rfl
  have HV : Hid (∀ W, Ch nob wq W → W.rangeAt g 0 [.int .i64 n, .int .u16 (M : Int)]) := fun W h => hb1.chAt (fun h => h) h
  clear hqe hfe hs hb hb1
  cases hr : rgt n M with
  | true =>
    rw [hr, if_pos rfl] at hf
    have hz := hz hr
    have hff := hff hr
    have Hf := hid hf
    have Hff := hid hff
    have hfs : f ≤ s := by omega
    clear hf hr hff c0 c1
    go_wp2_with (fail)
    refine wp_region_noPanic ?_
    refine wp_region_held_drew (S := Ch nob wq) (by kernel_rfl) ((Ch.refl _ _).drew) (fun hHeld => ?_)
    refine wpAnyH_take (i := 0) (oi := ⟨some 6, .load 24 (.tmp 1), _, _, _, none⟩) (v := _) rfl (by kernel_rfl) (by kernel_rfl) (by kernel_rfl) (fun _ _ _ h => h) (yieldsIf_load_mid (by rfl) 24 (.tmp 1) (by rfl) _ (0) (by rfl) _ _ (fun _ hs => HV.out _ hs) Try.underlying24 rfl (sizeV)) (by assumption) ?_
    try simp only [Act.put, List.setIfInBounds_toArray, List.set_cons_zero, List.set_cons_succ]
    refine wpAnyH_take (i := 2) (oi := ⟨some 8, .load 24 (.tmp 1), _, _, _, none⟩) (v := _) rfl (by kernel_rfl) (by kernel_rfl) (by kernel_rfl) (fun _ _ _ h => h) (yieldsIf_load_mid (by rfl) 24 (.tmp 1) (by rfl) _ (0) (by rfl) _ _ (fun _ hs => HV.out _ hs) Try.underlying24 rfl (sizeV)) (by assumption) ?_
    try simp only [Act.put, List.setIfInBounds_toArray, List.set_cons_zero, List.set_cons_succ]
    refine wpAnyH_ready (rs := [1]) (by kernel_rfl) (by simp) ?_
    refine AllReadyH.cons (o := ⟨some 7, _, _, _, _, none⟩) rfl (fun K hK => ?_) AllReadyH.nil
    go_simp
    refine (hsz _).mono ?_
    rintro e' w5 ⟨rfl, hB5⟩
    have hC5 := hHeld.belowG hB5
    refine hK.out _ _ (hC5) (fun hHeld => ?_)
    clear hK K
    try simp only [Act.put, List.setIfInBounds_toArray, List.set_cons_zero, List.set_cons_succ]
    refine wpAnyH_ready (rs := [3]) (by kernel_rfl) (by simp) ?_
    refine AllReadyH.cons (o := ⟨some 9, _, _, _, _, none⟩) rfl (fun K hK => ?_) AllReadyH.nil
    go_simp
    refine (hflt _).mono ?_
    rintro e' w6 ⟨rfl, hB6⟩
    have hC6 := hHeld.belowG hB6
    refine hK.out _ _ (hC6) (fun hHeld => ?_)
    clear hK K
    try simp only [Act.put, List.setIfInBounds_toArray, List.set_cons_zero, List.set_cons_succ]
    refine wpAnyH_take (i := 4) (oi := ⟨some 10, _, _, _, _, none⟩) (v := ?_) rfl (by kernel_rfl) (by kernel_rfl) (by kernel_rfl) (fun _ _ _ h => h) (Or.inl ⟨by rfl, ?_⟩) (by assumption) ?_
    rotate_left
    · intro w hSw; go_simp; try with_reducible rfl
    try simp only [Act.put, List.setIfInBounds_toArray, List.set_cons_zero, List.set_cons_succ]
    refine wpAnyH_take (i := 5) (oi := ⟨some 11, _, _, _, _, none⟩) (v := ?_) rfl (by kernel_rfl) (by kernel_rfl) (by kernel_rfl) (fun _ _ _ h => h) (Or.inl ⟨by rfl, ?_⟩) (by assumption) ?_
    rotate_left
    · intro w hSw; go_simp; try with_reducible rfl
    try simp only [Act.put, List.setIfInBounds_toArray, List.set_cons_zero, List.set_cons_succ]
    refine wpAnyH_take (i := 6) (oi := ⟨some 12, _, _, _, _, none⟩) (v := ?_) rfl (by kernel_rfl) (by kernel_rfl) (by kernel_rfl) (fun _ _ _ h => h) (Or.inl ⟨by rfl, ?_⟩) (by assumption) ?_
    rotate_left
    · intro w hSw; go_simp; try with_reducible rfl
    try simp only [Act.put, List.setIfInBounds_toArray, List.set_cons_zero, List.set_cons_succ]
    refine wpAnyH_take (i := 7) (oi := ⟨some 2, _, _, _, _, none⟩) (v := ?_) rfl (by kernel_rfl) (by kernel_rfl) (by kernel_rfl) (fun _ _ _ h => h) (Or.inl ⟨by rfl, ?_⟩) (by assumption) ?_
    rotate_left
    · intro w hSw; go_simp; try with_reducible rfl
    try simp only [Act.put, List.setIfInBounds_toArray, List.set_cons_zero, List.set_cons_succ]
    refine wpAnyH_done (by kernel_rfl) ?_ _
    refine NoPanic.normal ?_
    go_wp2
    go_ret
    exact ⟨ret_i (by have := Hff.out; rw [Hf.out, IntWalk.i64_in ((s : Int) + f) (by omega), Int.tdiv_eq_ediv_of_nonneg (by omega), IntWalk.i64_in (((s : Int) + f) / 2) (by omega), IntWalk.i64_in (((s : Int) + f) / 2 + 1) (by omega)]; omega), hB1'.trans (hHeld.below.mono hB1'.size)⟩
  | false =>
    rw [hr] at hf
    have hf : q = 0 := hf
    have Hf := hid hf
    clear hf hr hff
    go_wp2
    go_ret
    exact ⟨ret_i (by rw [Hf.out]; rfl), hB1'⟩
set_option maxHeartbeats 1000000 in
theorem eno_any (n : Int) (M : Nat) (w : World) (h : M < 65536) :
    Calls Try.prog 20 #[vw n M] w fun e w' => e = .returned (.int .i64 (enoN n M : Int)) ∧ Below w.heap.size w w' := by
  have hsz := (size_any n M · h)
  have hrt := (right_any n M · h)
  have hflt := (flt_any n M · h)
  unfold vw at hsz hrt hflt ⊢
  have hb := Blk.new' w 24 [.int .i64 n, .int .u16 (M : Int)]
  have hB : Below w.heap.size w (w.alloc (.cells #[.int .i64 n, .int .u16 (M : Int)] 24)) := (Below.refl _ _).alloc (Nat.le_refl _) _
  have hz := rgt_sz (n := n) (M := M)
  have hff : rgt n M = true → fltN n M = (szM M - 1) / 3 := fun h => by unfold fltN; rw [if_pos h]
  have hf : enoN n M = if rgt n M then szM M - fltN n M else 0 := rfl
  obtain ⟨q, hqe⟩ : ∃ q, q = enoN n M := ⟨_, rfl⟩
  rw [← hqe] at hf ⊢
  obtain ⟨f, hfe⟩ : ∃ f, f = fltN n M := ⟨_, rfl⟩
  rw [← hfe] at hf hff hflt
  obtain ⟨s, hs⟩ : ∃ s, s = szM M := ⟨_, rfl⟩
  try rw [← hs] at hf
  rw [← hs] at hz hsz hff
  go_enter Try.func20, Try.ntmps20
  go_wp2_with (fail)
  obtain ⟨w0, hw0⟩ : ∃ w0, w0 = w.alloc (.cells #[.int .i64 n, .int .u16 (M : Int)] 24) := ⟨_, rfl⟩
  rw [← hw0] at hb hB ⊢
  clear hw0
  obtain ⟨g, hg⟩ : ∃ g, g = w.heap.size := ⟨_, rfl⟩
  rw [← hg] at hb ⊢
  clear hg
  refine (hrt _).mono ?_
  rintro e wq ⟨rfl, hB1⟩
  have hb1 := hb.below hB1
  have hB1' := hB.trans (hB1.mono hB.size)
  have c0 := hb1.cellAt 0 _ rfl
  have c1 := hb1.cellAt 1 _ rfl
  have HV : Hid (∀ W, Ch nob wq W → W.rangeAt g 0 [.int .i64 n, .int .u16 (M : Int)]) := fun W h => hb1.chAt (fun h => h) h
  clear hqe hfe hs hb hb1
  cases hr : rgt n M with
  | true =>
    rw [hr, if_pos rfl] at hf
    have hz := hz hr
    have hff := hff hr
    have Hf := hid hf
    have Hff := hid hff
    have hfs : f ≤ s := by omega
    clear hf hr hff c0 c1
    go_wp2_with (fail)
    refine wp_region_noPanic ?_
    refine wp_region_held_drew (S := Ch nob wq) (by kernel_rfl) ((Ch.refl _ _).drew) (fun hHeld => ?_)
    refine wpAnyH_take (i := 0) (oi := ⟨some 6, .load 24 (.tmp 1), _, _, _, none⟩) (v := _) rfl (by kernel_rfl) (by kernel_rfl) (by kernel_rfl) (fun _ _ _ h => h) (yieldsIf_load_mid (by rfl) 24 (.tmp 1) (by rfl) _ (0) (by rfl) _ _ (fun _ hs => HV.out _ hs) Try.underlying24 rfl (sizeV)) (by assumption) ?_
    try simp only [Act.put, List.setIfInBounds_toArray, List.set_cons_zero, List.set_cons_succ]
    refine wpAnyH_take (i := 2) (oi := ⟨some 8, .load 24 (.tmp 1), _, _, _, none⟩) (v := _) rfl (by kernel_rfl) (by kernel_rfl) (by kernel_rfl) (fun _ _ _ h => h) (yieldsIf_load_mid (by rfl) 24 (.tmp 1) (by rfl) _ (0) (by rfl) _ _ (fun _ hs => HV.out _ hs) Try.underlying24 rfl (sizeV)) (by assumption) ?_
    try simp only [Act.put, List.setIfInBounds_toArray, List.set_cons_zero, List.set_cons_succ]
    refine wpAnyH_ready (rs := [1]) (by kernel_rfl) (by simp) ?_
    refine AllReadyH.cons (o := ⟨some 7, _, _, _, _, none⟩) rfl (fun K hK => ?_) AllReadyH.nil
    go_simp
    refine (hsz _).mono ?_
    rintro e' w5 ⟨rfl, hB5⟩
    have hC5 := hHeld.belowG hB5
    refine hK.out _ _ (hC5) (fun hHeld => ?_)
    clear hK K
    try simp only [Act.put, List.setIfInBounds_toArray, List.set_cons_zero, List.set_cons_succ]
    refine wpAnyH_ready (rs := [3]) (by kernel_rfl) (by simp) ?_
    refine AllReadyH.cons (o := ⟨some 9, _, _, _, _, none⟩) rfl (fun K hK => ?_) AllReadyH.nil
    go_simp
    refine (hflt _).mono ?_
    rintro e' w6 ⟨rfl, hB6⟩
    have hC6 := hHeld.belowG hB6
    refine hK.out _ _ (hC6) (fun hHeld => ?_)
    clear hK K
    try simp only [Act.put, List.setIfInBounds_toArray, List.set_cons_zero, List.set_cons_succ]
    refine wpAnyH_take (i := 4) (oi := ⟨some 10, _, _, _, _, none⟩) (v := ?_) rfl (by kernel_rfl) (by kernel_rfl) (by kernel_rfl) (fun _ _ _ h => h) (Or.inl ⟨by rfl, ?_⟩) (by assumption) ?_
    rotate_left
    · intro w hSw; go_simp; try with_reducible rfl
    try simp only [Act.put, List.setIfInBounds_toArray, List.set_cons_zero, List.set_cons_succ]
    refine wpAnyH_take (i := 5) (oi := ⟨some 2, _, _, _, _, none⟩) (v := ?_) rfl (by kernel_rfl) (by kernel_rfl) (by kernel_rfl) (fun _ _ _ h => h) (Or.inl ⟨by rfl, ?_⟩) (by assumption) ?_
    rotate_left
    · intro w hSw; go_simp; try with_reducible rfl
    try simp only [Act.put, List.setIfInBounds_toArray, List.set_cons_zero, List.set_cons_succ]
    refine wpAnyH_done (by kernel_rfl) ?_ _
    refine NoPanic.normal ?_
    go_wp2
    go_ret
    exact ⟨ret_i (by have := Hff.out; rw [Hf.out, IntWalk.i64_in _ (by omega)]; omega), hB1'.trans (hHeld.below.mono hB1'.size)⟩
  | false =>
    rw [hr] at hf
    have hf : q = 0 := hf
    have Hf := hid hf
    clear hf hr hff
    go_wp2
    go_ret
    exact ⟨ret_i (by rw [Hf.out]; rfl), hB1'⟩
set_option maxHeartbeats 1000000 in
theorem som_any (n : Int) (M : Nat) (w : World) (h : M < 65536) :
    Calls Try.prog 22 #[vw n M] w fun e w' => e = .returned (.int .i64 (somN n M : Int)) ∧ Below w.heap.size w w' := by
  have hsz := (size_any n M · h)
  have hrt := (right_any n M · h)
  have hflt := (flt_any n M · h)
  unfold vw at hsz hrt hflt ⊢
  have hb := Blk.new' w 24 [.int .i64 n, .int .u16 (M : Int)]
  have hB : Below w.heap.size w (w.alloc (.cells #[.int .i64 n, .int .u16 (M : Int)] 24)) := (Below.refl _ _).alloc (Nat.le_refl _) _
  have hz := rgt_sz (n := n) (M := M)
  have hff : rgt n M = true → fltN n M = (szM M - 1) / 3 := fun h => by unfold fltN; rw [if_pos h]
  have hf : somN n M = if rgt n M then fltN n M + 1 else 0 := rfl
  obtain ⟨q, hqe⟩ : ∃ q, q = somN n M := ⟨_, rfl⟩
  rw [← hqe] at hf ⊢
  obtain ⟨f, hfe⟩ : ∃ f, f = fltN n M := ⟨_, rfl⟩
  rw [← hfe] at hf hff hflt
  obtain ⟨s, hs⟩ : ∃ s, s = szM M := ⟨_, rfl⟩
  try rw [← hs] at hf
  rw [← hs] at hz hsz hff
  go_enter Try.func22, Try.ntmps22
  go_wp2_with (fail)
  obtain ⟨w0, hw0⟩ : ∃ w0, w0 = w.alloc (.cells #[.int .i64 n, .int .u16 (M : Int)] 24) := ⟨_, rfl⟩
  rw [← hw0] at hb hB ⊢
  clear hw0
  obtain ⟨g, hg⟩ : ∃ g, g = w.heap.size := ⟨_, rfl⟩
  rw [← hg] at hb ⊢
  clear hg
  refine (hrt _).mono ?_
  rintro e wq ⟨rfl, hB1⟩
  have hb1 := hb.below hB1
  have hB1' := hB.trans (hB1.mono hB.size)
  have c0 := hb1.cellAt 0 _ rfl
  have c1 := hb1.cellAt 1 _ rfl
  have HV : Hid (∀ W, Ch nob wq W → W.rangeAt g 0 [.int .i64 n, .int .u16 (M : Int)]) := fun W h => hb1.chAt (fun h => h) h
  clear hqe hfe hs hb hb1
  cases hr : rgt n M with
  | true =>
    rw [hr, if_pos rfl] at hf
    have hz := hz hr
    have hff := hff hr
    have Hf := hid hf
    have Hff := hid hff
    have hfs : f ≤ s := by omega
    clear hf hr hff
    go_wp2_with (fail)
    refine (hflt _).mono ?_
    rintro e w2 ⟨rfl, hB2⟩
    go_wp2
    go_ret
    exact ⟨ret_i (by have := Hff.out; rw [Hf.out]; omega), hB1'.trans (hB2.mono hB1'.size)⟩
  | false =>
    rw [hr] at hf
    have hf : q = 0 := hf
    have Hf := hid hf
    clear hf hr hff
    go_wp2
    go_ret
    exact ⟨ret_i (by rw [Hf.out]; rfl), hB1'⟩
set_option maxHeartbeats 1000000 in
theorem leadr_any (n : Int) (M : Nat) (r : Int) (w : World) (h : M < 65536) (h1 : -9223372036854775808 ≤ r) (h2 : r ≤ 9223372036854775807) :
    Calls Try.prog 24 #[vw n M, .int .i64 r] w fun e w' => e = .returned (.int .i64 (leadZ n M r)) ∧ Below w.heap.size w w' := by
  have hsz := (size_any n M · h)
  have hrt := (right_any n M · h)
  have hmem := (members_any n M · h)
  unfold vw at hsz hrt hmem ⊢
  have hb := Blk.new' w 24 [.int .i64 n, .int .u16 (M : Int)]
  have hB : Below w.heap.size w (w.alloc (.cells #[.int .i64 n, .int .u16 (M : Int)] 24)) := (Below.refl _ _).alloc (Nat.le_refl _) _
  have hz := rgt_sz (n := n) (M := M)
  have hat := mem_at M
  have hf : leadZ n M r = if rgt n M ∧ 0 ≤ r then (((memL M 16).getD (r.toNat % szM M) 0 : Nat) : Int) else -1 := rfl
  obtain ⟨q, hqe⟩ : ∃ q, q = leadZ n M r := ⟨_, rfl⟩
  rw [← hqe] at hf ⊢
  have hml : (memL M 16).length = szM M := rfl
  obtain ⟨s, hs⟩ : ∃ s, s = szM M := ⟨_, rfl⟩
  rw [← hs] at hf hz hsz hat hml
  obtain ⟨l, hle⟩ : ∃ l, l = memL M 16 := ⟨_, rfl⟩
  rw [← hle] at hf hat hmem hml
  go_enter Try.func24, Try.ntmps24
  go_wp2_with (fail)
  obtain ⟨w0, hw0⟩ : ∃ w0, w0 = w.alloc (.cells #[.int .i64 n, .int .u16 (M : Int)] 24) := ⟨_, rfl⟩
  rw [← hw0] at hb hB ⊢
  clear hw0
  obtain ⟨g, hg⟩ : ∃ g, g = w.heap.size := ⟨_, rfl⟩
  rw [← hg] at hb ⊢
  clear hg
  refine (hrt _).mono ?_
  rintro e wq ⟨rfl, hB1⟩
  have hb1 := hb.below hB1
  have hB1' := hB.trans (hB1.mono hB.size)
  have c0 := hb1.cellAt 0 _ rfl
  have c1 := hb1.cellAt 1 _ rfl
  have HV : Hid (∀ W, Ch nob wq W → W.rangeAt g 0 [.int .i64 n, .int .u16 (M : Int)]) := fun W h => hb1.chAt (fun h => h) h
  clear hqe hs hle hb hb1
  have HM := hid hml
  clear hml
  cases hr : rgt n M with
  | true =>
    rw [hr] at hf
    have hz := hz hr
    clear hr
    by_cases h0 : 0 ≤ r
    · rw [if_pos ⟨rfl, h0⟩] at hf
      obtain ⟨k, rfl⟩ := Int.eq_ofNat_of_zero_le h0
      rw [Int.toNat_natCast] at hf
      have hlt : k % s < s := Nat.mod_lt _ (by omega)
      have Hq : Hid ((k : Int).tmod (s : Int) = ((k % s : Nat) : Int)) := by show _ = _; rw [Int.tmod_eq_emod_of_nonneg (by omega)]; rfl
      obtain ⟨j, hj⟩ : ∃ j, j = k % s := ⟨_, rfl⟩
      rw [← hj] at hf hlt Hq
      clear hj
      obtain ⟨x, hx, hx16, _⟩ := hat j hlt
      have hf : q = (x : Int) := by rw [hf, List.getD, hx]; rfl
      have Hx := hid hx
      have Hf := hid hf
      have hltI : (j : Int) < (l.length : Int) := by have := HM.out; omega
      clear hf hx hat c0 c1
      go_wp2_with (fail)
      refine wp_region_noPanic ?_
      refine wp_region_held_drew (S := Ch nob wq) (by kernel_rfl) ((Ch.refl _ _).drew) (fun hHeld => ?_)
      refine wpAnyH_take (i := 0) (oi := ⟨some 12, .load 24 (.tmp 2), _, _, _, none⟩) (v := _) rfl (by kernel_rfl) (by kernel_rfl) (by kernel_rfl) (fun _ _ _ h => h) (yieldsIf_load_mid (by rfl) 24 (.tmp 2) (by rfl) _ (0) (by rfl) _ _ (fun _ hs => HV.out _ hs) Try.underlying24 rfl (sizeV)) (by assumption) ?_
      try simp only [Act.put, List.setIfInBounds_toArray, List.set_cons_zero, List.set_cons_succ]
      refine wpAnyH_take (i := 2) (oi := ⟨some 14, _, _, _, _, none⟩) (v := ?_) rfl (by kernel_rfl) (by kernel_rfl) (by kernel_rfl) (fun _ _ _ h => h) (Or.inl ⟨by rfl, ?_⟩) (by assumption) ?_
      rotate_left
      · intro w hSw; go_simp; try with_reducible rfl
      try simp only [Act.put, List.setIfInBounds_toArray, List.set_cons_zero, List.set_cons_succ]
      refine wpAnyH_take (i := 3) (oi := ⟨some 15, .load 24 (.tmp 2), _, _, _, none⟩) (v := _) rfl (by kernel_rfl) (by kernel_rfl) (by kernel_rfl) (fun _ _ _ h => h) (yieldsIf_load_mid (by rfl) 24 (.tmp 2) (by rfl) _ (0) (by rfl) _ _ (fun _ hs => HV.out _ hs) Try.underlying24 rfl (sizeV)) (by assumption) ?_
      try simp only [Act.put, List.setIfInBounds_toArray, List.set_cons_zero, List.set_cons_succ]
      refine wpAnyH_ready (rs := [1]) (by kernel_rfl) (by simp) ?_
      refine AllReadyH.cons (o := ⟨some 13, _, _, _, _, none⟩) rfl (fun K hK => ?_) AllReadyH.nil
      go_simp
      refine (hmem _).mono ?_
      rintro e' w5 ⟨v5, rfl, ho5, hB5⟩
      have hC5 := hHeld.belowG hB5
      obtain ⟨g5, c5, rfl, hg5, hl5, hcell⟩ := own_ivs ho5 (by have := HM.out; omega)
      have hcl := hcell _ _ Hx.out
      refine hK.out _ _ (hC5) (fun hHeld => ?_)
      clear hK K
      try simp only [Act.put, List.setIfInBounds_toArray, List.set_cons_zero, List.set_cons_succ]
      refine wpAnyH_ready (rs := [4]) (by kernel_rfl) (by simp) ?_
      refine AllReadyH.cons (o := ⟨some 16, _, _, _, _, none⟩) rfl (fun K hK => ?_) AllReadyH.nil
      go_simp
      refine (hsz _).mono ?_
      rintro e' w6 ⟨rfl, hB6⟩
      have hC6 := hC5.belowR hB6
      have hcl6 := (World.cell?_of_block (hB6.block g5 hl5)).trans hcl
      refine hK.out _ _ (hC6) (fun hHeld => ?_)
      clear hK K
      try simp only [Act.put, List.setIfInBounds_toArray, List.set_cons_zero, List.set_cons_succ]
      refine wpAnyH_take (i := 5) (oi := ⟨some 17, _, _, _, _, none⟩) (v := ?_) rfl (by kernel_rfl) (by kernel_rfl) (by kernel_rfl) (fun _ _ _ h => h) (Or.inl ⟨by rfl, ?_⟩) (by assumption) ?_
      rotate_left
      · intro w hSw; have hne : ¬ s = 0 := (by omega); have hq := Hq.out; go_simp; try with_reducible rfl
      try simp only [Act.put, List.setIfInBounds_toArray, List.set_cons_zero, List.set_cons_succ]
      refine wpAnyH_take (i := 6) (oi := ⟨some 18, _, _, _, _, none⟩) (v := ?_) rfl (by kernel_rfl) (by kernel_rfl) (by kernel_rfl) (fun _ _ _ h => h) (Or.inl ⟨by rfl, ?_⟩) (by assumption) ?_
      rotate_left
      · intro w hSw; go_simp; try with_reducible rfl
      try simp only [Act.put, List.setIfInBounds_toArray, List.set_cons_zero, List.set_cons_succ]
      refine wpAnyH_ready (rs := [7]) (by kernel_rfl) (by simp) ?_
      refine AllReadyH.cons (o := ⟨some 19, .load 3 (.tmp 18), _, _, _, none⟩) rfl (fun K hK => ?_) AllReadyH.nil
      refine step_ld1 3 (.tmp 18) (by rfl) (by rfl) (by rfl) hcl6 Try.isAgg3 ?_
      refine hK.out _ _ (hC6) (fun hHeld => ?_)
      clear hK K
      try simp only [Act.put, List.setIfInBounds_toArray, List.set_cons_zero, List.set_cons_succ]
      refine wpAnyH_take (i := 8) (oi := ⟨some 4, _, _, _, _, none⟩) (v := ?_) rfl (by kernel_rfl) (by kernel_rfl) (by kernel_rfl) (fun _ _ _ h => h) (Or.inl ⟨by rfl, ?_⟩) (by assumption) ?_
      rotate_left
      · intro w hSw; go_simp; try with_reducible rfl
      try simp only [Act.put, List.setIfInBounds_toArray, List.set_cons_zero, List.set_cons_succ]
      refine wpAnyH_done (by kernel_rfl) ?_ _
      refine NoPanic.normal ?_
      go_wp2
      go_ret
      exact ⟨ret_i (by rw [Hf.out]), hB1'.trans (hHeld.below.mono hB1'.size)⟩
    · rw [if_neg (by intro h; exact h0 h.2)] at hf
      have Hf := hid hf
      clear hf
      go_wp2
      go_ret
      exact ⟨ret_i (by rw [Hf.out]), hB1'⟩
  | false =>
    rw [hr, if_neg (by intro h; cases h.1)] at hf
    have Hf := hid hf
    clear hf hr
    go_wp2
    go_ret
    exact ⟨ret_i (by rw [Hf.out]), hB1'⟩
end Go.Proofs.Ythibjdbjkkejeaa
