/- W4: layer 6: contracts of the document's answers: members, how many must agree, who leads. -/
import Derived.Test.YtmjpkdehkdpdpaaDoorW3
import Derived.Deep.DeepCutAuto
namespace Go.Proofs.YtmjpkdehkdpdpaaDoor
open Go.RowKit Go.V
set_option maxHeartbeats 400000 in
theorem rmembers_any (n : Int) (M : Nat) (w : World) (h : M < 65536) :
    Calls Tryd.prog 34 #[vw n M] w fun e w' => ∃ v', e = .returned v' ∧ NewI w w' v' (memL M 16) := by
  unfold vw
  have hb := Blk.new' w 24 [.int .i64 n, .int .u16 (M : Int)]
  have hB : Below w.heap.size w (w.alloc (.cells #[.int .i64 n, .int .u16 (M : Int)] 24)) := (Below.refl _ _).alloc (Nat.le_refl _) _
  have c1 := hb.cellAt 1 _ rfl
  go_enter Tryd.func34, Tryd.ntmps34
  go_wp2
  obtain ⟨w0, hw0⟩ : ∃ w0, w0 = w.alloc (.cells #[.int .i64 n, .int .u16 (M : Int)] 24) := ⟨_, rfl⟩
  rw [← hw0] at hb hB c1 ⊢
  clear hw0 c1
  have hs0 := hB.size
  obtain ⟨g, hg⟩ : ∃ g, g = w.heap.size := ⟨_, rfl⟩
  rw [← hg] at hb ⊢
  clear hg hb
  go_loopw [3, 4, 5] (fun v' mv iv wr => ∃ k : Nat, k ≤ 16 ∧ iv = .int .i64 (k : Int) ∧ mv = .int .i64 ((M / 2 ^ k : Nat) : Int) ∧ wr.ownsRow w0.heap.size 3 1 v' (memL M k).length (ivs (memL M k)) ∧ Below w0.heap.size w0 wr) (fun _ _ iv _ => 16 - (intOf iv).toNat)
  case atStart => exact ⟨0, by omega, rfl, by simp, World.ownsRow_nil _ _ _ _, Below.refl _ _⟩
  case round =>
    obtain ⟨k, hk, rfl, rfl, ho, hBw⟩ := hrel
    have hy : M / 2 ^ k < 65536 := Nat.lt_of_le_of_lt (Nat.div_le_self _ _) h
    have hml := mem_len_le M k
    have hms := mem_succ M k
    have hbit : mbit M k = decide (M / 2 ^ k % 2 = 1) := rfl
    have hnx : Hid (M / 2 ^ k / 2 = M / 2 ^ (k + 1)) := by show _ = _; rw [Nat.div_div_eq_div_mul, Nat.pow_succ]
    obtain ⟨y, hye⟩ : ∃ y, y = M / 2 ^ k := ⟨_, rfl⟩
    rw [← hye] at hy hbit hnx ⊢
    clear hye
    by_cases h16 : k < 16
    · have hki : (k : Int) < 16 := by omega
      by_cases hm : mbit M k = true
      · rw [if_pos hm] at hms
        have Hms := hid hms
        rw [hm] at hbit
        have hy1 : y % 2 = 1 := of_decide_eq_true hbit.symm
        clear hms hbit hm
        have ht : ((y : Int) % 2 == 1) = true := beq_iff_eq.2 (by omega)
        go_wp2_with (refine wp_push (.tmp 16) (.tmp 17) 18 slI rfl rfl rfl rfl rfl rfl rfl rfl (by simp) rfl ho (by simp only [maxLen]; omega) (by omega) hBw.size ?_)
        intro v4 w4 ho4 hG4 _
        rw [← ivs_snoc] at ho4
        have hB4 := hBw.grown hG4 hBw.size (fun k hk => (ho.lt k hk).1)
        go_wp2
        go_roundw
        case rel =>
          refine ⟨k + 1, by omega, by go_num, by rw [← hnx.out]; go_num, ?_, hB4⟩
          rw [Hms.out, List.length_append]
          exact ho4
        case measure => simp [intOf]; omega
      · rw [if_neg hm, List.append_nil] at hms
        have Hms := hid hms
        have hm : mbit M k = false := by simpa using hm
        rw [hm] at hbit
        have hy1 : ¬ y % 2 = 1 := of_decide_eq_false hbit.symm
        clear hms hbit hm
        have ht : ((y : Int) % 2 == 1) = false := beq_eq_false_iff_ne.2 (by omega)
        go_wp2
        go_roundw
        case rel => exact ⟨k + 1, by omega, by go_num, by rw [← hnx.out]; go_num, by rw [Hms.out]; exact ho, hBw⟩
        case measure => simp [intOf]; omega
    · have hk16 : k = 16 := by omega
      subst hk16
      go_wp2
      go_ret
      exact ⟨_, rfl, own_weak ho hs0, hB.trans (hBw.mono hs0)⟩
theorem rright_any (n : Int) (M : Nat) (w : World) (h : M < 65536) :
    Calls Tryd.prog 24 #[vw n M] w fun e w' => e = .returned (.bool (rgt n M)) ∧ Below w.heap.size w w' := by
  have hl := sz_le M
  have hmem := (rmembers_any n M · h)
  unfold vw at hmem ⊢
  have hb0 := Blk.new' w 24 [.int .i64 n, .int .u16 (M : Int)]
  have hB0 : Below w.heap.size w (w.alloc (.cells #[.int .i64 n, .int .u16 (M : Int)] 24)) := (Below.refl _ _).alloc (Nat.le_refl _) _
  go_enter Tryd.func24, Tryd.ntmps24
  go_wp2_with (fail)
  refine (hmem _).mono ?_
  rintro e w1 ⟨v1, rfl, ho1, hB1⟩
  rw [mem_16] at ho1
  obtain ⟨A1, k1, rfl⟩ := own_shape ho1
  have hb := hb0.below hB1
  have hB := hB0.trans (hB1.mono hB0.size)
  have c0 := hb.cellAt 0 _ rfl
  obtain ⟨s, hs⟩ : ∃ s, s = szM M := ⟨_, rfl⟩
  have hr : rgt n M = decide (0 ≤ n ∧ n ≤ 60 ∧ 4 ≤ s ∧ s ≤ 7) := by rw [hs]; rfl
  rw [← hs] at hl ⊢
  have Hr := hid hr
  clear hr hs ho1 hB0 hb0
  go_wp2
  all_goals (go_ret; exact ⟨by rw [Hr.out]; exact ret_b (by rw [Bool.eq_iff_iff]; simp; try omega), hB⟩)
def szR (n : Int) (M : Nat) : Nat := if rgt n M then szM M else 0
set_option maxHeartbeats 400000 in
theorem rsize_any (n : Int) (M : Nat) (w : World) (h : M < 65536) :
    Calls Tryd.prog 36 #[vw n M] w fun e w' => e = .returned (.int .i64 (szR n M : Int)) ∧ Below w.heap.size w w' := by
  have hmem := (rmembers_any n M · h)
  have hrt := (rright_any n M · h)
  unfold vw at hmem hrt ⊢
  have hb0 := Blk.new' w 24 [.int .i64 n, .int .u16 (M : Int)]
  have hB0 : Below w.heap.size w (w.alloc (.cells #[.int .i64 n, .int .u16 (M : Int)] 24)) := (Below.refl _ _).alloc (Nat.le_refl _) _
  have hf : szR n M = if rgt n M then szM M else 0 := rfl
  obtain ⟨q, hqe⟩ : ∃ q, q = szR n M := ⟨_, rfl⟩
  rw [← hqe] at hf ⊢
  clear hqe
  go_enter Tryd.func36, Tryd.ntmps36
  go_wp2_with (fail)
  refine (hrt _).mono ?_
  rintro e w1 ⟨rfl, hB1⟩
  have hb1 := hb0.below hB1
  have hB1' := hB0.trans (hB1.mono hB0.size)
  have c0 := hb1.cellAt 0 _ rfl
  have c1 := hb1.cellAt 1 _ rfl
  cases hr : rgt n M with
  | true =>
    rw [hr, if_pos rfl] at hf
    have Hf := hid hf
    clear hf hr
    go_wp2_with (fail)
    refine (hmem _).mono ?_
    rintro e w2 ⟨v2, rfl, ho2, hB2⟩
    rw [mem_16] at ho2
    obtain ⟨A2, k2, rfl⟩ := own_shape ho2
    go_wp2
    go_ret
    exact ⟨ret_i (by rw [Hf.out]), hB1'.trans (hB2.mono hB1'.size)⟩
  | false =>
    rw [hr] at hf
    have hf : q = 0 := hf
    have Hf := hid hf
    clear hf hr
    go_wp2
    go_ret
    exact ⟨ret_i (by rw [Hf.out]; rfl), hB1'⟩
theorem szR_bd (n : Int) (M : Nat) : szR n M = 0 ∨ (rgt n M = true ∧ szR n M = szM M ∧ 4 ≤ szR n M ∧ szR n M ≤ 7) := by
  unfold szR
  cases h : rgt n M with
  | true => have := rgt_sz h; exact .inr ⟨rfl, rfl, this.2.2.1, this.2.2.2⟩
  | false => exact .inl rfl
theorem szR_0 {n : Int} {M : Nat} (h : szR n M = 0) : rgt n M = false := by
  rcases hr : rgt n M with _ | _
  · rfl
  · unfold szR at h; rw [hr] at h; have := rgt_sz hr; simp at h; omega
theorem flt_R (n : Int) (M : Nat) : fltN n M = if szR n M = 7 then 2 else if 4 ≤ szR n M then 1 else 0 := by
  rcases szR_bd n M with h | ⟨h, h1, h2, h3⟩
  · unfold fltN; rw [szR_0 h, h]; rfl
  · unfold fltN; rw [if_pos h, ← h1]; split <;> (try rw [if_pos h2]) <;> omega
set_option maxHeartbeats 400000 in
theorem rflt_any (n : Int) (M : Nat) (w : World) (h : M < 65536) :
    Calls Tryd.prog 37 #[vw n M] w fun e w' => e = .returned (.int .i64 (fltN n M : Int)) ∧ Below w.heap.size w w' := by
  have hsz := (rsize_any n M · h)
  unfold vw at hsz ⊢
  have hB0 : Below w.heap.size w (w.alloc (.cells #[.int .i64 n, .int .u16 (M : Int)] 24)) := (Below.refl _ _).alloc (Nat.le_refl _) _
  have hf := flt_R n M
  have hbd := szR_bd n M
  obtain ⟨q, hqe⟩ : ∃ q, q = fltN n M := ⟨_, rfl⟩
  obtain ⟨s, hs⟩ : ∃ s, s = szR n M := ⟨_, rfl⟩
  rw [← hqe, ← hs] at hf
  rw [← hqe]
  rw [← hs] at hbd hsz
  have hs7 : s ≤ 7 := by omega
  have Hf := hid hf
  clear hqe hs hf hbd
  go_enter Tryd.func37, Tryd.ntmps37
  go_wp2_with (fail)
  refine (hsz _).mono ?_
  rintro e w1 ⟨rfl, hB1⟩
  have hB1' := hB0.trans (hB1.mono hB0.size)
  go_wp2
  all_goals
    go_ret
    refine ⟨ret_i ?_, hB1'⟩
    have := Hf.out
    simp only [beq_iff_eq, beq_eq_false_iff_ne, ne_eq] at *
    split at this <;> (try split at this) <;> omega
theorem quo_R (n : Int) (M : Nat) : quoN n M = if szR n M = 0 then 0 else (szR n M + fltN n M) / 2 + 1 := by
  rcases szR_bd n M with h | ⟨h, h1, h2, h3⟩
  · unfold quoN; rw [szR_0 h, if_pos h]; rfl
  · unfold quoN; rw [if_pos h, if_neg (by omega), h1]
theorem eno_R (n : Int) (M : Nat) : enoN n M = szR n M - fltN n M := by
  rcases szR_bd n M with h | ⟨h, h1, h2, h3⟩
  · unfold enoN; rw [szR_0 h, h]; simp
  · unfold enoN; rw [if_pos h, h1]
theorem som_R (n : Int) (M : Nat) : somN n M = if szR n M = 0 then 0 else fltN n M + 1 := by
  rcases szR_bd n M with h | ⟨h, h1, h2, h3⟩
  · unfold somN; rw [szR_0 h, if_pos h]; rfl
  · unfold somN; rw [if_pos h, if_neg (by omega)]
set_option maxHeartbeats 1000000 in
theorem rquo_any (n : Int) (M : Nat) (w : World) (h : M < 65536) :
    Calls Tryd.prog 26 #[vw n M] w fun e w' => e = .returned (.int .i64 (quoN n M : Int)) ∧ Below w.heap.size w w' := by
  have hsz := (rsize_any n M · h)
  have hflt := (rflt_any n M · h)
  unfold vw at hsz hflt ⊢
  have hb := Blk.new' w 24 [.int .i64 n, .int .u16 (M : Int)]
  have hB : Below w.heap.size w (w.alloc (.cells #[.int .i64 n, .int .u16 (M : Int)] 24)) := (Below.refl _ _).alloc (Nat.le_refl _) _
  have hf := quo_R n M
  have hbd := szR_bd n M
  have hfb := flt_R n M
  obtain ⟨q, hqe⟩ : ∃ q, q = quoN n M := ⟨_, rfl⟩
  rw [← hqe] at hf ⊢
  obtain ⟨f, hfe⟩ : ∃ f, f = fltN n M := ⟨_, rfl⟩
  rw [← hfe] at hf hfb hflt
  obtain ⟨s, hs⟩ : ∃ s, s = szR n M := ⟨_, rfl⟩
  rw [← hs] at hf hbd hsz hfb
  have hs7 : s = 0 ∨ 4 ≤ s ∧ s ≤ 7 := by omega
  have hf2 : f ≤ 2 := by split at hfb <;> (try split at hfb) <;> omega
  have hfs : f ≤ s := by split at hfb <;> (try split at hfb) <;> omega
  have Hf := hid hf
  clear hqe hfe hs hf hbd hfb
  go_enter Tryd.func26, Tryd.ntmps26
  go_wp2_with (fail)
  obtain ⟨w0, hw0⟩ : ∃ w0, w0 = w.alloc (.cells #[.int .i64 n, .int .u16 (M : Int)] 24) := ⟨_, rfl⟩
  rw [← hw0] at hb hB ⊢
  clear hw0
  obtain ⟨g, hg⟩ : ∃ g, g = w.heap.size := ⟨_, rfl⟩
  rw [← hg] at hb ⊢
  clear hg
  refine (hsz _).mono ?_
  rintro e wq ⟨rfl, hB1⟩
  have hb1 := hb.below hB1
  have hB1' := hB.trans (hB1.mono hB.size)
  have c0 := hb1.cellAt 0 _ rfl
  have c1 := hb1.cellAt 1 _ rfl
  have HV : Hid (∀ W, Ch nob wq W → W.rangeAt g 0 [.int .i64 n, .int .u16 (M : Int)]) := fun W h => hb1.chAt (fun h => h) h
  by_cases h0 : s = 0
  · subst h0
    go_wp2
    go_ret
    exact ⟨ret_i (by have := Hf.out; simp at this; rw [this]; rfl), hB1'⟩
  · have ht : ((s : Int) == 0) = false := by rw [beq_eq_false_iff_ne]; omega
    clear c0 c1 hb1
    go_wp2_with (fail)
    refine wp_region_noPanic ?_
    refine wp_region_held_drew (S := Ch nob wq) (by kernel_rfl) ((Ch.refl _ _).drew) (fun hHeld => ?_)
    refine wpAnyH_take (i := 0) (oi := ⟨some 6, .load 24 (.tmp 1), _, _, _, none⟩) (v := _) rfl (by kernel_rfl) (by kernel_rfl) (by kernel_rfl) (fun _ _ _ h => h) (yieldsIf_load_mid (by rfl) 24 (.tmp 1) (by rfl) _ (0) (by rfl) _ _ (fun _ hs => HV.out _ hs) Tryd.underlying24 rfl (sizeV)) (by assumption) ?_
    try simp only [Act.put, List.setIfInBounds_toArray, List.set_cons_zero, List.set_cons_succ]
    refine wpAnyH_take (i := 2) (oi := ⟨some 8, .load 24 (.tmp 1), _, _, _, none⟩) (v := _) rfl (by kernel_rfl) (by kernel_rfl) (by kernel_rfl) (fun _ _ _ h => h) (yieldsIf_load_mid (by rfl) 24 (.tmp 1) (by rfl) _ (0) (by rfl) _ _ (fun _ hs => HV.out _ hs) Tryd.underlying24 rfl (sizeV)) (by assumption) ?_
    try simp only [Act.put, List.setIfInBounds_toArray, List.set_cons_zero, List.set_cons_succ]
    refine wpAnyH_ready (rs := [1]) (by kernel_rfl) (by simp) ?_
    refine AllReadyH.cons (o := ⟨some 7, _, _, _, _, none⟩) rfl (fun K hK => ?_) AllReadyH.nil
    go_simp
    refine (hsz _).mono ?_
    rintro e' w5 ⟨rfl, hB5⟩
    have hC5 := hHeld.belowG hB5
    refine hK.out _ _ (hC5) (fun hHeld => ?_)
    clear hK K
    try simp only [Act.put, List.setIfInBounds_toArray, List.set_cons_zero, List.set_cons_succ]
    refine wpAnyH_ready (rs := [3]) (by kernel_rfl) (by simp) ?_
    refine AllReadyH.cons (o := ⟨some 9, _, _, _, _, none⟩) rfl (fun K hK => ?_) AllReadyH.nil
    go_simp
    refine (hflt _).mono ?_
    rintro e' w6 ⟨rfl, hB6⟩
    have hC6 := hHeld.belowG hB6
    refine hK.out _ _ (hC6) (fun hHeld => ?_)
    clear hK K
    try simp only [Act.put, List.setIfInBounds_toArray, List.set_cons_zero, List.set_cons_succ]
    refine wpAnyH_take (i := 4) (oi := ⟨some 10, _, _, _, _, none⟩) (v := ?_) rfl (by kernel_rfl) (by kernel_rfl) (by kernel_rfl) (fun _ _ _ h => h) (Or.inl ⟨by rfl, ?_⟩) (by assumption) ?_
    rotate_left
    · intro w hSw; go_simp; try with_reducible rfl
    try simp only [Act.put, List.setIfInBounds_toArray, List.set_cons_zero, List.set_cons_succ]
    refine wpAnyH_take (i := 5) (oi := ⟨some 11, _, _, _, _, none⟩) (v := ?_) rfl (by kernel_rfl) (by kernel_rfl) (by kernel_rfl) (fun _ _ _ h => h) (Or.inl ⟨by rfl, ?_⟩) (by assumption) ?_
    rotate_left
    · intro w hSw; go_simp; try with_reducible rfl
    try simp only [Act.put, List.setIfInBounds_toArray, List.set_cons_zero, List.set_cons_succ]
    refine wpAnyH_take (i := 6) (oi := ⟨some 12, _, _, _, _, none⟩) (v := ?_) rfl (by kernel_rfl) (by kernel_rfl) (by kernel_rfl) (fun _ _ _ h => h) (Or.inl ⟨by rfl, ?_⟩) (by assumption) ?_
    rotate_left
    · intro w hSw; go_simp; try with_reducible rfl
    try simp only [Act.put, List.setIfInBounds_toArray, List.set_cons_zero, List.set_cons_succ]
    refine wpAnyH_take (i := 7) (oi := ⟨some 2, _, _, _, _, none⟩) (v := ?_) rfl (by kernel_rfl) (by kernel_rfl) (by kernel_rfl) (fun _ _ _ h => h) (Or.inl ⟨by rfl, ?_⟩) (by assumption) ?_
    rotate_left
    · intro w hSw; go_simp; try with_reducible rfl
    try simp only [Act.put, List.setIfInBounds_toArray, List.set_cons_zero, List.set_cons_succ]
    refine wpAnyH_done (by kernel_rfl) ?_ _
    refine NoPanic.normal ?_
    go_wp2
    go_ret
    exact ⟨ret_i (by have := Hf.out; rw [if_neg h0] at this; rw [this, IntWalk.i64_in ((s : Int) + f) (by omega), Int.tdiv_eq_ediv_of_nonneg (by omega), IntWalk.i64_in (((s : Int) + f) / 2) (by omega), IntWalk.i64_in (((s : Int) + f) / 2 + 1) (by omega)]; omega), hB1'.trans (hHeld.below.mono hB1'.size)⟩
theorem has_mem (M : Nat) (i : Int) : hasB M i = true ↔ ∃ x ∈ memL M 16, (x : Int) = i := by
  unfold hasB
  rw [Bool.and_eq_true, decide_eq_true_iff]
  constructor
  · rintro ⟨h1, h2⟩
    exact ⟨i.toNat, (mem_iff M 16 _).2 ⟨by omega, h2⟩, by omega⟩
  · rintro ⟨x, hx, rfl⟩
    have := (mem_iff M 16 x).1 hx
    exact ⟨by omega, by rw [Int.toNat_natCast]; exact this.2⟩
set_option maxHeartbeats 400000 in
theorem rhas_any (n : Int) (M : Nat) (i : Int) (w : World) (h : M < 65536) :
    Calls Tryd.prog 60 #[vw n M, .int .i64 i] w fun e w' => e = .returned (.bool (hasB M i)) ∧ Below w.heap.size w w' := by
  have hmem := (rmembers_any n M · h)
  have hl16 := sz_le M
  have hbt := has_mem M i
  unfold vw at hmem ⊢
  have hB : Below w.heap.size w (w.alloc (.cells #[.int .i64 n, .int .u16 (M : Int)] 24)) := (Below.refl _ _).alloc (Nat.le_refl _) _
  obtain ⟨bt, hbe⟩ : ∃ b, b = hasB M i := ⟨_, rfl⟩
  rw [← hbe] at hbt ⊢
  obtain ⟨l, hle⟩ : ∃ l, l = memL M 16 := ⟨_, rfl⟩
  have hl : l.length ≤ 16 := by rw [hle]; exact hl16
  rw [← hle] at hbt hmem
  have Hbt := hid hbt
  clear hbe hle hbt hl16
  go_enter Tryd.func60, Tryd.ntmps60
  go_wp2_with (fail)
  refine (hmem _).mono ?_
  rintro e w1 ⟨v1, rfl, ho1, hB1⟩
  have hB1' := hB.trans (hB1.mono hB.size)
  obtain ⟨A1, k1, rfl⟩ := own_shape ho1
  go_wp2
  go_loop [6] (fun iv => ∃ k : Nat, k ≤ l.length ∧ iv = .int .i64 (k : Int) ∧ ∀ (j x : Nat), j < k → l[j]? = some x → (x : Int) ≠ i) (fun iv => l.length - (intOf iv).toNat)
  case atStart => exact ⟨0, by omega, rfl, fun j x hj => by omega⟩
  case round =>
    obtain ⟨k, hk, rfl, hno⟩ := hrel
    have Hno := hid hno
    clear hno
    by_cases hlt : k < l.length
    · obtain ⟨g1, c1, hsh, hg1, hl1, hcell⟩ := own_ivs ho1 (by omega)
      injection hsh with hA hn' hc'
      subst hA
      obtain ⟨x, hx⟩ : ∃ x, l[k]? = some x := ⟨_, List.getElem?_eq_getElem hlt⟩
      have hc := hcell k x hx
      have hkI : (k : Int) < (l.length : Int) := by omega
      have Hx := hid hx
      clear hx hcell ho1
      by_cases hxi : (x : Int) = i
      · have ht : ((x : Int) == i) = true := beq_iff_eq.2 hxi
        have Ht := hid hxi
        clear hxi
        go_wp2
        go_ret
        exact ⟨ret_b (Hbt.out.2 ⟨x, List.mem_of_getElem? Hx.out, Ht.out⟩).symm, hB1'⟩
      · have ht : ((x : Int) == i) = false := beq_eq_false_iff_ne.2 hxi
        have Ht := hid hxi
        clear hxi
        go_wp2
        go_round
        case rel => 
          refine ⟨k + 1, by omega, by go_num, fun j y hj hy => ?_⟩
          rcases Nat.lt_or_ge j k with h1 | h1
          · exact Hno.out j y h1 hy
          · have : j = k := by omega
            subst this
            have := Hx.out
            rw [hy] at this
            injection this with this
            rw [this]
            exact Ht.out
        case measure => simp [intOf]; omega
    · have hb : bt = false := by
        cases hbt : bt with
        | false => rfl
        | true =>
          obtain ⟨x, hx, hxi⟩ := Hbt.out.1 hbt
          obtain ⟨j, hj⟩ := List.mem_iff_getElem?.1 hx
          exact absurd hxi (Hno.out j x (by have := (List.getElem?_eq_some_iff.1 hj).1; omega) hj)
      have Hb := hid hb
      clear hb
      go_wp2
      go_ret
      exact ⟨ret_b Hb.out.symm, hB1'⟩
end Go.Proofs.YtmjpkdehkdpdpaaDoor
