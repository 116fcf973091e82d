/- Ct: several texts in one (W4 Ct). -/
import Derived.Test.YthbbpfnfnnmdnaaDoorLW
import Derived.Test.YthbbpfnfnnmdnaaDoorCp
import Derived.Deep.DeepCutAuto
import Derived.Test.YthbbpfnfnnmdnaaDoorCs
/- W4: layer 6: contracts of the document's answers: members, how many must agree, who leads. -/
namespace Go.Proofs.YthbbpfnfnnmdnaaDoor
open Go.RowKit Go.V
set_option maxHeartbeats 400000 in
theorem rmembers_any (n : Int) (M : Nat) (w : World) (h : M < 65536) :
    Calls Tryd.prog 34 #[vw n M] w fun e w' => ∃ v', e = .returned v' ∧ NewI w w' v' (memL M 16) := by
  unfold vw
  have hb := Blk.new' w 24 [.int .i64 n, .int .u16 (M : Int)]
  have hB : Below w.heap.size w (w.alloc (.cells #[.int .i64 n, .int .u16 (M : Int)] 24)) := (Below.refl _ _).alloc (Nat.le_refl _) _
  have c1 := hb.cellAt 1 _ rfl
  go_enter Tryd.func34, Tryd.ntmps34
  go_wp2
  obtain ⟨w0, hw0⟩ : ∃ w0, w0 = w.alloc (.cells #[.int .i64 n, .int .u16 (M : Int)] 24) := ⟨_, rfl⟩
  rw [← hw0] at hb hB c1 ⊢
  clear hw0 c1
  have hs0 := hB.size
  obtain ⟨g, hg⟩ : ∃ g, g = w.heap.size := ⟨_, rfl⟩
  rw [← hg] at hb ⊢
  clear hg hb
  go_loopw [3, 4, 5] (fun v' mv iv wr => ∃ k : Nat, k ≤ 16 ∧ iv = .int .i64 (k : Int) ∧ mv = .int .i64 ((M / 2 ^ k : Nat) : Int) ∧ wr.ownsRow w0.heap.size 3 1 v' (memL M k).length (ivs (memL M k)) ∧ Below w0.heap.size w0 wr) (fun _ _ iv _ => 16 - (intOf iv).toNat)
  case atStart => exact ⟨0, by omega, rfl, by simp, World.ownsRow_nil _ _ _ _, Below.refl _ _⟩
  case round =>
    obtain ⟨k, hk, rfl, rfl, ho, hBw⟩ := hrel
    have hy : M / 2 ^ k < 65536 := Nat.lt_of_le_of_lt (Nat.div_le_self _ _) h
    have hml := mem_len_le M k
    have hms := mem_succ M k
    have hbit : mbit M k = decide (M / 2 ^ k % 2 = 1) := rfl
    have hnx : Hid (M / 2 ^ k / 2 = M / 2 ^ (k + 1)) := by show _ = _; rw [Nat.div_div_eq_div_mul, Nat.pow_succ]
    obtain ⟨y, hye⟩ : ∃ y, y = M / 2 ^ k := ⟨_, rfl⟩
    rw [← hye] at hy hbit hnx ⊢
    clear hye
    by_cases h16 : k < 16
    · have hki : (k : Int) < 16 := by omega
      by_cases hm : mbit M k = true
      · rw [if_pos hm] at hms
        have Hms := hid hms
        rw [hm] at hbit
        have hy1 : y % 2 = 1 := of_decide_eq_true hbit.symm
        clear hms hbit hm
        have ht : ((y : Int) % 2 == 1) = true := beq_iff_eq.2 (by omega)
        go_wp2_with (refine wp_push (.tmp 16) (.tmp 17) 18 slI rfl rfl rfl rfl rfl rfl rfl rfl (by simp) rfl ho (by simp only [maxLen]; omega) (by omega) hBw.size ?_)
        intro v4 w4 ho4 hG4 _
        rw [← ivs_snoc] at ho4
        have hB4 := hBw.grown hG4 hBw.size (fun k hk => (ho.lt k hk).1)
        go_wp2
        go_roundw
        case rel =>
          refine ⟨k + 1, by omega, by go_num, by rw [← hnx.out]; go_num, ?_, hB4⟩
          rw [Hms.out, List.length_append]
          exact ho4
        case measure => simp [intOf]; omega
      · rw [if_neg hm, List.append_nil] at hms
        have Hms := hid hms
        have hm : mbit M k = false := by simpa using hm
        rw [hm] at hbit
        have hy1 : ¬ y % 2 = 1 := of_decide_eq_false hbit.symm
        clear hms hbit hm
        have ht : ((y : Int) % 2 == 1) = false := beq_eq_false_iff_ne.2 (by omega)
        go_wp2
        go_roundw
        case rel => exact ⟨k + 1, by omega, by go_num, by rw [← hnx.out]; go_num, by rw [Hms.out]; exact ho, hBw⟩
        case measure => simp [intOf]; omega
    · have hk16 : k = 16 := by omega
      subst hk16
      go_wp2
      go_ret
      exact ⟨_, rfl, own_weak ho hs0, hB.trans (hBw.mono hs0)⟩
theorem rright_any (n : Int) (M : Nat) (w : World) (h : M < 65536) :
    Calls Tryd.prog 24 #[vw n M] w fun e w' => e = .returned (.bool (rgt n M)) ∧ Below w.heap.size w w' := by
  have hl := sz_le M
  have hmem := (rmembers_any n M · h)
  unfold vw at hmem ⊢
  have hb0 := Blk.new' w 24 [.int .i64 n, .int .u16 (M : Int)]
  have hB0 : Below w.heap.size w (w.alloc (.cells #[.int .i64 n, .int .u16 (M : Int)] 24)) := (Below.refl _ _).alloc (Nat.le_refl _) _
  go_enter Tryd.func24, Tryd.ntmps24
  go_wp2_with (fail)
  refine (hmem _).mono ?_
  rintro e w1 ⟨v1, rfl, ho1, hB1⟩
  rw [mem_16] at ho1
  obtain ⟨A1, k1, rfl⟩ := own_shape ho1
  have hb := hb0.below hB1
  have hB := hB0.trans (hB1.mono hB0.size)
  have c0 := hb.cellAt 0 _ rfl
  obtain ⟨s, hs⟩ : ∃ s, s = szM M := ⟨_, rfl⟩
  have hr : rgt n M = decide (0 ≤ n ∧ n ≤ 60 ∧ 4 ≤ s ∧ s ≤ 7) := by rw [hs]; rfl
  rw [← hs] at hl ⊢
  have Hr := hid hr
  clear hr hs ho1 hB0 hb0
  go_wp2
  all_goals (go_ret; exact ⟨by rw [Hr.out]; exact ret_b (by rw [Bool.eq_iff_iff]; simp; try omega), hB⟩)
def szR (n : Int) (M : Nat) : Nat := if rgt n M then szM M else 0
set_option maxHeartbeats 400000 in
theorem rsize_any (n : Int) (M : Nat) (w : World) (h : M < 65536) :
    Calls Tryd.prog 36 #[vw n M] w fun e w' => e = .returned (.int .i64 (szR n M : Int)) ∧ Below w.heap.size w w' := by
  have hmem := (rmembers_any n M · h)
  have hrt := (rright_any n M · h)
  unfold vw at hmem hrt ⊢
  have hb0 := Blk.new' w 24 [.int .i64 n, .int .u16 (M : Int)]
  have hB0 : Below w.heap.size w (w.alloc (.cells #[.int .i64 n, .int .u16 (M : Int)] 24)) := (Below.refl _ _).alloc (Nat.le_refl _) _
  have hf : szR n M = if rgt n M then szM M else 0 := rfl
  obtain ⟨q, hqe⟩ : ∃ q, q = szR n M := ⟨_, rfl⟩
  rw [← hqe] at hf ⊢
  clear hqe
  go_enter Tryd.func36, Tryd.ntmps36
  go_wp2_with (fail)
  refine (hrt _).mono ?_
  rintro e w1 ⟨rfl, hB1⟩
  have hb1 := hb0.below hB1
  have hB1' := hB0.trans (hB1.mono hB0.size)
  have c0 := hb1.cellAt 0 _ rfl
  have c1 := hb1.cellAt 1 _ rfl
  cases hr : rgt n M with
  | true =>
    rw [hr, if_pos rfl] at hf
    have Hf := hid hf
    clear hf hr
    go_wp2_with (fail)
    refine (hmem _).mono ?_
    rintro e w2 ⟨v2, rfl, ho2, hB2⟩
    rw [mem_16] at ho2
    obtain ⟨A2, k2, rfl⟩ := own_shape ho2
    go_wp2
    go_ret
    exact ⟨ret_i (by rw [Hf.out]), hB1'.trans (hB2.mono hB1'.size)⟩
  | false =>
    rw [hr] at hf
    have hf : q = 0 := hf
    have Hf := hid hf
    clear hf hr
    go_wp2
    go_ret
    exact ⟨ret_i (by rw [Hf.out]; rfl), hB1'⟩
theorem szR_bd (n : Int) (M : Nat) : szR n M = 0 ∨ (rgt n M = true ∧ szR n M = szM M ∧ 4 ≤ szR n M ∧ szR n M ≤ 7) := by
  unfold szR
  cases h : rgt n M with
  | true => have := rgt_sz h; exact .inr ⟨rfl, rfl, this.2.2.1, this.2.2.2⟩
  | false => exact .inl rfl
theorem szR_0 {n : Int} {M : Nat} (h : szR n M = 0) : rgt n M = false := by
  rcases hr : rgt n M with _ | _
  · rfl
  · unfold szR at h; rw [hr] at h; have := rgt_sz hr; simp at h; omega
theorem flt_R (n : Int) (M : Nat) : fltN n M = if szR n M = 7 then 2 else if 4 ≤ szR n M then 1 else 0 := by
  rcases szR_bd n M with h | ⟨h, h1, h2, h3⟩
  · unfold fltN; rw [szR_0 h, h]; rfl
  · unfold fltN; rw [if_pos h, ← h1]; split <;> (try rw [if_pos h2]) <;> omega
set_option maxHeartbeats 400000 in
theorem rflt_any (n : Int) (M : Nat) (w : World) (h : M < 65536) :
    Calls Tryd.prog 37 #[vw n M] w fun e w' => e = .returned (.int .i64 (fltN n M : Int)) ∧ Below w.heap.size w w' := by
  have hsz := (rsize_any n M · h)
  unfold vw at hsz ⊢
  have hB0 : Below w.heap.size w (w.alloc (.cells #[.int .i64 n, .int .u16 (M : Int)] 24)) := (Below.refl _ _).alloc (Nat.le_refl _) _
  have hf := flt_R n M
  have hbd := szR_bd n M
  obtain ⟨q, hqe⟩ : ∃ q, q = fltN n M := ⟨_, rfl⟩
  obtain ⟨s, hs⟩ : ∃ s, s = szR n M := ⟨_, rfl⟩
  rw [← hqe, ← hs] at hf
  rw [← hqe]
  rw [← hs] at hbd hsz
  have hs7 : s ≤ 7 := by omega
  have Hf := hid hf
  clear hqe hs hf hbd
  go_enter Tryd.func37, Tryd.ntmps37
  go_wp2_with (fail)
  refine (hsz _).mono ?_
  rintro e w1 ⟨rfl, hB1⟩
  have hB1' := hB0.trans (hB1.mono hB0.size)
  go_wp2
  all_goals
    go_ret
    refine ⟨ret_i ?_, hB1'⟩
    have := Hf.out
    simp only [beq_iff_eq, beq_eq_false_iff_ne, ne_eq] at *
    split at this <;> (try split at this) <;> omega
theorem quo_R (n : Int) (M : Nat) : quoN n M = if szR n M = 0 then 0 else (szR n M + fltN n M) / 2 + 1 := by
  rcases szR_bd n M with h | ⟨h, h1, h2, h3⟩
  · unfold quoN; rw [szR_0 h, if_pos h]; rfl
  · unfold quoN; rw [if_pos h, if_neg (by omega), h1]
set_option maxHeartbeats 1000000 in
theorem rquo_any (n : Int) (M : Nat) (w : World) (h : M < 65536) :
    Calls Tryd.prog 26 #[vw n M] w fun e w' => e = .returned (.int .i64 (quoN n M : Int)) ∧ Below w.heap.size w w' := by
  have hsz := (rsize_any n M · h)
  have hflt := (rflt_any n M · h)
  unfold vw at hsz hflt ⊢
  have hb := Blk.new' w 24 [.int .i64 n, .int .u16 (M : Int)]
  have hB : Below w.heap.size w (w.alloc (.cells #[.int .i64 n, .int .u16 (M : Int)] 24)) := (Below.refl _ _).alloc (Nat.le_refl _) _
  have hf := quo_R n M
  have hbd := szR_bd n M
  have hfb := flt_R n M
  obtain ⟨q, hqe⟩ : ∃ q, q = quoN n M := ⟨_, rfl⟩
  rw [← hqe] at hf ⊢
  obtain ⟨f, hfe⟩ : ∃ f, f = fltN n M := ⟨_, rfl⟩
  rw [← hfe] at hf hfb hflt
  obtain ⟨s, hs⟩ : ∃ s, s = szR n M := ⟨_, rfl⟩
  rw [← hs] at hf hbd hsz hfb
  have hs7 : s = 0 ∨ 4 ≤ s ∧ s ≤ 7 := by omega
  have hf2 : f ≤ 2 := by split at hfb <;> (try split at hfb) <;> omega
  have hfs : f ≤ s := by split at hfb <;> (try split at hfb) <;> omega
  have Hf := hid hf
  clear hqe hfe hs hf hbd hfb
  go_enter Tryd.func26, Tryd.ntmps26
  go_wp2_with (fail)
  obtain ⟨w0, hw0⟩ : ∃ w0, w0 = w.alloc (.cells #[.int .i64 n, .int .u16 (M : Int)] 24) := ⟨_, rfl⟩
  rw [← hw0] at hb hB ⊢
  clear hw0
  obtain ⟨g, hg⟩ : ∃ g, g = w.heap.size := ⟨_, rfl⟩
  rw [← hg] at hb ⊢
  clear hg
  refine (hsz _).mono ?_
  rintro e wq ⟨rfl, hB1⟩
  have hb1 := hb.below hB1
  have hB1' := hB.trans (hB1.mono hB.size)
  have c0 := hb1.cellAt 0 _ rfl
  have c1 := hb1.cellAt 1 _ rfl
  have HV : Hid (∀ W, Ch nob wq W → W.rangeAt g 0 [.int .i64 n, .int .u16 (M : Int)]) := fun W h => hb1.chAt (fun h => h) h
  by_cases h0 : s = 0
  · subst h0
    go_wp2
    go_ret
    exact ⟨ret_i (by have := Hf.out; simp at this; rw [this]; rfl), hB1'⟩
  · have ht : ((s : Int) == 0) = false := by rw [beq_eq_false_iff_ne]; omega
    clear c0 c1 hb1
    go_wp2_with (fail)
    refine wp_region_noPanic ?_
    refine wp_region_held_drew (S := Ch nob wq) (by kernel_rfl) ((Ch.refl _ _).drew) (fun hHeld => ?_)
    refine tkY 0 rfl (yieldsIf_load_mid (by rfl) 24 (.tmp 1) (by rfl) _ (0) (by rfl) _ _ (fun _ hs => HV.out _ hs) Tryd.underlying24 rfl (sizeV)) ?_
    refine tkY 2 rfl (yieldsIf_load_mid (by rfl) 24 (.tmp 1) (by rfl) _ (0) (by rfl) _ _ (fun _ hs => HV.out _ hs) Tryd.underlying24 rfl (sizeV)) ?_
    refine rdH 1 rfl (fun K hK => ?_)
    go_simp
    refine (hsz _).mono ?_
    rintro e' w5 ⟨rfl, hB5⟩
    have hC5 := hHeld.belowG hB5
    refine hK.out _ _ (hC5) (fun hHeld => ?_)
    clear hK K
    try simp only [nP]
    refine rdH 3 rfl (fun K hK => ?_)
    go_simp
    refine (hflt _).mono ?_
    rintro e' w6 ⟨rfl, hB6⟩
    have hC6 := hHeld.belowG hB6
    refine hK.out _ _ (hC6) (fun hHeld => ?_)
    clear hK K
    try simp only [nP]
    refine tkP 4 rfl ?_
    refine tkP 5 rfl ?_
    refine tkP 6 rfl ?_
    refine tkP 7 rfl ?_
    refine wpAnyH_done (by kernel_rfl) ?_ _
    refine NoPanic.normal ?_
    go_wp2
    go_ret
    exact ⟨ret_i (by have := Hf.out; rw [if_neg h0] at this; rw [this, IntWalk.i64_in ((s : Int) + f) (by omega), Int.tdiv_eq_ediv_of_nonneg (by omega), IntWalk.i64_in (((s : Int) + f) / 2) (by omega), IntWalk.i64_in (((s : Int) + f) / 2 + 1) (by omega)]; omega), hB1'.trans (hHeld.below.mono hB1'.size)⟩
theorem has_mem (M : Nat) (i : Int) : hasB M i = true ↔ ∃ x ∈ memL M 16, (x : Int) = i := by
  unfold hasB
  rw [Bool.and_eq_true, decide_eq_true_iff]
  constructor
  · rintro ⟨h1, h2⟩
    exact ⟨i.toNat, (mem_iff M 16 _).2 ⟨by omega, h2⟩, by omega⟩
  · rintro ⟨x, hx, rfl⟩
    have := (mem_iff M 16 x).1 hx
    exact ⟨by omega, by rw [Int.toNat_natCast]; exact this.2⟩
set_option maxHeartbeats 400000 in
theorem rhas_any (n : Int) (M : Nat) (i : Int) (w : World) (h : M < 65536) :
    Calls Tryd.prog 60 #[vw n M, .int .i64 i] w fun e w' => e = .returned (.bool (hasB M i)) ∧ Below w.heap.size w w' := by
  have hmem := (rmembers_any n M · h)
  have hl16 := sz_le M
  have hbt := has_mem M i
  unfold vw at hmem ⊢
  have hB : Below w.heap.size w (w.alloc (.cells #[.int .i64 n, .int .u16 (M : Int)] 24)) := (Below.refl _ _).alloc (Nat.le_refl _) _
  obtain ⟨bt, hbe⟩ : ∃ b, b = hasB M i := ⟨_, rfl⟩
  rw [← hbe] at hbt ⊢
  obtain ⟨l, hle⟩ : ∃ l, l = memL M 16 := ⟨_, rfl⟩
  have hl : l.length ≤ 16 := by rw [hle]; exact hl16
  rw [← hle] at hbt hmem
  have Hbt := hid hbt
  clear hbe hle hbt hl16
  go_enter Tryd.func60, Tryd.ntmps60
  go_wp2_with (fail)
  refine (hmem _).mono ?_
  rintro e w1 ⟨v1, rfl, ho1, hB1⟩
  have hB1' := hB.trans (hB1.mono hB.size)
  obtain ⟨A1, k1, rfl⟩ := own_shape ho1
  go_wp2
  go_loop [6] (fun iv => ∃ k : Nat, k ≤ l.length ∧ iv = .int .i64 (k : Int) ∧ ∀ (j x : Nat), j < k → l[j]? = some x → (x : Int) ≠ i) (fun iv => l.length - (intOf iv).toNat)
  case atStart => exact ⟨0, by omega, rfl, fun j x hj => by omega⟩
  case round =>
    obtain ⟨k, hk, rfl, hno⟩ := hrel
    have Hno := hid hno
    clear hno
    by_cases hlt : k < l.length
    · obtain ⟨g1, c1, hsh, hg1, hl1, hcell⟩ := own_ivs ho1 (by omega)
      injection hsh with hA hn' hc'
      subst hA
      obtain ⟨x, hx⟩ : ∃ x, l[k]? = some x := ⟨_, List.getElem?_eq_getElem hlt⟩
      have hc := hcell k x hx
      have hkI : (k : Int) < (l.length : Int) := by omega
      have Hx := hid hx
      clear hx hcell ho1
      by_cases hxi : (x : Int) = i
      · have ht : ((x : Int) == i) = true := beq_iff_eq.2 hxi
        have Ht := hid hxi
        clear hxi
        go_wp2
        go_ret
        exact ⟨ret_b (Hbt.out.2 ⟨x, List.mem_of_getElem? Hx.out, Ht.out⟩).symm, hB1'⟩
      · have ht : ((x : Int) == i) = false := beq_eq_false_iff_ne.2 hxi
        have Ht := hid hxi
        clear hxi
        go_wp2
        go_round
        case rel => 
          refine ⟨k + 1, by omega, by go_num, fun j y hj hy => ?_⟩
          rcases Nat.lt_or_ge j k with h1 | h1
          · exact Hno.out j y h1 hy
          · have : j = k := by omega
            subst this
            have := Hx.out
            rw [hy] at this
            injection this with this
            rw [this]
            exact Ht.out
        case measure => simp [intOf]; omega
    · have hb : bt = false := by
        cases hbt : bt with
        | false => rfl
        | true =>
          obtain ⟨x, hx, hxi⟩ := Hbt.out.1 hbt
          obtain ⟨j, hj⟩ := List.mem_iff_getElem?.1 hx
          exact absurd hxi (Hno.out j x (by have := (List.getElem?_eq_some_iff.1 hj).1; omega) hj)
      have Hb := hid hb
      clear hb
      go_wp2
      go_ret
      exact ⟨ret_b Hb.out.symm, hB1'⟩
end Go.Proofs.YthbbpfnfnnmdnaaDoor
/- Ct: layer 17, the document's side: contract of ref09.OpenOf over that of ref09.Open. -/
namespace Go.Proofs.YthbbpfnfnnmdnaaDoor
open Go.RowKit Go.V
set_option maxRecDepth 100000 in
set_option maxHeartbeats 4000000 in
theorem ropenof9_any (ks : List (List UInt8)) (V : Vc) (X : List UInt8) (uk ur v : Value) (F G : Nat → Prop) (w : World) (hks : KsSm ks) (hk : Rd w F uk (tx ks)) (hv : Rd w G v (bys X)) (hX : X.length ≤ 1000000) (hV : V.m < 65536) :
    Calls Tryd.prog 47 #[.agg #[uk, ur], vw V.n V.m, v] w (RdP w (opOf ks V X)) := by
  obtain ⟨n, M⟩ := V
  dsimp only at hV
  obtain ⟨A, c, rfl⟩ := hv.shape
  obtain ⟨W1, hW1, b3, b4, hB⟩ := alloc2 w 33 24 [uk, ur] [.int .i64 n, .int .u16 (M : Int)]
  have b6 := Blk.new' W1 96 (gM zM 0)
  have hB6 : Below W1.heap.size W1 (W1.alloc (.cells (gM zM 0).toArray 96)) := (Below.refl _ _).alloc (Nat.le_refl _) _
  have hs1 : W1.heap.size = w.heap.size + 1 + 1 := by rw [hW1]; simp
  have b3 := b3.below hB6
  have b4 := b4.below hB6
  have hB := hB.trans (hB6.mono hB.size)
  have hk := hk.below hB
  have hv := hv.below hB
  have hop := hid (fun (e : Nat) => op_pos (ks := ks) (X := X) (e := e))
  have hnm := hid (fun (m : Mg) => op_num (ks := ks) (X := X) (m := m))
  have hof := hid (show opOf ks ⟨n, M⟩ X = match opR ks X with
    | .ok m => if hasB M m.f = true then .ok m else .error 6
    | .error e => .error e from rfl)
  obtain ⟨R, hR⟩ : ∃ R, R = opOf ks ⟨n, M⟩ X := ⟨_, rfl⟩
  rw [← hR] at hof ⊢
  have hbm := bldG8
  unfold vw
  clear hR hB6
  go_enter Tryd.func47, Tryd.ntmps47
  go_wp2_with (first | (refine wp_new 96 rfl rfl zeroG8 ?_; refine wp_stop ?_))
  rw [hs1] at b6
  obtain ⟨w0, hw0⟩ : ∃ x, x = W1.alloc (.cells (gM zM 0).toArray 96) := ⟨_, rfl⟩
  rw [← hw0] at b3 b4 b6 hB hk hv
  rw [hW1] at hw0
  first | rw [← hw0] | (simp only [List.toArray] at hw0 ⊢; rw [← hw0])
  obtain ⟨g6, hg6⟩ : ∃ g, g = w.heap.size + 1 + 1 := ⟨_, rfl⟩
  rw [← hg6] at b6 ⊢
  obtain ⟨g4, hg4⟩ : ∃ g, g = w.heap.size + 1 := ⟨_, rfl⟩
  rw [← hg4] at b4 ⊢
  obtain ⟨g3, hg3⟩ : ∃ g, g = w.heap.size := ⟨_, rfl⟩
  rw [← hg3] at b3 ⊢
  have hw3 : w.heap.size ≤ g3 := by omega
  have hw6 : w.heap.size ≤ g6 := by omega
  clear hg3 hg4 hg6 hw0 hW1 hs1
  refine wp_go ?_
  have hlz := hid (len_gM len_zM 0)
  have hlz1 := hid (len_gM len_zM)
  have hoz := hid (one_gM one_zM8)
  go_wp2_with (refine wp_ld 33 (.tmp 3) rfl rfl rfl b3.whole Tryd.underlying33 rfl sizeKs17 ?_)
  refine (ropen9_any ks X uk ur _ F G _ hks hk hv hX).mono ?_
  intro e w1 hP
  cases hr : opR ks X with
  | error k =>
    have hRe := hid (hof.out.trans (by rw [hr]))
    have hk0 := hop.out k hr
    rw [hr] at hP
    obtain ⟨rfl, hB1⟩ := hP
    have hl6 := b6.lt
    have b6 := b6.below hB1
    have hB := hB.trans (hB1.mono hB.size)
    have hkI : ((k : Int) == 0) = false := by rw [beq_eq_false_iff_ne]; omega
    obtain ⟨lk, hlk⟩ : ∃ l, l = gM zM k := ⟨_, rfl⟩
    have hone := hid (hoz.out k)
    have hlm := hid (hlz1.out k)
    have Hf1 := hid (gM_err len_zM k)
    have hRD : Hid (∀ W, Below w.heap.size w W → RdP w R (.returned (.agg lk.toArray)) W) := hid (fun W h => by rw [hRe.out, hlk]; exact ⟨rfl, h⟩)
    rw [← hlk] at hone hlm Hf1 ⊢
    clear hlk hRe
    clear hop hnm hof hr b3 b4 hk hv hB1 hk0
    go_wp2_with (first | (refine wp_newst 96 7 (.tmp 10) rfl rfl rfl rfl rfl rfl zeroG8 (l := lk) rfl (by rw [hlm.out]; exact hlz.out) (by rw [hlm.out]; exact sizeG8) hone.out (by simp) ?_; intro w2 b8 hB2 hs2; refine wp_stop ?_))
    have hlt6 := b6.lt
    have b6 := b6.below hB2
    have hB := hB.trans (hB2.mono hB.size)
    obtain ⟨g8, hg8⟩ : ∃ g, g = w1.heap.size := ⟨_, rfl⟩
    rw [← hg8] at b8 hlt6 ⊢
    clear hg8 hs2 hB2
    have c1 := b8.cellAt 39 _ Hf1.out
    refine wp_go ?_
    go_wp2_with (first | refine wp_ld 96 (.tmp 7) rfl rfl rfl b8.whole Tryd.underlying96 rfl (by rw [hlm.out]; exact sizeG8) ?_ | (refine wp_st 96 (.tmp 6) (.tmp 23) rfl rfl rfl (f := 0) rfl (l := lk) rfl b6 (by rw [hlz.out, hlm.out]; omega) (by rw [hlm.out]; exact sizeG8) hone.out ?_; intro w3 k6 G6; refine wp_stop ?_))
    rw [set_all _ _ (by rw [hlz.out, hlm.out])] at k6
    have hB := hB.grown G6 hB.size (fun k hk => by injection hk with hk; omega)
    refine wp_go ?_
    go_wp2
    refine ret_cell rfl rfl k6.whole Tryd.underlying96 rfl (by rw [hlm.out]; exact sizeG8) rfl ?_
    exact hRD.out _ hB
  | ok m =>
    have hRo := hid (hof.out.trans (by rw [hr]))
    have hnb := hnm.out m hr
    rw [hr] at hP
    obtain ⟨⟨ub, up, rfl, hub, hup⟩, hB1⟩ := hP
    have hmb : 0 ≤ m.f ∧ m.f ≤ 15 := by unfold numB at hnb; have := of_decide_eq_true hnb; omega
    have hhl : m.h.length = 32 := op_hash hr
    have hl60 := b6.lt
    have b4 := b4.below hB1
    have b6 := b6.below hB1
    have hub := hub.weak (F' := fun b => w.heap.size ≤ b ∧ b ≠ g6) (fun b _ h => ⟨Nat.le_trans hB.size h, by omega⟩)
    have hup := hup.weak (F' := fun b => w.heap.size ≤ b ∧ b ≠ g6) (fun b _ h => ⟨Nat.le_trans hB.size h, by omega⟩)
    have hB := hB.trans (hB1.mono hB.size)
    obtain ⟨Ab, cb, rfl⟩ := hub.shape
    obtain ⟨Ap, cp, rfl, _, _⟩ := hup.slShape
    have hl39 := len_mg hhl (.slice Ab m.b.length cb) (.slice Ap m.ps.length cp)
    have hone := hid (one_gM (mg_one m Ab Ap m.b.length cb m.ps.length cp) 0)
    have hlm := hid (len_gM hl39 0)
    have Hf0 := hid (gM_err hl39 0)
    have Hf1 : Hid ((gM (m.l (.slice Ab m.b.length cb) (.slice Ap m.ps.length cp)) 0)[1]? = some (.int .i64 m.f)) := hid (by rw [gM_get hl39 0 1 (by omega)]; rfl)
    have hfin := hid (fun W (h1 : Rd W (fun b => w.heap.size ≤ b) (.slice Ab m.b.length cb) (bys m.b)) (h2 : Rd W (fun b => w.heap.size ≤ b) (.slice Ap m.ps.length cp) (tx m.ps)) (h3 : Below w.heap.size w W) => (show RdP w (.ok m) (.returned (.agg (gM (m.l (.slice Ab m.b.length cb) (.slice Ap m.ps.length cp)) 0).toArray)) W from ⟨⟨_, _, rfl, h1, h2⟩, h3⟩))
    obtain ⟨lm, hlm'⟩ : ∃ q, q = gM (m.l (.slice Ab m.b.length cb) (.slice Ap m.ps.length cp)) 0 := ⟨_, rfl⟩
    rw [← hlm'] at hone hlm Hf0 Hf1 hfin ⊢
    clear hlm' hl39 hop hnm hof hr b3 hk hv hB1 hnb
    go_wp2_with (first | (refine wp_newst 96 7 (.tmp 10) rfl rfl rfl rfl rfl rfl zeroG8 (l := lm) rfl (by rw [hlm.out]; exact hlz.out) (by rw [hlm.out]; exact sizeG8) hone.out (by simp) ?_; intro w2 b8 hB2 hs2; refine wp_stop ?_))
    have hlt6 := b6.lt
    have b6 := b6.below hB2
    have b4 := b4.below hB2
    have hub := hub.below hB2
    have hup := hup.below hB2
    have hB := hB.trans (hB2.mono hB.size)
    obtain ⟨g8, hg8⟩ : ∃ g, g = w1.heap.size := ⟨_, rfl⟩
    rw [← hg8] at b8 hlt6 ⊢
    clear hg8 hs2 hB2
    have c1 := b8.cellAt 1 _ Hf1.out
    have c0 := b8.cellAt 39 _ Hf0.out
    refine wp_go ?_
    have hhas := hid (rhas_any n M m.f w2 hV)
    go_wp2_with (first | refine wp_ldg 24 (.tmp 4) (by rfl) rfl rfl b4.whole Tryd.underlying24 rfl sizeVw17 ?_)
    refine hhas.out.mono ?_
    intro e w3 h3
    obtain ⟨rfl, hB3⟩ := h3
    have b6 := b6.below hB3
    have b8 := b8.below hB3
    have hub := hub.below hB3
    have hup := hup.below hB3
    have hB := hB.trans (hB3.mono hB.size)
    clear hhas hB3
    cases hh : hasB M m.f with
    | false =>
      have hRe : Hid (R = .error 6) := hid (hRo.out.trans (by rw [hh]; rfl))
      have hb6' := hbm 6
      have ho6 := hid (hoz.out 6)
      have hl6' := hid (hlz1.out 6)
      have hRD : Hid (∀ W, Below w.heap.size w W → RdP w R (.returned (.agg (gM zM 6).toArray)) W) := hid (fun W h => by rw [hRe.out]; exact ⟨rfl, h⟩)
      obtain ⟨l6, hle⟩ : ∃ l, l = gM zM 6 := ⟨_, rfl⟩
      rw [← hle] at ho6 hl6' hb6' hRD
      clear hRo hfin hub hup c1 hh hle hRe hoz hlz1 hbm
      go_wp2_with (first | refine wp_bld 96 [(1, .const (.int .i64 6))] rfl rfl [(1, .int .i64 6)] rfl hb6' ?_ | (refine wp_st 96 (.tmp 6) (.tmp 22) rfl rfl rfl (f := 0) rfl (l := l6) rfl b6 (by rw [hlz.out, hl6'.out]; omega) (by rw [hl6'.out]; exact sizeG8) ho6.out ?_; intro w4 k6 G6; refine wp_stop ?_))
      rw [set_all _ _ (by rw [hlz.out, hl6'.out])] at k6
      have hB := hB.grown G6 hB.size (fun k hk => by injection hk with hk; omega)
      refine wp_go ?_
      go_wp2
      refine ret_cell rfl rfl k6.whole Tryd.underlying96 rfl (by rw [hl6'.out]; exact sizeG8) rfl ?_
      exact hRD.out _ hB
    | true =>
      have hRe : Hid (R = .ok m) := hid (hRo.out.trans (by rw [hh]; rfl))
      clear hRo hh
      go_wp2_with (first | refine wp_ld 96 (.tmp 7) rfl rfl rfl b8.whole Tryd.underlying96 rfl (by rw [hlm.out]; exact sizeG8) ?_ | (refine wp_st 96 (.tmp 6) (.tmp 23) rfl rfl rfl (f := 0) rfl (l := lm) rfl b6 (by rw [hlz.out, hlm.out]; omega) (by rw [hlm.out]; exact sizeG8) hone.out ?_; intro w4 k6 G6; refine wp_stop ?_))
      rw [set_all _ _ (by rw [hlz.out, hlm.out])] at k6
      have hub := hub.keep (F' := fun b => w.heap.size ≤ b) (fun b hb hF => ⟨hF.1, G6.block b hb (by intro h; injection h with h; exact hF.2 h)⟩)
      have hup := hup.keep (F' := fun b => w.heap.size ≤ b) (fun b hb hF => ⟨hF.1, G6.block b hb (by intro h; injection h with h; exact hF.2 h)⟩)
      have hB := hB.grown G6 hB.size (fun k hk => by injection hk with hk; omega)
      refine wp_go ?_
      go_wp2
      refine ret_cell rfl rfl k6.whole Tryd.underlying96 rfl (by rw [hlm.out]; exact sizeG8) rfl ?_
      rw [hRe.out]
      exact hfin.out _ hub hup hB
end Go.Proofs.YthbbpfnfnnmdnaaDoor
