/- W8: several texts in one (W0 W1 W2 W3 W4 W5 W8). -/
import Derived.Test.YtfjgfaccfjdklaaDoorV
import Derived.Test.YtfjgfaccfjdklaaDoorVA
import Derived.Test.YtfjgfaccfjdklaaDoorM1
import Derived.Lib.BitFns
import Derived.Test.YtfjgfaccfjdklaaDoorN3
import Derived.Deep.DeepCutAuto
/- W0: layer 6: the bits of a mask as a list; what two sets share. -/
namespace Go.V
/-- the bits of a mask, from the lowest on -/
def mbit (M i : Nat) : Bool := decide (M / 2 ^ i % 2 = 1)
def memL (M n : Nat) : List Nat := (List.range n).filter (mbit M)
theorem mem_succ (M n : Nat) : memL M (n + 1) = memL M n ++ (if mbit M n then [n] else []) := by
  unfold memL
  rw [List.range_succ, List.filter_append]
  congr 1
  simp [List.filter_cons]
theorem mem_len_le (M n : Nat) : (memL M n).length ≤ n := by
  unfold memL
  have := List.length_filter_le (mbit M) (List.range n)
  simpa using this
theorem mem_iff (M n i : Nat) : i ∈ memL M n ↔ i < n ∧ mbit M i = true := by
  unfold memL
  simp [List.mem_filter]
theorem mbit_test (M i : Nat) : mbit M i = M.testBit i := by
  unfold mbit
  rw [Nat.testBit_eq_decide_div_mod_eq]
theorem mbit_and (a b i : Nat) : mbit (a &&& b) i = (mbit a i && mbit b i) := by
  rw [mbit_test, mbit_test, mbit_test, Nat.testBit_and]
/-- two sets of members share so many as both together are more than all -/
theorem share (a b M n : Nat) : (memL (a &&& M) n).length + (memL (b &&& M) n).length ≤ (memL ((a &&& M) &&& (b &&& M)) n).length + (memL M n).length := by
  induction n with
  | zero => simp [memL]
  | succ n ih =>
    rw [mem_succ, mem_succ, mem_succ, mem_succ]
    simp only [List.length_append]
    rw [mbit_and (a &&& M), mbit_and a, mbit_and b]
    cases mbit a n <;> cases mbit b n <;> cases mbit M n <;> simp <;> omega
theorem memL_nodup (M n : Nat) : (memL M n).Nodup := List.nodup_range.sublist List.filter_sublist
end Go.V
/- W1: layer 6: contracts of package views: who is a member, and how many. -/
namespace Go.V
open Go.RowKit
/-- a view -/
def vw (n : Int) (M : Nat) : Value := .agg #[.int .i64 n, .int .u16 (M : Int)]
def szM (M : Nat) : Nat := (memL M 16).length
/-- is it a view that there may be? -/
def rgt (n : Int) (M : Nat) : Bool := decide (0 ≤ n ∧ n ≤ 60 ∧ 4 ≤ szM M ∧ szM M ≤ 7)
/-- is i a member? -/
def hasB (M : Nat) (i : Int) : Bool := decide (0 ≤ i ∧ i < 16) && mbit M i.toNat
theorem pop_mem : ∀ (n M : Nat), Lib.popAux n M = (memL M n).length
  | 0, M => by simp [memL, Lib.popAux]
  | n + 1, M => by
    have e : memL M (n + 1) = (if mbit M 0 then [0] else []) ++ (memL (M / 2) n).map (· + 1) := by
      unfold memL
      rw [List.range_succ_eq_map, List.filter_cons, List.filter_map]
      have : (mbit M ∘ Nat.succ) = mbit (M / 2) := by
        funext i
        simp only [Function.comp, mbit, Nat.succ_eq_add_one]
        rw [Nat.pow_succ, Nat.mul_comm, ← Nat.div_div_eq_div_mul]
      rw [this]
      split <;> simp
    rw [Lib.popAux, pop_mem n (M / 2), e]
    have h2 : M % 2 = (if mbit M 0 then [0] else [] : List Nat).length := by
      unfold mbit
      simp only [Nat.pow_zero, Nat.div_one]
      by_cases h : M % 2 = 1
      · simp [h]
      · simp [h]; omega
    rw [h2]
    simp
theorem pop_add : ∀ (a b M : Nat), Lib.popAux (a + b) M = Lib.popAux a M + Lib.popAux b (M / 2 ^ a)
  | 0, b, M => by simp [Lib.popAux]
  | a + 1, b, M => by
    rw [show a + 1 + b = (a + b) + 1 from by omega, Lib.popAux, Lib.popAux, pop_add a b, Nat.div_div_eq_div_mul, ← Nat.pow_succ', Nat.add_assoc]
theorem pop_low : ∀ (a M : Nat), Lib.popAux a (M % 2 ^ a) = Lib.popAux a M
  | 0, M => by simp [Lib.popAux]
  | a + 1, M => by
    rw [Lib.popAux, Lib.popAux]
    have e1 : M % 2 ^ (a + 1) % 2 = M % 2 := Nat.mod_mod_of_dvd _ ⟨2 ^ a, by rw [Nat.pow_succ, Nat.mul_comm]⟩
    have e2 : M % 2 ^ (a + 1) / 2 = M / 2 % 2 ^ a := by
      rw [Nat.pow_succ, Nat.mul_comm, Nat.mod_mul_right_div_self]
    rw [e1, e2, pop_low a]
theorem pop8_le : ∀ n : Fin 256, Lib.pop8 (n.val : Int) = (Lib.popAux 8 n.val : Int) := by decide +kernel
theorem pop8_of (n : Nat) (h : n < 256) : Lib.pop8 (n : Int) = ((Lib.popAux 8 n : Nat) : Int) := pop8_le ⟨n, h⟩
theorem pop_le (n M : Nat) : Lib.popAux n M ≤ n := by rw [pop_mem]; exact mem_len_le M n
theorem sz_pop (M : Nat) (h : M < 65536) : (szM M : Int) = Lib.pop8 ((M / 256 : Nat) : Int) + Lib.pop8 ((M % 256 : Nat) : Int) := by
  rw [pop8_of _ (by omega), pop8_of _ (by omega)]
  unfold szM
  rw [← pop_mem, show 16 = 8 + 8 from rfl, pop_add 8 8 M, show 256 = 2 ^ 8 from rfl, pop_low 8 M]
  omega
theorem mem_16 (M : Nat) : (memL M 16).length = szM M := rfl
theorem sz_le (M : Nat) : szM M ≤ 16 := mem_len_le M 16
end Go.V
namespace Go.Proofs.YtfjgfaccfjdklaaDoor
open Go.RowKit Go.V

theorem and255 (M : Nat) (h : M < 65536) : bits .and .u16 (M : Int) 255 = (M : Int) % 256 := by
  have := u16_and_nat M 255 h (by omega)
  rw [show M &&& 255 = M % 256 from Nat.and_two_pow_sub_one_eq_mod M 8] at this
  rw [show ((255 : Nat) : Int) = 255 from rfl] at this
  rw [this]
  omega
theorem ones_any (M : Nat) (w : World) (h : M < 65536) :
    Calls Tryd.prog 77 #[.int .u16 (M : Int)] w fun e w' => e = .returned (.int .i64 (szM M : Int)) ∧ ∃ n, w' = w.drewN n := by
  have hz := sz_pop M h
  have hl := sz_le M
  have e1 := pop8_of (M / 256) (by omega)
  have e2 := pop8_of (M % 256) (by omega)
  have l1 := pop_le 8 (M / 256)
  have l2 := pop_le 8 (M % 256)
  have b1 : 0 ≤ (M : Int) / 256 := by omega
  have b2 : (M : Int) / 256 ≤ 255 := by omega
  have hand := and255 M h
  have HZ := hid hz
  have H1 := hid e1
  have H2 := hid e2
  clear hz e1 e2
  go_enter Tryd.func77, Tryd.ntmps77
  go_wp2
  go_quiet (fail)
  go_wp2
  go_ret
  refine ⟨ret_i ?_, _, rfl⟩
  rw [HZ.out, show (M : Int) / 256 = ((M / 256 : Nat) : Int) from rfl, show (M : Int) % 256 = ((M % 256 : Nat) : Int) from rfl, H1.out, H2.out]
  generalize Lib.popAux 8 (M / 256) = p at *
  generalize Lib.popAux 8 (M % 256) = q at *
  omega
set_option maxHeartbeats 400000 in
theorem size_any (n : Int) (M : Nat) (w : World) (h : M < 65536) :
    Calls Tryd.prog 58 #[vw n M] w fun e w' => e = .returned (.int .i64 (szM M : Int)) ∧ Below w.heap.size w w' := by
  unfold vw
  go_enter Tryd.func58, Tryd.ntmps58
  go_wp2_with (fail)
  refine (ones_any M _ h).mono ?_
  rintro e w1 ⟨rfl, k, rfl⟩
  go_wp2
  go_ret
  exact ⟨rfl, below_drewN ((Below.refl _ _).alloc (Nat.le_refl _) _) k⟩
theorem right_any (n : Int) (M : Nat) (w : World) (h : M < 65536) :
    Calls Tryd.prog 36 #[vw n M] w fun e w' => e = .returned (.bool (rgt n M)) ∧ Below w.heap.size w w' := by
  have hl := sz_le M
  have hsz := (size_any n M · h)
  unfold vw at hsz ⊢
  go_enter Tryd.func36, Tryd.ntmps36
  go_wp2_with (fail)
  refine (hsz _).mono ?_
  rintro e w1 ⟨rfl, hB1⟩
  have hb := (Blk.new' w 24 [.int .i64 n, .int .u16 (M : Int)]).below hB1
  have hB : Below w.heap.size w w1 := ((Below.refl _ _).alloc (Nat.le_refl _) _).trans (hB1.mono (by simp))
  have c0 := hb.cellAt 0 _ rfl
  obtain ⟨s, hs⟩ : ∃ s, s = szM M := ⟨_, rfl⟩
  have hr : rgt n M = decide (0 ≤ n ∧ n ≤ 60 ∧ 4 ≤ s ∧ s ≤ 7) := by rw [hs]; rfl
  rw [← hs] at hl ⊢
  have Hr := hid hr
  clear hr hs
  go_wp2
  all_goals (go_ret; exact ⟨by rw [Hr.out]; exact ret_b (by rw [Bool.eq_iff_iff]; simp; try omega), hB⟩)
theorem bit_eq (M k : Nat) (h : M < 65536) : (bits .and .u16 ((M : Int) / 2 ^ k) 1 == 1) = mbit M k := by
  have e : (M : Int) / 2 ^ k = ((M / 2 ^ k : Nat) : Int) := by rw [Int.natCast_ediv, Int.natCast_pow]; rfl
  have hd : M / 2 ^ k < 65536 := Nat.lt_of_le_of_lt (Nat.div_le_self _ _) h
  have := u16_and_nat (M / 2 ^ k) 1 hd (by omega)
  rw [show M / 2 ^ k &&& 1 = M / 2 ^ k % 2 from Nat.and_two_pow_sub_one_eq_mod _ 1] at this
  rw [e, show (1 : Int) = ((1 : Nat) : Int) from rfl, this]
  unfold mbit
  rw [Bool.eq_iff_iff, beq_iff_eq, decide_eq_true_iff]
  omega
end Go.Proofs.YtfjgfaccfjdklaaDoor
/- W2: layer 6: contracts of package views: members, how many must agree, who leads. -/
namespace Go.V
open Go.RowKit
theorem mem_at (M : Nat) (k : Nat) (h : k < szM M) : ∃ x, (memL M 16)[k]? = some x ∧ x < 16 ∧ mbit M x = true := by
  refine ⟨_, List.getElem?_eq_getElem h, ?_⟩
  exact (mem_iff M 16 _).1 (List.getElem_mem h)
end Go.V
namespace Go.Proofs.YtfjgfaccfjdklaaDoor
open Go.RowKit Go.V
/-- a new slice of ints, nothing else turned -/
def NewI (w w' : World) (v : Value) (l : List Nat) : Prop := w'.ownsRow w.heap.size 3 1 v l.length (ivs l) ∧ Below w.heap.size w w'
end Go.Proofs.YtfjgfaccfjdklaaDoor
/- W3: layer 6: contracts of package views: how many must agree, who leads. -/
namespace Go.V
open Go.RowKit
def fltN (n : Int) (M : Nat) : Nat := if rgt n M then (szM M - 1) / 3 else 0
def quoN (n : Int) (M : Nat) : Nat := if rgt n M then (szM M + fltN n M) / 2 + 1 else 0
def enoN (n : Int) (M : Nat) : Nat := if rgt n M then szM M - fltN n M else 0
def somN (n : Int) (M : Nat) : Nat := if rgt n M then fltN n M + 1 else 0
def leadZ (n : Int) (M : Nat) (r : Int) : Int := if rgt n M ∧ 0 ≤ r then (((memL M 16).getD (r.toNat % szM M) 0 : Nat) : Int) else -1
theorem rgt_sz {n : Int} {M : Nat} (h : rgt n M = true) : 0 ≤ n ∧ n ≤ 60 ∧ 4 ≤ szM M ∧ szM M ≤ 7 := by unfold rgt at h; exact of_decide_eq_true h
end Go.V
namespace Go.Proofs.YtfjgfaccfjdklaaDoor
open Go.RowKit Go.V
theorem sizeV : (Tryd.prog.info? 24).map (·.size) = some 2 := by kernel_rfl
end Go.Proofs.YtfjgfaccfjdklaaDoor
/- W4: layer 6: contracts of the document's answers: members, how many must agree, who leads. -/
namespace Go.Proofs.YtfjgfaccfjdklaaDoor
open Go.RowKit Go.V
set_option maxHeartbeats 400000 in
theorem rmembers_any (n : Int) (M : Nat) (w : World) (h : M < 65536) :
    Calls Tryd.prog 54 #[vw n M] w fun e w' => ∃ v', e = .returned v' ∧ NewI w w' v' (memL M 16) := by
  unfold vw
  have hb := Blk.new' w 24 [.int .i64 n, .int .u16 (M : Int)]
  have hB : Below w.heap.size w (w.alloc (.cells #[.int .i64 n, .int .u16 (M : Int)] 24)) := (Below.refl _ _).alloc (Nat.le_refl _) _
  have c1 := hb.cellAt 1 _ rfl
  go_enter Tryd.func54, Tryd.ntmps54
  go_wp2
  obtain ⟨w0, hw0⟩ : ∃ w0, w0 = w.alloc (.cells #[.int .i64 n, .int .u16 (M : Int)] 24) := ⟨_, rfl⟩
  rw [← hw0] at hb hB c1 ⊢
  clear hw0 c1
  have hs0 := hB.size
  obtain ⟨g, hg⟩ : ∃ g, g = w.heap.size := ⟨_, rfl⟩
  rw [← hg] at hb ⊢
  clear hg hb
  go_loopw [3, 4, 5] (fun v' mv iv wr => ∃ k : Nat, k ≤ 16 ∧ iv = .int .i64 (k : Int) ∧ mv = .int .i64 ((M / 2 ^ k : Nat) : Int) ∧ wr.ownsRow w0.heap.size 3 1 v' (memL M k).length (ivs (memL M k)) ∧ Below w0.heap.size w0 wr) (fun _ _ iv _ => 16 - (intOf iv).toNat)
  case atStart => exact ⟨0, by omega, rfl, by simp, World.ownsRow_nil _ _ _ _, Below.refl _ _⟩
  case round =>
    obtain ⟨k, hk, rfl, rfl, ho, hBw⟩ := hrel
    have hy : M / 2 ^ k < 65536 := Nat.lt_of_le_of_lt (Nat.div_le_self _ _) h
    have hml := mem_len_le M k
    have hms := mem_succ M k
    have hbit : mbit M k = decide (M / 2 ^ k % 2 = 1) := rfl
    have hnx : Hid (M / 2 ^ k / 2 = M / 2 ^ (k + 1)) := by show _ = _; rw [Nat.div_div_eq_div_mul, Nat.pow_succ]
    obtain ⟨y, hye⟩ : ∃ y, y = M / 2 ^ k := ⟨_, rfl⟩
    rw [← hye] at hy hbit hnx ⊢
    clear hye
    by_cases h16 : k < 16
    · have hki : (k : Int) < 16 := by omega
      by_cases hm : mbit M k = true
      · rw [if_pos hm] at hms
        have Hms := hid hms
        rw [hm] at hbit
        have hy1 : y % 2 = 1 := of_decide_eq_true hbit.symm
        clear hms hbit hm
        have ht : ((y : Int) % 2 == 1) = true := beq_iff_eq.2 (by omega)
        go_wp2_with (refine wp_push (.tmp 16) (.tmp 17) 18 slI rfl rfl rfl rfl rfl rfl rfl rfl (by simp) rfl ho (by simp only [maxLen]; omega) (by omega) hBw.size ?_)
        intro v4 w4 ho4 hG4 _
        rw [← ivs_snoc] at ho4
        have hB4 := hBw.grown hG4 hBw.size (fun k hk => (ho.lt k hk).1)
        go_wp2
        go_roundw
        case rel =>
          refine ⟨k + 1, by omega, by go_num, by rw [← hnx.out]; go_num, ?_, hB4⟩
          rw [Hms.out, List.length_append]
          exact ho4
        case measure => simp [intOf]; omega
      · rw [if_neg hm, List.append_nil] at hms
        have Hms := hid hms
        have hm : mbit M k = false := by simpa using hm
        rw [hm] at hbit
        have hy1 : ¬ y % 2 = 1 := of_decide_eq_false hbit.symm
        clear hms hbit hm
        have ht : ((y : Int) % 2 == 1) = false := beq_eq_false_iff_ne.2 (by omega)
        go_wp2
        go_roundw
        case rel => exact ⟨k + 1, by omega, by go_num, by rw [← hnx.out]; go_num, by rw [Hms.out]; exact ho, hBw⟩
        case measure => simp [intOf]; omega
    · have hk16 : k = 16 := by omega
      subst hk16
      go_wp2
      go_ret
      exact ⟨_, rfl, own_weak ho hs0, hB.trans (hBw.mono hs0)⟩
theorem rright_any (n : Int) (M : Nat) (w : World) (h : M < 65536) :
    Calls Tryd.prog 30 #[vw n M] w fun e w' => e = .returned (.bool (rgt n M)) ∧ Below w.heap.size w w' := by
  have hl := sz_le M
  have hmem := (rmembers_any n M · h)
  unfold vw at hmem ⊢
  have hb0 := Blk.new' w 24 [.int .i64 n, .int .u16 (M : Int)]
  have hB0 : Below w.heap.size w (w.alloc (.cells #[.int .i64 n, .int .u16 (M : Int)] 24)) := (Below.refl _ _).alloc (Nat.le_refl _) _
  go_enter Tryd.func30, Tryd.ntmps30
  go_wp2_with (fail)
  refine (hmem _).mono ?_
  rintro e w1 ⟨v1, rfl, ho1, hB1⟩
  rw [mem_16] at ho1
  obtain ⟨A1, k1, rfl⟩ := own_shape ho1
  have hb := hb0.below hB1
  have hB := hB0.trans (hB1.mono hB0.size)
  have c0 := hb.cellAt 0 _ rfl
  obtain ⟨s, hs⟩ : ∃ s, s = szM M := ⟨_, rfl⟩
  have hr : rgt n M = decide (0 ≤ n ∧ n ≤ 60 ∧ 4 ≤ s ∧ s ≤ 7) := by rw [hs]; rfl
  rw [← hs] at hl ⊢
  have Hr := hid hr
  clear hr hs ho1 hB0 hb0
  go_wp2
  all_goals (go_ret; exact ⟨by rw [Hr.out]; exact ret_b (by rw [Bool.eq_iff_iff]; simp; try omega), hB⟩)
def szR (n : Int) (M : Nat) : Nat := if rgt n M then szM M else 0
theorem szR_bd (n : Int) (M : Nat) : szR n M = 0 ∨ (rgt n M = true ∧ szR n M = szM M ∧ 4 ≤ szR n M ∧ szR n M ≤ 7) := by
  unfold szR
  cases h : rgt n M with
  | true => have := rgt_sz h; exact .inr ⟨rfl, rfl, this.2.2.1, this.2.2.2⟩
  | false => exact .inl rfl
theorem szR_0 {n : Int} {M : Nat} (h : szR n M = 0) : rgt n M = false := by
  rcases hr : rgt n M with _ | _
  · rfl
  · unfold szR at h; rw [hr] at h; have := rgt_sz hr; simp at h; omega
theorem flt_R (n : Int) (M : Nat) : fltN n M = if szR n M = 7 then 2 else if 4 ≤ szR n M then 1 else 0 := by
  rcases szR_bd n M with h | ⟨h, h1, h2, h3⟩
  · unfold fltN; rw [szR_0 h, h]; rfl
  · unfold fltN; rw [if_pos h, ← h1]; split <;> (try rw [if_pos h2]) <;> omega
theorem quo_R (n : Int) (M : Nat) : quoN n M = if szR n M = 0 then 0 else (szR n M + fltN n M) / 2 + 1 := by
  rcases szR_bd n M with h | ⟨h, h1, h2, h3⟩
  · unfold quoN; rw [szR_0 h, if_pos h]; rfl
  · unfold quoN; rw [if_pos h, if_neg (by omega), h1]
theorem eno_R (n : Int) (M : Nat) : enoN n M = szR n M - fltN n M := by
  rcases szR_bd n M with h | ⟨h, h1, h2, h3⟩
  · unfold enoN; rw [szR_0 h, h]; simp
  · unfold enoN; rw [if_pos h, h1]
theorem som_R (n : Int) (M : Nat) : somN n M = if szR n M = 0 then 0 else fltN n M + 1 := by
  rcases szR_bd n M with h | ⟨h, h1, h2, h3⟩
  · unfold somN; rw [szR_0 h, if_pos h]; rfl
  · unfold somN; rw [if_pos h, if_neg (by omega)]
theorem has_mem (M : Nat) (i : Int) : hasB M i = true ↔ ∃ x ∈ memL M 16, (x : Int) = i := by
  unfold hasB
  rw [Bool.and_eq_true, decide_eq_true_iff]
  constructor
  · rintro ⟨h1, h2⟩
    exact ⟨i.toNat, (mem_iff M 16 _).2 ⟨by omega, h2⟩, by omega⟩
  · rintro ⟨x, hx, rfl⟩
    have := (mem_iff M 16 x).1 hx
    exact ⟨by omega, by rw [Int.toNat_natCast]; exact this.2⟩
end Go.Proofs.YtfjgfaccfjdklaaDoor
/- W5: layer 6: wakes, same, the law ViewsCounts. -/
namespace Go.Proofs.YtfjgfaccfjdklaaDoor
open Go.RowKit Go.V
theorem leadZ_bd (n : Int) (M : Nat) (r : Int) : -1 ≤ leadZ n M r ∧ leadZ n M r < 16 := by
  unfold leadZ
  split
  · rename_i h
    have hz := rgt_sz h.1
    have hlt : r.toNat % szM M < szM M := Nat.mod_lt _ (by omega)
    obtain ⟨x, hx, hx16, _⟩ := mem_at M _ hlt
    rw [List.getD, hx]
    simp
    omega
  · omega
end Go.Proofs.YtfjgfaccfjdklaaDoor
/- W8: layer 6: contracts of Next, by the program and by the document; the law ViewsNext. -/
namespace Go.Proofs.YtfjgfaccfjdklaaDoor
open Go.RowKit Go.V
theorem zeroV : (Tryd.prog.info? 24).map (·.zero) = some (some (.agg [.int .i64 0, .int .u16 0].toArray)) := by kernel_rfl
theorem szM_0 : szM 0 = 0 := by decide
theorem rgt_ne {n : Int} {M : Nat} (h : rgt n M = true) : M ≠ 0 := by
  intro e
  subst e
  have := (rgt_sz h).2.2.1
  rw [szM_0] at this
  omega
/-- two views' cells -/
def vcs (n : Int) (M : Nat) : List Value := [.int .i64 n, .int .u16 (M : Int)]
set_option maxHeartbeats 400000 in
theorem ronly_any (n : Int) (M : Nat) (w : World) (h : M < 65536) :
    Calls Tryd.prog 69 #[vw n M] w fun e w' => e = .returned (if rgt n M then vw n M else vw 0 0) ∧ Below w.heap.size w w' := by
  have hrt := (right_any n M · h)
  obtain ⟨u, hu⟩ : ∃ u, u = (if rgt n M then vw n M else vw 0 0) := ⟨_, rfl⟩
  rw [← hu]
  have Hu := hid hu
  clear hu
  unfold vw at hrt Hu ⊢
  have hb0 := (Blk.new' w 24 [.int .i64 n, .int .u16 (M : Int)]).alloc (.cells #[.int .i64 0, .int .u16 0] 24)
  have hb1 := Blk.new' (w.alloc (.cells #[.int .i64 n, .int .u16 (M : Int)] 24)) 24 [.int .i64 0, .int .u16 0]
  have hB := ((Below.refl w.heap.size w).alloc (Nat.le_refl _) (.cells #[.int .i64 n, .int .u16 (M : Int)] 24)).alloc (by simp) (.cells #[.int .i64 0, .int .u16 0] 24)
  rw [show (w.alloc (.cells #[.int .i64 n, .int .u16 (M : Int)] 24)).heap.size = w.heap.size + 1 from by simp] at hb1
  go_enter Tryd.func69, Tryd.ntmps69
  go_wp2_with (fail)
  obtain ⟨w0, hw0⟩ : ∃ w0, w0 = (w.alloc (.cells #[.int .i64 n, .int .u16 (M : Int)] 24)).alloc (.cells #[.int .i64 0, .int .u16 0] 24) := ⟨_, rfl⟩
  rw [← hw0] at hb0 hb1 hB ⊢
  clear hw0
  obtain ⟨g, hg⟩ : ∃ g, g = w.heap.size := ⟨_, rfl⟩
  obtain ⟨g2, hg2⟩ : ∃ b, b = w.heap.size + 1 := ⟨_, rfl⟩
  rw [← hg] at hb0
  rw [← hg2] at hb1
  rw [← hg2, ← hg]
  have hg2w : w.heap.size ≤ g2 := by omega
  have hne : g2 ≠ g := by omega
  clear hg hg2
  refine (hrt _).mono ?_
  rintro e w1 ⟨rfl, hB1⟩
  have hc0 := hb0.below hB1
  have hc1 := hb1.below hB1
  have hB1' := hB.trans (hB1.mono hB.size)
  have c0 := hc0.cellAt 0 _ rfl
  have c1 := hc0.cellAt 1 _ rfl
  cases hr : rgt n M with
  | true =>
    rw [hr] at Hu
    clear hr
    go_wp2_with (refine wp_st 24 (.tmp 2) (.tmp 7) rfl rfl rfl (f := 0) rfl (l := [.int .i64 n, .int .u16 (M : Int)]) rfl hc1 (by simp) sizeV (by intro v hv; simp at hv; rcases hv with rfl | rfl <;> rfl) ?_; intro w2 hd2 hG2; refine wp_stop ?_)
    refine wp_go ?_
    go_wp2
    refine ret_cell rfl rfl hd2.whole Tryd.underlying24 rfl sizeV rfl ?_
    exact ⟨by rw [Hu.out]; rfl, hB1'.grown hG2 hB1'.size (by intro k hk; injection hk with hk; omega)⟩
  | false =>
    rw [hr] at Hu
    clear hr
    go_wp2_with (refine wp_st 24 (.tmp 2) (.tmp 6) rfl rfl rfl (f := 0) rfl (l := [.int .i64 0, .int .u16 0]) rfl hc1 (by simp) sizeV (by intro v hv; simp at hv; rcases hv with rfl | rfl <;> rfl) ?_; intro w2 hd2 hG2; refine wp_stop ?_)
    refine wp_go ?_
    go_wp2
    refine ret_cell rfl rfl hd2.whole Tryd.underlying24 rfl sizeV rfl ?_
    exact ⟨by rw [Hu.out]; rfl, hB1'.grown hG2 hB1'.size (by intro k hk; injection hk with hk; omega)⟩
/-- may the next view be that one? -/
def nxB (n : Int) (M : Nat) (k : Int) : Bool := rgt n M && decide (0 ≤ k ∧ k ≤ 65535) && rgt (n + 1) k.toNat
def nxR (n : Int) (M : Nat) (k : Int) : Value := if nxB n M k then .tuple #[vw (n + 1) k.toNat, .int .i64 0] else .tuple #[vw 0 0, .int .i64 3]
theorem nxR_no {n : Int} {M : Nat} {k : Int} (h : nxB n M k = false) : nxR n M k = .tuple #[.agg #[.int .i64 0, .int .u16 0], .int .i64 3] := by unfold nxR; rw [h]; rfl
set_option maxRecDepth 100000 in
set_option maxHeartbeats 1000000 in
theorem next_any (n : Int) (M : Nat) (k : Int) (w : World) (h : M < 65536) (_h1 : -9223372036854775808 ≤ k) (_h2 : k ≤ 9223372036854775807) :
    Calls Tryd.prog 76 #[vw n M, .int .i64 k] w fun e w' => e = .returned (nxR n M k) ∧ Below w.heap.size w w' := by
  have hrt := (right_any n M · h)
  have hro := (fun (q : Nat) W hq => ronly_any (n + 1) q W (hq : q < 65536))
  have hz := rgt_sz (n := n) (M := M)
  have hnb : nxB n M k = (rgt n M && decide (0 ≤ k ∧ k ≤ 65535) && rgt (n + 1) k.toNat) := rfl
  have hno := nxR_no (n := n) (M := M) (k := k)
  have hyes : nxB n M k = true → nxR n M k = .tuple #[vw (n + 1) k.toNat, .int .i64 0] := fun h => by unfold nxR; rw [if_pos h]
  obtain ⟨u, hu⟩ : ∃ u, u = nxR n M k := ⟨_, rfl⟩
  rw [← hu] at hno hyes ⊢
  clear hu
  unfold vw at hrt hro hyes ⊢
  have hb0 := (Blk.new' w 24 [.int .i64 n, .int .u16 (M : Int)]).alloc (.cells #[.int .i64 0, .int .u16 0] 24)
  have hb1 := Blk.new' (w.alloc (.cells #[.int .i64 n, .int .u16 (M : Int)] 24)) 24 [.int .i64 0, .int .u16 0]
  have hB := ((Below.refl w.heap.size w).alloc (Nat.le_refl _) (.cells #[.int .i64 n, .int .u16 (M : Int)] 24)).alloc (by simp) (.cells #[.int .i64 0, .int .u16 0] 24)
  rw [show (w.alloc (.cells #[.int .i64 n, .int .u16 (M : Int)] 24)).heap.size = w.heap.size + 1 from by simp] at hb1
  go_enter Tryd.func76, Tryd.ntmps76
  go_wp2_with (fail)
  obtain ⟨w0, hw0⟩ : ∃ w0, w0 = (w.alloc (.cells #[.int .i64 n, .int .u16 (M : Int)] 24)).alloc (.cells #[.int .i64 0, .int .u16 0] 24) := ⟨_, rfl⟩
  rw [← hw0] at hb0 hb1 hB ⊢
  clear hw0
  obtain ⟨g, hg⟩ : ∃ g, g = w.heap.size := ⟨_, rfl⟩
  obtain ⟨g2, hg2⟩ : ∃ b, b = w.heap.size + 1 := ⟨_, rfl⟩
  rw [← hg] at hb0
  rw [← hg2] at hb1
  rw [← hg2, ← hg]
  have hg2w : w.heap.size ≤ g2 := by omega
  have hne : g2 ≠ g := by omega
  clear hg hg2
  refine (hrt _).mono ?_
  rintro e w1 ⟨rfl, hB1⟩
  have hc0 := hb0.below hB1
  have hc1 := hb1.below hB1
  have hB1' := hB.trans (hB1.mono hB.size)
  have c0 := hc0.cellAt 0 _ rfl
  have c1 := hc0.cellAt 1 _ rfl
  by_cases hin : rgt n M = true ∧ 0 ≤ k ∧ k ≤ 65535
  · obtain ⟨hr, hk0, hk1⟩ := hin
    have hz := hz hr
    rw [hr, decide_eq_true ⟨hk0, hk1⟩, Bool.true_and, Bool.true_and] at hnb
    rw [hr]
    obtain ⟨q, rfl⟩ := Int.eq_ofNat_of_zero_le hk0
    rw [Int.toNat_natCast] at hnb hyes
    have hro1 := hro q
    clear hro
    have hq : q < 65536 := by omega
    have hr3 := fun hx => rgt_ne (n := n + 1) (M := q) hx
    obtain ⟨b3, hb3⟩ : ∃ b, b = rgt (n + 1) q := ⟨_, rfl⟩
    rw [← hb3] at hnb hr3 hro1
    clear hb3
    rw [hnb] at hno hyes
    have Hno := hid hno
    have Hyes := hid hyes
    clear hno hyes hnb hr
    have hd1 : decide ((q : Int) < 0) = false := decide_eq_false (by omega)
    have hd2 : decide ((65535 : Int) < (q : Int)) = false := decide_eq_false (by omega)
    have hq0 : b3 = true → ((q : Int) == 0) = false := fun hx => by rw [beq_eq_false_iff_ne]; have := hr3 hx; omega
    have hn0 : ((n + 1 : Int) == 0) = false := by rw [beq_eq_false_iff_ne]; omega
    go_wp2_with (fail)
    refine (hro1 _ hq).mono ?_
    rintro e w2 ⟨rfl, hB2⟩
    have hc2 := hc1.below hB2
    have hB2' := hB1'.trans (hB2.mono hB1'.size)
    have hg2l := hc2.lt
    have hsz2 := hB2'.size
    clear c0 c1 hc0 hc1
    cases b3 with
    | true =>
      rw [if_pos rfl]
      have hq1 := hq0 rfl
      clear hq0 hr3 hro1
      go_wp2_with (refine wp_st 24 (.tmp 4) (.tmp 30) rfl rfl rfl (f := 0) rfl (l := [.int .i64 (n + 1), .int .u16 (q : Int)]) rfl (hc2.alloc _) (by simp) sizeV (by intro v hv; simp at hv; rcases hv with rfl | rfl <;> rfl) ?_; intro w3 hd3 hG3; refine wp_stop ?_)
      refine wp_go ?_
      go_wp2
      refine ret_cell1 rfl rfl rfl hd3.whole Tryd.underlying24 rfl sizeV rfl ?_
      exact ⟨by rw [Hyes.out trivial]; rfl, (hB2'.alloc hB2'.size _).grown hG3 (by have := hB2'.size; simp; omega) (by intro k hk; injection hk with hk; omega)⟩
    | false =>
      rw [if_neg (by intro h; cases h)]
      clear hq0 hr3 hro1
      go_wp2_with (refine wp_st 24 (.tmp 4) (.tmp 29) rfl rfl rfl (f := 0) rfl (l := [.int .i64 0, .int .u16 0]) rfl (hc2.alloc _) (by simp) sizeV (by intro v hv; simp at hv; rcases hv with rfl | rfl <;> rfl) ?_; intro w3 hd3 hG3; refine wp_stop ?_)
      refine wp_go ?_
      go_wp2
      refine ret_cell1 rfl rfl rfl hd3.whole Tryd.underlying24 rfl sizeV rfl ?_
      exact ⟨by rw [Hno.out trivial]; rfl, (hB2'.alloc hB2'.size _).grown hG3 (by have := hB2'.size; simp; omega) (by intro k hk; injection hk with hk; omega)⟩
  · have hb : nxB n M k = false := by
      rw [hnb]
      cases hr : rgt n M with
      | false => rfl
      | true => rw [decide_eq_false (fun h => hin ⟨hr, h⟩)]; rfl
    have hno := hno hb
    have Hno := hid hno
    clear hno hyes hb hnb
    cases hr : rgt n M with
    | false =>
      clear hz hr hin
      go_wp2_with (refine wp_st 24 (.tmp 4) (.tmp 18) rfl rfl rfl (f := 0) rfl (l := [.int .i64 0, .int .u16 0]) rfl hc1 (by simp) sizeV (by intro v hv; simp at hv; rcases hv with rfl | rfl <;> rfl) ?_; intro w3 hd3 hG3; refine wp_stop ?_)
      refine wp_go ?_
      go_wp2
      refine ret_cell1 rfl rfl rfl hd3.whole Tryd.underlying24 rfl sizeV rfl ?_
      exact ⟨by rw [Hno.out]; rfl, hB1'.grown hG3 hB1'.size (by intro k hk; injection hk with hk; omega)⟩
    | true => 
      have hk : k < 0 ∨ 65535 < k := by
        rcases Int.lt_or_le k 0 with h1 | h1
        · exact .inl h1
        · exact .inr (by rcases Int.lt_or_le 65535 k with h2 | h2; exact h2; exact absurd ⟨hr, h1, h2⟩ hin)
      clear hz hr hin
      by_cases hk0 : k < 0
      · have hd1 : decide (k < 0) = true := decide_eq_true hk0
        go_wp2_with (refine wp_st 24 (.tmp 4) (.tmp 18) rfl rfl rfl (f := 0) rfl (l := [.int .i64 0, .int .u16 0]) rfl hc1 (by simp) sizeV (by intro v hv; simp at hv; rcases hv with rfl | rfl <;> rfl) ?_; intro w3 hd3 hG3; refine wp_stop ?_)
        refine wp_go ?_
        go_wp2
        refine ret_cell1 rfl rfl rfl hd3.whole Tryd.underlying24 rfl sizeV rfl ?_
        exact ⟨by rw [Hno.out]; rfl, hB1'.grown hG3 hB1'.size (by intro k hk; injection hk with hk; omega)⟩
      · have hd1 : decide (k < 0) = false := decide_eq_false hk0
        have hd2 : decide (65535 < k) = true := decide_eq_true (by omega)
        go_wp2_with (refine wp_st 24 (.tmp 4) (.tmp 18) rfl rfl rfl (f := 0) rfl (l := [.int .i64 0, .int .u16 0]) rfl hc1 (by simp) sizeV (by intro v hv; simp at hv; rcases hv with rfl | rfl <;> rfl) ?_; intro w3 hd3 hG3; refine wp_stop ?_)
        refine wp_go ?_
        go_wp2
        refine ret_cell1 rfl rfl rfl hd3.whole Tryd.underlying24 rfl sizeV rfl ?_
        exact ⟨by rw [Hno.out]; rfl, hB1'.grown hG3 hB1'.size (by intro k hk; injection hk with hk; omega)⟩
/-- the parts of what Next answers -/
def nxN (n : Int) (M : Nat) (k : Int) : Int := if nxB n M k then n + 1 else 0
def nxM (n : Int) (M : Nat) (k : Int) : Nat := if nxB n M k then k.toNat else 0
theorem nxR_eq (n : Int) (M : Nat) (k : Int) : nxR n M k = .tuple #[vw (nxN n M k) (nxM n M k), .int .i64 (if nxB n M k then 0 else 3)] := by
  unfold nxR nxN nxM
  cases nxB n M k <;> rfl
theorem nxB_spec {n : Int} {M : Nat} {k : Int} (h : nxB n M k = true) : rgt n M = true ∧ 0 ≤ k ∧ k ≤ 65535 ∧ rgt (n + 1) k.toNat = true := by
  unfold nxB at h
  rw [Bool.and_eq_true, Bool.and_eq_true, decide_eq_true_iff] at h
  exact ⟨h.1.1, h.1.2.1, h.1.2.2, h.2⟩
end Go.Proofs.YtfjgfaccfjdklaaDoor
