/- W2: several texts in one (Z1 W0 W1 W2). -/
import Derived.Test.YtnhhbbjkeekneaaGreatDoorYG
import Derived.Test.YtnhhbbjkeekneaaGreatDoorT5
import Derived.Test.YtnhhbbjkeekneaaGreatDoorV
import Derived.Test.YtnhhbbjkeekneaaGreatDoorVA
import Derived.Test.YtnhhbbjkeekneaaGreatDoorM1
import Derived.Lib.BitFns
import Derived.Test.YtnhhbbjkeekneaaGreatDoorRB
/- Z1: layer 9: seals as lists; long; the document's Seal. -/
namespace Go.Proofs.YtnhhbbjkeekneaaGreatDoor
open Go.RowKit Go.V
/-- the seal of m's sender -/
def keyOf (ks : List (List UInt8)) (m : Mg) : List UInt8 := ks.getD m.f.toNat []
def errS (ks : List (List UInt8)) (m : Mg) : Nat := if errG m = 0 then (if (ks.length : Int) ≤ m.f then 6 else 0) else errG m
def slS (ks : List (List UInt8)) (m : Mg) : List UInt8 := Mg.by m ++ tagF (keyOf ks m) (Mg.by m)
/-- what sealed bytes open to -/
def opR (ks : List (List UInt8)) (X : List UInt8) : Except Nat Mg :=
  if X.length < 32 then .error 1 else if 65504 < X.length - 32 then .error 4 else match rdM (X.take (X.length - 32)) with
    | .error e => .error e
    | .ok m => if (ks.length : Int) ≤ m.f then .error 6 else if tagF (keyOf ks m) (X.take (X.length - 32)) = X.drop (X.length - 32) then .ok m else .error 5
theorem errG_bd {m : Mg} (he : errG m = 0) : m.ps.length ≤ 16 ∧ (Mg.by m).length ≤ 65504 ∧ numB m = true := by
  unfold errG at he
  split at he
  · cases he
  · split at he
    · exact ⟨by omega, by omega, by assumption⟩
    · cases he
theorem part_le : ∀ (ps : List (List UInt8)) (t : List UInt8), t ∈ ps → t.length ≤ (ps.flatMap tb1).length
  | p :: ps, t, h => by
    rw [List.flatMap_cons, List.length_append]
    rcases List.mem_cons.1 h with rfl | h
    · unfold tb1; rw [List.length_append]; omega
    · have := part_le ps t h; omega
theorem body_le {m : Mg} (hh : m.h.length = 32) (h : (Mg.by m).length ≤ 65504) : m.b.length ≤ 65536 ∧ ∀ t ∈ m.ps, t.length ≤ 65536 := by
  rw [len_by2 hh] at h
  exact ⟨by omega, fun t ht => by have := part_le m.ps t ht; omega⟩
theorem rdM_by {m : Mg} (hh : m.h.length = 32) (he : errG m = 0) : rdM (Mg.by m) = .ok m := by
  obtain ⟨h1, h2, h3⟩ := errG_bd he
  obtain ⟨h4, h5⟩ := body_le hh h2
  have := rdM_put hh h3 h4 h1 h5 []
  rwa [List.append_nil, if_pos rfl] at this
theorem errS_0 {ks : List (List UInt8)} {m : Mg} (h : errS ks m = 0) : errG m = 0 ∧ m.f < (ks.length : Int) := by
  unfold errS at h
  split at h
  · split at h
    · cases h
    · exact ⟨by assumption, by omega⟩
  · exact absurd h (by assumption)
/-- what any 32 bytes behind a message's open to -/
theorem op_at {ks : List (List UInt8)} {m : Mg} (hh : m.h.length = 32) (he : errS ks m = 0) (T : List UInt8) (hT : T.length = 32) : opR ks (Mg.by m ++ T) = if tagF (keyOf ks m) (Mg.by m) = T then .ok m else .error 5 := by
  obtain ⟨hg, hf⟩ := errS_0 he
  have hl := (errG_bd hg).2.1
  have hn : (Mg.by m ++ T).length - 32 = (Mg.by m).length := by rw [List.length_append, hT]; omega
  unfold opR
  rw [if_neg (by rw [List.length_append, hT]; omega), hn, if_neg (by omega), List.take_left, List.drop_left, rdM_by hh hg]
  dsimp only
  rw [if_neg (by omega)]
theorem op_sl {ks : List (List UInt8)} {m : Mg} (hh : m.h.length = 32) (he : errS ks m = 0) : opR ks (slS ks m) = .ok m := by
  unfold slS
  rw [op_at hh he _ (len_tag _ _), if_pos rfl]
theorem errS_num {m : Mg} (h : numB m = true) : 0 ≤ m.f ∧ m.f ≤ 15 := by
  unfold numB at h
  have := of_decide_eq_true h
  omega
structure KsSm (ks : List (List UInt8)) : Prop where
  n : ks.length ≤ 1000000
  t : ∀ k ∈ ks, k.length ≤ 1000000
theorem KsSm.key {ks : List (List UInt8)} (h : KsSm ks) (m : Mg) : (keyOf ks m).length ≤ 1000000 := by
  unfold keyOf
  rw [List.getD_eq_getElem?_getD]
  cases hk : ks[m.f.toNat]? with
  | none => simp
  | some k => exact h.t k (List.mem_of_getElem? hk)
end Go.Proofs.YtnhhbbjkeekneaaGreatDoor
/- W0: layer 6: the bits of a mask as a list; what two sets share. -/
namespace Go.V
/-- the bits of a mask, from the lowest on -/
def mbit (M i : Nat) : Bool := decide (M / 2 ^ i % 2 = 1)
def memL (M n : Nat) : List Nat := (List.range n).filter (mbit M)
theorem mem_succ (M n : Nat) : memL M (n + 1) = memL M n ++ (if mbit M n then [n] else []) := by
  unfold memL
  rw [List.range_succ, List.filter_append]
  congr 1
  simp [List.filter_cons]
theorem mem_len_le (M n : Nat) : (memL M n).length ≤ n := by
  unfold memL
  have := List.length_filter_le (mbit M) (List.range n)
  simpa using this
theorem mem_iff (M n i : Nat) : i ∈ memL M n ↔ i < n ∧ mbit M i = true := by
  unfold memL
  simp [List.mem_filter]
theorem mbit_test (M i : Nat) : mbit M i = M.testBit i := by
  unfold mbit
  rw [Nat.testBit_eq_decide_div_mod_eq]
end Go.V
/- W1: layer 6: contracts of package views: who is a member, and how many. -/
namespace Go.V
open Go.RowKit
/-- a view -/
def vw (n : Int) (M : Nat) : Value := .agg #[.int .i64 n, .int .u16 (M : Int)]
def szM (M : Nat) : Nat := (memL M 16).length
/-- is it a view that there may be? -/
def rgt (n : Int) (M : Nat) : Bool := decide (0 ≤ n ∧ n ≤ 60 ∧ 4 ≤ szM M ∧ szM M ≤ 7)
/-- is i a member? -/
def hasB (M : Nat) (i : Int) : Bool := decide (0 ≤ i ∧ i < 16) && mbit M i.toNat
theorem pop_mem : ∀ (n M : Nat), Lib.popAux n M = (memL M n).length
  | 0, M => by simp [memL, Lib.popAux]
  | n + 1, M => by
    have e : memL M (n + 1) = (if mbit M 0 then [0] else []) ++ (memL (M / 2) n).map (· + 1) := by
      unfold memL
      rw [List.range_succ_eq_map, List.filter_cons, List.filter_map]
      have : (mbit M ∘ Nat.succ) = mbit (M / 2) := by
        funext i
        simp only [Function.comp, mbit, Nat.succ_eq_add_one]
        rw [Nat.pow_succ, Nat.mul_comm, ← Nat.div_div_eq_div_mul]
      rw [this]
      split <;> simp
    rw [Lib.popAux, pop_mem n (M / 2), e]
    have h2 : M % 2 = (if mbit M 0 then [0] else [] : List Nat).length := by
      unfold mbit
      simp only [Nat.pow_zero, Nat.div_one]
      by_cases h : M % 2 = 1
      · simp [h]
      · simp [h]; omega
    rw [h2]
    simp
theorem pop_add : ∀ (a b M : Nat), Lib.popAux (a + b) M = Lib.popAux a M + Lib.popAux b (M / 2 ^ a)
  | 0, b, M => by simp [Lib.popAux]
  | a + 1, b, M => by
    rw [show a + 1 + b = (a + b) + 1 from by omega, Lib.popAux, Lib.popAux, pop_add a b, Nat.div_div_eq_div_mul, ← Nat.pow_succ', Nat.add_assoc]
theorem pop_low : ∀ (a M : Nat), Lib.popAux a (M % 2 ^ a) = Lib.popAux a M
  | 0, M => by simp [Lib.popAux]
  | a + 1, M => by
    rw [Lib.popAux, Lib.popAux]
    have e1 : M % 2 ^ (a + 1) % 2 = M % 2 := Nat.mod_mod_of_dvd _ ⟨2 ^ a, by rw [Nat.pow_succ, Nat.mul_comm]⟩
    have e2 : M % 2 ^ (a + 1) / 2 = M / 2 % 2 ^ a := by
      rw [Nat.pow_succ, Nat.mul_comm, Nat.mod_mul_right_div_self]
    rw [e1, e2, pop_low a]
theorem pop8_le : ∀ n : Fin 256, Lib.pop8 (n.val : Int) = (Lib.popAux 8 n.val : Int) := by decide +kernel
theorem pop8_of (n : Nat) (h : n < 256) : Lib.pop8 (n : Int) = ((Lib.popAux 8 n : Nat) : Int) := pop8_le ⟨n, h⟩
theorem pop_le (n M : Nat) : Lib.popAux n M ≤ n := by rw [pop_mem]; exact mem_len_le M n
theorem sz_pop (M : Nat) (h : M < 65536) : (szM M : Int) = Lib.pop8 ((M / 256 : Nat) : Int) + Lib.pop8 ((M % 256 : Nat) : Int) := by
  rw [pop8_of _ (by omega), pop8_of _ (by omega)]
  unfold szM
  rw [← pop_mem, show 16 = 8 + 8 from rfl, pop_add 8 8 M, show 256 = 2 ^ 8 from rfl, pop_low 8 M]
  omega
theorem sz_le (M : Nat) : szM M ≤ 16 := mem_len_le M 16
end Go.V
namespace Go.Proofs.YtnhhbbjkeekneaaGreatDoor
open Go.RowKit Go.V

theorem and255 (M : Nat) (h : M < 65536) : bits .and .u16 (M : Int) 255 = (M : Int) % 256 := by
  have := u16_and_nat M 255 h (by omega)
  rw [show M &&& 255 = M % 256 from Nat.and_two_pow_sub_one_eq_mod M 8] at this
  rw [show ((255 : Nat) : Int) = 255 from rfl] at this
  rw [this]
  omega
theorem ones_any (M : Nat) (w : World) (h : M < 65536) :
    Calls Tryz.prog 36 #[.int .u16 (M : Int)] w fun e w' => e = .returned (.int .i64 (szM M : Int)) ∧ ∃ n, w' = w.drewN n := by
  have hz := sz_pop M h
  have hl := sz_le M
  have e1 := pop8_of (M / 256) (by omega)
  have e2 := pop8_of (M % 256) (by omega)
  have l1 := pop_le 8 (M / 256)
  have l2 := pop_le 8 (M % 256)
  have b1 : 0 ≤ (M : Int) / 256 := by omega
  have b2 : (M : Int) / 256 ≤ 255 := by omega
  have hand := and255 M h
  have HZ := hid hz
  have H1 := hid e1
  have H2 := hid e2
  clear hz e1 e2
  go_enter Tryz.func36, Tryz.ntmps36
  go_wp2
  go_quiet (fail)
  go_wp2
  go_ret
  refine ⟨ret_i ?_, _, rfl⟩
  rw [HZ.out, show (M : Int) / 256 = ((M / 256 : Nat) : Int) from rfl, show (M : Int) % 256 = ((M % 256 : Nat) : Int) from rfl, H1.out, H2.out]
  generalize Lib.popAux 8 (M / 256) = p at *
  generalize Lib.popAux 8 (M % 256) = q at *
  omega
set_option maxHeartbeats 400000 in
theorem size_any (n : Int) (M : Nat) (w : World) (h : M < 65536) :
    Calls Tryz.prog 37 #[vw n M] w fun e w' => e = .returned (.int .i64 (szM M : Int)) ∧ Below w.heap.size w w' := by
  unfold vw
  go_enter Tryz.func37, Tryz.ntmps37
  go_wp2_with (fail)
  refine (ones_any M _ h).mono ?_
  rintro e w1 ⟨rfl, k, rfl⟩
  go_wp2
  go_ret
  exact ⟨rfl, Go.below_drewN ((Below.refl _ _).alloc (Nat.le_refl _) _) k⟩
theorem right_any (n : Int) (M : Nat) (w : World) (h : M < 65536) :
    Calls Tryz.prog 19 #[vw n M] w fun e w' => e = .returned (.bool (rgt n M)) ∧ Below w.heap.size w w' := by
  have hl := sz_le M
  have hsz := (size_any n M · h)
  unfold vw at hsz ⊢
  go_enter Tryz.func19, Tryz.ntmps19
  go_wp2_with (fail)
  refine (hsz _).mono ?_
  rintro e w1 ⟨rfl, hB1⟩
  have hb := (Blk.new' w 24 [.int .i64 n, .int .u16 (M : Int)]).below hB1
  have hB : Below w.heap.size w w1 := ((Below.refl _ _).alloc (Nat.le_refl _) _).trans (hB1.mono (by simp))
  have c0 := hb.cellAt 0 _ rfl
  obtain ⟨s, hs⟩ : ∃ s, s = szM M := ⟨_, rfl⟩
  have hr : rgt n M = decide (0 ≤ n ∧ n ≤ 60 ∧ 4 ≤ s ∧ s ≤ 7) := by rw [hs]; rfl
  rw [← hs] at hl ⊢
  have Hr := hid hr
  clear hr hs
  go_wp2
  all_goals (go_ret; exact ⟨by rw [Hr.out]; exact ret_b (by rw [Bool.eq_iff_iff]; simp; try omega), hB⟩)
theorem bit_eq (M k : Nat) (h : M < 65536) : (bits .and .u16 ((M : Int) / 2 ^ k) 1 == 1) = mbit M k := by
  have e : (M : Int) / 2 ^ k = ((M / 2 ^ k : Nat) : Int) := by rw [Int.natCast_ediv, Int.natCast_pow]; rfl
  have hd : M / 2 ^ k < 65536 := Nat.lt_of_le_of_lt (Nat.div_le_self _ _) h
  have := u16_and_nat (M / 2 ^ k) 1 hd (by omega)
  rw [show M / 2 ^ k &&& 1 = M / 2 ^ k % 2 from Nat.and_two_pow_sub_one_eq_mod _ 1] at this
  rw [e, show (1 : Int) = ((1 : Nat) : Int) from rfl, this]
  unfold mbit
  rw [Bool.eq_iff_iff, beq_iff_eq, decide_eq_true_iff]
  omega
theorem has_any (n : Int) (M : Nat) (i : Int) (w : World) (h : M < 65536) (_h1 : -9223372036854775808 ≤ i) (_h2 : i ≤ 9223372036854775807) :
    Calls Tryz.prog 39 #[vw n M, .int .i64 i] w fun e w' => e = .returned (.bool (hasB M i)) ∧ Below w.heap.size w w' := by
  have hb := Blk.new' w 24 [.int .i64 n, .int .u16 (M : Int)]
  have c1 := hb.cellAt 1 _ rfl
  have hB : Below w.heap.size w (w.alloc (.cells #[.int .i64 n, .int .u16 (M : Int)] 24)) := (Below.refl _ _).alloc (Nat.le_refl _) _
  unfold vw
  by_cases h0 : 0 ≤ i
  · obtain ⟨k, rfl⟩ := Int.eq_ofNat_of_zero_le h0
    by_cases h16 : k < 16
    · have hbit := bit_eq M k h
      have hq : hasB M (k : Int) = mbit M k := by
        unfold hasB
        rw [decide_eq_true (by omega), Bool.true_and, Int.toNat_natCast]
      have Hq := hid hq
      clear hq
      have hlt : (k : Int) < 16 := by omega
      go_enter Tryz.func39, Tryz.ntmps39
      go_wp2
      all_goals (go_ret; exact ⟨by rw [Hq.out]; rfl, hB⟩)
    · have Hq : Hid (hasB M (k : Int) = false) := by
        show _ = _
        unfold hasB
        rw [decide_eq_false (by omega), Bool.false_and]
      have hlt : ¬ (k : Int) < 16 := by omega
      go_enter Tryz.func39, Tryz.ntmps39
      go_wp2
      go_ret
      exact ⟨by rw [Hq.out]; rfl, hB⟩
  · have Hq : Hid (hasB M i = false) := by
      show _ = _
      unfold hasB
      rw [decide_eq_false (by omega), Bool.false_and]
    go_enter Tryz.func39, Tryz.ntmps39
    go_wp2
    go_ret
    exact ⟨by rw [Hq.out]; rfl, hB⟩
end Go.Proofs.YtnhhbbjkeekneaaGreatDoor
/- W2: layer 6: contracts of package views: members, how many must agree, who leads. -/
namespace Go.V
open Go.RowKit
end Go.V
namespace Go.Proofs.YtnhhbbjkeekneaaGreatDoor
open Go.RowKit Go.V
/-- a new slice of ints, nothing else turned -/
def NewI (w w' : World) (v : Value) (l : List Nat) : Prop := w'.ownsRow w.heap.size 3 1 v l.length (ivs l) ∧ Below w.heap.size w w'
set_option maxHeartbeats 400000 in
theorem members_any (n : Int) (M : Nat) (w : World) (h : M < 65536) :
    Calls Tryz.prog 40 #[vw n M] w fun e w' => ∃ v', e = .returned v' ∧ NewI w w' v' (memL M 16) := by
  have hl := sz_le M
  have hsz := (size_any n M · h)
  have hhas := (fun (k : Nat) W hk => has_any n M (k : Int) W h (by omega) (hk : (k : Int) ≤ 9223372036854775807))
  unfold vw at hsz hhas ⊢
  have hb := Blk.new' w 24 [.int .i64 n, .int .u16 (M : Int)]
  have hB : Below w.heap.size w (w.alloc (.cells #[.int .i64 n, .int .u16 (M : Int)] 24)) := (Below.refl _ _).alloc (Nat.le_refl _) _
  have hs0 : (w.alloc (.cells #[.int .i64 n, .int .u16 (M : Int)] 24)).heap.size = w.heap.size + 1 := by simp
  go_enter Tryz.func40, Tryz.ntmps40
  go_wp2_with (fail)
  obtain ⟨w0, hw0⟩ : ∃ w0, w0 = w.alloc (.cells #[.int .i64 n, .int .u16 (M : Int)] 24) := ⟨_, rfl⟩
  rw [← hw0] at hb hB hs0 ⊢
  clear hw0
  obtain ⟨g, hg⟩ : ∃ g, g = w.heap.size := ⟨_, rfl⟩
  rw [← hg] at hb ⊢
  have Hg := hid hg
  have Hs0 := hid hs0
  clear hg hs0
  refine (hsz _).mono ?_
  rintro e w1 ⟨rfl, hB1⟩
  have hb1 := hb.below hB1
  have hB1' := hB.trans (hB1.mono hB.size)
  go_wp2_with (refine wp_mk0 slI rfl (.const (.int .i64 0)) (.tmp 6) rfl rfl (szM M) rfl rfl (by omega) (by simp [maxLen]; omega) ?_)
  intro w2 ho2 hB2
  have hb2 := hb1.below hB2
  have hB2' := hB1'.trans (hB2.mono hB1'.size)
  have hs1 := hB1.size
  go_wp2
  go_loopw [3, 8] (fun v' iv wr => ∃ k : Nat, k ≤ 16 ∧ iv = .int .i64 (k : Int) ∧ wr.ownsRow w0.heap.size 3 1 v' (memL M k).length (ivs (memL M k)) ∧ Blk wr g 24 [.int .i64 n, .int .u16 (M : Int)] ∧ Below w.heap.size w wr ∧ w0.heap.size ≤ wr.heap.size) (fun _ iv _ => 16 - (intOf iv).toNat)
  case atStart => exact ⟨0, by omega, rfl, own_weak ho2 hs1, hb2, hB2', by have := hB2.size; omega⟩
  case round =>
    obtain ⟨k, hk, rfl, ho, hbw, hBw, hsw⟩ := hrel
    have c0 := hbw.cellAt 0 _ rfl
    have c1 := hbw.cellAt 1 _ rfl
    by_cases h16 : k < 16
    · have hki : (k : Int) < 16 := by omega
      go_wp2_with (fail)
      refine (hhas k _ (by omega)).mono ?_
      rintro e w3 ⟨rfl, hB3⟩
      have hh : hasB M (k : Int) = mbit M k := by
        unfold hasB
        rw [decide_eq_true (by omega), Bool.true_and, Int.toNat_natCast]
      rw [hh]
      clear hh
      have hb3 := hbw.below hB3
      have hB3' := hBw.trans (hB3.mono hBw.size)
      have ho3 := own_bel ho hB3
      have hs3 := hB3.size
      have hml := mem_len_le M k
      have hms := mem_succ M k
      by_cases hm : mbit M k = true
      · rw [if_pos hm] at hms
        have Hms := hid hms
        clear hms
        go_wp2_with (refine wp_push (.tmp 14) (.tmp 15) 16 slI rfl rfl rfl rfl rfl rfl rfl rfl (by simp) rfl ho3 (by simp only [maxLen]; omega) (by omega) (by omega) ?_)
        intro v4 w4 ho4 hG4 _
        go_wp2
        rw [← ivs_snoc] at ho4
        have hb4 := hb3.keep (hG4.block g hb3.lt (by intro e; have := (ho3.lt _ e.symm).1; have := Hg.out; have := Hs0.out; omega))
        have hB4 := hB3'.grown hG4 hB3'.size (fun k hk => by have := (ho3.lt k hk).1; have := hB.size; omega)
        have hs4 := hG4.size
        go_roundw
        case rel =>
          refine ⟨k + 1, by omega, by go_num, ?_, hb4, hB4, by omega⟩
          rw [Hms.out, List.length_append]
          exact ho4
        case measure => simp [intOf]; omega
      · rw [if_neg hm, List.append_nil] at hms
        have Hms := hid hms
        clear hms
        have hm : mbit M k = false := by simpa using hm
        go_wp2
        go_roundw
        case rel => exact ⟨k + 1, by omega, by go_num, by rw [Hms.out]; exact ho3, hb3, hB3', by omega⟩
        case measure => simp [intOf]; omega
    · have hk16 : k = 16 := by omega
      subst hk16
      go_wp2
      go_ret
      exact ⟨_, rfl, own_weak ho (by have := Hs0.out; omega), hBw⟩
end Go.Proofs.YtnhhbbjkeekneaaGreatDoor
