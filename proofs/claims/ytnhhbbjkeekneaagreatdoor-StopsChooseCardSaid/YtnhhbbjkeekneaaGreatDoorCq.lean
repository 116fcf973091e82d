/- Cq: several texts in one (Z1 W0 W1 W2 W3 Cp Xp Cq). -/
import Derived.Test.YtnhhbbjkeekneaaGreatDoorYG
import Derived.Test.YtnhhbbjkeekneaaGreatDoorT5
import Derived.Test.YtnhhbbjkeekneaaGreatDoorV
import Derived.Test.YtnhhbbjkeekneaaGreatDoorVA
import Derived.Test.YtnhhbbjkeekneaaGreatDoorM1
import Derived.Lib.BitFns
import Derived.Test.YtnhhbbjkeekneaaGreatDoorRB
import Derived.Test.YtnhhbbjkeekneaaGreatDoorYC
import Derived.Test.YtnhhbbjkeekneaaGreatDoorS8
set_option maxRecDepth 100000
set_option maxHeartbeats 16000000
namespace Go.Proofs.YtnhhbbjkeekneaaGreatDoor
open Go.RowKit Go.V
def keyOf (ks : List (List UInt8)) (m : Mg) : List UInt8 := ks.getD m.f.toNat []
def errS (ks : List (List UInt8)) (m : Mg) : Nat := if errG m = 0 then (if (ks.length : Int) <= m.f then 6 else 0) else errG m
def slS (ks : List (List UInt8)) (m : Mg) : List UInt8 := Mg.by m ++ tagF (keyOf ks m) (Mg.by m)
def opR (ks : List (List UInt8)) (X : List UInt8) : Except Nat Mg :=
 if X.length < 32 then .error 1 else if 65504 < X.length - 32 then .error 4 else match rdM (X.take (X.length - 32)) with
  | .error e => .error e
  | .ok m => if (ks.length : Int) <= m.f then .error 6 else if tagF (keyOf ks m) (X.take (X.length - 32)) = X.drop (X.length - 32) then .ok m else .error 5
theorem errG_bd {m : Mg} (he : errG m = 0) : m.ps.length <= 16 /\ (Mg.by m).length <= 65504 /\ numB m = true := by
 unfold errG at he
 split at he
 . cases he
 . split at he
   . exact ⟨by omega, by omega, by assumption⟩
   . cases he
theorem part_le : ∀ (ps : List (List UInt8)) (t : List UInt8), t ∈ ps -> t.length <= (ps.flatMap tb1).length
 | p :: ps, t, h => by
  rw [List.flatMap_cons, List.length_append]; rcases List.mem_cons.1 h with rfl | h
  . unfold tb1; rw [List.length_append]; omega
  . have := part_le ps t h; omega
theorem body_le {m : Mg} (hh : m.h.length = 32) (h : (Mg.by m).length <= 65504) : m.b.length <= 65536 /\ ∀ t ∈ m.ps, t.length <= 65536 := by
 rw [len_by2 hh] at h; exact ⟨by omega, fun t ht => by have := part_le m.ps t ht; omega⟩
theorem rdM_by {m : Mg} (hh : m.h.length = 32) (he : errG m = 0) : rdM (Mg.by m) = .ok m := by
 obtain ⟨h1, h2, h3⟩ := errG_bd he; obtain ⟨h4, h5⟩ := body_le hh h2; have := rdM_put hh h3 h4 h1 h5 []
 rwa [List.append_nil, if_pos rfl] at this
theorem errS_0 {ks : List (List UInt8)} {m : Mg} (h : errS ks m = 0) : errG m = 0 /\ m.f < (ks.length : Int) := by
 unfold errS at h
 split at h
 . split at h
   . cases h
   . exact ⟨by assumption, by omega⟩
 . exact absurd h (by assumption)
theorem op_at {ks : List (List UInt8)} {m : Mg} (hh : m.h.length = 32) (he : errS ks m = 0) (T : List UInt8) (hT : T.length = 32) : opR ks (Mg.by m ++ T) = if tagF (keyOf ks m) (Mg.by m) = T then .ok m else .error 5 := by
 obtain ⟨hg, hf⟩ := errS_0 he; have hl := (errG_bd hg).2.1; have hn : (Mg.by m ++ T).length - 32 = (Mg.by m).length := by rw [List.length_append, hT]; omega
 unfold opR; rw [if_neg (by rw [List.length_append, hT]; omega), hn, if_neg (by omega), List.take_left, List.drop_left, rdM_by hh hg]; dsimp only; rw [if_neg (by omega)]
theorem op_sl {ks : List (List UInt8)} {m : Mg} (hh : m.h.length = 32) (he : errS ks m = 0) : opR ks (slS ks m) = .ok m := by
 unfold slS; rw [op_at hh he _ (len_tag _ _), if_pos rfl]
theorem errS_num {m : Mg} (h : numB m = true) : 0 <= m.f /\ m.f <= 15 := by
 unfold numB at h; have := of_decide_eq_true h; omega
theorem key_at {ks : List (List UInt8)} {m : Mg} {n : Nat} (hf : m.f = (n : Int)) (hn : n < ks.length) : ks[n]? = some (keyOf ks m) := by
 unfold keyOf; rw [hf, Int.toNat_natCast, List.getD_eq_getElem?_getD, List.getElem?_eq_getElem hn]; rfl
structure KsSm (ks : List (List UInt8)) : Prop where
 n : ks.length <= 1000000
 t : ∀ k ∈ ks, k.length <= 1000000
theorem KsSm.key {ks : List (List UInt8)} (h : KsSm ks) (m : Mg) : (keyOf ks m).length <= 1000000 := by
 unfold keyOf; rw [List.getD_eq_getElem?_getD]; cases hk : ks[m.f.toNat]? with
 | none => simp
 | some k => exact h.t k (List.mem_of_getElem? hk)
end Go.Proofs.YtnhhbbjkeekneaaGreatDoor
namespace Go.V
def mbit (M i : Nat) : Bool := decide (M / 2 ^ i % 2 = 1)
def memL (M n : Nat) : List Nat := (List.range n).filter (mbit M)
theorem mem_succ (M n : Nat) : memL M (n + 1) = memL M n ++ (if mbit M n then [n] else []) := by
 unfold memL; rw [List.range_succ, List.filter_append]
 congr 1
 simp [List.filter_cons]
theorem mem_len_le (M n : Nat) : (memL M n).length <= n := by
 unfold memL; have := List.length_filter_le (mbit M) (List.range n); simpa using this
theorem mem_iff (M n i : Nat) : i ∈ memL M n ↔ i < n /\ mbit M i = true := by
 unfold memL; simp [List.mem_filter]
theorem mbit_test (M i : Nat) : mbit M i = M.testBit i := by
 unfold mbit; rw [Nat.testBit_eq_decide_div_mod_eq]
end Go.V
namespace Go.V
open Go.RowKit
def vw (n : Int) (M : Nat) : Value := .agg #[.int .i64 n, .int .u16 (M : Int)]
def szM (M : Nat) : Nat := (memL M 16).length
def rgt (n : Int) (M : Nat) : Bool := decide (0 <= n /\ n <= 60 /\ 4 <= szM M /\ szM M <= 7)
def hasB (M : Nat) (i : Int) : Bool := decide (0 <= i /\ i < 16) && mbit M i.toNat
theorem pop_mem : ∀ (n M : Nat), Lib.popAux n M = (memL M n).length
 | 0, M => by simp [memL, Lib.popAux]
 | n + 1, M => by
  have e : memL M (n + 1) = (if mbit M 0 then [0] else []) ++ (memL (M / 2) n).map (· + 1) := by
   unfold memL; rw [List.range_succ_eq_map, List.filter_cons, List.filter_map]
   have : (mbit M ∘ Nat.succ) = mbit (M / 2) := by
    funext i
    simp only [Function.comp, mbit, Nat.succ_eq_add_one]; rw [Nat.pow_succ, Nat.mul_comm, <- Nat.div_div_eq_div_mul]
   rw [this]
   split <;> simp
  rw [Lib.popAux, pop_mem n (M / 2), e]
  have h2 : M % 2 = (if mbit M 0 then [0] else [] : List Nat).length := by
   unfold mbit; simp only [Nat.pow_zero, Nat.div_one]; by_cases h : M % 2 = 1
   . simp [h]
   . simp [h]; omega
  rw [h2]; simp
theorem pop_add : ∀ (a b M : Nat), Lib.popAux (a + b) M = Lib.popAux a M + Lib.popAux b (M / 2 ^ a)
 | 0, b, M => by simp [Lib.popAux]
 | a + 1, b, M => by
  rw [show a + 1 + b = (a + b) + 1 from by omega, Lib.popAux, Lib.popAux, pop_add a b, Nat.div_div_eq_div_mul, <- Nat.pow_succ', Nat.add_assoc]
theorem pop_low : ∀ (a M : Nat), Lib.popAux a (M % 2 ^ a) = Lib.popAux a M
 | 0, M => by simp [Lib.popAux]
 | a + 1, M => by
  rw [Lib.popAux, Lib.popAux]; have e1 : M % 2 ^ (a + 1) % 2 = M % 2 := Nat.mod_mod_of_dvd _ ⟨2 ^ a, by rw [Nat.pow_succ, Nat.mul_comm]⟩
  have e2 : M % 2 ^ (a + 1) / 2 = M / 2 % 2 ^ a := by
   rw [Nat.pow_succ, Nat.mul_comm, Nat.mod_mul_right_div_self]
  rw [e1, e2, pop_low a]
theorem pop8_le : ∀ n : Fin 256, Lib.pop8 (n.val : Int) = (Lib.popAux 8 n.val : Int) := by decide +kernel
theorem pop8_of (n : Nat) (h : n < 256) : Lib.pop8 (n : Int) = ((Lib.popAux 8 n : Nat) : Int) := pop8_le ⟨n, h⟩
theorem pop_le (n M : Nat) : Lib.popAux n M <= n := by rw [pop_mem]; exact mem_len_le M n
theorem sz_pop (M : Nat) (h : M < 65536) : (szM M : Int) = Lib.pop8 ((M / 256 : Nat) : Int) + Lib.pop8 ((M % 256 : Nat) : Int) := by
 rw [pop8_of _ (by omega), pop8_of _ (by omega)]; unfold szM; rw [<- pop_mem, show 16 = 8 + 8 from rfl, pop_add 8 8 M, show 256 = 2 ^ 8 from rfl, pop_low 8 M]; omega
theorem mem_16 (M : Nat) : (memL M 16).length = szM M := rfl
theorem sz_le (M : Nat) : szM M <= 16 := mem_len_le M 16
end Go.V
namespace Go.Proofs.YtnhhbbjkeekneaaGreatDoor
open Go.RowKit Go.V
theorem and255 (M : Nat) (h : M < 65536) : bits .and .u16 (M : Int) 255 = (M : Int) % 256 := by
 have := u16_and_nat M 255 h (by omega); rw [show M &&& 255 = M % 256 from Nat.and_two_pow_sub_one_eq_mod M 8] at this; rw [show ((255 : Nat) : Int) = 255 from rfl] at this; rw [this]; omega
theorem ones_any (M : Nat) (w : World) (h : M < 65536) :
 Calls Tryz.prog 36 #[.int .u16 (M : Int)] w fun e w' => e = .returned (.int .i64 (szM M : Int)) /\ ∃ n, w' = w.drewN n := by
 have hz := sz_pop M h; have hl := sz_le M; have e1 := pop8_of (M / 256) (by omega); have e2 := pop8_of (M % 256) (by omega); have l1 := pop_le 8 (M / 256); have l2 := pop_le 8 (M % 256); have b1 : 0 <= (M : Int) / 256 := by omega
 have b2 : (M : Int) / 256 <= 255 := by omega
 have hand := and255 M h; have HZ := hid hz; have H1 := hid e1; have H2 := hid e2; clear hz e1 e2; go_enter Tryz.func36, Tryz.ntmps36; go_wp2
 go_quiet (fail)
 go_wp2; go_ret; refine ⟨ret_i ?_, _, rfl⟩; rw [HZ.out, show (M : Int) / 256 = ((M / 256 : Nat) : Int) from rfl, show (M : Int) % 256 = ((M % 256 : Nat) : Int) from rfl, H1.out, H2.out]
 generalize Lib.popAux 8 (M / 256) = p at *
 generalize Lib.popAux 8 (M % 256) = q at *
 omega
theorem size_any (n : Int) (M : Nat) (w : World) (h : M < 65536) :
 Calls Tryz.prog 37 #[vw n M] w fun e w' => e = .returned (.int .i64 (szM M : Int)) /\ Below w.heap.size w w' := by
 unfold vw; go_enter Tryz.func37, Tryz.ntmps37; go_wp2_with (fail); refine (ones_any M _ h).mono ?_; rintro e w1 ⟨rfl, k, rfl⟩; go_wp2; go_ret; exact ⟨rfl, below_drewN ((Below.refl _ _).alloc (Nat.le_refl _) _) k⟩
theorem right_any (n : Int) (M : Nat) (w : World) (h : M < 65536) :
 Calls Tryz.prog 19 #[vw n M] w fun e w' => e = .returned (.bool (rgt n M)) /\ Below w.heap.size w w' := by
 have hl := sz_le M; have hsz := (size_any n M · h)
 unfold vw at hsz |-; go_enter Tryz.func19, Tryz.ntmps19; go_wp2_with (fail); refine (hsz _).mono ?_; rintro e w1 ⟨rfl, hB1⟩; have hb := (Blk.new' w 24 [.int .i64 n, .int .u16 (M : Int)]).below hB1; have hB : Below w.heap.size w w1 := ((Below.refl _ _).alloc (Nat.le_refl _) _).trans (hB1.mono (by simp)); have c0 := hb.cellAt 0 _ rfl; obtain ⟨s, hs⟩ := nm (szM M); have hr : rgt n M = decide (0 <= n /\ n <= 60 /\ 4 <= s /\ s <= 7) := by rw [hs]; rfl
 rw [<- hs] at hl |-; have Hr := hid hr; clear hr hs; go_wp2
 all_goals (go_ret; exact ⟨by rw [Hr.out]; exact ret_b (by rw [Bool.eq_iff_iff]; simp; try omega), hB⟩)
theorem bit_eq (M k : Nat) (h : M < 65536) : (bits .and .u16 ((M : Int) / 2 ^ k) 1 == 1) = mbit M k := by
 have e : (M : Int) / 2 ^ k = ((M / 2 ^ k : Nat) : Int) := by rw [Int.natCast_ediv, Int.natCast_pow]; rfl
 have hd : M / 2 ^ k < 65536 := Nat.lt_of_le_of_lt (Nat.div_le_self _ _) h; have := u16_and_nat (M / 2 ^ k) 1 hd (by omega); rw [show M / 2 ^ k &&& 1 = M / 2 ^ k % 2 from Nat.and_two_pow_sub_one_eq_mod _ 1] at this; rw [e, show (1 : Int) = ((1 : Nat) : Int) from rfl, this]; unfold mbit; rw [Bool.eq_iff_iff, beq_iff_eq, decide_eq_true_iff]; omega
theorem has_any (n : Int) (M : Nat) (i : Int) (w : World) (h : M < 65536) (_h1 : -9223372036854775808 <= i) (_h2 : i <= 9223372036854775807) :
 Calls Tryz.prog 39 #[vw n M, .int .i64 i] w fun e w' => e = .returned (.bool (hasB M i)) /\ Below w.heap.size w w' := by
 have hb := Blk.new' w 24 [.int .i64 n, .int .u16 (M : Int)]; have c1 := hb.cellAt 1 _ rfl; have hB : Below w.heap.size w (w.alloc (.cells #[.int .i64 n, .int .u16 (M : Int)] 24)) := (Below.refl _ _).alloc (Nat.le_refl _) _; unfold vw; by_cases h0 : 0 <= i
 . obtain ⟨k, rfl⟩ := Int.eq_ofNat_of_zero_le h0; by_cases h16 : k < 16
   . have hbit := bit_eq M k h
     have hq : hasB M (k : Int) = mbit M k := by
      unfold hasB; rw [decide_eq_true (by omega), Bool.true_and, Int.toNat_natCast]
     have Hq := hid hq; clear hq; have hlt : (k : Int) < 16 := by omega
     go_enter Tryz.func39, Tryz.ntmps39; go_wp2
     all_goals (go_ret; exact ⟨by rw [Hq.out]; rfl, hB⟩)
   . have Hq : Hid (hasB M (k : Int) = false) := by
      show _ = _; unfold hasB; rw [decide_eq_false (by omega), Bool.false_and]
     have hlt : ¬ (k : Int) < 16 := by omega
     go_enter Tryz.func39, Tryz.ntmps39; go_wp2; go_ret; exact ⟨by rw [Hq.out]; rfl, hB⟩
 . have Hq : Hid (hasB M i = false) := by
    show _ = _; unfold hasB; rw [decide_eq_false (by omega), Bool.false_and]
   go_enter Tryz.func39, Tryz.ntmps39; go_wp2; go_ret; exact ⟨by rw [Hq.out]; rfl, hB⟩
end Go.Proofs.YtnhhbbjkeekneaaGreatDoor
namespace Go.V
open Go.RowKit
end Go.V
namespace Go.Proofs.YtnhhbbjkeekneaaGreatDoor
open Go.RowKit Go.V
def NewI (w w' : World) (v : Value) (l : List Nat) : Prop := w'.ownsRow w.heap.size 3 1 v l.length (ivs l) /\ Below w.heap.size w w'
theorem members_any (n : Int) (M : Nat) (w : World) (h : M < 65536) :
 Calls Tryz.prog 40 #[vw n M] w fun e w' => ∃ v', e = .returned v' /\ NewI w w' v' (memL M 16) := by
 have hl := sz_le M; have hsz := (size_any n M · h)
 have hhas := (fun (k : Nat) W hk => has_any n M (k : Int) W h (by omega) (hk : (k : Int) <= 9223372036854775807))
 unfold vw at hsz hhas |-; have hb := Blk.new' w 24 [.int .i64 n, .int .u16 (M : Int)]; have hB : Below w.heap.size w (w.alloc (.cells #[.int .i64 n, .int .u16 (M : Int)] 24)) := (Below.refl _ _).alloc (Nat.le_refl _) _; have hs0 : (w.alloc (.cells #[.int .i64 n, .int .u16 (M : Int)] 24)).heap.size = w.heap.size + 1 := by simp
 go_enter Tryz.func40, Tryz.ntmps40; go_wp2_with (fail); obtain ⟨w0, hw0⟩ := nm (w.alloc (.cells #[.int .i64 n, .int .u16 (M : Int)] 24)); rw [<- hw0] at hb hB hs0 |-; clear hw0; obtain ⟨g, hg⟩ := nm (w.heap.size); rw [<- hg] at hb |-; have Hg := hid hg; have Hs0 := hid hs0; clear hg hs0; refine (hsz _).mono ?_; rintro e w1 ⟨rfl, hB1⟩; have hb1 := hb.below hB1; have hB1' := hB.trans (hB1.mono hB.size); go_wp2_with (refine wp_mk0 slI rfl (.const (.int .i64 0)) (.tmp 6) rfl rfl (szM M) rfl rfl (by omega) (by simp [maxLen]; omega) ?_); intro w2 ho2 hB2; have hb2 := hb1.below hB2; have hB2' := hB1'.trans (hB2.mono hB1'.size); have hs1 := hB1.size; go_wp2
 go_loopw [3, 8] (fun v' iv wr => ∃ k : Nat, k <= 16 /\ iv = .int .i64 (k : Int) /\ wr.ownsRow w0.heap.size 3 1 v' (memL M k).length (ivs (memL M k)) /\ Blk wr g 24 [.int .i64 n, .int .u16 (M : Int)] /\ Below w.heap.size w wr /\ w0.heap.size <= wr.heap.size) (fun _ iv _ => 16 - (intOf iv).toNat)
 case atStart => exact ⟨0, by omega, rfl, own_weak ho2 hs1, hb2, hB2', by have := hB2.size; omega⟩
 case round =>
  obtain ⟨k, hk, rfl, ho, hbw, hBw, hsw⟩ := hrel; have c0 := hbw.cellAt 0 _ rfl; have c1 := hbw.cellAt 1 _ rfl; by_cases h16 : k < 16
  . have hki : (k : Int) < 16 := by omega
    go_wp2_with (fail); refine (hhas k _ (by omega)).mono ?_; rintro e w3 ⟨rfl, hB3⟩
    have hh : hasB M (k : Int) = mbit M k := by
     unfold hasB; rw [decide_eq_true (by omega), Bool.true_and, Int.toNat_natCast]
    rw [hh]; clear hh; have hb3 := hbw.below hB3; have hB3' := hBw.trans (hB3.mono hBw.size); have ho3 := own_bel ho hB3; have hs3 := hB3.size; have hml := mem_len_le M k; have hms := mem_succ M k; by_cases hm : mbit M k = true
    . rw [if_pos hm] at hms; have Hms := hid hms; clear hms; go_wp2_with (refine wp_push (.tmp 14) (.tmp 15) 16 slI rfl rfl rfl rfl rfl rfl rfl rfl (by simp) rfl ho3 (by simp only [maxLen]; omega) (by omega) (by omega) ?_); intro v4 w4 ho4 hG4 _; go_wp2; rw [<- ivs_snoc] at ho4; have hb4 := hb3.keep (hG4.block g hb3.lt (by intro e; have := (ho3.lt _ e.symm).1; have := Hg.out; have := Hs0.out; omega)); have hB4 := hB3'.grown hG4 hB3'.size (fun k hk => by have := (ho3.lt k hk).1; have := hB.size; omega); have hs4 := hG4.size
      go_roundw
      case rel =>
       refine ⟨k + 1, by omega, by go_num, ?_, hb4, hB4, by omega⟩; rw [Hms.out, List.length_append]; exact ho4
      case measure => simp [intOf]; omega
    . rw [if_neg hm, List.append_nil] at hms; have Hms := hid hms; clear hms; have hm : mbit M k = false := by simpa using hm
      go_wp2
      go_roundw
      case rel => exact ⟨k + 1, by omega, by go_num, by rw [Hms.out]; exact ho3, hb3, hB3', by omega⟩
      case measure => simp [intOf]; omega
  . have hk16 : k = 16 := by omega
    subst hk16; go_wp2; go_ret; exact ⟨_, rfl, own_weak ho (by have := Hs0.out; omega), hBw⟩
end Go.Proofs.YtnhhbbjkeekneaaGreatDoor
namespace Go.V
open Go.RowKit
def fltN (n : Int) (M : Nat) : Nat := if rgt n M then (szM M - 1) / 3 else 0
def quoN (n : Int) (M : Nat) : Nat := if rgt n M then (szM M + fltN n M) / 2 + 1 else 0
def enoN (n : Int) (M : Nat) : Nat := if rgt n M then szM M - fltN n M else 0
def somN (n : Int) (M : Nat) : Nat := if rgt n M then fltN n M + 1 else 0
theorem rgt_sz {n : Int} {M : Nat} (h : rgt n M = true) : 0 <= n /\ n <= 60 /\ 4 <= szM M /\ szM M <= 7 := by unfold rgt at h; exact of_decide_eq_true h
end Go.V
namespace Go.Proofs.YtnhhbbjkeekneaaGreatDoor
open Go.RowKit Go.V
theorem sizeV : (Tryz.prog.info? 24).map (·.size) = some 2 := by kernel_rfl
theorem flt_any (n : Int) (M : Nat) (w : World) (h : M < 65536) :
 Calls Tryz.prog 38 #[vw n M] w fun e w' => e = .returned (.int .i64 (fltN n M : Int)) /\ Below w.heap.size w w' := by
 have hsz := (size_any n M · h)
 have hrt := (right_any n M · h)
 unfold vw at hsz hrt |-; have hb := Blk.new' w 24 [.int .i64 n, .int .u16 (M : Int)]; have hB : Below w.heap.size w (w.alloc (.cells #[.int .i64 n, .int .u16 (M : Int)] 24)) := (Below.refl _ _).alloc (Nat.le_refl _) _; have hz := rgt_sz (n := n) (M := M); have hf : fltN n M = if rgt n M then (szM M - 1) / 3 else 0 := rfl
 obtain ⟨f, hfe⟩ := nm (fltN n M); rw [<- hfe] at hf |-; obtain ⟨s, hs⟩ := nm (szM M); rw [<- hs] at hf hz hsz; go_enter Tryz.func38, Tryz.ntmps38; go_wp2_with (fail); refine (hrt _).mono ?_; rintro e w1 ⟨rfl, hB1⟩; have hb1 := hb.below hB1; have hB1' := hB.trans (hB1.mono hB.size); have c0 := hb1.cellAt 0 _ rfl; have c1 := hb1.cellAt 1 _ rfl; clear hfe hs; cases hr : rgt n M with
 | true =>
  rw [hr, if_pos rfl] at hf; have hz := hz hr; have Hf := hid hf; clear hf hr; go_wp2_with (fail); refine (hsz _).mono ?_; rintro e w2 ⟨rfl, hB2⟩; go_wp2; go_ret; exact ⟨ret_i (by rw [Hf.out]; omega), hB1'.trans (hB2.mono hB1'.size)⟩
 | false =>
  rw [hr] at hf; have hf : f = 0 := hf; have Hf := hid hf; clear hf hr; go_wp2; go_ret; exact ⟨ret_i (by rw [Hf.out]; rfl), hB1'⟩
theorem quo_any (n : Int) (M : Nat) (w : World) (h : M < 65536) :
 Calls Tryz.prog 87 #[vw n M] w fun e w' => e = .returned (.int .i64 (quoN n M : Int)) /\ Below w.heap.size w w' := by
 have hsz := (size_any n M · h)
 have hrt := (right_any n M · h)
 have hflt := (flt_any n M · h)
 unfold vw at hsz hrt hflt |-; have hb := Blk.new' w 24 [.int .i64 n, .int .u16 (M : Int)]; have hB : Below w.heap.size w (w.alloc (.cells #[.int .i64 n, .int .u16 (M : Int)] 24)) := (Below.refl _ _).alloc (Nat.le_refl _) _; have hz := rgt_sz (n := n) (M := M); have hff : rgt n M = true -> fltN n M = (szM M - 1) / 3 := fun h => by unfold fltN; rw [if_pos h]
 have hf : quoN n M = if rgt n M then (szM M + fltN n M) / 2 + 1 else 0 := rfl
 obtain ⟨q, hqe⟩ := nm (quoN n M); rw [<- hqe] at hf |-; obtain ⟨f, hfe⟩ := nm (fltN n M); rw [<- hfe] at hf hff hflt; obtain ⟨s, hs⟩ := nm (szM M)
 try rw [<- hs] at hf
 rw [<- hs] at hz hsz hff; go_enter Tryz.func87, Tryz.ntmps87; go_wp2_with (fail); obtain ⟨w0, hw0⟩ := nm (w.alloc (.cells #[.int .i64 n, .int .u16 (M : Int)] 24)); rw [<- hw0] at hb hB |-; clear hw0; obtain ⟨g, hg⟩ := nm (w.heap.size); rw [<- hg] at hb |-; clear hg; refine (hrt _).mono ?_; rintro e wq ⟨rfl, hB1⟩; have hb1 := hb.below hB1; have hB1' := hB.trans (hB1.mono hB.size); have c0 := hb1.cellAt 0 _ rfl; have c1 := hb1.cellAt 1 _ rfl; have HV : Hid (∀ W, Ch nob wq W -> W.rangeAt g 0 [.int .i64 n, .int .u16 (M : Int)]) := fun W h => hb1.chAt (fun h => h) h; clear hqe hfe hs hb hb1; cases hr : rgt n M with
 | true =>
  rw [hr, if_pos rfl] at hf; have hz := hz hr; have hff := hff hr; have Hf := hid hf; have Hff := hid hff; have hfs : f <= s := by omega
  clear hf hr hff c0 c1; go_wp2_with (fail); refine wp_region_noPanic ?_; refine wp_region_held_drew (S := Ch nob wq) (by kernel_rfl) ((Ch.refl _ _).drew) (fun hHeld => ?_); refine tkY 0 rfl (yieldsIf_load_mid (by rfl) 24 (.tmp 1) (by rfl) _ (0) (by rfl) _ _ (fun _ hs => HV.out _ hs) Tryz.underlying24 rfl (sizeV)) ?_; refine tkY 2 rfl (yieldsIf_load_mid (by rfl) 24 (.tmp 1) (by rfl) _ (0) (by rfl) _ _ (fun _ hs => HV.out _ hs) Tryz.underlying24 rfl (sizeV)) ?_; refine rdH 1 rfl (fun K hK => ?_); go_simp; refine (hsz _).mono ?_; rintro e' w5 ⟨rfl, hB5⟩; have hC5 := hHeld.belowG hB5; refine hK.out _ _ (hC5) (fun hHeld => ?_); clear hK K
  try simp only [nP]
  refine rdH 3 rfl (fun K hK => ?_); go_simp; refine (hflt _).mono ?_; rintro e' w6 ⟨rfl, hB6⟩; have hC6 := hHeld.belowG hB6; refine hK.out _ _ (hC6) (fun hHeld => ?_); clear hK K
  try simp only [nP]
  refine tkP 4 rfl ?_; refine tkP 5 rfl ?_; refine tkP 6 rfl ?_; refine tkP 7 rfl ?_; refine wpAnyH_done (by kernel_rfl) ?_ _; refine NoPanic.normal ?_; go_wp2; go_ret; exact ⟨ret_i (by have := Hff.out; rw [Hf.out, IntWalk.i64_in ((s : Int) + f) (by omega), Int.tdiv_eq_ediv_of_nonneg (by omega), IntWalk.i64_in (((s : Int) + f) / 2) (by omega), IntWalk.i64_in (((s : Int) + f) / 2 + 1) (by omega)]; omega), hB1'.trans (hHeld.below.mono hB1'.size)⟩
 | false =>
  rw [hr] at hf; have hf : q = 0 := hf; have Hf := hid hf; clear hf hr hff; go_wp2; go_ret; exact ⟨ret_i (by rw [Hf.out]; rfl), hB1'⟩
theorem eno_any (n : Int) (M : Nat) (w : World) (h : M < 65536) :
 Calls Tryz.prog 20 #[vw n M] w fun e w' => e = .returned (.int .i64 (enoN n M : Int)) /\ Below w.heap.size w w' := by
 have hsz := (size_any n M · h)
 have hrt := (right_any n M · h)
 have hflt := (flt_any n M · h)
 unfold vw at hsz hrt hflt |-; have hb := Blk.new' w 24 [.int .i64 n, .int .u16 (M : Int)]; have hB : Below w.heap.size w (w.alloc (.cells #[.int .i64 n, .int .u16 (M : Int)] 24)) := (Below.refl _ _).alloc (Nat.le_refl _) _; have hz := rgt_sz (n := n) (M := M); have hff : rgt n M = true -> fltN n M = (szM M - 1) / 3 := fun h => by unfold fltN; rw [if_pos h]
 have hf : enoN n M = if rgt n M then szM M - fltN n M else 0 := rfl
 obtain ⟨q, hqe⟩ := nm (enoN n M); rw [<- hqe] at hf |-; obtain ⟨f, hfe⟩ := nm (fltN n M); rw [<- hfe] at hf hff hflt; obtain ⟨s, hs⟩ := nm (szM M)
 try rw [<- hs] at hf
 rw [<- hs] at hz hsz hff; go_enter Tryz.func20, Tryz.ntmps20; go_wp2_with (fail); obtain ⟨w0, hw0⟩ := nm (w.alloc (.cells #[.int .i64 n, .int .u16 (M : Int)] 24)); rw [<- hw0] at hb hB |-; clear hw0; obtain ⟨g, hg⟩ := nm (w.heap.size); rw [<- hg] at hb |-; clear hg; refine (hrt _).mono ?_; rintro e wq ⟨rfl, hB1⟩; have hb1 := hb.below hB1; have hB1' := hB.trans (hB1.mono hB.size); have c0 := hb1.cellAt 0 _ rfl; have c1 := hb1.cellAt 1 _ rfl; have HV : Hid (∀ W, Ch nob wq W -> W.rangeAt g 0 [.int .i64 n, .int .u16 (M : Int)]) := fun W h => hb1.chAt (fun h => h) h; clear hqe hfe hs hb hb1; cases hr : rgt n M with
 | true =>
  rw [hr, if_pos rfl] at hf; have hz := hz hr; have hff := hff hr; have Hf := hid hf; have Hff := hid hff; have hfs : f <= s := by omega
  clear hf hr hff c0 c1; go_wp2_with (fail); refine wp_region_noPanic ?_; refine wp_region_held_drew (S := Ch nob wq) (by kernel_rfl) ((Ch.refl _ _).drew) (fun hHeld => ?_); refine tkY 0 rfl (yieldsIf_load_mid (by rfl) 24 (.tmp 1) (by rfl) _ (0) (by rfl) _ _ (fun _ hs => HV.out _ hs) Tryz.underlying24 rfl (sizeV)) ?_; refine tkY 2 rfl (yieldsIf_load_mid (by rfl) 24 (.tmp 1) (by rfl) _ (0) (by rfl) _ _ (fun _ hs => HV.out _ hs) Tryz.underlying24 rfl (sizeV)) ?_; refine rdH 1 rfl (fun K hK => ?_); go_simp; refine (hsz _).mono ?_; rintro e' w5 ⟨rfl, hB5⟩; have hC5 := hHeld.belowG hB5; refine hK.out _ _ (hC5) (fun hHeld => ?_); clear hK K
  try simp only [nP]
  refine rdH 3 rfl (fun K hK => ?_); go_simp; refine (hflt _).mono ?_; rintro e' w6 ⟨rfl, hB6⟩; have hC6 := hHeld.belowG hB6; refine hK.out _ _ (hC6) (fun hHeld => ?_); clear hK K
  try simp only [nP]
  refine tkP 4 rfl ?_; refine tkP 5 rfl ?_; refine wpAnyH_done (by kernel_rfl) ?_ _; refine NoPanic.normal ?_; go_wp2; go_ret; exact ⟨ret_i (by have := Hff.out; rw [Hf.out, IntWalk.i64_in _ (by omega)]; omega), hB1'.trans (hHeld.below.mono hB1'.size)⟩
 | false =>
  rw [hr] at hf; have hf : q = 0 := hf; have Hf := hid hf; clear hf hr hff; go_wp2; go_ret; exact ⟨ret_i (by rw [Hf.out]; rfl), hB1'⟩
theorem som_any (n : Int) (M : Nat) (w : World) (h : M < 65536) :
 Calls Tryz.prog 35 #[vw n M] w fun e w' => e = .returned (.int .i64 (somN n M : Int)) /\ Below w.heap.size w w' := by
 have hsz := (size_any n M · h)
 have hrt := (right_any n M · h)
 have hflt := (flt_any n M · h)
 unfold vw at hsz hrt hflt |-; have hb := Blk.new' w 24 [.int .i64 n, .int .u16 (M : Int)]; have hB : Below w.heap.size w (w.alloc (.cells #[.int .i64 n, .int .u16 (M : Int)] 24)) := (Below.refl _ _).alloc (Nat.le_refl _) _; have hz := rgt_sz (n := n) (M := M); have hff : rgt n M = true -> fltN n M = (szM M - 1) / 3 := fun h => by unfold fltN; rw [if_pos h]
 have hf : somN n M = if rgt n M then fltN n M + 1 else 0 := rfl
 obtain ⟨q, hqe⟩ := nm (somN n M); rw [<- hqe] at hf |-; obtain ⟨f, hfe⟩ := nm (fltN n M); rw [<- hfe] at hf hff hflt; obtain ⟨s, hs⟩ := nm (szM M)
 try rw [<- hs] at hf
 rw [<- hs] at hz hsz hff; go_enter Tryz.func35, Tryz.ntmps35; go_wp2_with (fail); obtain ⟨w0, hw0⟩ := nm (w.alloc (.cells #[.int .i64 n, .int .u16 (M : Int)] 24)); rw [<- hw0] at hb hB |-; clear hw0; obtain ⟨g, hg⟩ := nm (w.heap.size); rw [<- hg] at hb |-; clear hg; refine (hrt _).mono ?_; rintro e wq ⟨rfl, hB1⟩; have hb1 := hb.below hB1; have hB1' := hB.trans (hB1.mono hB.size); have c0 := hb1.cellAt 0 _ rfl; have c1 := hb1.cellAt 1 _ rfl; have HV : Hid (∀ W, Ch nob wq W -> W.rangeAt g 0 [.int .i64 n, .int .u16 (M : Int)]) := fun W h => hb1.chAt (fun h => h) h; clear hqe hfe hs hb hb1; cases hr : rgt n M with
 | true =>
  rw [hr, if_pos rfl] at hf; have hz := hz hr; have hff := hff hr; have Hf := hid hf; have Hff := hid hff; have hfs : f <= s := by omega
  clear hf hr hff; go_wp2_with (fail); refine (hflt _).mono ?_; rintro e w2 ⟨rfl, hB2⟩; go_wp2; go_ret; exact ⟨ret_i (by have := Hff.out; rw [Hf.out]; omega), hB1'.trans (hB2.mono hB1'.size)⟩
 | false =>
  rw [hr] at hf; have hf : q = 0 := hf; have Hf := hid hf; clear hf hr hff; go_wp2; go_ret; exact ⟨ret_i (by rw [Hf.out]; rfl), hB1'⟩
structure Vc where
 n : Int
 m : Nat
structure Qc where
 k : Int
 v : Int
 r : Int
 s : Int
 h : List UInt8
def opOf (ks : List (List UInt8)) (V : Vc) (X : List UInt8) : Except Nat Mg := match opR ks X with
 | .ok m => if hasB V.m m.f = true then .ok m else .error 6
 | .error e => .error e
def cntC (ks : List (List UInt8)) (V : Vc) (q : Qc) (X : List UInt8) : Option Nat := match opOf ks V X with
 | .ok m => if m.v = V.n /\ m.k = q.k /\ m.v = q.v /\ m.r = q.r /\ m.s = q.s /\ m.h = q.h then some m.f.toNat else none
 | .error _ => none
def isC (ks : List (List UInt8)) (V : Vc) (q : Qc) (i : Nat) (X : List UInt8) : Bool := decide (cntC ks V q X = some i)
def whoC (ks : List (List UInt8)) (V : Vc) (q : Qc) (P : List (List UInt8)) : List Nat := (List.range 16).filter (fun i => P.any (isC ks V q i))
def enC (ks : List (List UInt8)) (V : Vc) (q : Qc) (P : List (List UInt8)) : Bool := decide (quoN V.n V.m <= (whoC ks V q P).length)
def okC (V : Vc) (P : List (List UInt8)) : Bool := rgt V.n V.m && decide (P.length <= 16)
def wriC (ks : List (List UInt8)) (V : Vc) (r s : Int) (h : List UInt8) (P : List (List UInt8)) : Int := if okC V P = true /\ enC ks V ⟨2, V.n, r, s, h⟩ P = true then 0 else 12
def leaC (ks : List (List UInt8)) (V : Vc) (s : Int) (h : List UInt8) (P : List (List UInt8)) : Option Nat := (List.range 41).find? (fun r => enC ks V ⟨3, V.n, (r : Int), s, h⟩ P)
def decC (ks : List (List UInt8)) (V : Vc) (s : Int) (h : List UInt8) (P : List (List UInt8)) : Int × Int := if okC V P = true then (match leaC ks V s h P with | some r => ((r : Int), 0) | none => (0, 12)) else (0, 12)
theorem who_len (ks : List (List UInt8)) (V : Vc) (q : Qc) (P : List (List UInt8)) : (whoC ks V q P).length <= 16 := by
 have := (List.filter_sublist (p := fun i => P.any (isC ks V q i)) (l := List.range 16)).length_le; rw [List.length_range] at this; exact this
theorem lea_of {ks : List (List UInt8)} {V : Vc} {s : Int} {h : List UInt8} {P : List (List UInt8)} {r : Nat} (h40 : r <= 40) (he : enC ks V ⟨3, V.n, (r : Int), s, h⟩ P = true) (hn : ∀ n, n < r -> enC ks V ⟨3, V.n, (n : Int), s, h⟩ P = false) : leaC ks V s h P = some r := by
 unfold leaC; rw [List.find?_range_eq_some]; exact ⟨he, List.mem_range.2 (by omega), fun n hn' => by rw [hn n hn']; rfl⟩
def tsE (ks : List (List UInt8)) (V : Vc) (W : List Nat) (X : List UInt8) : Int := match opOf ks V X with
 | .error e => (e : Int)
 | .ok m => if m.k ≠ 4 then 15 else if m.v ≠ V.n then 9 else if m.r.toNat + 1 <= W.getD m.f.toNat 0 then 7 else 0
def tsW (ks : List (List UInt8)) (V : Vc) (W : List Nat) (X : List UInt8) : List Nat := match opOf ks V X with
 | .error _ => W
 | .ok m => if m.k ≠ 4 then W else if m.v ≠ V.n then W else if m.r.toNat + 1 <= W.getD m.f.toNat 0 then W else W.set m.f.toNat (m.r.toNat + 1)
def cntW (W : List Nat) (r : Int) : Nat := (W.filter (fun (x : Nat) => decide (0 < x /\ r <= (x : Int) - 1))).length
def isW (W : List Nat) (above : Int) (many : Nat) (r : Nat) : Bool := decide (above < (r : Int) /\ 0 < many /\ many <= cntW W (r : Int))
def gW (W : List Nat) (above : Int) (many : Nat) : Nat -> Int
 | 0 => -1
 | n + 1 => if isW W above many n = true then (n : Int) else gW W above many n
def grW (W : List Nat) (above : Int) (many : Nat) : Int := gW W above many 41
def w0W : List Nat := List.replicate 16 0
theorem g_none {W : List Nat} {above : Int} : ∀ n, gW W above 0 n = -1
 | 0 => rfl
 | n + 1 => by
  unfold gW; rw [if_neg (by unfold isW; simp)]; exact g_none n
def fldG (X : List UInt8) : List Nat -> Nat -> List Nat
 | [], _ => []
 | n :: ns, k => fixN ((X.drop k).take n) :: fldG X ns (k + n)
theorem fld_all (X : List UInt8) : ∀ (ns : List Nat) (k : Nat), (∀ n ∈ ns, okN (n : Int)) -> k + ns.sum <= X.length -> fldR ns k X = .ok (fldG X ns k)
 | [], _, _, _ => rfl
 | n :: ns, k, h, hl => by
  rw [List.sum_cons] at hl; have ih := fld_all X ns (k + n) (fun m hm => h m (by simp [hm])) (by omega)
  have h1 : fixRd (n : Int) (X.drop k) = .ok (fixN ((X.drop k).take n)) := by
   unfold fixRd; rw [if_pos (h n (by simp)), Int.toNat_natCast, if_neg (by rw [List.length_drop]; omega)]
  simp only [fldR, h1, ih, fldG]
theorem fld_short (X : List UInt8) : ∀ (ns : List Nat) (k : Nat), (∀ n ∈ ns, okN (n : Int)) -> k <= X.length -> X.length < k + ns.sum -> fldR ns k X = .error 1
 | [], k, _, h1, h2 => by simp at h2; omega
 | n :: ns, k, h, h1, h2 => by
  rw [List.sum_cons] at h2; by_cases hs : X.length < k + n
  . have h3 : fixRd (n : Int) (X.drop k) = .error 1 := by
     unfold fixRd; rw [if_pos (h n (by simp)), Int.toNat_natCast, if_pos (by rw [List.length_drop]; omega)]
    simp only [fldR, h3]
  . have ih := fld_short X ns (k + n) (fun m hm => h m (by simp [hm])) (by omega) (by omega)
    have h3 : fixRd (n : Int) (X.drop k) = .ok (fixN ((X.drop k).take n)) := by
     unfold fixRd; rw [if_pos (h n (by simp)), Int.toNat_natCast, if_neg (by rw [List.length_drop]; omega)]
    simp only [fldR, h3, ih]
theorem szs_ok : ∀ n ∈ szs8, okN ((n : Nat) : Int) := by
 intro n hn; unfold szs8 at hn; simp only [List.mem_append, List.mem_cons, List.not_mem_nil, or_false, List.mem_replicate] at hn; unfold okN; omega
theorem fix_one (c : UInt8) : fixN [c] = c.toNat := by simp [fixN]
theorem fldG_ones (X : List UInt8) : ∀ (n k : Nat), k + n <= X.length -> (fldG X (List.replicate n 1) k).map UInt8.ofNat = (X.drop k).take n
 | 0, _, _ => rfl
 | n + 1, k, h => by
  have ih := fldG_ones X n (k + 1) (by omega); have hd : X.drop k = X[k] :: X.drop (k + 1) := List.drop_eq_getElem_cons (by omega); rw [List.replicate_succ]; simp only [fldG, List.map_cons, ih]; rw [hd, List.take_succ_cons, List.take_succ_cons, List.take_zero, fix_one]
  congr 1
  exact UInt8.ofNat_toNat
theorem fldG_app (X : List UInt8) : ∀ (a b : List Nat) (k : Nat), fldG X (a ++ b) k = fldG X a k ++ fldG X b (k + a.sum)
 | [], b, k => by simp [fldG]
 | n :: a, b, k => by
  simp only [List.cons_append, fldG, fldG_app X a b (k + n), List.sum_cons, Nat.add_assoc]
def mkH (X : List UInt8) (b : List UInt8) (ps : List (List UInt8)) : Mg :=
 ⟨((X.getD 0 0).toNat : Int), ((X.getD 1 0).toNat : Int), (fixN ((X.drop 2).take 2) : Int), (fixN ((X.drop 4).take 2) : Int), (fixN ((X.drop 6).take 2) : Int), (X.drop 8).take 32, b, ps⟩
theorem mk_h {X : List UInt8} (h : 40 <= X.length) (b : List UInt8) (ps : List (List UInt8)) : mkM (fldG X szs8 0) b ps = mkH X b ps := by
 have e : fldG X szs8 0 = [fixN (X.take 1), fixN ((X.drop 1).take 1), fixN ((X.drop 2).take 2), fixN ((X.drop 4).take 2), fixN ((X.drop 6).take 2)] ++ fldG X (List.replicate 32 1) 8 := by
  unfold szs8; rw [fldG_app]; rfl
 have h0 : X.take 1 = [X.getD 0 0] := by
  match X, h with
  | a :: _, _ => rfl
 have h1 : (X.drop 1).take 1 = [X.getD 1 0] := by
  match X, h with
  | a :: c :: _, _ => rfl
 rw [e, h0, h1, fix_one, fix_one]; unfold mkM mkH; have h8 : (([(X.getD 0 0).toNat, (X.getD 1 0).toNat, fixN ((X.drop 2).take 2), fixN ((X.drop 4).take 2), fixN ((X.drop 6).take 2)] ++ fldG X (List.replicate 32 1) 8).drop 5).map UInt8.ofNat = (X.drop 8).take 32 := fldG_ones X 32 8 (by omega); rw [h8]; rfl
theorem rd_short {X : List UInt8} (h : X.length < 40) : rdM X = .error 1 := by
 have := fld_short X szs8 0 szs_ok (Nat.zero_le _) (by rw [sum_szs8]; omega); unfold rdM; rw [this]
theorem rd_head {X : List UInt8} (h : 40 <= X.length) : rdM X = match textR 65536 (X.drop 40) with
 | .error e => .error e
 | .ok (n, z) => match cntR 16 (readPk (X.drop (40 + (z + n)))) with
  | .error e => .error e
  | .ok (c, y) => match prtR c (40 + (z + n) + y) X with
   | .error e => .error e
   | .ok (ts, k) => if k < X.length then .error 2 else if numB (mkH X (((X.drop 40).drop z).take n) ts) = true then .ok (mkH X (((X.drop 40).drop z).take n) ts) else .error 15 := by
 have := fld_all X szs8 0 szs_ok (by rw [sum_szs8]; omega); unfold rdM; rw [this]; simp only [mk_h h]; cases textR 65536 (X.drop 40) with
 | error e => rfl
 | ok r =>
  obtain ⟨n, z⟩ := r; dsimp only; cases cntR 16 (readPk (X.drop (40 + (z + n)))) with
  | error e => rfl
  | ok r =>
   obtain ⟨c, y⟩ := r; dsimp only; cases prtR c (40 + (z + n) + y) X with
   | error e => rfl
   | ok r => rfl
theorem nb_fix (b : List UInt8) (k : Nat) : ∀ n, k + n <= b.length -> nb b k n = fixN ((b.drop k).take n)
 | 0, _ => rfl
 | n + 1, h => by
  have ih := nb_fix b k n (by omega)
  have e : (b.drop k).take (n + 1) = (b.drop k).take n ++ [b.getD (k + n) 0] := by
   rw [List.take_add_one, List.getElem?_drop, List.getD_eq_getElem?_getD, List.getElem?_eq_getElem (by omega)]; rfl
  rw [e, fixN_snoc, nb, ih, Nat.mul_comm]
end Go.Proofs.YtnhhbbjkeekneaaGreatDoor
