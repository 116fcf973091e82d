/- Co: several texts in one (UV I4 Co). -/
import Derived.Test.YtnhhbbjkeekneaaGreatDoorVA
import Derived.Test.YtnhhbbjkeekneaaGreatDoorN6
import Derived.Test.YtnhhbbjkeekneaaGreatDoorRB
import Derived.Test.YtnhhbbjkeekneaaGreatDoorCq
import Derived.Test.YtnhhbbjkeekneaaGreatDoorZC
set_option maxRecDepth 100000
set_option maxHeartbeats 16000000
namespace Go.V
open Go.RowKit
theorem alloc2 (w : World) (tA tB : TypeId) (lA lB : List Value) : ∃ W, W = ((w.alloc (.cells lA.toArray tA)).alloc (.cells lB.toArray tB)) /\ Blk W w.heap.size tA lA /\ Blk W (w.heap.size + 1) tB lB /\ Below w.heap.size w W := by
 refine ⟨_, rfl, ?_⟩; have a1 := Blk.new' w tA lA; have B1 : Below w.heap.size w (w.alloc (.cells lA.toArray tA)) := (Below.refl _ _).alloc (Nat.le_refl _) _; obtain ⟨w1, h1⟩ := nm (w.alloc (.cells lA.toArray tA)); have s1 : w1.heap.size = w.heap.size + 1 := by rw [h1]; simp
 rw [<- h1] at a1 B1 |-; clear h1; have a2 := Blk.new' w1 tB lB; have B2 : Below w1.heap.size w1 (w1.alloc (.cells lB.toArray tB)) := (Below.refl _ _).alloc (Nat.le_refl _) _; rw [<- s1]; exact ⟨a1.below B2, a2, B1.trans (B2.mono (by omega))⟩
theorem alloc3 (w : World) (tA tB tC : TypeId) (lA lB lC : List Value) : ∃ W, W = (((w.alloc (.cells lA.toArray tA)).alloc (.cells lB.toArray tB)).alloc (.cells lC.toArray tC)) /\ Blk W w.heap.size tA lA /\ Blk W (w.heap.size + 1) tB lB /\ Blk W (w.heap.size + 1 + 1) tC lC /\ Below w.heap.size w W := by
 refine ⟨_, rfl, ?_⟩; have a1 := Blk.new' w tA lA; have B1 : Below w.heap.size w (w.alloc (.cells lA.toArray tA)) := (Below.refl _ _).alloc (Nat.le_refl _) _; obtain ⟨w1, h1⟩ := nm (w.alloc (.cells lA.toArray tA)); have s1 : w1.heap.size = w.heap.size + 1 := by rw [h1]; simp
 rw [<- h1] at a1 B1 |-; clear h1; have a2 := Blk.new' w1 tB lB; have B2 : Below w1.heap.size w1 (w1.alloc (.cells lB.toArray tB)) := (Below.refl _ _).alloc (Nat.le_refl _) _; obtain ⟨w2, h2⟩ := nm (w1.alloc (.cells lB.toArray tB)); have s2 : w2.heap.size = w1.heap.size + 1 := by rw [h2]; simp
 rw [<- h2] at a2 B2 |-; clear h2; have a3 := Blk.new' w2 tC lC; have B3 : Below w2.heap.size w2 (w2.alloc (.cells lC.toArray tC)) := (Below.refl _ _).alloc (Nat.le_refl _) _; have e3 : w2.heap.size = w.heap.size + 1 + 1 := by omega
 rw [<- e3, <- s1]; exact ⟨(a1.below B2).below B3, a2.below B3, a3, (B1.trans (B2.mono (by omega))).trans (B3.mono (by omega))⟩
end Go.V
namespace Go.Proofs.YtnhhbbjkeekneaaGreatDoor
open Go.RowKit Go.V
def gotL (x : Nat) (v : Value) (n : Nat) (e : Nat) : List Value := [.int .u64 (x : Int), v, .int .i64 (n : Int), .int .i64 (e : Int)]
theorem sizeGot : (Tryz.prog.info? 155).map (·.size) = some 4 := by kernel_rfl
theorem zeroGot : (Tryz.prog.info? 155).map (·.zero) = some (some (.agg (gotL 0 (.slice none 0 0) 0 0).toArray)) := by kernel_rfl
theorem one_got (x n e : Nat) (A : Option Addr) (k c : Nat) : ∀ v ∈ gotL x (.slice A k c) n e, v.oneCell' = true := by
 intro v hv; simp [gotL] at hv; rcases hv with rfl | rfl | rfl | rfl <;> rfl
def gotP (r : Except Nat (Nat × Nat)) : List Value := match r with
 | .ok (x, n) => gotL x (.slice none 0 0) n 0
 | .error e => gotL 0 (.slice none 0 0) 0 e
theorem sum_lt {x U c i : Nat} (hx : x < 128 ^ i) (hU : U = 128 ^ i) (h : i <= 8 \/ (i = 9 /\ c <= 1)) : x + U * (c % 128) < 18446744073709551616 := by
 have hm : c % 128 < 128 := Nat.mod_lt _ (by omega); rcases h with h | ⟨rfl, h⟩
 . have hp : 128 ^ i <= 128 ^ 8 := Nat.pow_le_pow_right (by omega) h; have h1 : U * (c % 128) <= 128 ^ 8 * 127 := Nat.mul_le_mul (by omega) (by omega); omega
 . have h1 : c % 128 <= 1 := by omega
   have h2 : U * (c % 128) <= 128 ^ 9 * 1 := Nat.mul_le_mul (by omega) h1; omega
theorem sum_wrap {x U c : Nat} (h : x + U * (c % 128) < 18446744073709551616) : IntKind.u64.wrap ((x : Int) + IntKind.u64.wrap ((c : Int) % 128 * (U : Int))) = ((x + U * (c % 128) : Nat) : Int) := by
 have e : (c : Int) % 128 * (U : Int) = ((U * (c % 128) : Nat) : Int) := by rw [Nat.mul_comm]; push_cast; rfl
 rw [e]; have h2 : IntKind.u64.wrap ((U * (c % 128) : Nat) : Int) = ((U * (c % 128) : Nat) : Int) := IntWalk.u64_in _ (by omega); rw [h2]; have e3 : (x : Int) + ((U * (c % 128) : Nat) : Int) = ((x + U * (c % 128) : Nat) : Int) := by push_cast; rfl
 rw [e3]; exact IntWalk.u64_in _ (by omega)
theorem rpacked_any (v : Value) (bs : List UInt8) (k : Nat) (F : Nat -> Prop) (w : World) (h : Rd w F v (bys bs)) (hk : k <= bs.length) (hl : bs.length <= 1000000000000) :
 Calls Tryz.prog 130 #[v, .int .i64 (k : Int)] w fun e w' => e = .returned (.agg (gotP (readPk (bs.drop k))).toArray) /\ Below w.heap.size w w' := by
 obtain ⟨A, c, rfl⟩ := h.shape; have hB0 : Below w.heap.size w (w.alloc (.cells (gotL 0 (.slice none 0 0) 0 0).toArray 155)) := (Below.refl _ _).alloc (Nat.le_refl _) _; have bz := Blk.new' w 155 (gotL 0 (.slice none 0 0) 0 0); have h0 := h.below hB0; go_enter Tryz.func130, Tryz.ntmps130; go_wp2_with (first | (refine wp_new 155 rfl rfl zeroGot ?_; refine wp_stop ?_)); obtain ⟨w0, hw0⟩ := nm (w.alloc (.cells (gotL 0 (.slice none 0 0) 0 0).toArray 155)); obtain ⟨g, hg⟩ := nm (w.heap.size); rw [<- hw0] at bz h0 hB0 |-; rw [<- hg] at bz |-; have hgw : w.heap.size <= g := by omega
 clear hw0 hg; refine wp_go ?_; go_wp2
 go_loopw [5, 6, 7] (fun xv uv iv wr => ∃ i : Nat, i <= 9 /\ k + i <= bs.length /\ iv = .int .i64 i /\ (∃ x : Nat, xv = .int .u64 (x : Int) /\ Hid (x = accP i (bs.drop k))) /\ (∃ U : Nat, uv = .int .u64 (U : Int) /\ Hid (U = 128 ^ i)) /\ Hid (big i (bs.drop k)) /\ Blk wr g 155 (gotL 0 (.slice none 0 0) 0 0) /\ Below w.heap.size w wr) (fun _ _ iv _ => 10 - (intOf iv).toNat)
 case atStart => exact ⟨0, by omega, by omega, rfl, ⟨0, rfl, by show _ = _; rfl⟩, ⟨1, rfl, by show _ = _; rfl⟩, hid trivial, bz, hB0⟩
 case round =>
  clear bz hB0 h0; obtain ⟨i, hi, hki, rfl, ⟨x, rfl, Hx⟩, ⟨U, rfl, Hu⟩, Hbig, bz, hB⟩ := hrel; have hwr := h.below hB; have hI10 : (i : Int) < 10 := by omega
  have hin : IntKind.i64.wrap ((k : Int) + (i : Int)) = ((k + i : Nat) : Int) := by rw [show (k : Int) + (i : Int) = ((k + i : Nat) : Int) from by push_cast; rfl]; exact IntWalk.i64_in _ (by omega)
  have hin1 : IntKind.i64.wrap ((i : Int) + 1) = (i : Int) + 1 := IntWalk.i64_in _ (by omega); by_cases hend : k + i = bs.length
  . have hE := hid (readPk_short i _ (by omega) (by simp; omega) Hbig.out); have ht : (bs.length : Int) <= ((k + i : Nat) : Int) := by omega
    have hd : decide ((bs.length : Int) <= ((k + i : Nat) : Int)) = true := decide_eq_true ht; clear hend; go_wp2_with (first | (refine wp_st 155 (.tmp 4) (.tmp 19) rfl rfl rfl (f := 0) rfl (l := gotL 0 (.slice none 0 0) 0 1) rfl bz (by simp [gotL]) sizeGot (one_got 0 0 1 _ _ _) ?_; intro w3 hb3 hG3; refine wp_stop ?_)); have hB3 := hB.grown hG3 hB.size (fun k hk => by injection hk with hk; omega); refine wp_go ?_; go_wp2; refine ret_cell rfl rfl hb3.whole Tryz.underlying155 rfl sizeGot rfl ?_; refine ⟨?_, hB3⟩; rw [hE.out]; rfl
  . have hlt : k + i < bs.length := by omega
    have ht : ¬ (bs.length : Int) <= ((k + i : Nat) : Int) := by omega
    have hd : decide ((bs.length : Int) <= ((k + i : Nat) : Int)) = false := decide_eq_false ht; obtain ⟨ga, off, rfl, _, hcell⟩ := hwr.byteAt (k + i) hlt; have hget : (bs.drop k)[i]'(by simp; omega) = bs[k + i] := by simp
    obtain ⟨cc, hcc⟩ := nm (bs[k + i]); rw [<- hcc] at hcell hget; have Hget := hid hget; have hil : i < (bs.drop k).length := by simp; omega
    have hc256 := cc.toNat_lt; clear hcc hget hend; by_cases h9 : i = 9 /\ 1 < cc.toNat
    . have hE : Hid (readPk (bs.drop k) = .error 2) := by
       show _ = _; by_cases hc : cc.toNat < 128
       . rw [readPk_last i _ (by omega) hil Hbig.out (by rw [Hget.out]; exact hc), if_pos (by rw [Hget.out]; exact .inr h9)]
       . have hb2 := big_snoc i (bs.drop k) hil Hbig.out (by rw [Hget.out]; omega); rw [h9.1] at hb2; exact readPk_end _ hb2
      have e9 : ((i : Int) == 9) = true := beq_iff_eq.2 (by omega); have g1 : decide ((1 : Int) < (cc.toNat : Int)) = true := decide_eq_true (by omega); have g1' : (1 : Int) < (cc.toNat : Int) := by omega
      clear h9; go_wp2_with (first | (refine wp_st 155 (.tmp 4) (.tmp 32) rfl rfl rfl (f := 0) rfl (l := gotL 0 (.slice none 0 0) 0 2) rfl bz (by simp [gotL]) sizeGot (one_got 0 0 2 _ _ _) ?_; intro w3 hb3 hG3; refine wp_stop ?_)); have hB3 := hB.grown hG3 hB.size (fun k hk => by injection hk with hk; omega); refine wp_go ?_; go_wp2; refine ret_cell rfl rfl hb3.whole Tryz.underlying155 rfl sizeGot rfl ?_; refine ⟨?_, hB3⟩; rw [hE.out]; rfl
    . have hsl := sum_lt (x := x) (c := cc.toNat) (by rw [Hx.out]; exact accP_lt _ _) Hu.out (by omega); have hsum := sum_wrap hsl; obtain ⟨Y, hY⟩ := nm (x + U * (cc.toNat % 128)); rw [<- hY] at hsum hsl; have HY := hid hY; clear hY; have hUl : U <= 128 ^ 9 := by rw [Hu.out]; exact Nat.pow_le_pow_right (by omega) hi
      have e9 : i = 9 -> ((1 : Int) < (cc.toNat : Int)) = False := fun h => eq_false (by omega); have Hp := hid h9; clear h9; by_cases hc : cc.toNat < 128
      . have hIc : (cc.toNat : Int) < 128 := by omega
        have hR := readPk_last i _ (by omega) hil Hbig.out (by rw [Hget.out]; exact hc); rw [Hget.out] at hR; by_cases h0 : cc.toNat = 0 /\ 0 < i
        . rw [if_pos (.inl h0)] at hR; have hE := hid hR; have z0 : ((cc.toNat : Int) == 0) = true := beq_iff_eq.2 (by omega); have zi : (0 : Int) < (i : Int) := by omega
          clear hR h0 hc; by_cases h9' : i = 9
          . have e9' : ((i : Int) == 9) = true := beq_iff_eq.2 (by omega); have n1 : ¬ (1 : Int) < (cc.toNat : Int) := by have := Hp.out; omega
            clear h9' e9; go_wp2_with (first | (refine wp_st 155 (.tmp 4) (.tmp 48) rfl rfl rfl (f := 0) rfl (l := gotL 0 (.slice none 0 0) 0 2) rfl bz (by simp [gotL]) sizeGot (one_got 0 0 2 _ _ _) ?_; intro w3 hb3 hG3; refine wp_stop ?_)); have hB3 := hB.grown hG3 hB.size (fun k hk => by injection hk with hk; omega); refine wp_go ?_; go_wp2; refine ret_cell rfl rfl hb3.whole Tryz.underlying155 rfl sizeGot rfl ?_; refine ⟨?_, hB3⟩; rw [hE.out]; rfl
          . have e9' : ((i : Int) == 9) = false := beq_eq_false_iff_ne.2 (by omega); clear h9' e9; go_wp2_with (first | (refine wp_st 155 (.tmp 4) (.tmp 48) rfl rfl rfl (f := 0) rfl (l := gotL 0 (.slice none 0 0) 0 2) rfl bz (by simp [gotL]) sizeGot (one_got 0 0 2 _ _ _) ?_; intro w3 hb3 hG3; refine wp_stop ?_)); have hB3 := hB.grown hG3 hB.size (fun k hk => by injection hk with hk; omega); refine wp_go ?_; go_wp2; refine ret_cell rfl rfl hb3.whole Tryz.underlying155 rfl sizeGot rfl ?_; refine ⟨?_, hB3⟩; rw [hE.out]; rfl
        . rw [if_neg (by have := Hp.out; omega)] at hR; have HR := hid hR; have hY2 : Hid (accP i (bs.drop k) + 128 ^ i * cc.toNat = Y) := by show _ = _; rw [HY.out, <- Hx.out, <- Hu.out, Nat.mod_eq_of_lt hc]
          have hz : Hid (¬ ((cc.toNat : Int) = 0 /\ (0 : Int) < (i : Int))) := by show ¬ _; omega
          clear hR h0 hc; by_cases z : cc.toNat = 0
          . have z0 : ((cc.toNat : Int) == 0) = true := beq_iff_eq.2 (by omega); have zi : ¬ (0 : Int) < (i : Int) := by have := hz.out; omega
            have e9' : ((i : Int) == 9) = false := beq_eq_false_iff_ne.2 (by omega); clear z e9; go_wp2_with (first | (refine wp_st 155 (.tmp 4) (.tmp 52) rfl rfl rfl (f := 0) rfl (l := gotL Y (.slice none 0 0) (i + 1) 0) rfl bz (by simp [gotL]) sizeGot (one_got Y (i + 1) 0 _ _ _) ?_; intro w3 hb3 hG3; refine wp_stop ?_)); have hB3 := hB.grown hG3 hB.size (fun k hk => by injection hk with hk; omega); refine wp_go ?_; go_wp2; refine ret_cell rfl rfl hb3.whole Tryz.underlying155 rfl sizeGot rfl ?_; refine ⟨?_, hB3⟩; rw [HR.out, hY2.out]; rfl
          . have z0 : ((cc.toNat : Int) == 0) = false := beq_eq_false_iff_ne.2 (by omega); clear z; by_cases h9' : i = 9
            . have e9' : ((i : Int) == 9) = true := beq_iff_eq.2 (by omega); have n1 : ¬ (1 : Int) < (cc.toNat : Int) := by have := Hp.out; omega
              clear h9' e9; go_wp2_with (first | (refine wp_st 155 (.tmp 4) (.tmp 52) rfl rfl rfl (f := 0) rfl (l := gotL Y (.slice none 0 0) (i + 1) 0) rfl bz (by simp [gotL]) sizeGot (one_got Y (i + 1) 0 _ _ _) ?_; intro w3 hb3 hG3; refine wp_stop ?_)); have hB3 := hB.grown hG3 hB.size (fun k hk => by injection hk with hk; omega); refine wp_go ?_; go_wp2; refine ret_cell rfl rfl hb3.whole Tryz.underlying155 rfl sizeGot rfl ?_; refine ⟨?_, hB3⟩; rw [HR.out, hY2.out]; rfl
            . have e9' : ((i : Int) == 9) = false := beq_eq_false_iff_ne.2 (by omega); clear h9' e9; go_wp2_with (first | (refine wp_st 155 (.tmp 4) (.tmp 52) rfl rfl rfl (f := 0) rfl (l := gotL Y (.slice none 0 0) (i + 1) 0) rfl bz (by simp [gotL]) sizeGot (one_got Y (i + 1) 0 _ _ _) ?_; intro w3 hb3 hG3; refine wp_stop ?_)); have hB3 := hB.grown hG3 hB.size (fun k hk => by injection hk with hk; omega); refine wp_go ?_; go_wp2; refine ret_cell rfl rfl hb3.whole Tryz.underlying155 rfl sizeGot rfl ?_; refine ⟨?_, hB3⟩; rw [HR.out, hY2.out]; rfl
      . have hIc : ¬ (cc.toNat : Int) < 128 := by omega
        have h8 : i <= 8 := by have := Hp.out; omega
        have e9' : ((i : Int) == 9) = false := beq_eq_false_iff_ne.2 (by omega)
        have hU2 : IntKind.u64.wrap (128 * (U : Int)) = ((128 * U : Nat) : Int) := by
         have hp : 128 ^ i <= 128 ^ 8 := Nat.pow_le_pow_right (by omega) h8; have hu := Hu.out; rw [show (128 : Int) * (U : Int) = ((128 * U : Nat) : Int) from by push_cast; rfl]; exact IntWalk.u64_in _ (by omega)
        obtain ⟨U2, hU2e⟩ := nm (128 * U); rw [<- hU2e] at hU2; have HU2 : Hid (U2 = 128 ^ (i + 1)) := by show _ = _; rw [hU2e, Hu.out, Nat.pow_succ, Nat.mul_comm]
        have HY2 : Hid (Y = accP (i + 1) (bs.drop k)) := by show _ = _; rw [HY.out, accP_snoc i _ hil, Hget.out, Hx.out, Hu.out]
        have Hb2 := hid (big_snoc i _ hil Hbig.out (by rw [Hget.out]; omega)); clear hU2e hc e9; go_wp2
        go_roundw
        case rel => exact ⟨i + 1, by omega, by omega, by go_num, ⟨Y, rfl, HY2⟩, ⟨U2, rfl, HU2⟩, Hb2, bz, hB⟩
        case measure => simp [intOf]; omega
theorem rd_err {bs : List UInt8} {e : Nat} (h : readPk bs = .error e) : e = 1 \/ e = 2 := rdF_err _ _ _ _ h
theorem rcount_any (v : Value) (bs : List UInt8) (k most : Nat) (F : Nat -> Prop) (w : World) (h : Rd w F v (bys bs)) (hk : k <= bs.length) (hl : bs.length <= 1000000000000) (hm : most <= 1000000000000) :
 Calls Tryz.prog 100 #[v, .int .i64 (k : Int), .int .i64 (most : Int)] w fun e w' => e = .returned (.agg (gotP (cntR most (readPk (bs.drop k)))).toArray) /\ Below w.heap.size w w' := by
 obtain ⟨A, c, rfl⟩ := h.shape; have hB0 : Below w.heap.size w (w.alloc (.cells (gotL 0 (.slice none 0 0) 0 0).toArray 155)) := (Below.refl _ _).alloc (Nat.le_refl _) _; have bz := Blk.new' w 155 (gotL 0 (.slice none 0 0) 0 0); have h0 := h.below hB0; go_enter Tryz.func100, Tryz.ntmps100; go_wp2_with (first | (refine wp_new 155 rfl rfl zeroGot ?_; refine wp_stop ?_)); obtain ⟨w0, hw0⟩ := nm (w.alloc (.cells (gotL 0 (.slice none 0 0) 0 0).toArray 155)); obtain ⟨g, hg⟩ := nm (w.heap.size); rw [<- hw0] at bz h0 hB0 |-; rw [<- hg] at bz |-; have hgw : w.heap.size <= g := by omega
 clear hw0 hg; refine wp_go ?_; have hrp := rpacked_any _ bs k F w0 h0 hk hl; cases hr : readPk (bs.drop k) with
 | error e =>
  rw [hr] at hrp; have he := rd_err hr; have hR : Hid (gotP (cntR most (readPk (bs.drop k))) = gotL 0 (.slice none 0 0) 0 e) := by show _ = _; rw [hr]; rfl
  have Hrp := hid hrp; clear hrp hr; go_wp2_with (fail); refine Hrp.out.mono ?_; rintro e' w1 ⟨rfl, hB1⟩; have bz1 := bz.below hB1; have hB1' := hB0.trans (hB1.mono hB0.size); clear bz h0 hB0 hB1 Hrp; go_wp2_with (first | (refine wp_newst 155 7 (.tmp 10) rfl rfl rfl rfl rfl rfl zeroGot (l := gotL 0 (.slice none 0 0) 0 e) rfl rfl sizeGot (one_got 0 0 e _ _ _) (by simp) ?_; intro w3 hb3 hB3 hs3; refine wp_stop ?_)); have bz3 := bz1.below hB3; have hBB := hB1'.trans (hB3.mono hB1'.size); obtain ⟨g3, hg3⟩ := nm (w1.heap.size); rw [<- hg3] at hb3 |-; clear hg3 bz1 hB1' hB3 hs3; have c3 := hb3.cellAt 3 _ rfl; have c0 := hb3.cellAt 0 _ rfl; have c1 := hb3.cellAt 1 _ rfl; have c2 := hb3.cellAt 2 _ rfl; have ne : ((e : Int) == 0) = false := beq_eq_false_iff_ne.2 (by omega); refine wp_go ?_; go_wp2_with (first | (refine wp_st 155 (.tmp 6) (.tmp 26) rfl rfl rfl (f := 0) rfl (l := gotL 0 (.slice none 0 0) 0 e) rfl bz3 (by simp [gotL]) sizeGot (one_got 0 0 e _ _ _) ?_; intro w9 hb9 hG9; refine wp_stop ?_)); have hB9 := hBB.grown hG9 hBB.size (fun k hk => by injection hk with hk; omega); refine wp_go ?_; go_wp2; refine ret_cell rfl rfl hb9.whole Tryz.underlying155 rfl sizeGot rfl ?_; exact ⟨by rw [hR.out]; rfl, hB9⟩
 | ok r =>
  obtain ⟨x, n⟩ := r; rw [hr] at hrp; obtain ⟨_, hx, hn⟩ := packed_readPk hr; have Hr := hid hr; have Hrp := hid hrp; clear hrp hr; go_wp2_with (fail); refine Hrp.out.mono ?_; rintro e' w1 ⟨rfl, hB1⟩; have bz1 := bz.below hB1; have hB1' := hB0.trans (hB1.mono hB0.size); clear bz h0 hB0 hB1 Hrp; go_wp2_with (first | (refine wp_newst 155 7 (.tmp 10) rfl rfl rfl rfl rfl rfl zeroGot (l := gotL x (.slice none 0 0) n 0) rfl rfl sizeGot (one_got x n 0 _ _ _) (by simp) ?_; intro w3 hb3 hB3 hs3; refine wp_stop ?_)); have bz3 := bz1.below hB3; have hBB := hB1'.trans (hB3.mono hB1'.size); obtain ⟨g3, hg3⟩ := nm (w1.heap.size); rw [<- hg3] at hb3 |-; clear hg3 bz1 hB1' hB3 hs3; have c3 := hb3.cellAt 3 _ rfl; have c0 := hb3.cellAt 0 _ rfl; have c1 := hb3.cellAt 1 _ rfl; have c2 := hb3.cellAt 2 _ rfl; have hmn : ¬ ((most : Int) < 0) := by omega
  have hmw : IntKind.u64.wrap (most : Int) = (most : Int) := IntWalk.u64_in _ (by omega); refine wp_go ?_; by_cases hlt : most < x
  . have hR : Hid (gotP (cntR most (readPk (bs.drop k))) = gotL 0 (.slice none 0 0) 0 3) := by
     have h2 : cntR (most : Int) (.ok (x, n)) = .error 3 := if_pos (Or.inr (by omega)); show _ = _; rw [Hr.out, h2]; rfl
    have hI : (most : Int) < (x : Int) := by omega
    go_wp2_with (first | (refine wp_st 155 (.tmp 6) (.tmp 25) rfl rfl rfl (f := 0) rfl (l := gotL 0 (.slice none 0 0) 0 3) rfl bz3 (by simp [gotL]) sizeGot (one_got 0 0 3 _ _ _) ?_; intro w9 hb9 hG9; refine wp_stop ?_)); have hB9 := hBB.grown hG9 hBB.size (fun k hk => by injection hk with hk; omega); refine wp_go ?_; go_wp2; refine ret_cell rfl rfl hb9.whole Tryz.underlying155 rfl sizeGot rfl ?_; exact ⟨by rw [hR.out]; rfl, hB9⟩
  . have hR : Hid (gotP (cntR most (readPk (bs.drop k))) = gotL x (.slice none 0 0) n 0) := by
     have h2 : cntR (most : Int) (.ok (x, n)) = .ok (x, n) := if_neg (by omega); show _ = _; rw [Hr.out, h2]; rfl
    have hI : ¬ (most : Int) < (x : Int) := by omega
    go_wp2_with (first | (refine wp_st 155 (.tmp 6) (.tmp 26) rfl rfl rfl (f := 0) rfl (l := gotL x (.slice none 0 0) n 0) rfl bz3 (by simp [gotL]) sizeGot (one_got x n 0 _ _ _) ?_; intro w9 hb9 hG9; refine wp_stop ?_)); have hB9 := hBB.grown hG9 hBB.size (fun k hk => by injection hk with hk; omega); refine wp_go ?_; go_wp2; refine ret_cell rfl rfl hb9.whole Tryz.underlying155 rfl sizeGot rfl ?_; exact ⟨by rw [hR.out]; rfl, hB9⟩
theorem cnt_pos {most : Int} {l : List UInt8} {e : Nat} (h : cntR most (readPk l) = .error e) : e ≠ 0 := by
 cases hr : readPk l with
 | error k =>
  rw [hr] at h; have h : Except.error k = Except.error e := h; injection h with h
  have := rd_err hr; omega
 | ok r =>
  obtain ⟨x, n⟩ := r; rw [hr] at h; unfold cntR at h; dsimp only at h
  split at h
  . injection h with h; omega
  . cases h
theorem txt_pos {most : Int} {l : List UInt8} {e : Nat} (h : textR most l = .error e) : e ≠ 0 := by
 unfold textR at h
 split at h
 . split at h
   . injection h with h; omega
   . cases h
 . rename_i k hk; injection h with h
   subst h; exact cnt_pos hk
theorem prt_pos : ∀ (c k : Nat) (X : List UInt8) (e : Nat), prtR c k X = .error e -> e ≠ 0
 | 0, _, _, _, h => by simp only [prtR] at h; cases h
 | c + 1, k, X, e, h => by
  simp only [prtR] at h; cases h1 : textR 65536 (X.drop k) with
  | error e' => rw [h1] at h; injection h with h; subst h; exact txt_pos h1
  | ok r =>
   obtain ⟨n, z⟩ := r; rw [h1] at h; dsimp only at h; cases h2 : prtR c (k + (z + n)) X with
   | error e' => rw [h2] at h; injection h with h; subst h; exact prt_pos c _ X _ h2
   | ok q => rw [h2] at h; cases h
theorem rdM_pos {X : List UInt8} {e : Nat} (h : rdM X = .error e) : e ≠ 0 := by
 by_cases h40 : X.length < 40
 . rw [rd_short h40] at h; injection h with h
   omega
 . rw [rd_head (by omega)] at h
   split at h
   . rename_i k hk; injection h with h; subst h; exact txt_pos hk
   . split at h
     . rename_i k hk; injection h with h; subst h; exact cnt_pos hk
     . split at h
       . rename_i k hk; injection h with h; subst h; exact prt_pos _ _ _ _ hk
       . split at h
         . injection h with h; omega
         . split at h
           . cases h
           . injection h with h; omega
theorem rdM_hash {X : List UInt8} {m : Mg} (h : rdM X = .ok m) : m.h.length = 32 := by
 by_cases h40 : X.length < 40
 . rw [rd_short h40] at h; cases h
 . rw [rd_head (by omega)] at h
   split at h
   . cases h
   . split at h
     . cases h
     . split at h
       . cases h
       . split at h
         . cases h
         . split at h
           . injection h with h
             subst h; show ((X.drop 8).take 32).length = 32; rw [List.length_take, List.length_drop]; omega
           . cases h
theorem op_pos {ks : List (List UInt8)} {X : List UInt8} {e : Nat} (h : opR ks X = .error e) : e ≠ 0 := by
 unfold opR at h
 split at h
 . injection h with h; omega
 . split at h
   . injection h with h; omega
   . split at h
     . rename_i k hk; injection h with h; subst h; exact rdM_pos hk
     . split at h
       . injection h with h; omega
       . split at h
         . cases h
         . injection h with h; omega
theorem op_num {ks : List (List UInt8)} {X : List UInt8} {m : Mg} (h : opR ks X = .ok m) : numB m = true := by
 unfold opR at h
 split at h
 . cases h
 . split at h
   . cases h
   . split at h
     . cases h
     . rename_i m' hm
       split at h
       . cases h
       . split at h
         . injection h with h; subst h; exact rdM_num hm
         . cases h
theorem op_hash {ks : List (List UInt8)} {X : List UInt8} {m : Mg} (h : opR ks X = .ok m) : m.h.length = 32 := by
 unfold opR at h
 split at h
 . cases h
 . rename_i h32
   split at h
   . cases h
   . split at h
     . cases h
     . rename_i m' hm
       split at h
       . cases h
       . split at h
         . injection h with h; subst h; exact rdM_hash hm
         . cases h
theorem bldMz : ∀ W : World, (Instr.build 47 #[]).run Tryz.prog W = .ok (.agg zM.toArray) W := fun _ => by kernel_rfl
theorem sizeKs17 : (Tryz.prog.info? 40).map (·.size) = some 2 := by kernel_rfl
theorem sizeVw17 : (Tryz.prog.info? 24).map (·.size) = some 2 := by kernel_rfl
theorem mg_one (m : Mg) (A B : Option Addr) (a b c d : Nat) : ∀ v ∈ m.l (.slice A a b) (.slice B c d), v.oneCell' = true := by
 intro v hv; unfold Mg.l at hv; simp only [List.mem_cons, List.mem_append, List.not_mem_nil, or_false] at hv; rcases hv with rfl | rfl | rfl | rfl | rfl | hv | rfl | rfl
 . rfl
 . rfl
 . rfl
 . rfl
 . rfl
 . exact oneCell_bvs _ v hv
 . rfl
 . rfl
theorem openof9_any (ks : List (List UInt8)) (V : Vc) (X : List UInt8) (uk ur v : Value) (F G : Nat -> Prop) (w : World) (hKS : KS w) (hks : KsSm ks) (hk : Rd w F uk (tx ks)) (hv : Rd w G v (bys X)) (hX : X.length <= 1000000) (hV : V.m < 65536) :
 Calls Tryz.prog 21 #[.agg #[uk, ur], vw V.n V.m, v] w (ReadP w (opOf ks V X)) := by
 obtain ⟨n, M⟩ := V; dsimp only at hV; obtain ⟨A, c, rfl⟩ := hv.shape; obtain ⟨W1, hW1, b3, b4, hB⟩ := alloc2 w 40 24 [uk, ur] [.int .i64 n, .int .u16 (M : Int)]; have b6 := Blk.new' W1 47 zM; have hB6 : Below W1.heap.size W1 (W1.alloc (.cells zM.toArray 47)) := (Below.refl _ _).alloc (Nat.le_refl _) _; have hs1 : W1.heap.size = w.heap.size + 1 + 1 := by rw [hW1]; simp
 have b3 := b3.below hB6; have b4 := b4.below hB6; have hB := hB.trans (hB6.mono hB.size); have hKS := hKS.below hB; have hk := hk.below hB; have hv := hv.below hB; have hop := hid (fun (e : Nat) => op_pos (ks := ks) (X := X) (e := e)); have hnm := hid (fun (m : Mg) => op_num (ks := ks) (X := X) (m := m))
 have hof := hid (show opOf ks ⟨n, M⟩ X = match opR ks X with
  | .ok m => if hasB M m.f = true then .ok m else .error 6
  | .error e => .error e from rfl)
 obtain ⟨R, hR⟩ := nm (opOf ks ⟨n, M⟩ X); rw [<- hR] at hof |-; have hbm := bldMz; unfold vw; clear hR hB6; go_enter Tryz.func21, Tryz.ntmps21; go_wp2_with (first | (refine wp_new 47 rfl rfl zeroM ?_; refine wp_stop ?_)); rw [hs1] at b6; obtain ⟨w0, hw0⟩ := nm (W1.alloc (.cells zM.toArray 47)); rw [<- hw0] at b3 b4 b6 hB hKS hk hv; rw [hW1] at hw0
 first | rw [<- hw0] | (simp only [List.toArray] at hw0 |-; rw [<- hw0])
 obtain ⟨g6, hg6⟩ := nm (w.heap.size + 1 + 1); rw [<- hg6] at b6 |-; obtain ⟨g4, hg4⟩ := nm (w.heap.size + 1); rw [<- hg4] at b4 |-; obtain ⟨g3, hg3⟩ := nm (w.heap.size); rw [<- hg3] at b3 |-; have hw3 : w.heap.size <= g3 := by omega
 have h36 : g3 < g6 := by omega
 have h46 : g4 < g6 := by omega
 clear hg3 hg4 hg6 hw0 hW1 hs1; refine wp_go ?_; go_wp2_with (refine wp_ld 40 (.tmp 3) rfl rfl rfl b3.whole Tryz.underlying40 rfl sizeKs17 ?_); refine (open9_any ks X uk ur _ F G _ hKS hks hk hv hX).mono ?_; intro e w1 hP; cases hr : opR ks X with
 | error k =>
  have hRe := hid (hof.out.trans (by rw [hr])); have hk0 := hop.out k hr; rw [hr] at hP; obtain ⟨rfl, hB1⟩ := hP; have b6 := b6.below hB1; have hB := hB.trans (hB1.mono hB.size); have hkI : ((k : Int) != 0) = true := bne_iff_ne.2 (by omega); clear hop hnm hof hr b3 b4 hKS hk hv hB1 hk0; go_wp2_with (first | refine wp_bld 47 [] rfl rfl [] rfl hbm ?_ | (refine wp_newst 47 8 (.tmp 14) rfl rfl rfl rfl rfl rfl zeroM (l := zM) rfl rfl (by rw [len_zM]; exact sizeM) one_zM8 (by simp) ?_; intro w2 b8 hB2 hs2; refine wp_stop ?_)); have b6 := b6.below hB2; have hB := hB.trans (hB2.mono hB.size); clear hs2 b8; refine wp_go ?_; go_wp2_with (first | refine wp_bld 47 [] rfl rfl [] rfl hbm ?_ | (refine wp_st 47 (.tmp 6) (.tmp 18) rfl rfl rfl (f := 0) rfl (l := zM) rfl b6 (by rw [len_zM]; omega) (by rw [len_zM]; exact sizeM) one_zM8 ?_; intro w3 k6 G6)); rw [set_all zM zM rfl] at k6; have hB := hB.grown G6 hB.size (fun k hk => by injection hk with hk; omega); refine ret_cell1 rfl rfl rfl k6.whole Tryz.underlying47 rfl (by rw [len_zM]; exact sizeM) rfl ?_; rw [hRe.out]; exact ⟨rfl, hB⟩
 | ok m =>
  have hRo := hid (hof.out.trans (by rw [hr])); have hnb := hnm.out m hr; rw [hr] at hP; obtain ⟨⟨ub, up, rfl, hub, hup⟩, hB1⟩ := hP; have hmb : 0 <= m.f /\ m.f <= 15 := by unfold numB at hnb; have := of_decide_eq_true hnb; omega
  have hhl : m.h.length = 32 := op_hash hr; have hl60 := b6.lt; have b4 := b4.below hB1; have b6 := b6.below hB1; have hub := hub.weak (F' := fun b => w.heap.size <= b /\ b ≠ g6) (fun b _ h => ⟨Nat.le_trans hB.size h, by omega⟩); have hup := hup.weak (F' := fun b => w.heap.size <= b /\ b ≠ g6) (fun b _ h => ⟨Nat.le_trans hB.size h, by omega⟩); have hB := hB.trans (hB1.mono hB.size); obtain ⟨Ab, cb, rfl⟩ := hub.shape; obtain ⟨Ap, cp, rfl, _, _⟩ := hup.slShape; have hone := hid (mg_one m Ab Ap m.b.length cb m.ps.length cp); have hlm := hid (len_mg hhl (.slice Ab m.b.length cb) (.slice Ap m.ps.length cp)); have hf1 : (m.l (.slice Ab m.b.length cb) (.slice Ap m.ps.length cp))[1]? = some (.int .i64 m.f) := rfl; have hRD : Hid (∀ W, ReadP w (Except.ok m) (.returned (.tuple #[.agg (m.l (.slice Ab m.b.length cb) (.slice Ap m.ps.length cp)).toArray, .int .i64 0])) W ↔ ((∃ ub up, (.returned (.tuple #[.agg (m.l (.slice Ab m.b.length cb) (.slice Ap m.ps.length cp)).toArray, .int .i64 0]) : Ending) = .returned (.tuple #[m.val ub up, .int .i64 0]) /\ Rd W (fun b => w.heap.size <= b) ub (bys m.b) /\ Rd W (fun b => w.heap.size <= b) up (tx m.ps)) /\ Below w.heap.size w W)) := fun W => Iff.rfl; have hval : m.val (.slice Ab m.b.length cb) (.slice Ap m.ps.length cp) = .agg (m.l (.slice Ab m.b.length cb) (.slice Ap m.ps.length cp)).toArray := rfl; have hfin := hid (fun W (h1 : Rd W (fun b => w.heap.size <= b) (.slice Ab m.b.length cb) (bys m.b)) (h2 : Rd W (fun b => w.heap.size <= b) (.slice Ap m.ps.length cp) (tx m.ps)) (h3 : Below w.heap.size w W) => (hRD.out W).2 ⟨⟨_, _, rfl, h1, h2⟩, h3⟩); rw [hval]; obtain ⟨lm, hlm'⟩ := nm (m.l (.slice Ab m.b.length cb) (.slice Ap m.ps.length cp)); rw [<- hlm'] at hone hlm hf1 hfin |-; have Hf1 := hid hf1; clear hlm' hf1 hRD hval hop hnm hof hr b3 hKS hk hv hB1 hnb; go_wp2_with (first | (refine wp_newst 47 8 (.tmp 14) rfl rfl rfl rfl rfl rfl zeroM (l := lm) rfl (by rw [hlm.out]; exact len_zM) (by rw [hlm.out]; exact sizeM) hone.out (by simp) ?_; intro w2 b8 hB2 hs2; refine wp_stop ?_)); have b4 := b4.below hB2; have hlt6 := b6.lt; have b6 := b6.below hB2; have hub := hub.below hB2; have hup := hup.below hB2; have hB := hB.trans (hB2.mono hB.size); obtain ⟨g8, hg8⟩ := nm (w1.heap.size); rw [<- hg8] at b8 hlt6 |-; have hw6 : w.heap.size <= g6 := by omega
  clear hg8 hs2 hB2; have c1 := b8.cellAt 1 _ Hf1.out; clear h36 h46; refine wp_go ?_; have Hb := hid (hbm); have hhas := hid (has_any n M m.f w2 hV (by omega) (by omega)); go_wp2_with (first | refine wp_ld 24 (.tmp 4) rfl rfl rfl b4.whole Tryz.underlying24 rfl sizeVw17 ?_ | refine wp_ldg 24 (.tmp 4) (by rfl) rfl rfl b4.whole Tryz.underlying24 rfl sizeVw17 ?_); refine hhas.out.mono ?_; intro e w3 h3; obtain ⟨rfl, hB3⟩ := h3; have b6 := b6.below hB3; have b8 := b8.below hB3; have hub := hub.below hB3; have hup := hup.below hB3; have hB := hB.trans (hB3.mono hB.size); clear hhas hB3; cases hh : hasB M m.f with
  | false =>
   have hRe : Hid (R = .error 6) := hid (hRo.out.trans (by rw [hh]; rfl)); clear hRo hfin hub hup c1 hh; go_wp2_with (first | refine wp_bld 47 [] rfl rfl [] rfl hbm ?_ | (refine wp_st 47 (.tmp 6) (.tmp 25) rfl rfl rfl (f := 0) rfl (l := zM) rfl b6 (by rw [len_zM]; omega) (by rw [len_zM]; exact sizeM) one_zM8 ?_; intro w4 k6 G6; refine wp_stop ?_)); rw [set_all zM zM rfl] at k6; have hB := hB.grown G6 hB.size (fun k hk => by injection hk with hk; omega); refine wp_go ?_; go_wp2; refine ret_cell1 rfl rfl rfl k6.whole Tryz.underlying47 rfl (by rw [len_zM]; exact sizeM) rfl ?_; rw [hRe.out]; exact ⟨rfl, hB⟩
  | true =>
   have hRe : Hid (R = .ok m) := hid (hRo.out.trans (by rw [hh]; rfl)); clear hRo hh; go_wp2_with (first | refine wp_ld 47 (.tmp 8) rfl rfl rfl b8.whole Tryz.underlying47 rfl (by rw [hlm.out]; exact sizeM) ?_ | (refine wp_st 47 (.tmp 6) (.tmp 26) rfl rfl rfl (f := 0) rfl (l := lm) rfl b6 (by rw [len_zM, hlm.out]; omega) (by rw [hlm.out]; exact sizeM) hone.out ?_; intro w4 k6 G6; refine wp_stop ?_)); rw [set_all _ _ (by rw [len_zM, hlm.out])] at k6; have hub := hub.keep (F' := fun b => w.heap.size <= b) (fun b hb hF => ⟨hF.1, G6.block b hb (by intro h; injection h with h; exact hF.2 h)⟩); have hup := hup.keep (F' := fun b => w.heap.size <= b) (fun b hb hF => ⟨hF.1, G6.block b hb (by intro h; injection h with h; exact hF.2 h)⟩); have hB := hB.grown G6 hB.size (fun k hk => by injection hk with hk; omega); refine wp_go ?_; go_wp2; refine ret_cell1 rfl rfl rfl k6.whole Tryz.underlying47 rfl (by rw [hlm.out]; exact sizeM) rfl ?_; rw [hRe.out]; exact hfin.out _ hub hup hB
end Go.Proofs.YtnhhbbjkeekneaaGreatDoor
