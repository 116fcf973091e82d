/- I4: several texts in one (UV I4). -/
import Derived.Test.YthbbpfnfnnmdnaaDoorVA
import Derived.Test.YthbbpfnfnnmdnaaDoorN6
import Derived.Test.YthbbpfnfnnmdnaaDoorMP
/- UV: laws: two new variables stored at once (x, y := f()), two results that lie in cells, a pair of cells. No project text. -/
namespace Go.V
open Go.RowKit
theorem alloc2 (w : World) (tA tB : TypeId) (lA lB : List Value) : ∃ W, W = ((w.alloc (.cells lA.toArray tA)).alloc (.cells lB.toArray tB)) ∧ Blk W w.heap.size tA lA ∧ Blk W (w.heap.size + 1) tB lB ∧ Below w.heap.size w W := by
  refine ⟨_, rfl, ?_⟩
  have a1 := Blk.new' w tA lA
  have B1 : Below w.heap.size w (w.alloc (.cells lA.toArray tA)) := (Below.refl _ _).alloc (Nat.le_refl _) _
  obtain ⟨w1, h1⟩ : ∃ x, x = w.alloc (.cells lA.toArray tA) := ⟨_, rfl⟩
  have s1 : w1.heap.size = w.heap.size + 1 := by rw [h1]; simp
  rw [← h1] at a1 B1 ⊢
  clear h1
  have a2 := Blk.new' w1 tB lB
  have B2 : Below w1.heap.size w1 (w1.alloc (.cells lB.toArray tB)) := (Below.refl _ _).alloc (Nat.le_refl _) _
  rw [← s1]
  exact ⟨a1.below B2, a2, B1.trans (B2.mono (by omega))⟩
theorem alloc3 (w : World) (tA tB tC : TypeId) (lA lB lC : List Value) : ∃ W, W = (((w.alloc (.cells lA.toArray tA)).alloc (.cells lB.toArray tB)).alloc (.cells lC.toArray tC)) ∧ Blk W w.heap.size tA lA ∧ Blk W (w.heap.size + 1) tB lB ∧ Blk W (w.heap.size + 1 + 1) tC lC ∧ Below w.heap.size w W := by
  refine ⟨_, rfl, ?_⟩
  have a1 := Blk.new' w tA lA
  have B1 : Below w.heap.size w (w.alloc (.cells lA.toArray tA)) := (Below.refl _ _).alloc (Nat.le_refl _) _
  obtain ⟨w1, h1⟩ : ∃ x, x = w.alloc (.cells lA.toArray tA) := ⟨_, rfl⟩
  have s1 : w1.heap.size = w.heap.size + 1 := by rw [h1]; simp
  rw [← h1] at a1 B1 ⊢
  clear h1
  have a2 := Blk.new' w1 tB lB
  have B2 : Below w1.heap.size w1 (w1.alloc (.cells lB.toArray tB)) := (Below.refl _ _).alloc (Nat.le_refl _) _
  obtain ⟨w2, h2⟩ : ∃ x, x = w1.alloc (.cells lB.toArray tB) := ⟨_, rfl⟩
  have s2 : w2.heap.size = w1.heap.size + 1 := by rw [h2]; simp
  rw [← h2] at a2 B2 ⊢
  clear h2
  have a3 := Blk.new' w2 tC lC
  have B3 : Below w2.heap.size w2 (w2.alloc (.cells lC.toArray tC)) := (Below.refl _ _).alloc (Nat.le_refl _) _
  have e3 : w2.heap.size = w.heap.size + 1 + 1 := by omega
  rw [← e3, ← s1]
  exact ⟨(a1.below B2).below B3, a2.below B3, a3, (B1.trans (B2.mono (by omega))).trans (B3.mono (by omega))⟩
end Go.V
/- I4: layer 1: the document's reading of a packed number, a count, a text. -/
namespace Go.Proofs.YthbbpfnfnnmdnaaDoor
open Go.RowKit Go.V
def gotL (x : Nat) (v : Value) (n : Nat) (e : Nat) : List Value := [.int .u64 (x : Int), v, .int .i64 (n : Int), .int .i64 (e : Int)]
theorem sizeGot : (Tryd.prog.info? 143).map (·.size) = some 4 := by kernel_rfl
theorem zeroGot : (Tryd.prog.info? 143).map (·.zero) = some (some (.agg (gotL 0 (.slice none 0 0) 0 0).toArray)) := by kernel_rfl
theorem one_got (x n e : Nat) (A : Option Addr) (k c : Nat) : ∀ v ∈ gotL x (.slice A k c) n e, v.oneCell' = true := by
  intro v hv
  simp [gotL] at hv
  rcases hv with rfl | rfl | rfl | rfl <;> rfl
def gotP (r : Except Nat (Nat × Nat)) : List Value := match r with
  | .ok (x, n) => gotL x (.slice none 0 0) n 0
  | .error e => gotL 0 (.slice none 0 0) 0 e
theorem sum_lt {x U c i : Nat} (hx : x < 128 ^ i) (hU : U = 128 ^ i) (h : i ≤ 8 ∨ (i = 9 ∧ c ≤ 1)) : x + U * (c % 128) < 18446744073709551616 := by
  have hm : c % 128 < 128 := Nat.mod_lt _ (by omega)
  rcases h with h | ⟨rfl, h⟩
  · have hp : 128 ^ i ≤ 128 ^ 8 := Nat.pow_le_pow_right (by omega) h
    have h1 : U * (c % 128) ≤ 128 ^ 8 * 127 := Nat.mul_le_mul (by omega) (by omega)
    omega
  · have h1 : c % 128 ≤ 1 := by omega
    have h2 : U * (c % 128) ≤ 128 ^ 9 * 1 := Nat.mul_le_mul (by omega) h1
    omega
theorem sum_wrap {x U c : Nat} (h : x + U * (c % 128) < 18446744073709551616) : IntKind.u64.wrap ((x : Int) + IntKind.u64.wrap ((c : Int) % 128 * (U : Int))) = ((x + U * (c % 128) : Nat) : Int) := by
  have e : (c : Int) % 128 * (U : Int) = ((U * (c % 128) : Nat) : Int) := by rw [Nat.mul_comm]; push_cast; rfl
  rw [e]
  have h2 : IntKind.u64.wrap ((U * (c % 128) : Nat) : Int) = ((U * (c % 128) : Nat) : Int) := IntWalk.u64_in _ (by omega)
  rw [h2]
  have e3 : (x : Int) + ((U * (c % 128) : Nat) : Int) = ((x + U * (c % 128) : Nat) : Int) := by push_cast; rfl
  rw [e3]
  exact IntWalk.u64_in _ (by omega)
set_option maxRecDepth 100000 in
set_option maxHeartbeats 8000000 in
theorem rpacked_any (v : Value) (bs : List UInt8) (k : Nat) (F : Nat → Prop) (w : World) (h : Rd w F v (bys bs)) (hk : k ≤ bs.length) (hl : bs.length ≤ 1000000000000) :
    Calls Tryd.prog 93 #[v, .int .i64 (k : Int)] w fun e w' => e = .returned (.agg (gotP (readPk (bs.drop k))).toArray) ∧ Below w.heap.size w w' := by
  obtain ⟨A, c, rfl⟩ := h.shape
  have hB0 : Below w.heap.size w (w.alloc (.cells (gotL 0 (.slice none 0 0) 0 0).toArray 143)) := (Below.refl _ _).alloc (Nat.le_refl _) _
  have bz := Blk.new' w 143 (gotL 0 (.slice none 0 0) 0 0)
  have h0 := h.below hB0
  go_enter Tryd.func93, Tryd.ntmps93
  go_wp2_with (first | (refine wp_new 143 rfl rfl zeroGot ?_; refine wp_stop ?_))
  obtain ⟨w0, hw0⟩ : ∃ w0, w0 = w.alloc (.cells (gotL 0 (.slice none 0 0) 0 0).toArray 143) := ⟨_, rfl⟩
  obtain ⟨g, hg⟩ : ∃ g, g = w.heap.size := ⟨_, rfl⟩
  rw [← hw0] at bz h0 hB0 ⊢
  rw [← hg] at bz ⊢
  have hgw : w.heap.size ≤ g := by omega
  clear hw0 hg
  refine wp_go ?_
  go_wp2
  go_loopw [5, 6, 7] (fun xv uv iv wr => ∃ i : Nat, i ≤ 9 ∧ k + i ≤ bs.length ∧ iv = .int .i64 i ∧ (∃ x : Nat, xv = .int .u64 (x : Int) ∧ Hid (x = accP i (bs.drop k))) ∧ (∃ U : Nat, uv = .int .u64 (U : Int) ∧ Hid (U = 128 ^ i)) ∧ Hid (big i (bs.drop k)) ∧ Blk wr g 143 (gotL 0 (.slice none 0 0) 0 0) ∧ Below w.heap.size w wr) (fun _ _ iv _ => 10 - (intOf iv).toNat)
  case atStart => exact ⟨0, by omega, by omega, rfl, ⟨0, rfl, by show _ = _; rfl⟩, ⟨1, rfl, by show _ = _; rfl⟩, hid trivial, bz, hB0⟩
  case round =>
    clear bz hB0 h0
    obtain ⟨i, hi, hki, rfl, ⟨x, rfl, Hx⟩, ⟨U, rfl, Hu⟩, Hbig, bz, hB⟩ := hrel
    have hwr := h.below hB
    have hI10 : (i : Int) < 10 := by omega
    have hin : IntKind.i64.wrap ((k : Int) + (i : Int)) = ((k + i : Nat) : Int) := by rw [show (k : Int) + (i : Int) = ((k + i : Nat) : Int) from by push_cast; rfl]; exact IntWalk.i64_in _ (by omega)
    have hin1 : IntKind.i64.wrap ((i : Int) + 1) = (i : Int) + 1 := IntWalk.i64_in _ (by omega)
    by_cases hend : k + i = bs.length
    · have hE := hid (readPk_short i _ (by omega) (by simp; omega) Hbig.out)
      have ht : (bs.length : Int) ≤ ((k + i : Nat) : Int) := by omega
      have hd : decide ((bs.length : Int) ≤ ((k + i : Nat) : Int)) = true := decide_eq_true ht
      clear hend
      go_wp2_with (first | (refine wp_st 143 (.tmp 4) (.tmp 19) rfl rfl rfl (f := 0) rfl (l := gotL 0 (.slice none 0 0) 0 1) rfl bz (by simp [gotL]) sizeGot (one_got 0 0 1 _ _ _) ?_; intro w3 hb3 hG3; refine wp_stop ?_))
      have hB3 := hB.grown hG3 hB.size (fun k hk => by injection hk with hk; omega)
      refine wp_go ?_
      go_wp2
      refine ret_cell rfl rfl hb3.whole Tryd.underlying143 rfl sizeGot rfl ?_
      refine ⟨?_, hB3⟩
      rw [hE.out]
      rfl
    · have hlt : k + i < bs.length := by omega
      have ht : ¬ (bs.length : Int) ≤ ((k + i : Nat) : Int) := by omega
      have hd : decide ((bs.length : Int) ≤ ((k + i : Nat) : Int)) = false := decide_eq_false ht
      obtain ⟨ga, off, rfl, _, hcell⟩ := hwr.byteAt (k + i) hlt
      have hget : (bs.drop k)[i]'(by simp; omega) = bs[k + i] := by simp
      obtain ⟨cc, hcc⟩ : ∃ cc, cc = bs[k + i] := ⟨_, rfl⟩
      rw [← hcc] at hcell hget
      have Hget := hid hget
      have hil : i < (bs.drop k).length := by simp; omega
      have hc256 := cc.toNat_lt
      clear hcc hget hend
      by_cases h9 : i = 9 ∧ 1 < cc.toNat
      · have hE : Hid (readPk (bs.drop k) = .error 2) := by
          show _ = _
          by_cases hc : cc.toNat < 128
          · rw [readPk_last i _ (by omega) hil Hbig.out (by rw [Hget.out]; exact hc), if_pos (by rw [Hget.out]; exact .inr h9)]
          · have hb2 := big_snoc i (bs.drop k) hil Hbig.out (by rw [Hget.out]; omega)
            rw [h9.1] at hb2
            exact readPk_end _ hb2
        have e9 : ((i : Int) == 9) = true := beq_iff_eq.2 (by omega)
        have g1 : decide ((1 : Int) < (cc.toNat : Int)) = true := decide_eq_true (by omega)
        have g1' : (1 : Int) < (cc.toNat : Int) := by omega
        clear h9
        go_wp2_with (first | (refine wp_st 143 (.tmp 4) (.tmp 32) rfl rfl rfl (f := 0) rfl (l := gotL 0 (.slice none 0 0) 0 2) rfl bz (by simp [gotL]) sizeGot (one_got 0 0 2 _ _ _) ?_; intro w3 hb3 hG3; refine wp_stop ?_))
        have hB3 := hB.grown hG3 hB.size (fun k hk => by injection hk with hk; omega)
        refine wp_go ?_
        go_wp2
        refine ret_cell rfl rfl hb3.whole Tryd.underlying143 rfl sizeGot rfl ?_
        refine ⟨?_, hB3⟩
        rw [hE.out]
        rfl
      · have hsl := sum_lt (x := x) (c := cc.toNat) (by rw [Hx.out]; exact accP_lt _ _) Hu.out (by omega)
        have hsum := sum_wrap hsl
        obtain ⟨Y, hY⟩ : ∃ Y, Y = x + U * (cc.toNat % 128) := ⟨_, rfl⟩
        rw [← hY] at hsum hsl
        have HY := hid hY
        clear hY
        have hUl : U ≤ 128 ^ 9 := by rw [Hu.out]; exact Nat.pow_le_pow_right (by omega) hi
        have e9 : i = 9 → ((1 : Int) < (cc.toNat : Int)) = False := fun h => eq_false (by omega)
        have Hp := hid h9
        clear h9
        by_cases hc : cc.toNat < 128
        · have hIc : (cc.toNat : Int) < 128 := by omega
          have hR := readPk_last i _ (by omega) hil Hbig.out (by rw [Hget.out]; exact hc)
          rw [Hget.out] at hR
          by_cases h0 : cc.toNat = 0 ∧ 0 < i
          · rw [if_pos (.inl h0)] at hR
            have hE := hid hR
            have z0 : ((cc.toNat : Int) == 0) = true := beq_iff_eq.2 (by omega)
            have zi : (0 : Int) < (i : Int) := by omega
            clear hR h0 hc
            by_cases h9' : i = 9
            · have e9' : ((i : Int) == 9) = true := beq_iff_eq.2 (by omega)
              have n1 : ¬ (1 : Int) < (cc.toNat : Int) := by have := Hp.out; omega
              clear h9' e9
              go_wp2_with (first | (refine wp_st 143 (.tmp 4) (.tmp 48) rfl rfl rfl (f := 0) rfl (l := gotL 0 (.slice none 0 0) 0 2) rfl bz (by simp [gotL]) sizeGot (one_got 0 0 2 _ _ _) ?_; intro w3 hb3 hG3; refine wp_stop ?_))
              have hB3 := hB.grown hG3 hB.size (fun k hk => by injection hk with hk; omega)
              refine wp_go ?_
              go_wp2
              refine ret_cell rfl rfl hb3.whole Tryd.underlying143 rfl sizeGot rfl ?_
              refine ⟨?_, hB3⟩
              rw [hE.out]
              rfl
            · have e9' : ((i : Int) == 9) = false := beq_eq_false_iff_ne.2 (by omega)
              clear h9' e9
              go_wp2_with (first | (refine wp_st 143 (.tmp 4) (.tmp 48) rfl rfl rfl (f := 0) rfl (l := gotL 0 (.slice none 0 0) 0 2) rfl bz (by simp [gotL]) sizeGot (one_got 0 0 2 _ _ _) ?_; intro w3 hb3 hG3; refine wp_stop ?_))
              have hB3 := hB.grown hG3 hB.size (fun k hk => by injection hk with hk; omega)
              refine wp_go ?_
              go_wp2
              refine ret_cell rfl rfl hb3.whole Tryd.underlying143 rfl sizeGot rfl ?_
              refine ⟨?_, hB3⟩
              rw [hE.out]
              rfl
          · rw [if_neg (by have := Hp.out; omega)] at hR
            have HR := hid hR
            have hY2 : Hid (accP i (bs.drop k) + 128 ^ i * cc.toNat = Y) := by show _ = _; rw [HY.out, ← Hx.out, ← Hu.out, Nat.mod_eq_of_lt hc]
            have hz : Hid (¬ ((cc.toNat : Int) = 0 ∧ (0 : Int) < (i : Int))) := by show ¬ _; omega
            clear hR h0 hc
            by_cases z : cc.toNat = 0
            · have z0 : ((cc.toNat : Int) == 0) = true := beq_iff_eq.2 (by omega)
              have zi : ¬ (0 : Int) < (i : Int) := by have := hz.out; omega
              have e9' : ((i : Int) == 9) = false := beq_eq_false_iff_ne.2 (by omega)
              clear z e9
              go_wp2_with (first | (refine wp_st 143 (.tmp 4) (.tmp 52) rfl rfl rfl (f := 0) rfl (l := gotL Y (.slice none 0 0) (i + 1) 0) rfl bz (by simp [gotL]) sizeGot (one_got Y (i + 1) 0 _ _ _) ?_; intro w3 hb3 hG3; refine wp_stop ?_))
              have hB3 := hB.grown hG3 hB.size (fun k hk => by injection hk with hk; omega)
              refine wp_go ?_
              go_wp2
              refine ret_cell rfl rfl hb3.whole Tryd.underlying143 rfl sizeGot rfl ?_
              refine ⟨?_, hB3⟩
              rw [HR.out, hY2.out]
              rfl
            · have z0 : ((cc.toNat : Int) == 0) = false := beq_eq_false_iff_ne.2 (by omega)
              clear z
              by_cases h9' : i = 9
              · have e9' : ((i : Int) == 9) = true := beq_iff_eq.2 (by omega)
                have n1 : ¬ (1 : Int) < (cc.toNat : Int) := by have := Hp.out; omega
                clear h9' e9
                go_wp2_with (first | (refine wp_st 143 (.tmp 4) (.tmp 52) rfl rfl rfl (f := 0) rfl (l := gotL Y (.slice none 0 0) (i + 1) 0) rfl bz (by simp [gotL]) sizeGot (one_got Y (i + 1) 0 _ _ _) ?_; intro w3 hb3 hG3; refine wp_stop ?_))
                have hB3 := hB.grown hG3 hB.size (fun k hk => by injection hk with hk; omega)
                refine wp_go ?_
                go_wp2
                refine ret_cell rfl rfl hb3.whole Tryd.underlying143 rfl sizeGot rfl ?_
                refine ⟨?_, hB3⟩
                rw [HR.out, hY2.out]
                rfl
              · have e9' : ((i : Int) == 9) = false := beq_eq_false_iff_ne.2 (by omega)
                clear h9' e9
                go_wp2_with (first | (refine wp_st 143 (.tmp 4) (.tmp 52) rfl rfl rfl (f := 0) rfl (l := gotL Y (.slice none 0 0) (i + 1) 0) rfl bz (by simp [gotL]) sizeGot (one_got Y (i + 1) 0 _ _ _) ?_; intro w3 hb3 hG3; refine wp_stop ?_))
                have hB3 := hB.grown hG3 hB.size (fun k hk => by injection hk with hk; omega)
                refine wp_go ?_
                go_wp2
                refine ret_cell rfl rfl hb3.whole Tryd.underlying143 rfl sizeGot rfl ?_
                refine ⟨?_, hB3⟩
                rw [HR.out, hY2.out]
                rfl
        · have hIc : ¬ (cc.toNat : Int) < 128 := by omega
          have h8 : i ≤ 8 := by have := Hp.out; omega
          have e9' : ((i : Int) == 9) = false := beq_eq_false_iff_ne.2 (by omega)
          have hU2 : IntKind.u64.wrap (128 * (U : Int)) = ((128 * U : Nat) : Int) := by
            have hp : 128 ^ i ≤ 128 ^ 8 := Nat.pow_le_pow_right (by omega) h8
            have hu := Hu.out
            rw [show (128 : Int) * (U : Int) = ((128 * U : Nat) : Int) from by push_cast; rfl]
            exact IntWalk.u64_in _ (by omega)
          obtain ⟨U2, hU2e⟩ : ∃ U2, U2 = 128 * U := ⟨_, rfl⟩
          rw [← hU2e] at hU2
          have HU2 : Hid (U2 = 128 ^ (i + 1)) := by show _ = _; rw [hU2e, Hu.out, Nat.pow_succ, Nat.mul_comm]
          have HY2 : Hid (Y = accP (i + 1) (bs.drop k)) := by show _ = _; rw [HY.out, accP_snoc i _ hil, Hget.out, Hx.out, Hu.out]
          have Hb2 := hid (big_snoc i _ hil Hbig.out (by rw [Hget.out]; omega))
          clear hU2e hc e9
          go_wp2
          go_roundw
          case rel => exact ⟨i + 1, by omega, by omega, by go_num, ⟨Y, rfl, HY2⟩, ⟨U2, rfl, HU2⟩, Hb2, bz, hB⟩
          case measure => simp [intOf]; omega
theorem rd_err {bs : List UInt8} {e : Nat} (h : readPk bs = .error e) : e = 1 ∨ e = 2 := rdF_err _ _ _ _ h
set_option maxRecDepth 100000 in
set_option maxHeartbeats 8000000 in
theorem rcount_any (v : Value) (bs : List UInt8) (k most : Nat) (F : Nat → Prop) (w : World) (h : Rd w F v (bys bs)) (hk : k ≤ bs.length) (hl : bs.length ≤ 1000000000000) (hm : most ≤ 1000000000000) :
    Calls Tryd.prog 85 #[v, .int .i64 (k : Int), .int .i64 (most : Int)] w fun e w' => e = .returned (.agg (gotP (cntR most (readPk (bs.drop k)))).toArray) ∧ Below w.heap.size w w' := by
  obtain ⟨A, c, rfl⟩ := h.shape
  have hB0 : Below w.heap.size w (w.alloc (.cells (gotL 0 (.slice none 0 0) 0 0).toArray 143)) := (Below.refl _ _).alloc (Nat.le_refl _) _
  have bz := Blk.new' w 143 (gotL 0 (.slice none 0 0) 0 0)
  have h0 := h.below hB0
  go_enter Tryd.func85, Tryd.ntmps85
  go_wp2_with (first | (refine wp_new 143 rfl rfl zeroGot ?_; refine wp_stop ?_))
  obtain ⟨w0, hw0⟩ : ∃ w0, w0 = w.alloc (.cells (gotL 0 (.slice none 0 0) 0 0).toArray 143) := ⟨_, rfl⟩
  obtain ⟨g, hg⟩ : ∃ g, g = w.heap.size := ⟨_, rfl⟩
  rw [← hw0] at bz h0 hB0 ⊢
  rw [← hg] at bz ⊢
  have hgw : w.heap.size ≤ g := by omega
  clear hw0 hg
  refine wp_go ?_
  have hrp := rpacked_any _ bs k F w0 h0 hk hl
  cases hr : readPk (bs.drop k) with
  | error e =>
    rw [hr] at hrp
    have he := rd_err hr
    have hR : Hid (gotP (cntR most (readPk (bs.drop k))) = gotL 0 (.slice none 0 0) 0 e) := by show _ = _; rw [hr]; rfl
    have Hrp := hid hrp
    clear hrp hr
    go_wp2_with (fail)
    refine Hrp.out.mono ?_
    rintro e' w1 ⟨rfl, hB1⟩
    have bz1 := bz.below hB1
    have hB1' := hB0.trans (hB1.mono hB0.size)
    clear bz h0 hB0 hB1 Hrp
    go_wp2_with (first | (refine wp_newst 143 7 (.tmp 10) rfl rfl rfl rfl rfl rfl zeroGot (l := gotL 0 (.slice none 0 0) 0 e) rfl rfl sizeGot (one_got 0 0 e _ _ _) (by simp) ?_; intro w3 hb3 hB3 hs3; refine wp_stop ?_))
    have bz3 := bz1.below hB3
    have hBB := hB1'.trans (hB3.mono hB1'.size)
    obtain ⟨g3, hg3⟩ : ∃ g3, g3 = w1.heap.size := ⟨_, rfl⟩
    rw [← hg3] at hb3 ⊢
    clear hg3 bz1 hB1' hB3 hs3
    have c3 := hb3.cellAt 3 _ rfl
    have c0 := hb3.cellAt 0 _ rfl
    have c1 := hb3.cellAt 1 _ rfl
    have c2 := hb3.cellAt 2 _ rfl
    have ne : ((e : Int) == 0) = false := beq_eq_false_iff_ne.2 (by omega)
    refine wp_go ?_
    go_wp2_with (first | (refine wp_st 143 (.tmp 6) (.tmp 26) rfl rfl rfl (f := 0) rfl (l := gotL 0 (.slice none 0 0) 0 e) rfl bz3 (by simp [gotL]) sizeGot (one_got 0 0 e _ _ _) ?_; intro w9 hb9 hG9; refine wp_stop ?_))
    have hB9 := hBB.grown hG9 hBB.size (fun k hk => by injection hk with hk; omega)
    refine wp_go ?_
    go_wp2
    refine ret_cell rfl rfl hb9.whole Tryd.underlying143 rfl sizeGot rfl ?_
    exact ⟨by rw [hR.out]; rfl, hB9⟩
  | ok r =>
    obtain ⟨x, n⟩ := r
    rw [hr] at hrp
    obtain ⟨_, hx, hn⟩ := packed_readPk hr
    have Hr := hid hr
    have Hrp := hid hrp
    clear hrp hr
    go_wp2_with (fail)
    refine Hrp.out.mono ?_
    rintro e' w1 ⟨rfl, hB1⟩
    have bz1 := bz.below hB1
    have hB1' := hB0.trans (hB1.mono hB0.size)
    clear bz h0 hB0 hB1 Hrp
    go_wp2_with (first | (refine wp_newst 143 7 (.tmp 10) rfl rfl rfl rfl rfl rfl zeroGot (l := gotL x (.slice none 0 0) n 0) rfl rfl sizeGot (one_got x n 0 _ _ _) (by simp) ?_; intro w3 hb3 hB3 hs3; refine wp_stop ?_))
    have bz3 := bz1.below hB3
    have hBB := hB1'.trans (hB3.mono hB1'.size)
    obtain ⟨g3, hg3⟩ : ∃ g3, g3 = w1.heap.size := ⟨_, rfl⟩
    rw [← hg3] at hb3 ⊢
    clear hg3 bz1 hB1' hB3 hs3
    have c3 := hb3.cellAt 3 _ rfl
    have c0 := hb3.cellAt 0 _ rfl
    have c1 := hb3.cellAt 1 _ rfl
    have c2 := hb3.cellAt 2 _ rfl
    have hmn : ¬ ((most : Int) < 0) := by omega
    have hmw : IntKind.u64.wrap (most : Int) = (most : Int) := IntWalk.u64_in _ (by omega)
    refine wp_go ?_
    by_cases hlt : most < x
    · have hR : Hid (gotP (cntR most (readPk (bs.drop k))) = gotL 0 (.slice none 0 0) 0 3) := by
        have h2 : cntR (most : Int) (.ok (x, n)) = .error 3 := if_pos (Or.inr (by omega))
        show _ = _
        rw [Hr.out, h2]
        rfl
      have hI : (most : Int) < (x : Int) := by omega
      go_wp2_with (first | (refine wp_st 143 (.tmp 6) (.tmp 25) rfl rfl rfl (f := 0) rfl (l := gotL 0 (.slice none 0 0) 0 3) rfl bz3 (by simp [gotL]) sizeGot (one_got 0 0 3 _ _ _) ?_; intro w9 hb9 hG9; refine wp_stop ?_))
      have hB9 := hBB.grown hG9 hBB.size (fun k hk => by injection hk with hk; omega)
      refine wp_go ?_
      go_wp2
      refine ret_cell rfl rfl hb9.whole Tryd.underlying143 rfl sizeGot rfl ?_
      exact ⟨by rw [hR.out]; rfl, hB9⟩
    · have hR : Hid (gotP (cntR most (readPk (bs.drop k))) = gotL x (.slice none 0 0) n 0) := by
        have h2 : cntR (most : Int) (.ok (x, n)) = .ok (x, n) := if_neg (by omega)
        show _ = _
        rw [Hr.out, h2]
        rfl
      have hI : ¬ (most : Int) < (x : Int) := by omega
      go_wp2_with (first | (refine wp_st 143 (.tmp 6) (.tmp 26) rfl rfl rfl (f := 0) rfl (l := gotL x (.slice none 0 0) n 0) rfl bz3 (by simp [gotL]) sizeGot (one_got x n 0 _ _ _) ?_; intro w9 hb9 hG9; refine wp_stop ?_))
      have hB9 := hBB.grown hG9 hBB.size (fun k hk => by injection hk with hk; omega)
      refine wp_go ?_
      go_wp2
      refine ret_cell rfl rfl hb9.whole Tryd.underlying143 rfl sizeGot rfl ?_
      exact ⟨by rw [hR.out]; rfl, hB9⟩
end Go.Proofs.YthbbpfnfnnmdnaaDoor
