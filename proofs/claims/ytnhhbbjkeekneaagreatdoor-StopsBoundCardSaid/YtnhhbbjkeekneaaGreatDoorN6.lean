/- N6: several texts in one. -/
import Derived.Test.YtnhhbbjkeekneaaGreatDoorRB
import Derived.StillTailTactics
/- N4: contracts of a reader's methods: those that only look. -/
namespace Go.Proofs.YtnhhbbjkeekneaaGreatDoor
open Go.RowKit Go.V

def rp (p : Nat) : Value := .pointer (some ⟨p, 0, none⟩)
theorem RdR.cells {w : World} {p : Nat} {F : Nat → Prop} {bs : List UInt8} {k : Nat} (h : RdR w p F bs k) :
    ∃ A c, w.cell? ⟨p, 0, none⟩ = some (.slice A bs.length c) ∧ w.cell? ⟨p, 1, none⟩ = some (.int .i64 (k : Int)) ∧ bs.length ≤ 9223372036854775807 ∧ Rd w F (.slice A bs.length c) (bys bs) ∧ k ≤ bs.length := by
  obtain ⟨v, hh, hr, hk, _⟩ := h
  obtain ⟨A, c, rfl, h1, h2, _⟩ := hr.bytes
  unfold maxLen at h2
  exact ⟨A, c, by simp [World.cell?, hh], by simp [World.cell?, hh], by omega, hr, hk⟩

theorem left_any (p : Nat) (F : Nat → Prop) (bs : List UInt8) (k : Nat) (w : World) (h : RdR w p F bs k) :
    Calls Tryz.prog 137 #[rp p] w fun e w' => e = .returned (.int .i64 ((bs.length : Int) - (k : Int))) ∧ ∃ n, w' = w.drewN n := by
  obtain ⟨A, c, h0, h1, hm, _, hk⟩ := h.cells
  unfold rp
  go_enter Tryz.func137, Tryz.ntmps137
  go_wp2
  go_quiet (fail)
  go_wp2
  go_ret
  exact ⟨rfl, _, rfl⟩

theorem done_any (p : Nat) (F : Nat → Prop) (bs : List UInt8) (k : Nat) (w : World) (h : RdR w p F bs k) :
    Calls Tryz.prog 117 #[rp p] w fun e w' => e = .returned (.int .i64 (if k < bs.length then 2 else 0)) ∧ ∃ n, w' = w.drewN n := by
  unfold rp
  have hk := h.cells
  obtain ⟨_, _, _, _, hm, _, hk⟩ := hk
  by_cases hlt : k < bs.length
  · rw [if_pos hlt]
    go_enter Tryz.func117, Tryz.ntmps117
    go_wp2_with (fail)
    refine (left_any p F bs k _ h).mono ?_
    rintro e w1 ⟨rfl, n, rfl⟩
    go_wp2
    go_ret
    exact ⟨rfl, _, rfl⟩
  · rw [if_neg hlt]
    go_enter Tryz.func117, Tryz.ntmps117
    go_wp2_with (fail)
    refine (left_any p F bs k _ h).mono ?_
    rintro e w1 ⟨rfl, n, rfl⟩
    go_wp2
    go_ret
    exact ⟨rfl, _, rfl⟩

def eP (r : Except Nat (Nat × Nat)) : Ending := match r with
  | .ok (x, n) => .returned (.tuple #[.int .u64 (x : Int), .int .i64 (n : Int), .int .i64 0])
  | .error e => .returned (.tuple #[.int .u64 0, .int .i64 0, .int .i64 (e : Int)])

theorem or_acc (x y i : Nat) (hy : y < 256) (hi : i ≤ 9) (hx : x < 128 ^ i) :
    bits BinOp.or IntKind.u64 (x : Int) (IntKind.u64.wrap (IntKind.u64.wrap (bits BinOp.andNot IntKind.u8 (y : Int) 128) * 2 ^ (7 * i))) = ((x ||| (y % 128 * 128 ^ i % 18446744073709551616) : Nat) : Int) := by
  have h1 : bits .andNot .u8 (y : Int) 128 = ((y &&& (255 - 128) : Nat) : Int) := u8_andNot_nat y 128 hy (by omega)
  rw [show 255 - 128 = 127 from rfl, nat_mask7] at h1
  have hp : 128 ^ i ≤ 128 ^ 9 := Nat.pow_le_pow_right (by omega) hi
  have e2 : (2 : Int) ^ (7 * i) = ((128 ^ i : Nat) : Int) := by
    rw [show (2 : Int) ^ (7 * i) = ((2 ^ (7 * i) : Nat) : Int) from by push_cast; rfl, Nat.pow_mul]
  have e3 : ((y % 128 : Nat) : Int) * ((128 ^ i : Nat) : Int) = ((y % 128 * 128 ^ i : Nat) : Int) := by push_cast; rfl
  have e4 : (((y % 128 * 128 ^ i : Nat) : Int)) % 18446744073709551616 = ((y % 128 * 128 ^ i % 18446744073709551616 : Nat) : Int) := by generalize y % 128 * 128 ^ i = q; omega
  have hy2 : ((y % 128 : Nat) : Int) % 18446744073709551616 = ((y % 128 : Nat) : Int) := by omega
  have hb : x < 18446744073709551616 := by omega
  simp only [h1, IntKind.wrap_u64, hy2, e2, e3, e4]
  exact u64_or_nat _ _ hb (Nat.mod_lt _ (by omega))
theorem or_join (x y i : Nat) (hx : x < 128 ^ i) (hf : y % 128 * 128 ^ i < 18446744073709551616) : x ||| (y % 128 * 128 ^ i % 18446744073709551616) = x + 128 ^ i * (y % 128) := by
  rw [Nat.mod_eq_of_lt hf, Nat.or_comm, show 128 ^ i = 2 ^ (7 * i) from by rw [Nat.pow_mul]]
  rw [show 128 ^ i = 2 ^ (7 * i) from by rw [Nat.pow_mul]] at hx
  rw [nat_join (7 * i) _ _ (Nat.mul_mod_left _ _) hx, Nat.mul_comm, Nat.add_comm]
theorem fits8 (y i : Nat) (hi : i ≤ 8) : y % 128 * 128 ^ i < 18446744073709551616 := by
  have hp : 128 ^ i ≤ 128 ^ 8 := Nat.pow_le_pow_right (by omega) hi
  have h1 : y % 128 < 128 := Nat.mod_lt _ (by omega)
  have := Nat.mul_le_mul (Nat.le_of_lt h1) hp
  omega
theorem fits9 (y i : Nat) (hi : i ≤ 9) (hy : y ≤ 1) : y % 128 * 128 ^ i < 18446744073709551616 := by
  have hp : 128 ^ i ≤ 128 ^ 9 := Nat.pow_le_pow_right (by omega) hi
  have h1 : y % 128 ≤ 1 := by omega
  have := Nat.mul_le_mul h1 hp
  omega

theorem or_val {x y i a : Nat} (hx : x = a) (ha : a < 128 ^ i) (hy : y < 128) (hi : i ≤ 9) (hf : i ≤ 8 ∨ y ≤ 1) :
    bits BinOp.or IntKind.u64 (x : Int) (IntKind.u64.wrap (IntKind.u64.wrap (bits BinOp.andNot IntKind.u8 (y : Int) 128) * 2 ^ (7 * i))) = ((a + 128 ^ i * y : Nat) : Int) := by
  subst hx
  rw [or_acc x y i (by omega) hi ha, or_join x y i ha (by rcases hf with h | h; exact fits8 _ _ h; exact fits9 _ _ hi h), Nat.mod_eq_of_lt hy]
set_option maxHeartbeats 1000000 in
set_option maxRecDepth 100000 in
theorem peek_any (p : Nat) (F : Nat → Prop) (bs : List UInt8) (k : Nat) (w : World) (h : RdR w p F bs k) :
    Calls Tryz.prog 151 #[rp p] w fun e w' => e = eP (readPk (bs.drop k)) ∧ ∃ n, w' = w.drewN n := by
  obtain ⟨A, c, h0, h1, hm, hr, hk⟩ := h.cells
  unfold rp
  go_enter Tryz.func151, Tryz.ntmps151
  go_wp2
  go_loopw [2, 11] (fun xv iv wr => ∃ i : Nat, i ≤ 10 ∧ k + i ≤ bs.length ∧ iv = .int .i64 i ∧ (∃ x : Nat, xv = .int .u64 (x : Int) ∧ (i ≤ 9 → x = accP i (bs.drop k))) ∧ big i (bs.drop k) ∧ ∃ n, wr = w.drewN n) (fun _ iv _ => 10 - (intOf iv).toNat)
  case atStart => exact ⟨0, by omega, by omega, rfl, ⟨0, rfl, fun _ => rfl⟩, trivial, 0, rfl⟩
  case round =>
    obtain ⟨i, hi, hki, rfl, ⟨x, rfl, hx⟩, hbig, n, rfl⟩ := hrel
    have hrw := h.drewN n
    by_cases h10 : i = 10
    · subst h10
      have hE := hid (readPk_end _ hbig)
      clear hbig hx
      go_wp2
      go_ret3
      exact ⟨by rw [hE.out]; rfl, _, rfl⟩
    · have hi10 : i < 10 := by omega
      have hx := hx (by omega)
      by_cases hend : k + i = bs.length
      · have hE := hid (readPk_short i _ hi10 (by simp; omega) hbig)
        have ht : ((i : Int) == (bs.length : Int) - (k : Int)) = true := beq_iff_eq.2 (by omega)
        clear hbig hx hend
        go_wp2_with (fail)
        refine (left_any p F bs k _ hrw).mono ?_
        rintro e w1 ⟨rfl, m, rfl⟩
        go_wp2
        go_ret3
        exact ⟨by rw [hE.out]; rfl, _, rfl⟩
      · have hlt : k + i < bs.length := by omega
        have ht : ((i : Int) == (bs.length : Int) - (k : Int)) = false := beq_eq_false_iff_ne.2 (by omega)
        obtain ⟨g, off, rfl, _, hcell⟩ := hr.byteAt (k + i) hlt
        have hget : (bs.drop k)[i]'(by simp; omega) = bs[k + i] := by simp
        obtain ⟨cc, hcc⟩ : ∃ cc, cc = bs[k + i] := ⟨_, rfl⟩
        rw [← hcc] at hcell hget
        have Hget := hid hget
        clear hcc hget hend
        have hc256 := cc.toNat_lt
        by_cases hc : 128 ≤ cc.toNat
        · have hacc := hid (accP_snoc i (bs.drop k) (by simp; omega))
          have hb2 := hid (big_snoc i (bs.drop k) (by simp; omega) hbig (by rw [Hget.out]; exact hc))
          have Hx := hid hx
          clear hbig hx
          go_wp2_with (fail)
          refine (left_any p F bs k _ hrw).mono ?_
          rintro e w1 ⟨rfl, m, rfl⟩
          go_wp2
          go_quiet (fail)
          go_wp2
          have hO := or_acc x cc.toNat i hc256 (by omega) (by rw [Hx.out]; exact accP_lt _ _)
          refine ⟨⟨i + 1, by omega, by omega, by go_num, ⟨_, by rw [hO], fun h9 => ?_⟩, hb2.out, _, rfl⟩, by simp [intOf]; omega⟩
          rw [or_join x cc.toNat i (by rw [Hx.out]; exact accP_lt _ _) (fits8 _ _ (by omega)), hacc.out, Hget.out, Hx.out]
        · have hl := hid (readPk_last i (bs.drop k) hi10 (by simp; omega) hbig (by rw [Hget.out]; omega))
          have hl' := hl.out
          rw [Hget.out] at hl'
          clear hl
          have hl := hid hl'
          clear hl'
          have Hx := hid hx
          clear hbig hx
          have hc' : cc.toNat < 128 := by omega
          go_wp2_with (fail)
          refine (left_any p F bs k _ hrw).mono ?_
          rintro e w1 ⟨rfl, m, rfl⟩
          go_wp2
          go_quiet (fail)
          go_wp2
          all_goals
            go_ret3
            refine ⟨?_, _, rfl⟩
            rw [hl.out]
            simp only [beq_iff_eq, beq_eq_false_iff_ne, ne_eq] at *
            first
              | (rw [if_pos (by omega)]; rfl)
              | (rw [if_neg (by omega)]; exact ret_iii (or_val Hx.out (accP_lt _ _) hc' (by omega) (by omega)) (by omega) rfl)
end Go.Proofs.YtnhhbbjkeekneaaGreatDoor
/- N5: contracts of a reader's methods that read on. -/
namespace Go.Proofs.YtnhhbbjkeekneaaGreatDoor
open Go.RowKit Go.V

def only (p : Nat) : Nat → Prop := fun b => b = p
theorem RdR.free {w : World} {p : Nat} {F : Nat → Prop} {bs : List UInt8} {k : Nat} (h : RdR w p F bs k) : w.frozen? ⟨p, 1, none⟩ = false := by
  obtain ⟨v, h1, _⟩ := h
  simp [World.frozen?, h1]
theorem heap_set_same (w : World) (p i : Nat) (u : Value) (cs : Array Value) (t : TypeId) (h : w.heap[p]? = some (.cells cs t (0, 0))) : (w.setCell ⟨p, i, none⟩ u).heap[p]? = some (.cells (cs.setIfInBounds i u) t (0, 0)) := by
  simp [World.setCell, Array.getElem?_modify, h]
theorem RdR.set {w : World} {p : Nat} {F : Nat → Prop} {bs : List UInt8} {k : Nat} (h : RdR w p F bs k) (k' : Nat) (hk : k' ≤ bs.length) : RdR (w.setCell ⟨p, 1, none⟩ (.int .i64 (k' : Int))) p F bs k' := by
  obtain ⟨v, h1, h2, _, h4⟩ := h
  refine ⟨v, by rw [heap_set_same _ _ _ _ _ _ h1]; rfl, h2.keep (fun b _ hf => ⟨hf, Below.heap_setCell _ _ _ _ (fun e => by have e' : b = p := e; subst e'; exact h4 hf)⟩), hk, h4⟩
theorem Ch.set {w : World} {p i : Nat} (u : Value) : Ch (only p) w (w.setCell ⟨p, i, none⟩ u) :=
  ⟨rfl, rfl, rfl, by simp [World.setCell], fun k _ hk => Below.heap_setCell _ _ _ _ hk⟩

def lenP : Except Nat (Nat × Nat) → Nat | .ok (_, n) => n | .error _ => 0
def e1 (r : Except Nat (Nat × Nat)) : Ending := match r with
  | .ok (x, _) => .returned (.tuple #[.int .u64 (x : Int), .int .i64 0])
  | .error e => .returned (.tuple #[.int .u64 0, .int .i64 (e : Int)])
/-- a call on a reader: what it answers, how far it stands then, nothing else turned -/
def On (p : Nat) (F : Nat → Prop) (bs : List UInt8) (w : World) (e0 : Ending) (k' : Nat) : Ending → World → Prop :=
  fun e w' => e = e0 ∧ RdR w' p F bs k' ∧ Ch (only p) w w'

set_option maxHeartbeats 400000 in
theorem packed_any (p : Nat) (F : Nat → Prop) (bs : List UInt8) (k : Nat) (w : World) (h : RdR w p F bs k) :
    Calls Tryz.prog 161 #[rp p] w (On p F bs w (e1 (readPk (bs.drop k))) (k + lenP (readPk (bs.drop k)))) := by
  have hpk := peek_any p F bs k w h
  cases hr : readPk (bs.drop k) with
  | error e =>
    rw [hr] at hpk
    have He := rdF_err _ _ _ _ hr
    unfold rp at hpk ⊢
    have hne : ((e : Int) != 0) = true := by rw [bne_iff_ne]; omega
    have Hpk := hid hpk
    clear hpk hr
    go_enter Tryz.func161, Tryz.ntmps161
    go_wp2_with (fail)
    refine Hpk.out.mono ?_
    rintro e w1 ⟨rfl, n, rfl⟩
    simp only [eP]
    go_wp2
    go_ret2
    exact ⟨rfl, h.drewN n, (Ch.refl _ _).drewN n⟩
  | ok r =>
    obtain ⟨x, m⟩ := r
    rw [hr] at hpk
    have hm := packed_readPk hr
    obtain ⟨A, c, h0, h1, hm2, _, hk⟩ := h.cells
    have hlen : k + m ≤ bs.length := by have := hm.2.2; simp at this; omega
    have hfz := h.free
    unfold rp at hpk ⊢
    have Hpk := hid hpk
    clear hpk hr hm
    go_enter Tryz.func161, Tryz.ntmps161
    go_wp2_with (fail)
    refine Hpk.out.mono ?_
    rintro e w1 ⟨rfl, n, rfl⟩
    simp only [eP]
    go_wp2
    go_ret2
    have hs := (h.drewN n).set (k + m) hlen
    rw [show ((k + m : Nat) : Int) = (k : Int) + (m : Int) from by push_cast; rfl] at hs
    exact ⟨rfl, hs, ((Ch.refl _ _).drewN n).trans (Ch.set _)⟩

def e2 (r : Except Nat (Nat × Nat)) : Ending := match r with
  | .ok (x, _) => .returned (.tuple #[.int .i64 (unfoldZ x), .int .i64 0])
  | .error e => .returned (.tuple #[.int .i64 0, .int .i64 (e : Int)])
set_option maxHeartbeats 400000 in
theorem folded_any (p : Nat) (F : Nat → Prop) (bs : List UInt8) (k : Nat) (w : World) (h : RdR w p F bs k) :
    Calls Tryz.prog 152 #[rp p] w (On p F bs w (e2 (readPk (bs.drop k))) (k + lenP (readPk (bs.drop k)))) := by
  have hpk := packed_any p F bs k w h
  cases hr : readPk (bs.drop k) with
  | error e =>
    rw [hr] at hpk
    have He := rdF_err _ _ _ _ hr
    unfold rp at hpk ⊢
    have hne : ((e : Int) != 0) = true := by rw [bne_iff_ne]; omega
    have Hpk := hid hpk
    clear hpk hr
    go_enter Tryz.func152, Tryz.ntmps152
    go_wp2_with (fail)
    refine Hpk.out.mono ?_
    rintro e w1 ⟨rfl, h1, h2⟩
    simp only [e1]
    go_wp2
    go_ret2
    exact ⟨rfl, h1, h2⟩
  | ok r =>
    obtain ⟨x, m⟩ := r
    rw [hr] at hpk
    have hx := (packed_readPk hr).2.1
    unfold rp at hpk ⊢
    have Hpk := hid hpk
    clear hpk hr
    go_enter Tryz.func152, Tryz.ntmps152
    go_wp2_with (fail)
    refine Hpk.out.mono ?_
    rintro e w1 ⟨rfl, h1, h2⟩
    simp only [e1]
    go_wp2_with (fail)
    refine (unfold_any x _ hx).mono ?_
    rintro e w1 ⟨rfl, rfl⟩
    go_wp2
    go_ret2
    exact ⟨rfl, h1, h2⟩

def cntR (most : Int) : Except Nat (Nat × Nat) → Except Nat (Nat × Nat)
  | .ok (x, n) => if most < 0 ∨ most < (x : Int) then .error 3 else .ok (x, n)
  | .error e => .error e
def eC (r : Except Nat (Nat × Nat)) : Ending := match r with
  | .ok (x, n) => .returned (.tuple #[.int .i64 (x : Int), .int .i64 (n : Int), .int .i64 0])
  | .error e => .returned (.tuple #[.int .i64 0, .int .i64 0, .int .i64 (e : Int)])
set_option maxHeartbeats 400000 in
theorem pcount_any (p : Nat) (F : Nat → Prop) (bs : List UInt8) (k : Nat) (most : Int) (w : World) (h : RdR w p F bs k) (hm1 : -9223372036854775808 ≤ most) (hm2 : most ≤ 9223372036854775807) :
    Calls Tryz.prog 138 #[rp p, .int .i64 most] w fun e w' => e = eC (cntR most (readPk (bs.drop k))) ∧ ∃ n, w' = w.drewN n := by
  have hpk := peek_any p F bs k w h
  cases hr : readPk (bs.drop k) with
  | error e =>
    rw [hr] at hpk
    have He := rdF_err _ _ _ _ hr
    unfold rp at hpk ⊢
    have hne : ((e : Int) != 0) = true := by rw [bne_iff_ne]; omega
    have Hpk := hid hpk
    clear hpk hr
    go_enter Tryz.func138, Tryz.ntmps138
    go_wp2_with (fail)
    refine Hpk.out.mono ?_
    rintro e w1 ⟨rfl, n, rfl⟩
    simp only [eP]
    go_wp2
    go_ret3
    exact ⟨rfl, _, rfl⟩
  | ok r =>
    obtain ⟨x, m⟩ := r
    rw [hr] at hpk
    have hx := (packed_readPk hr).2.1
    unfold rp at hpk ⊢
    have Hpk := hid hpk
    clear hpk hr
    by_cases hn : most < 0
    · have hd : decide (most < 0) = true := decide_eq_true hn
      have hE : cntR most (.ok (x, m)) = .error 3 := by simp [cntR, hn]
      rw [hE]
      clear hE
      go_enter Tryz.func138, Tryz.ntmps138
      go_wp2_with (fail)
      refine Hpk.out.mono ?_
      rintro e w1 ⟨rfl, n, rfl⟩
      simp only [eP]
      go_wp2
      go_ret3
      exact ⟨rfl, _, rfl⟩
    · have hd : decide (most < 0) = false := decide_eq_false hn
      have hn' : 0 ≤ most := by omega
      by_cases hg : most < (x : Int)
      · have hE : cntR most (.ok (x, m)) = .error 3 := by simp [cntR, hg]
        rw [hE]
        clear hE
        go_enter Tryz.func138, Tryz.ntmps138
        go_wp2_with (fail)
        refine Hpk.out.mono ?_
        rintro e w1 ⟨rfl, n, rfl⟩
        simp only [eP]
        go_wp2
        go_ret3
        exact ⟨rfl, _, rfl⟩
      · have hE : cntR most (.ok (x, m)) = .ok (x, m) := by simp [cntR, hg, hn]
        rw [hE]
        clear hE
        go_enter Tryz.func138, Tryz.ntmps138
        go_wp2_with (fail)
        refine Hpk.out.mono ?_
        rintro e w1 ⟨rfl, n, rfl⟩
        simp only [eP]
        go_wp2
        go_ret3
        exact ⟨rfl, _, rfl⟩
end Go.Proofs.YtnhhbbjkeekneaaGreatDoor
/- N6: contracts of a reader's Count, Text and Fixed. -/
namespace Go.Proofs.YtnhhbbjkeekneaaGreatDoor
open Go.RowKit Go.V

def eCt (r : Except Nat (Nat × Nat)) : Ending := match r with
  | .ok (x, _) => .returned (.tuple #[.int .i64 (x : Int), .int .i64 0])
  | .error e => .returned (.tuple #[.int .i64 0, .int .i64 (e : Int)])
theorem cntR_err {most : Int} {bs : List UInt8} {e : Nat} (h : cntR most (readPk bs) = .error e) : e = 1 ∨ e = 2 ∨ e = 3 := by
  cases hr : readPk bs with
  | error e' =>
    rw [hr] at h
    simp only [cntR] at h
    injection h with h
    subst h
    have := rdF_err _ _ _ _ hr
    omega
  | ok r =>
    obtain ⟨x, n⟩ := r
    rw [hr] at h
    simp only [cntR] at h
    split at h
    · injection h with h; omega
    · cases h
theorem cntR_ok {most : Int} {bs : List UInt8} {x n : Nat} (h : cntR most (readPk bs) = .ok (x, n)) : readPk bs = .ok (x, n) ∧ 0 ≤ most ∧ (x : Int) ≤ most := by
  cases hr : readPk bs with
  | error e' => rw [hr] at h; simp [cntR] at h
  | ok r =>
    obtain ⟨x', n'⟩ := r
    rw [hr] at h
    simp only [cntR] at h
    split at h
    · cases h
    · injection h with h
      injection h with h1 h2
      subst h1; subst h2
      exact ⟨rfl, by omega, by omega⟩

set_option maxHeartbeats 400000 in
theorem count_any (p : Nat) (F : Nat → Prop) (bs : List UInt8) (k : Nat) (most : Int) (w : World) (h : RdR w p F bs k) (hm1 : -9223372036854775808 ≤ most) (hm2 : most ≤ 9223372036854775807) :
    Calls Tryz.prog 116 #[rp p, .int .i64 most] w (On p F bs w (eCt (cntR most (readPk (bs.drop k)))) (k + lenP (cntR most (readPk (bs.drop k))))) := by
  have hpk := pcount_any p F bs k most w h hm1 hm2
  cases hr : cntR most (readPk (bs.drop k)) with
  | error e =>
    rw [hr] at hpk
    have He := cntR_err hr
    unfold rp at hpk ⊢
    have hne : ((e : Int) != 0) = true := by rw [bne_iff_ne]; omega
    have Hpk := hid hpk
    clear hpk hr
    go_enter Tryz.func116, Tryz.ntmps116
    go_wp2_with (fail)
    refine Hpk.out.mono ?_
    rintro e w1 ⟨rfl, n, rfl⟩
    simp only [eC]
    go_wp2
    go_ret2
    exact ⟨rfl, h.drewN n, (Ch.refl _ _).drewN n⟩
  | ok r =>
    obtain ⟨x, m⟩ := r
    rw [hr] at hpk
    obtain ⟨hr1, hmost, hxm⟩ := cntR_ok hr
    have hm := packed_readPk hr1
    obtain ⟨A, c, h0, h1, hmm, _, hk⟩ := h.cells
    have hlen : k + m ≤ bs.length := by have := hm.2.2; simp at this; omega
    have hfz := h.free
    unfold rp at hpk ⊢
    have Hpk := hid hpk
    clear hpk hr hm hr1
    go_enter Tryz.func116, Tryz.ntmps116
    go_wp2_with (fail)
    refine Hpk.out.mono ?_
    rintro e w1 ⟨rfl, n, rfl⟩
    simp only [eC]
    go_wp2
    go_ret2
    have hs := (h.drewN n).set (k + m) hlen
    rw [show ((k + m : Nat) : Int) = (k : Int) + (m : Int) from by push_cast; rfl] at hs
    exact ⟨rfl, hs, ((Ch.refl _ _).drewN n).trans (Ch.set _)⟩

/-- reading a text: where its bytes begin, how many they are -/
def textR (most : Int) (l : List UInt8) : Except Nat (Nat × Nat) := match cntR most (readPk l) with
  | .ok (n, sz) => if l.length < sz + n then .error 1 else .ok (n, sz)
  | .error e => .error e
def TextPost (p : Nat) (F : Nat → Prop) (bs : List UInt8) (k : Nat) (w : World) (r : Except Nat (Nat × Nat)) (e : Ending) (w' : World) : Prop := match r with
  | .ok (n, sz) => ∃ v, e = .returned (.tuple #[v, .int .i64 0]) ∧ Rd w' (fun b => w.heap.size ≤ b) v (bys (((bs.drop k).drop sz).take n)) ∧ RdR w' p F bs (k + (sz + n)) ∧ Ch (only p) w w'
  | .error er => e = .returned (.tuple #[.slice none 0 0, .int .i64 (er : Int)]) ∧ RdR w' p F bs k ∧ Ch (only p) w w'

set_option maxHeartbeats 800000 in
set_option maxRecDepth 100000 in
theorem text_any (p : Nat) (F : Nat → Prop) (bs : List UInt8) (k : Nat) (most : Int) (w : World) (h : RdR w p F bs k) (hm1 : -9223372036854775808 ≤ most) (hm2 : most ≤ 9223372036854775807) (hbs : bs.length ≤ 35184372088832) :
    Calls Tryz.prog 114 #[rp p, .int .i64 most] w (TextPost p F bs k w (textR most (bs.drop k))) := by
  have hpk := pcount_any p F bs k most w h hm1 hm2
  unfold textR
  cases hr : cntR most (readPk (bs.drop k)) with
  | error e =>
    rw [hr] at hpk
    have He := cntR_err hr
    unfold rp at hpk ⊢
    have hne : ((e : Int) != 0) = true := by rw [bne_iff_ne]; omega
    have Hpk := hid hpk
    clear hpk hr
    go_enter Tryz.func114, Tryz.ntmps114
    go_wp2_with (fail)
    refine Hpk.out.mono ?_
    rintro e w1 ⟨rfl, n, rfl⟩
    simp only [eC]
    go_wp2
    go_ret2
    exact ⟨rfl, h.drewN n, (Ch.refl _ _).drewN n⟩
  | ok r =>
    obtain ⟨n, sz⟩ := r
    rw [hr] at hpk
    obtain ⟨hr1, hmost, hxm⟩ := cntR_ok hr
    have hm := packed_readPk hr1
    obtain ⟨A, c, h0, h1, hmm, hrd, hk⟩ := h.cells
    have hlen : k + sz ≤ bs.length := by have := hm.2.2; simp at this; omega
    have hfz := h.free
    unfold rp at hpk ⊢
    have Hpk := hid hpk
    clear hpk hr hm hr1
    dsimp only
    by_cases hsh : (bs.drop k).length < sz + n
    · rw [if_pos hsh]
      rw [List.length_drop] at hsh
      have hlt : (bs.length : Int) - (k : Int) - (sz : Int) < (n : Int) := by omega
      go_enter Tryz.func114, Tryz.ntmps114
      go_wp2_with (fail)
      refine Hpk.out.mono ?_
      rintro e w1 ⟨rfl, m, rfl⟩
      simp only [eC]
      go_wp2_with (fail)
      refine (left_any p F bs k _ (h.drewN m)).mono ?_
      rintro e w1 ⟨rfl, m2, rfl⟩
      go_wp2
      go_ret2
      exact ⟨rfl, h.drewN _, (Ch.refl _ _).drewN _⟩
    · rw [if_neg hsh]
      rw [List.length_drop] at hsh
      have hlt : ¬ (bs.length : Int) - (k : Int) - (sz : Int) < (n : Int) := by omega
      have hle : k + sz + n ≤ bs.length := by omega
      go_enter Tryz.func114, Tryz.ntmps114
      go_wp2_with (fail)
      refine Hpk.out.mono ?_
      rintro e w1 ⟨rfl, m, rfl⟩
      simp only [eC]
      go_wp2_with (fail)
      refine (left_any p F bs k _ (h.drewN m)).mono ?_
      rintro e w1 ⟨rfl, m2, rfl⟩
      go_wp2_with (fail)
      have hs := (h.drewN (m + m2)).set (k + (sz + n)) (by omega)
      rw [show ((k + (sz + n) : Nat) : Int) = (k : Int) + (sz : Int) + (n : Int) from by omega] at hs
      have hch : Ch (only p) w ((w.drewN (m + m2)).setCell ⟨p, 1, none⟩ (.int .i64 ((k : Int) + (sz : Int) + (n : Int)))) := ((Ch.refl _ _).drewN _).trans (Ch.set _)
      obtain ⟨W, hW⟩ : ∃ W, W = ((w.drewN (m + m2)).setCell ⟨p, 1, none⟩ (.int .i64 ((k : Int) + (sz : Int) + (n : Int)))) := ⟨_, rfl⟩
      rw [← hW] at hs hch ⊢
      clear hW h0 h1 hfz
      obtain ⟨A2, c2, h0, h1, _, hrd2, _⟩ := hs.cells
      rw [show ((k + (sz + n) : Nat) : Int) = (k : Int) + (sz : Int) + (n : Int) from by omega] at h1
      obtain ⟨A', m', c', hsl, hcut⟩ := hrd2.cut slB ((k : Int) + (sz : Int)) ((k : Int) + (sz : Int) + (n : Int)) (by omega) (by omega) (by omega)
      rw [drop_take_int] at hcut
      refine wp_region_tail 10 (by kernel_rfl) (by kernel_rfl) ?_
      simp only [List.take_succ_cons, List.take_zero, List.drop_succ_cons, List.drop_zero]
      repeat still_step
      refine wpStill_nil ?_
      go_wp2_with (fail)
      refine (ext_i _ _ 0 F _ hcut.drew (by omega) (by simp; omega)).mono ?_
      rintro e w3 ⟨v3, rfl, ho3, hB3⟩
      have hB3' : Below W.heap.size W w3 := below_of_drew hB3
      have hsz := hch.size
      go_wp2
      go_ret2
      exact ⟨v3, rfl, Rd.of_own' ho3 (fun b h1 _ => Nat.le_trans hsz h1), hs.belowR hB3', hch.belowR hB3'⟩
end Go.Proofs.YtnhhbbjkeekneaaGreatDoor
