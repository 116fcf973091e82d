/- N8: several texts in one (N7 N8). -/
import Derived.Test.YtnhhbbjkeekneaaGreatDoorN6
import Derived.Test.YtnhhbbjkeekneaaGreatDoorRB
/- N7: contract of a reader's Fixed. -/
namespace Go.Proofs.YtnhhbbjkeekneaaGreatDoor
open Go.RowKit Go.V

def fixN (l : List UInt8) : Nat := l.foldl (fun a c => a * 256 + c.toNat) 0
theorem fixN_snoc (l : List UInt8) (c : UInt8) : fixN (l ++ [c]) = fixN l * 256 + c.toNat := by simp [fixN]
theorem foldl_lt : ∀ (l : List UInt8) (a : Nat), l.foldl (fun a c => a * 256 + c.toNat) a < (a + 1) * 256 ^ l.length
  | [], a => by simp
  | c :: l, a => by
    have h := foldl_lt l (a * 256 + c.toNat)
    have hc := c.toNat_lt
    have h2 : (a * 256 + c.toNat + 1) * 256 ^ l.length ≤ ((a + 1) * 256) * 256 ^ l.length := Nat.mul_le_mul_right _ (by omega)
    rw [List.foldl_cons, List.length_cons, Nat.pow_succ]
    calc _ < _ := h
      _ ≤ _ := h2
      _ = _ := by rw [Nat.mul_assoc, Nat.mul_comm 256]
theorem fixN_lt (l : List UInt8) : fixN l < 256 ^ l.length := by have := foldl_lt l 0; simpa [fixN] using this
theorem fixN_fixT (n x : Nat) : ∀ k, k ≤ n → fixN (fixT n x k) = x / 256 ^ (n - k) % 256 ^ k
  | 0, _ => by simp [fixT, fixN, Nat.mod_one]
  | k + 1, h => by
    have ih := fixN_fixT n x k (by omega)
    rw [fixT_succ, fixN_snoc, ih, UInt8.toNat_ofNat', Nat.mod_eq_of_lt (Nat.mod_lt _ (by omega) : x / 256 ^ (n - 1 - k) % 256 < 2 ^ 8)]
    rw [show n - (k + 1) = n - 1 - k from by omega, show n - k = n - 1 - k + 1 from by omega, Nat.pow_succ, ← Nat.div_div_eq_div_mul, Nat.pow_succ, Nat.mul_comm (256 ^ k) 256, Nat.mod_mul]
    omega
theorem or_byte (x y : Nat) (hx : x < 72057594037927936) (hy : y < 256) : bits BinOp.or IntKind.u64 ((x : Int) * 256) (y : Int) = ((x * 256 + y : Nat) : Int) := by
  have e1 : (x : Int) * 256 = ((x * 256 : Nat) : Int) := by omega
  rw [e1, u64_or_nat _ _ (by omega) (by omega), nat_join 8 (x * 256) y (by omega) (by omega)]

def fixRd (n : Int) (l : List UInt8) : Except Nat Nat := if okN n then (if l.length < n.toNat then .error 1 else .ok (fixN (l.take n.toNat))) else .error 15
def eF (r : Except Nat Nat) : Ending := match r with
  | .ok x => .returned (.tuple #[.int .u64 (x : Int), .int .i64 0])
  | .error e => .returned (.tuple #[.int .u64 0, .int .i64 (e : Int)])
def lenF (n : Int) : Except Nat Nat → Nat | .ok _ => n.toNat | .error _ => 0

set_option maxHeartbeats 1000000 in
set_option maxRecDepth 100000 in
theorem fixed_any (p : Nat) (F : Nat → Prop) (bs : List UInt8) (k : Nat) (n : Int) (w : World) (h : RdR w p F bs k) :
    Calls Tryz.prog 112 #[rp p, .int .i64 n] w (On p F bs w (eF (fixRd n (bs.drop k))) (k + lenF n (fixRd n (bs.drop k)))) := by
  obtain ⟨A, c, h0, h1, hmm, hrd, hk⟩ := h.cells
  have hfz := h.free
  unfold rp
  by_cases ho : okN n
  · obtain ⟨m, rfl, hm⟩ := okN_cases ho
    have hd : decide (okN (m : Int)) = true := decide_eq_true ho
    have hm8 : m ≤ 8 := by omega
    have hR : fixRd (m : Int) (bs.drop k) = if (bs.drop k).length < m then .error 1 else .ok (fixN ((bs.drop k).take m)) := by unfold fixRd; rw [if_pos ho]; rfl
    rw [hR]
    clear hR ho hm
    by_cases hs : (bs.drop k).length < m
    · rw [if_pos hs]
      rw [List.length_drop] at hs
      have hlt : (bs.length : Int) - (k : Int) < (m : Int) := by omega
      go_enter Tryz.func112, Tryz.ntmps112
      go_wp2_with (fail)
      refine (fsize_any _ _).mono ?_
      rintro e w0 ⟨rfl, rfl⟩
      rw [okN_bool]
      go_wp2_with (fail)
      refine (left_any p F bs k _ h).mono ?_
      rintro e w1 ⟨rfl, m2, rfl⟩
      go_wp2
      go_ret2
      exact ⟨rfl, h.drewN _, (Ch.refl _ _).drewN _⟩
    · rw [if_neg hs]
      rw [List.length_drop] at hs
      have hlt : ¬ (bs.length : Int) - (k : Int) < (m : Int) := by omega
      have hle : k + m ≤ bs.length := by omega
      go_enter Tryz.func112, Tryz.ntmps112
      go_wp2_with (fail)
      refine (fsize_any _ _).mono ?_
      rintro e w0 ⟨rfl, rfl⟩
      rw [okN_bool]
      go_wp2_with (fail)
      refine (left_any p F bs k _ h).mono ?_
      rintro e w1 ⟨rfl, m2, rfl⟩
      go_wp2
      go_loopw [6, 18] (fun xv iv wr => ∃ i : Nat, i ≤ m ∧ iv = .int .i64 i ∧ xv = .int .u64 ((fixN ((bs.drop k).take i) : Nat) : Int) ∧ ∃ q, wr = w.drewN q) (fun _ iv _ => m - (intOf iv).toNat)
      case atStart => exact ⟨0, Nat.zero_le _, rfl, rfl, _, rfl⟩
      case round =>
        obtain ⟨i, hi, rfl, rfl, q, rfl⟩ := hrel
        have hfl := fixN_lt ((bs.drop k).take i)
        obtain ⟨x, hx⟩ : ∃ x, x = fixN ((bs.drop k).take i) := ⟨_, rfl⟩
        rw [← hx] at hfl ⊢
        have Hx := hid hx
        clear hx
        by_cases hlt2 : i < m
        · have hki : k + i < bs.length := by omega
          obtain ⟨g, off, rfl, _, hcell⟩ := hrd.byteAt (k + i) hki
          have hxb : x < 72057594037927936 := by
            have h7 : 256 ^ ((bs.drop k).take i).length ≤ 256 ^ 7 := Nat.pow_le_pow_right (by omega) (by simp; omega)
            omega
          have Hs : Hid (fixN ((bs.drop k).take (i + 1)) = x * 256 + (bs[k + i]).toNat) := by
            show _ = _
            rw [List.take_succ_eq_append_getElem (by simp; omega), fixN_snoc, ← Hx.out]
            simp
          obtain ⟨cc, hcc⟩ : ∃ cc, cc = bs[k + i] := ⟨_, rfl⟩
          rw [← hcc] at hcell Hs
          clear hcc hfl
          have hc256 := cc.toNat_lt
          have hOr := or_byte x cc.toNat hxb hc256
          have HOr := hid hOr
          clear hOr
          go_wp2
          go_quiet (fail)
          go_wp2
          refine ⟨⟨i + 1, by omega, by go_num, ?_, _, rfl⟩, by simp [intOf]; omega⟩
          rw [Hs.out]
          exact congrArg (Value.int IntKind.u64) HOr.out
        · have him : i = m := by omega
          subst him
          clear hfl
          go_wp2
          go_ret2
          have hs := (h.drewN q).set (k + i) hle
          rw [show ((k + i : Nat) : Int) = (k : Int) + (i : Int) from by push_cast; rfl] at hs
          exact ⟨by simp only [eF]; rw [← Hx.out]; rfl, hs, ((Ch.refl _ _).drewN q).trans (Ch.set _)⟩
  · have hd : decide (okN n) = false := decide_eq_false ho
    have hR : fixRd n (bs.drop k) = .error 15 := by unfold fixRd; rw [if_neg ho]
    rw [hR]
    clear hR ho
    go_enter Tryz.func112, Tryz.ntmps112
    go_wp2_with (fail)
    refine (fsize_any _ _).mono ?_
    rintro e w0 ⟨rfl, rfl⟩
    rw [okN_bool]
    go_wp2
    go_ret2
    exact ⟨rfl, h, Ch.refl _ _⟩
end Go.Proofs.YtnhhbbjkeekneaaGreatDoor
/- N8: what a reader says of bytes that were put, whole or cut off. -/
namespace Go.V
end Go.V
namespace Go.Proofs.YtnhhbbjkeekneaaGreatDoor
open Go.RowKit Go.V
theorem textR_of (most : Int) (t R : List UInt8) (h : (t.length : Int) ≤ most) (hl : t.length < 18446744073709551616) : textR most ((packed t.length ++ t) ++ R) = .ok (t.length, psz t.length) := by
  unfold textR
  rw [List.append_assoc, readPk_packed _ _ hl]
  have hc : cntR most (.ok (t.length, psz t.length)) = .ok (t.length, psz t.length) := if_neg (by omega)
  rw [hc]
  dsimp only
  rw [if_neg (by simp only [List.length_append, length_packed]; omega)]
theorem cntR_of (most : Int) (x : Nat) (R : List UInt8) (h : (x : Int) ≤ most) (hl : x < 18446744073709551616) : cntR most (readPk (packed x ++ R)) = .ok (x, psz x) := by
  rw [readPk_packed _ _ hl]
  exact if_neg (by omega)
theorem fixRd_of (n x : Nat) (R : List UInt8) (ho : okN (n : Int)) (hx : x < 256 ^ n) : fixRd (n : Int) (fixR (n : Int) x ++ R) = .ok x := by
  have hf : fixR (n : Int) x = fixT n x n := by
    unfold fixR
    rw [if_pos ho, Int.toNat_natCast]
    rfl
  have hl : (fixT n x n).length = n := by simp [fixT]
  unfold fixRd
  rw [if_pos ho, Int.toNat_natCast, hf, if_neg (by rw [List.length_append, hl]; omega)]
  congr 1
  have ht : (fixT n x n ++ R).take n = fixT n x n := by
    have := List.take_left (l₁ := fixT n x n) (l₂ := R)
    rwa [hl] at this
  rw [ht, fixN_fixT n x n (Nat.le_refl _), Nat.sub_self, Nat.pow_zero, Nat.div_one, Nat.mod_eq_of_lt hx]
end Go.Proofs.YtnhhbbjkeekneaaGreatDoor
