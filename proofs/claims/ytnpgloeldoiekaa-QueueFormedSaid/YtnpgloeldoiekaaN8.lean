/- N8: several texts in one (N6 N7 N8). -/
import Derived.Test.YtnpgloeldoiekaaN3
import Derived.StillTailTactics
import Derived.Test.YtnpgloeldoiekaaR2
/- N6: several texts in one. -/
/- N4: contracts of a reader's methods: those that only look. -/
namespace Go.Proofs.Ytnpgloeldoiekaa
open Go.RowKit Go.V

def rp (p : Nat) : Value := .pointer (some ⟨p, 0, none⟩)
def eP (r : Except Nat (Nat × Nat)) : Ending := match r with
  | .ok (x, n) => .returned (.tuple #[.int .u64 (x : Int), .int .i64 (n : Int), .int .i64 0])
  | .error e => .returned (.tuple #[.int .u64 0, .int .i64 0, .int .i64 (e : Int)])

theorem or_acc (x y i : Nat) (hy : y < 256) (hi : i ≤ 9) (hx : x < 128 ^ i) :
    bits BinOp.or IntKind.u64 (x : Int) (IntKind.u64.wrap (IntKind.u64.wrap (bits BinOp.andNot IntKind.u8 (y : Int) 128) * 2 ^ (7 * i))) = ((x ||| (y % 128 * 128 ^ i % 18446744073709551616) : Nat) : Int) := by
  have h1 : bits .andNot .u8 (y : Int) 128 = ((y &&& (255 - 128) : Nat) : Int) := u8_andNot_nat y 128 hy (by omega)
  rw [show 255 - 128 = 127 from rfl, nat_mask7] at h1
  have hp : 128 ^ i ≤ 128 ^ 9 := Nat.pow_le_pow_right (by omega) hi
  have e2 : (2 : Int) ^ (7 * i) = ((128 ^ i : Nat) : Int) := by
    rw [show (2 : Int) ^ (7 * i) = ((2 ^ (7 * i) : Nat) : Int) from by push_cast; rfl, Nat.pow_mul]
  have e3 : ((y % 128 : Nat) : Int) * ((128 ^ i : Nat) : Int) = ((y % 128 * 128 ^ i : Nat) : Int) := by push_cast; rfl
  have e4 : (((y % 128 * 128 ^ i : Nat) : Int)) % 18446744073709551616 = ((y % 128 * 128 ^ i % 18446744073709551616 : Nat) : Int) := by generalize y % 128 * 128 ^ i = q; omega
  have hy2 : ((y % 128 : Nat) : Int) % 18446744073709551616 = ((y % 128 : Nat) : Int) := by omega
  have hb : x < 18446744073709551616 := by omega
  simp only [h1, IntKind.wrap_u64, hy2, e2, e3, e4]
  exact u64_or_nat _ _ hb (Nat.mod_lt _ (by omega))
theorem or_join (x y i : Nat) (hx : x < 128 ^ i) (hf : y % 128 * 128 ^ i < 18446744073709551616) : x ||| (y % 128 * 128 ^ i % 18446744073709551616) = x + 128 ^ i * (y % 128) := by
  rw [Nat.mod_eq_of_lt hf, Nat.or_comm, show 128 ^ i = 2 ^ (7 * i) from by rw [Nat.pow_mul]]
  rw [show 128 ^ i = 2 ^ (7 * i) from by rw [Nat.pow_mul]] at hx
  rw [nat_join (7 * i) _ _ (Nat.mul_mod_left _ _) hx, Nat.mul_comm, Nat.add_comm]
theorem fits8 (y i : Nat) (hi : i ≤ 8) : y % 128 * 128 ^ i < 18446744073709551616 := by
  have hp : 128 ^ i ≤ 128 ^ 8 := Nat.pow_le_pow_right (by omega) hi
  have h1 : y % 128 < 128 := Nat.mod_lt _ (by omega)
  have := Nat.mul_le_mul (Nat.le_of_lt h1) hp
  omega
theorem fits9 (y i : Nat) (hi : i ≤ 9) (hy : y ≤ 1) : y % 128 * 128 ^ i < 18446744073709551616 := by
  have hp : 128 ^ i ≤ 128 ^ 9 := Nat.pow_le_pow_right (by omega) hi
  have h1 : y % 128 ≤ 1 := by omega
  have := Nat.mul_le_mul h1 hp
  omega

theorem or_val {x y i a : Nat} (hx : x = a) (ha : a < 128 ^ i) (hy : y < 128) (hi : i ≤ 9) (hf : i ≤ 8 ∨ y ≤ 1) :
    bits BinOp.or IntKind.u64 (x : Int) (IntKind.u64.wrap (IntKind.u64.wrap (bits BinOp.andNot IntKind.u8 (y : Int) 128) * 2 ^ (7 * i))) = ((a + 128 ^ i * y : Nat) : Int) := by
  subst hx
  rw [or_acc x y i (by omega) hi ha, or_join x y i ha (by rcases hf with h | h; exact fits8 _ _ h; exact fits9 _ _ hi h), Nat.mod_eq_of_lt hy]
end Go.Proofs.Ytnpgloeldoiekaa
/- N5: contracts of a reader's methods that read on. -/
namespace Go.Proofs.Ytnpgloeldoiekaa
open Go.RowKit Go.V

def only (p : Nat) : Nat → Prop := fun b => b = p
theorem heap_set_same (w : World) (p i : Nat) (u : Value) (cs : Array Value) (t : TypeId) (h : w.heap[p]? = some (.cells cs t (0, 0))) : (w.setCell ⟨p, i, none⟩ u).heap[p]? = some (.cells (cs.setIfInBounds i u) t (0, 0)) := by
  simp [World.setCell, Array.getElem?_modify, h]
theorem Ch.set {w : World} {p i : Nat} (u : Value) : Ch (only p) w (w.setCell ⟨p, i, none⟩ u) :=
  ⟨rfl, rfl, rfl, by simp [World.setCell], fun k _ hk => Below.heap_setCell _ _ _ _ hk⟩

def lenP : Except Nat (Nat × Nat) → Nat | .ok (_, n) => n | .error _ => 0
def e1 (r : Except Nat (Nat × Nat)) : Ending := match r with
  | .ok (x, _) => .returned (.tuple #[.int .u64 (x : Int), .int .i64 0])
  | .error e => .returned (.tuple #[.int .u64 0, .int .i64 (e : Int)])
def e2 (r : Except Nat (Nat × Nat)) : Ending := match r with
  | .ok (x, _) => .returned (.tuple #[.int .i64 (unfoldZ x), .int .i64 0])
  | .error e => .returned (.tuple #[.int .i64 0, .int .i64 (e : Int)])
def cntR (most : Int) : Except Nat (Nat × Nat) → Except Nat (Nat × Nat)
  | .ok (x, n) => if most < 0 ∨ most < (x : Int) then .error 3 else .ok (x, n)
  | .error e => .error e
def eC (r : Except Nat (Nat × Nat)) : Ending := match r with
  | .ok (x, n) => .returned (.tuple #[.int .i64 (x : Int), .int .i64 (n : Int), .int .i64 0])
  | .error e => .returned (.tuple #[.int .i64 0, .int .i64 0, .int .i64 (e : Int)])
end Go.Proofs.Ytnpgloeldoiekaa
/- N6: contracts of a reader's Count, Text and Fixed. -/
namespace Go.Proofs.Ytnpgloeldoiekaa
open Go.RowKit Go.V

def eCt (r : Except Nat (Nat × Nat)) : Ending := match r with
  | .ok (x, _) => .returned (.tuple #[.int .i64 (x : Int), .int .i64 0])
  | .error e => .returned (.tuple #[.int .i64 0, .int .i64 (e : Int)])
theorem cntR_err {most : Int} {bs : List UInt8} {e : Nat} (h : cntR most (readPk bs) = .error e) : e = 1 ∨ e = 2 ∨ e = 3 := by
  cases hr : readPk bs with
  | error e' =>
    rw [hr] at h
    simp only [cntR] at h
    injection h with h
    subst h
    have := rdF_err _ _ _ _ hr
    omega
  | ok r =>
    obtain ⟨x, n⟩ := r
    rw [hr] at h
    simp only [cntR] at h
    split at h
    · injection h with h; omega
    · cases h
theorem cntR_ok {most : Int} {bs : List UInt8} {x n : Nat} (h : cntR most (readPk bs) = .ok (x, n)) : readPk bs = .ok (x, n) ∧ 0 ≤ most ∧ (x : Int) ≤ most := by
  cases hr : readPk bs with
  | error e' => rw [hr] at h; simp [cntR] at h
  | ok r =>
    obtain ⟨x', n'⟩ := r
    rw [hr] at h
    simp only [cntR] at h
    split at h
    · cases h
    · injection h with h
      injection h with h1 h2
      subst h1; subst h2
      exact ⟨rfl, by omega, by omega⟩

/-- reading a text: where its bytes begin, how many they are -/
def textR (most : Int) (l : List UInt8) : Except Nat (Nat × Nat) := match cntR most (readPk l) with
  | .ok (n, sz) => if l.length < sz + n then .error 1 else .ok (n, sz)
  | .error e => .error e
end Go.Proofs.Ytnpgloeldoiekaa
/- N7: contract of a reader's Fixed. -/
namespace Go.Proofs.Ytnpgloeldoiekaa
open Go.RowKit Go.V

def fixN (l : List UInt8) : Nat := l.foldl (fun a c => a * 256 + c.toNat) 0
theorem fixN_snoc (l : List UInt8) (c : UInt8) : fixN (l ++ [c]) = fixN l * 256 + c.toNat := by simp [fixN]
theorem foldl_lt : ∀ (l : List UInt8) (a : Nat), l.foldl (fun a c => a * 256 + c.toNat) a < (a + 1) * 256 ^ l.length
  | [], a => by simp
  | c :: l, a => by
    have h := foldl_lt l (a * 256 + c.toNat)
    have hc := c.toNat_lt
    have h2 : (a * 256 + c.toNat + 1) * 256 ^ l.length ≤ ((a + 1) * 256) * 256 ^ l.length := Nat.mul_le_mul_right _ (by omega)
    rw [List.foldl_cons, List.length_cons, Nat.pow_succ]
    calc _ < _ := h
      _ ≤ _ := h2
      _ = _ := by rw [Nat.mul_assoc, Nat.mul_comm 256]
theorem fixN_lt (l : List UInt8) : fixN l < 256 ^ l.length := by have := foldl_lt l 0; simpa [fixN] using this
theorem fixN_fixT (n x : Nat) : ∀ k, k ≤ n → fixN (fixT n x k) = x / 256 ^ (n - k) % 256 ^ k
  | 0, _ => by simp [fixT, fixN, Nat.mod_one]
  | k + 1, h => by
    have ih := fixN_fixT n x k (by omega)
    rw [fixT_succ, fixN_snoc, ih, UInt8.toNat_ofNat', Nat.mod_eq_of_lt (Nat.mod_lt _ (by omega) : x / 256 ^ (n - 1 - k) % 256 < 2 ^ 8)]
    rw [show n - (k + 1) = n - 1 - k from by omega, show n - k = n - 1 - k + 1 from by omega, Nat.pow_succ, ← Nat.div_div_eq_div_mul, Nat.pow_succ, Nat.mul_comm (256 ^ k) 256, Nat.mod_mul]
    omega
theorem or_byte (x y : Nat) (hx : x < 72057594037927936) (hy : y < 256) : bits BinOp.or IntKind.u64 ((x : Int) * 256) (y : Int) = ((x * 256 + y : Nat) : Int) := by
  have e1 : (x : Int) * 256 = ((x * 256 : Nat) : Int) := by omega
  rw [e1, u64_or_nat _ _ (by omega) (by omega), nat_join 8 (x * 256) y (by omega) (by omega)]

def fixRd (n : Int) (l : List UInt8) : Except Nat Nat := if okN n then (if l.length < n.toNat then .error 1 else .ok (fixN (l.take n.toNat))) else .error 15
def eF (r : Except Nat Nat) : Ending := match r with
  | .ok x => .returned (.tuple #[.int .u64 (x : Int), .int .i64 0])
  | .error e => .returned (.tuple #[.int .u64 0, .int .i64 (e : Int)])
def lenF (n : Int) : Except Nat Nat → Nat | .ok _ => n.toNat | .error _ => 0

end Go.Proofs.Ytnpgloeldoiekaa
/- N8: what a reader says of bytes that were put, whole or cut off. -/
namespace Go.V
theorem rdF_cut : ∀ (k x : Nat) (first : Bool) (j : Nat), j < psF k x → rdF (k + 1) first ((packedF k x).take j) = .error 1
  | 0, x, first, j, h => by
    have : j = 0 := by simp [psF] at h; omega
    subst this
    rfl
  | k + 1, x, first, 0, h => rfl
  | k + 1, x, first, j + 1, h => by
    unfold psF at h
    split at h
    · omega
    · rename_i hx
      have e : (UInt8.ofNat (x % 128 + 128)).toNat = x % 128 + 128 := by simp [UInt8.toNat_ofNat']; omega
      rw [packedF, if_neg hx, List.take_succ_cons, rdF, e, if_neg (by omega), rdF_cut k (x / 128) false j (by omega)]
theorem readPk_cut (x : Nat) (R : List UInt8) (j : Nat) (h : j < psz x) : readPk ((packed x ++ R).take j) = .error 1 := by
  rw [List.take_append_of_le_length (by rw [length_packed]; omega)]
  exact rdF_cut 9 x true j h
end Go.V
namespace Go.Proofs.Ytnpgloeldoiekaa
open Go.RowKit Go.V
theorem textR_of (most : Int) (t R : List UInt8) (h : (t.length : Int) ≤ most) (hl : t.length < 18446744073709551616) : textR most ((packed t.length ++ t) ++ R) = .ok (t.length, psz t.length) := by
  unfold textR
  rw [List.append_assoc, readPk_packed _ _ hl]
  have hc : cntR most (.ok (t.length, psz t.length)) = .ok (t.length, psz t.length) := if_neg (by omega)
  rw [hc]
  dsimp only
  rw [if_neg (by simp only [List.length_append, length_packed]; omega)]
theorem cntR_of (most : Int) (x : Nat) (R : List UInt8) (h : (x : Int) ≤ most) (hl : x < 18446744073709551616) : cntR most (readPk (packed x ++ R)) = .ok (x, psz x) := by
  rw [readPk_packed _ _ hl]
  exact if_neg (by omega)
theorem cntR_cut (most : Int) (x : Nat) (R : List UInt8) (j : Nat) (h : j < psz x) : cntR most (readPk ((packed x ++ R).take j)) = .error 1 := by
  rw [readPk_cut _ _ _ h]
  rfl
theorem textR_cut (most : Int) (t R : List UInt8) (j : Nat) (h : (t.length : Int) ≤ most) (hl : t.length < 18446744073709551616) (hj : j < psz t.length + t.length) : textR most (((packed t.length ++ t) ++ R).take j) = .error 1 := by
  unfold textR
  rcases Nat.lt_or_ge j (psz t.length) with h1 | h1
  · rw [List.append_assoc, cntR_cut _ _ _ _ h1]
  · have e : ((packed t.length ++ t) ++ R).take j = packed t.length ++ (t ++ R).take (j - psz t.length) := by
      rw [List.append_assoc, List.take_append, List.take_of_length_le (by rw [length_packed]; omega), length_packed]
    rw [e, cntR_of _ _ _ h hl]
    dsimp only
    rw [if_pos]
    rw [List.length_append, length_packed, List.length_take]
    omega
theorem textR_more (most : Int) (t R : List UInt8) (j : Nat) (h : (t.length : Int) ≤ most) (hl : t.length < 18446744073709551616) (hj : psz t.length + t.length ≤ j) : textR most (((packed t.length ++ t) ++ R).take j) = .ok (t.length, psz t.length) := by
  have e : ((packed t.length ++ t) ++ R).take j = (packed t.length ++ t) ++ R.take (j - (psz t.length + t.length)) := by
    rw [List.take_append, List.take_of_length_le (by rw [List.length_append, length_packed]; omega), List.length_append, length_packed]
  rw [e]
  exact textR_of most t _ h hl
theorem fixRd_short (n : Nat) (l : List UInt8) (ho : okN (n : Int)) (h : l.length < n) : fixRd (n : Int) l = .error 1 := by
  unfold fixRd
  rw [if_pos ho, Int.toNat_natCast, if_pos h]
theorem fixRd_of (n x : Nat) (R : List UInt8) (ho : okN (n : Int)) (hx : x < 256 ^ n) : fixRd (n : Int) (fixR (n : Int) x ++ R) = .ok x := by
  have hf : fixR (n : Int) x = fixT n x n := by
    unfold fixR
    rw [if_pos ho, Int.toNat_natCast]
    rfl
  have hl : (fixT n x n).length = n := by simp [fixT]
  unfold fixRd
  rw [if_pos ho, Int.toNat_natCast, hf, if_neg (by rw [List.length_append, hl]; omega)]
  congr 1
  have ht : (fixT n x n ++ R).take n = fixT n x n := by
    have := List.take_left (l₁ := fixT n x n) (l₂ := R)
    rwa [hl] at this
  rw [ht, fixN_fixT n x n (Nat.le_refl _), Nat.sub_self, Nat.pow_zero, Nat.div_one, Nat.mod_eq_of_lt hx]
end Go.Proofs.Ytnpgloeldoiekaa
