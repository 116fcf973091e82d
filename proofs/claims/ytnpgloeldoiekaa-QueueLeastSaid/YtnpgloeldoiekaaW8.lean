/- W8: several texts in one (W0 W1 W2 W3 W4 W5 W8). -/
import Derived.Test.YtnpgloeldoiekaaV
import Derived.Test.YtnpgloeldoiekaaVA
import Derived.Test.YtnpgloeldoiekaaM1
import Derived.Lib.BitFns
import Derived.Test.YtnpgloeldoiekaaN3
import Derived.Deep.DeepCutAuto
/- W0: layer 6: the bits of a mask as a list; what two sets share. -/
namespace Go.V
/-- the bits of a mask, from the lowest on -/
def mbit (M i : Nat) : Bool := decide (M / 2 ^ i % 2 = 1)
def memL (M n : Nat) : List Nat := (List.range n).filter (mbit M)
theorem mem_succ (M n : Nat) : memL M (n + 1) = memL M n ++ (if mbit M n then [n] else []) := by
  unfold memL
  rw [List.range_succ, List.filter_append]
  congr 1
  simp [List.filter_cons]
theorem mem_len_le (M n : Nat) : (memL M n).length ≤ n := by
  unfold memL
  have := List.length_filter_le (mbit M) (List.range n)
  simpa using this
theorem mem_iff (M n i : Nat) : i ∈ memL M n ↔ i < n ∧ mbit M i = true := by
  unfold memL
  simp [List.mem_filter]
theorem mbit_test (M i : Nat) : mbit M i = M.testBit i := by
  unfold mbit
  rw [Nat.testBit_eq_decide_div_mod_eq]
theorem mbit_and (a b i : Nat) : mbit (a &&& b) i = (mbit a i && mbit b i) := by
  rw [mbit_test, mbit_test, mbit_test, Nat.testBit_and]
/-- two sets of members share so many as both together are more than all -/
theorem share (a b M n : Nat) : (memL (a &&& M) n).length + (memL (b &&& M) n).length ≤ (memL ((a &&& M) &&& (b &&& M)) n).length + (memL M n).length := by
  induction n with
  | zero => simp [memL]
  | succ n ih =>
    rw [mem_succ, mem_succ, mem_succ, mem_succ]
    simp only [List.length_append]
    rw [mbit_and (a &&& M), mbit_and a, mbit_and b]
    cases mbit a n <;> cases mbit b n <;> cases mbit M n <;> simp <;> omega
theorem memL_nodup (M n : Nat) : (memL M n).Nodup := List.nodup_range.sublist List.filter_sublist
end Go.V
/- W1: layer 6: contracts of package views: who is a member, and how many. -/
namespace Go.V
open Go.RowKit
/-- a view -/
def vw (n : Int) (M : Nat) : Value := .agg #[.int .i64 n, .int .u16 (M : Int)]
def szM (M : Nat) : Nat := (memL M 16).length
/-- is it a view that there may be? -/
def rgt (n : Int) (M : Nat) : Bool := decide (0 ≤ n ∧ n ≤ 60 ∧ 4 ≤ szM M ∧ szM M ≤ 7)
/-- is i a member? -/
def hasB (M : Nat) (i : Int) : Bool := decide (0 ≤ i ∧ i < 16) && mbit M i.toNat
theorem pop_mem : ∀ (n M : Nat), Lib.popAux n M = (memL M n).length
  | 0, M => by simp [memL, Lib.popAux]
  | n + 1, M => by
    have e : memL M (n + 1) = (if mbit M 0 then [0] else []) ++ (memL (M / 2) n).map (· + 1) := by
      unfold memL
      rw [List.range_succ_eq_map, List.filter_cons, List.filter_map]
      have : (mbit M ∘ Nat.succ) = mbit (M / 2) := by
        funext i
        simp only [Function.comp, mbit, Nat.succ_eq_add_one]
        rw [Nat.pow_succ, Nat.mul_comm, ← Nat.div_div_eq_div_mul]
      rw [this]
      split <;> simp
    rw [Lib.popAux, pop_mem n (M / 2), e]
    have h2 : M % 2 = (if mbit M 0 then [0] else [] : List Nat).length := by
      unfold mbit
      simp only [Nat.pow_zero, Nat.div_one]
      by_cases h : M % 2 = 1
      · simp [h]
      · simp [h]; omega
    rw [h2]
    simp
theorem pop_add : ∀ (a b M : Nat), Lib.popAux (a + b) M = Lib.popAux a M + Lib.popAux b (M / 2 ^ a)
  | 0, b, M => by simp [Lib.popAux]
  | a + 1, b, M => by
    rw [show a + 1 + b = (a + b) + 1 from by omega, Lib.popAux, Lib.popAux, pop_add a b, Nat.div_div_eq_div_mul, ← Nat.pow_succ', Nat.add_assoc]
theorem pop_low : ∀ (a M : Nat), Lib.popAux a (M % 2 ^ a) = Lib.popAux a M
  | 0, M => by simp [Lib.popAux]
  | a + 1, M => by
    rw [Lib.popAux, Lib.popAux]
    have e1 : M % 2 ^ (a + 1) % 2 = M % 2 := Nat.mod_mod_of_dvd _ ⟨2 ^ a, by rw [Nat.pow_succ, Nat.mul_comm]⟩
    have e2 : M % 2 ^ (a + 1) / 2 = M / 2 % 2 ^ a := by
      rw [Nat.pow_succ, Nat.mul_comm, Nat.mod_mul_right_div_self]
    rw [e1, e2, pop_low a]
theorem pop8_le : ∀ n : Fin 256, Lib.pop8 (n.val : Int) = (Lib.popAux 8 n.val : Int) := by decide +kernel
theorem pop8_of (n : Nat) (h : n < 256) : Lib.pop8 (n : Int) = ((Lib.popAux 8 n : Nat) : Int) := pop8_le ⟨n, h⟩
theorem pop_le (n M : Nat) : Lib.popAux n M ≤ n := by rw [pop_mem]; exact mem_len_le M n
theorem sz_pop (M : Nat) (h : M < 65536) : (szM M : Int) = Lib.pop8 ((M / 256 : Nat) : Int) + Lib.pop8 ((M % 256 : Nat) : Int) := by
  rw [pop8_of _ (by omega), pop8_of _ (by omega)]
  unfold szM
  rw [← pop_mem, show 16 = 8 + 8 from rfl, pop_add 8 8 M, show 256 = 2 ^ 8 from rfl, pop_low 8 M]
  omega
theorem mem_16 (M : Nat) : (memL M 16).length = szM M := rfl
theorem sz_le (M : Nat) : szM M ≤ 16 := mem_len_le M 16
end Go.V
namespace Go.Proofs.Ytnpgloeldoiekaa
open Go.RowKit Go.V

theorem and255 (M : Nat) (h : M < 65536) : bits .and .u16 (M : Int) 255 = (M : Int) % 256 := by
  have := u16_and_nat M 255 h (by omega)
  rw [show M &&& 255 = M % 256 from Nat.and_two_pow_sub_one_eq_mod M 8] at this
  rw [show ((255 : Nat) : Int) = 255 from rfl] at this
  rw [this]
  omega
theorem bit_eq (M k : Nat) (h : M < 65536) : (bits .and .u16 ((M : Int) / 2 ^ k) 1 == 1) = mbit M k := by
  have e : (M : Int) / 2 ^ k = ((M / 2 ^ k : Nat) : Int) := by rw [Int.natCast_ediv, Int.natCast_pow]; rfl
  have hd : M / 2 ^ k < 65536 := Nat.lt_of_le_of_lt (Nat.div_le_self _ _) h
  have := u16_and_nat (M / 2 ^ k) 1 hd (by omega)
  rw [show M / 2 ^ k &&& 1 = M / 2 ^ k % 2 from Nat.and_two_pow_sub_one_eq_mod _ 1] at this
  rw [e, show (1 : Int) = ((1 : Nat) : Int) from rfl, this]
  unfold mbit
  rw [Bool.eq_iff_iff, beq_iff_eq, decide_eq_true_iff]
  omega
end Go.Proofs.Ytnpgloeldoiekaa
/- W2: layer 6: contracts of package views: members, how many must agree, who leads. -/
namespace Go.V
open Go.RowKit
theorem mem_at (M : Nat) (k : Nat) (h : k < szM M) : ∃ x, (memL M 16)[k]? = some x ∧ x < 16 ∧ mbit M x = true := by
  refine ⟨_, List.getElem?_eq_getElem h, ?_⟩
  exact (mem_iff M 16 _).1 (List.getElem_mem h)
end Go.V
namespace Go.Proofs.Ytnpgloeldoiekaa
open Go.RowKit Go.V
/-- a new slice of ints, nothing else turned -/
def NewI (w w' : World) (v : Value) (l : List Nat) : Prop := w'.ownsRow w.heap.size 3 1 v l.length (ivs l) ∧ Below w.heap.size w w'
end Go.Proofs.Ytnpgloeldoiekaa
/- W3: layer 6: contracts of package views: how many must agree, who leads. -/
namespace Go.V
open Go.RowKit
def fltN (n : Int) (M : Nat) : Nat := if rgt n M then (szM M - 1) / 3 else 0
def quoN (n : Int) (M : Nat) : Nat := if rgt n M then (szM M + fltN n M) / 2 + 1 else 0
def enoN (n : Int) (M : Nat) : Nat := if rgt n M then szM M - fltN n M else 0
def somN (n : Int) (M : Nat) : Nat := if rgt n M then fltN n M + 1 else 0
def leadZ (n : Int) (M : Nat) (r : Int) : Int := if rgt n M ∧ 0 ≤ r then (((memL M 16).getD (r.toNat % szM M) 0 : Nat) : Int) else -1
theorem rgt_sz {n : Int} {M : Nat} (h : rgt n M = true) : 0 ≤ n ∧ n ≤ 60 ∧ 4 ≤ szM M ∧ szM M ≤ 7 := by unfold rgt at h; exact of_decide_eq_true h
end Go.V
namespace Go.Proofs.Ytnpgloeldoiekaa
open Go.RowKit Go.V
end Go.Proofs.Ytnpgloeldoiekaa
/- W4: layer 6: contracts of the document's answers: members, how many must agree, who leads. -/
namespace Go.Proofs.Ytnpgloeldoiekaa
open Go.RowKit Go.V
def szR (n : Int) (M : Nat) : Nat := if rgt n M then szM M else 0
theorem szR_bd (n : Int) (M : Nat) : szR n M = 0 ∨ (rgt n M = true ∧ szR n M = szM M ∧ 4 ≤ szR n M ∧ szR n M ≤ 7) := by
  unfold szR
  cases h : rgt n M with
  | true => have := rgt_sz h; exact .inr ⟨rfl, rfl, this.2.2.1, this.2.2.2⟩
  | false => exact .inl rfl
theorem szR_0 {n : Int} {M : Nat} (h : szR n M = 0) : rgt n M = false := by
  rcases hr : rgt n M with _ | _
  · rfl
  · unfold szR at h; rw [hr] at h; have := rgt_sz hr; simp at h; omega
theorem flt_R (n : Int) (M : Nat) : fltN n M = if szR n M = 7 then 2 else if 4 ≤ szR n M then 1 else 0 := by
  rcases szR_bd n M with h | ⟨h, h1, h2, h3⟩
  · unfold fltN; rw [szR_0 h, h]; rfl
  · unfold fltN; rw [if_pos h, ← h1]; split <;> (try rw [if_pos h2]) <;> omega
theorem quo_R (n : Int) (M : Nat) : quoN n M = if szR n M = 0 then 0 else (szR n M + fltN n M) / 2 + 1 := by
  rcases szR_bd n M with h | ⟨h, h1, h2, h3⟩
  · unfold quoN; rw [szR_0 h, if_pos h]; rfl
  · unfold quoN; rw [if_pos h, if_neg (by omega), h1]
theorem eno_R (n : Int) (M : Nat) : enoN n M = szR n M - fltN n M := by
  rcases szR_bd n M with h | ⟨h, h1, h2, h3⟩
  · unfold enoN; rw [szR_0 h, h]; simp
  · unfold enoN; rw [if_pos h, h1]
theorem som_R (n : Int) (M : Nat) : somN n M = if szR n M = 0 then 0 else fltN n M + 1 := by
  rcases szR_bd n M with h | ⟨h, h1, h2, h3⟩
  · unfold somN; rw [szR_0 h, if_pos h]; rfl
  · unfold somN; rw [if_pos h, if_neg (by omega)]
theorem has_mem (M : Nat) (i : Int) : hasB M i = true ↔ ∃ x ∈ memL M 16, (x : Int) = i := by
  unfold hasB
  rw [Bool.and_eq_true, decide_eq_true_iff]
  constructor
  · rintro ⟨h1, h2⟩
    exact ⟨i.toNat, (mem_iff M 16 _).2 ⟨by omega, h2⟩, by omega⟩
  · rintro ⟨x, hx, rfl⟩
    have := (mem_iff M 16 x).1 hx
    exact ⟨by omega, by rw [Int.toNat_natCast]; exact this.2⟩
end Go.Proofs.Ytnpgloeldoiekaa
/- W5: layer 6: wakes, same, the law ViewsCounts. -/
namespace Go.Proofs.Ytnpgloeldoiekaa
open Go.RowKit Go.V
theorem leadZ_bd (n : Int) (M : Nat) (r : Int) : -1 ≤ leadZ n M r ∧ leadZ n M r < 16 := by
  unfold leadZ
  split
  · rename_i h
    have hz := rgt_sz h.1
    have hlt : r.toNat % szM M < szM M := Nat.mod_lt _ (by omega)
    obtain ⟨x, hx, hx16, _⟩ := mem_at M _ hlt
    rw [List.getD, hx]
    simp
    omega
  · omega
end Go.Proofs.Ytnpgloeldoiekaa
/- W8: layer 6: contracts of Next, by the program and by the document; the law ViewsNext. -/
namespace Go.Proofs.Ytnpgloeldoiekaa
open Go.RowKit Go.V
theorem szM_0 : szM 0 = 0 := by decide
theorem rgt_ne {n : Int} {M : Nat} (h : rgt n M = true) : M ≠ 0 := by
  intro e
  subst e
  have := (rgt_sz h).2.2.1
  rw [szM_0] at this
  omega
/-- two views' cells -/
def vcs (n : Int) (M : Nat) : List Value := [.int .i64 n, .int .u16 (M : Int)]
/-- may the next view be that one? -/
def nxB (n : Int) (M : Nat) (k : Int) : Bool := rgt n M && decide (0 ≤ k ∧ k ≤ 65535) && rgt (n + 1) k.toNat
def nxR (n : Int) (M : Nat) (k : Int) : Value := if nxB n M k then .tuple #[vw (n + 1) k.toNat, .int .i64 0] else .tuple #[vw 0 0, .int .i64 3]
theorem nxR_no {n : Int} {M : Nat} {k : Int} (h : nxB n M k = false) : nxR n M k = .tuple #[.agg #[.int .i64 0, .int .u16 0], .int .i64 3] := by unfold nxR; rw [h]; rfl
/-- the parts of what Next answers -/
def nxN (n : Int) (M : Nat) (k : Int) : Int := if nxB n M k then n + 1 else 0
def nxM (n : Int) (M : Nat) (k : Int) : Nat := if nxB n M k then k.toNat else 0
theorem nxR_eq (n : Int) (M : Nat) (k : Int) : nxR n M k = .tuple #[vw (nxN n M k) (nxM n M k), .int .i64 (if nxB n M k then 0 else 3)] := by
  unfold nxR nxN nxM
  cases nxB n M k <;> rfl
theorem nxB_spec {n : Int} {M : Nat} {k : Int} (h : nxB n M k = true) : rgt n M = true ∧ 0 ≤ k ∧ k ≤ 65535 ∧ rgt (n + 1) k.toNat = true := by
  unfold nxB at h
  rw [Bool.and_eq_true, Bool.and_eq_true, decide_eq_true_iff] at h
  exact ⟨h.1.1, h.1.2.1, h.1.2.2, h.2⟩
end Go.Proofs.Ytnpgloeldoiekaa
