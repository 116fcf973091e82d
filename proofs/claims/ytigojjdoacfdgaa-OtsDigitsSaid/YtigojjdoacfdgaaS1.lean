/- S1: contracts of what only turns words; of told. -/
import Derived.Test.YtigojjdoacfdgaaN2
import Derived.Test.YtigojjdoacfdgaaVA
namespace Go.Proofs.Ytigojjdoacfdgaa
open Go.RowKit Go.V

theorem u32lt (x : UInt32) : x.toNat < 4294967296 := x.toNat_lt
theorem rot_out (x : UInt32) (n : Nat) : bits BinOp.or IntKind.u32 ((x.toNat : Int) / 2 ^ n) ((x.toNat : Int) * 2 ^ (32 - n) % 4294967296) = ((rotr x n).toNat : Int) := by
  have hx := u32lt x
  have h1 : x.toNat / 2 ^ n < 2 ^ 32 := Nat.lt_of_le_of_lt (Nat.div_le_self _ _) hx
  have h2 : x.toNat * 2 ^ (32 - n) % 4294967296 < 2 ^ 32 := Nat.mod_lt _ (by omega)
  have e1 : ((x.toNat : Int) / 2 ^ n) = ((x.toNat / 2 ^ n : Nat) : Int) := by rw [Int.natCast_ediv, Int.natCast_pow]; rfl
  have e2 : ((x.toNat : Int) * 2 ^ (32 - n) % 4294967296) = ((x.toNat * 2 ^ (32 - n) % 4294967296 : Nat) : Int) := by rw [Int.natCast_emod, Int.natCast_mul, Int.natCast_pow]; rfl
  rw [e1, e2, u32_or_nat _ _ h1 h2]
  unfold rotr
  rw [UInt32.toNat_ofNat', Nat.mod_eq_of_lt (Nat.or_lt_two_pow h1 h2)]
theorem xor_out (a b : UInt32) : bits BinOp.xor IntKind.u32 (a.toNat : Int) (b.toNat : Int) = ((a ^^^ b).toNat : Int) := by
  rw [u32_xor_nat _ _ (u32lt a) (u32lt b), UInt32.toNat_xor]
theorem and_out (a b : UInt32) : bits BinOp.and IntKind.u32 (a.toNat : Int) (b.toNat : Int) = ((a &&& b).toNat : Int) := by
  rw [u32_and_nat _ _ (u32lt a) (u32lt b), UInt32.toNat_and]
theorem not_out (a : UInt32) : bits BinOp.xor IntKind.u32 4294967295 (a.toNat : Int) = ((~~~a).toNat : Int) := by
  have := xor_out 4294967295 a
  rw [show (4294967295 : UInt32) ^^^ a = ~~~a from by
    apply UInt32.toBitVec_inj.1
    show 4294967295#32 ^^^ a.toBitVec = ~~~a.toBitVec
    rw [show (4294967295#32 : BitVec 32) = BitVec.allOnes 32 from by decide, BitVec.allOnes_xor]] at this
  exact this
theorem add_out (a b : UInt32) : ((a.toNat : Int) + (b.toNat : Int)) % 4294967296 = ((a + b).toNat : Int) := by
  rw [UInt32.toNat_add, Int.natCast_emod, Int.natCast_add]; rfl
theorem wadd_out (a b : UInt32) : IntKind.u32.wrap ((a.toNat : Int) + (b.toNat : Int)) = ((a + b).toNat : Int) := by rw [IntKind.wrap_u32', add_out]
theorem shr_out (a : UInt32) (n : Nat) : (a.toNat : Int) / ((2 ^ n : Nat) : Int) = ((shr a n).toNat : Int) := by
  unfold shr
  rw [UInt32.toNat_ofNat', Nat.mod_eq_of_lt (Nat.lt_of_le_of_lt (Nat.div_le_self _ _) (u32lt a)), Int.natCast_ediv]
theorem shr3 (a : UInt32) : (a.toNat : Int) / 8 = ((shr a 3).toNat : Int) := shr_out a 3
theorem shr10 (a : UInt32) : (a.toNat : Int) / 1024 = ((shr a 10).toNat : Int) := shr_out a 10

/-- a callee that leaves the world alone, in a quiet region -/
theorem qz {P : Program} {f : FuncId} {args : Array Value} {w : World} {n : Nat} {v : Value} (h : ∀ W : World, Calls P f args W fun e w' => e = .returned v ∧ W = w') :
    Calls P f args (w.drewN n) fun e w' => e = .returned v ∧ ∃ m, w' = w.drewN m := (h _).mono fun _ _ ⟨he, hw⟩ => ⟨he, n, hw.symm⟩
theorem be4_of {b : List UInt8} {i : Nat} {x0 x1 x2 x3 : UInt8} (h0 : b[4 * i]? = some x0) (h1 : b[4 * i + 1]? = some x1) (h2 : b[4 * i + 2]? = some x2) (h3 : b[4 * i + 3]? = some x3) :
    (be4 b i).toNat = ((x0.toNat * 256 + x1.toNat) * 256 + x2.toNat) * 256 + x3.toNat := by
  have l0 := x0.toNat_lt
  have l1 := x1.toNat_lt
  have l2 := x2.toNat_lt
  have l3 := x3.toNat_lt
  unfold be4
  simp only [List.getD_eq_getElem?_getD, h0, h1, h2, h3, Option.getD_some]
  rw [UInt32.toNat_ofNat', Nat.mod_eq_of_lt (by omega)]
theorem be_out {b : List UInt8} {i : Nat} {x0 x1 x2 x3 : UInt8} (h0 : b[4 * i]? = some x0) (h1 : b[4 * i + 1]? = some x1) (h2 : b[4 * i + 2]? = some x2) (h3 : b[4 * i + 3]? = some x3) :
    bits BinOp.or IntKind.u32 (bits BinOp.or IntKind.u32 (bits BinOp.or IntKind.u32 (IntKind.u32.wrap (IntKind.u32.wrap (x0.toNat : Int) * 16777216)) (IntKind.u32.wrap (IntKind.u32.wrap (x1.toNat : Int) * 65536))) (IntKind.u32.wrap (IntKind.u32.wrap (x2.toNat : Int) * 256))) (IntKind.u32.wrap (x3.toNat : Int)) = ((be4 b i).toNat : Int) := by
  have l0 := x0.toNat_lt
  have l1 := x1.toNat_lt
  have l2 := x2.toNat_lt
  have l3 := x3.toNat_lt
  rw [be4_of h0 h1 h2 h3]
  have e0 : IntKind.u32.wrap (IntKind.u32.wrap (x0.toNat : Int) * 16777216) = ((x0.toNat * 16777216 : Nat) : Int) := by rw [IntKind.wrap_u32', IntKind.wrap_u32']; omega
  have e1 : IntKind.u32.wrap (IntKind.u32.wrap (x1.toNat : Int) * 65536) = ((x1.toNat * 65536 : Nat) : Int) := by rw [IntKind.wrap_u32', IntKind.wrap_u32']; omega
  have e2 : IntKind.u32.wrap (IntKind.u32.wrap (x2.toNat : Int) * 256) = ((x2.toNat * 256 : Nat) : Int) := by rw [IntKind.wrap_u32', IntKind.wrap_u32']; omega
  have e3 : IntKind.u32.wrap (x3.toNat : Int) = ((x3.toNat : Nat) : Int) := by rw [IntKind.wrap_u32']; omega
  rw [e0, e1, e2, e3, u32_or_nat _ _ (by omega) (by omega), nat_join 24 _ _ (by omega) (by omega), u32_or_nat _ _ (by omega) (by omega), nat_join 16 _ _ (by omega) (by omega), u32_or_nat _ _ (by omega) (by omega), nat_join 8 _ _ (by omega) (by omega)]
  omega
theorem len_fx (n x : Nat) : (fx n x).length = n := by simp [fx]
theorem len_s8b (s : S8) : (s8b s).length = 32 := by simp [s8b, s8l, len_fx]
theorem s8b_at (s : S8) (k j : Nat) (hk : k < 8) (hj : j < 4) (x : UInt32) (hx : (s8l s)[k]? = some x) : (s8b s)[4 * k + j]? = some (UInt8.ofNat (x.toNat / 256 ^ (3 - j) % 256)) := by
  obtain rfl | rfl | rfl | rfl | rfl | rfl | rfl | rfl : k = 0 ∨ k = 1 ∨ k = 2 ∨ k = 3 ∨ k = 4 ∨ k = 5 ∨ k = 6 ∨ k = 7 := by omega
  all_goals
    obtain rfl | rfl | rfl | rfl : j = 0 ∨ j = 1 ∨ j = 2 ∨ j = 3 := by omega
    all_goals
      simp [s8l] at hx
      subst hx
      rfl
theorem byte_out (x : UInt32) (j : Nat) (hj : j < 4) : Value.int .u8 ((x.toNat : Int) / 2 ^ (24 - 8 * j) % 256) = byteV (UInt8.ofNat (x.toNat / 256 ^ (3 - j) % 256)) := by
  rw [byteV_of (by omega)]
  congr 1
  rw [show (256 : Nat) ^ (3 - j) = 2 ^ (24 - 8 * j) from by rw [show 24 - 8 * j = 8 * (3 - j) from by omega, Nat.pow_mul], Int.natCast_emod, Int.natCast_ediv, Int.natCast_pow]
  rfl

theorem len_bvs (bs : List UInt8) : (bvs bs).length = bs.length := by simp [bvs]
theorem len_wvs (l : List UInt32) : (wvs l).length = l.length := by simp [wvs]
theorem wvs_at (l : List UInt32) (k : Nat) (x : UInt32) (h : l[k]? = some x) : (wvs l)[k]? = some (u32V x) := by simp [wvs, h]
theorem bvs_at (l : List UInt8) (k : Nat) (x : UInt8) (h : l[k]? = some x) : (bvs l)[k]? = some (byteV x) := by simp [bvs, h]
theorem size25 : (Try.prog.info? 23).map (·.size) = some 32 := by kernel_rfl
theorem size8 : (Try.prog.info? 5).map (·.size) = some 1 := by kernel_rfl
theorem size32 : (Try.prog.info? 39).map (·.size) = some 1 := by kernel_rfl
def zs8 (n : Nat) : List Value := List.replicate n (.int .u8 0)
def zs32 (n : Nat) : List Value := List.replicate n (.int .u32 0)
theorem zero25 : (Try.prog.info? 23).map (·.zero) = some (some (.agg (zs8 32).toArray)) := by kernel_rfl
/-- 32 bytes, the first k of l, the rest noughts -/
def part32 (l : List UInt8) (k : Nat) : List Value := (bvs l).take k ++ List.replicate (32 - k) (.int .u8 0)
theorem part32_0 (l : List UInt8) : part32 l 0 = List.replicate 32 (.int .u8 0) := by simp [part32]
theorem part32_len (l : List UInt8) (k : Nat) (hl : l.length = 32) (hk : k ≤ 32) : (part32 l k).length = 32 := by simp [part32, len_bvs, hl]; omega
theorem part32_set (l : List UInt8) (k : Nat) (hl : l.length = 32) (hk : k < 32) (c : UInt8) (hc : l[k]? = some c) : (part32 l k).set k (byteV c) = part32 l (k + 1) :=
  fill_set _ _ 32 k (by rw [len_bvs, hl]) hk _ (bvs_at l k c hc)
theorem part32_end (l : List UInt8) (hl : l.length = 32) : part32 l 32 = bvs l := by simp [part32, List.take_of_length_le, len_bvs, hl]

end Go.Proofs.Ytigojjdoacfdgaa
