/- S1: several texts in one (SM S1). -/
import Derived.Test.YtnhhbbjkeekneaaGreatDoorV
import Derived.Laws.BitsAllLaws
import Derived.Test.YtnhhbbjkeekneaaGreatDoorRB
import Derived.Test.YtnhhbbjkeekneaaGreatDoorVA
import Derived.Test.YtnhhbbjkeekneaaGreatDoorM1
/- SM: the digest as a function on lists, and facts of it. No project text. -/
namespace Go.V
open Go.RowKit

def u32V (x : UInt32) : Value := .int .u32 (x.toNat : Int)
def wvs (l : List UInt32) : List Value := l.map u32V
def rotr (x : UInt32) (n : Nat) : UInt32 := UInt32.ofNat ((x.toNat / 2 ^ n) ||| (x.toNat * 2 ^ (32 - n) % 4294967296))
def shr (x : UInt32) (n : Nat) : UInt32 := UInt32.ofNat (x.toNat / 2 ^ n)
def kl : List UInt32 := [0x428a2f98, 0x71374491, 0xb5c0fbcf, 0xe9b5dba5, 0x3956c25b, 0x59f111f1, 0x923f82a4, 0xab1c5ed5,
  0xd807aa98, 0x12835b01, 0x243185be, 0x550c7dc3, 0x72be5d74, 0x80deb1fe, 0x9bdc06a7, 0xc19bf174,
  0xe49b69c1, 0xefbe4786, 0x0fc19dc6, 0x240ca1cc, 0x2de92c6f, 0x4a7484aa, 0x5cb0a9dc, 0x76f988da,
  0x983e5152, 0xa831c66d, 0xb00327c8, 0xbf597fc7, 0xc6e00bf3, 0xd5a79147, 0x06ca6351, 0x14292967,
  0x27b70a85, 0x2e1b2138, 0x4d2c6dfc, 0x53380d13, 0x650a7354, 0x766a0abb, 0x81c2c92e, 0x92722c85,
  0xa2bfe8a1, 0xa81a664b, 0xc24b8b70, 0xc76c51a3, 0xd192e819, 0xd6990624, 0xf40e3585, 0x106aa070,
  0x19a4c116, 0x1e376c08, 0x2748774c, 0x34b0bcb5, 0x391c0cb3, 0x4ed8aa4a, 0x5b9cca4f, 0x682e6ff3,
  0x748f82ee, 0x78a5636f, 0x84c87814, 0x8cc70208, 0x90befffa, 0xa4506ceb, 0xbef9a3f7, 0xc67178f2]
def kc (i : Nat) : UInt32 := kl.getD i 0
def sg0 (x : UInt32) : UInt32 := rotr x 7 ^^^ rotr x 18 ^^^ shr x 3
def sg1 (x : UInt32) : UInt32 := rotr x 17 ^^^ rotr x 19 ^^^ shr x 10
def nxw (l : List UInt32) (i : Nat) : UInt32 := sg1 (l.getD (i - 2) 0) + l.getD (i - 7) 0 + sg0 (l.getD (i - 15) 0) + l.getD (i - 16) 0
def be4 (b : List UInt8) (i : Nat) : UInt32 := UInt32.ofNat ((((b.getD (4 * i) 0).toNat * 256 + (b.getD (4 * i + 1) 0).toNat) * 256 + (b.getD (4 * i + 2) 0).toNat) * 256 + (b.getD (4 * i + 3) 0).toNat)
def snw (b : List UInt8) (k : Nat) (l : List UInt32) : List UInt32 := l ++ [if k < 16 then be4 b k else nxw l k]
def wl (b : List UInt8) : Nat → List UInt32
  | 0 => []
  | k + 1 => snw b k (wl b k)
structure S8 where
  a : UInt32
  b : UInt32
  c : UInt32
  d : UInt32
  e : UInt32
  f : UInt32
  g : UInt32
  h : UInt32
def tF (s : S8) (k w : UInt32) : UInt32 := s.h + (rotr s.e 6 ^^^ rotr s.e 11 ^^^ rotr s.e 25) + ((s.e &&& s.f) ^^^ (~~~s.e &&& s.g)) + k + w
def uF (s : S8) : UInt32 := (rotr s.a 2 ^^^ rotr s.a 13 ^^^ rotr s.a 22) + ((s.a &&& s.b) ^^^ (s.a &&& s.c) ^^^ (s.b &&& s.c))
def rnd (s : S8) (k w : UInt32) : S8 := ⟨tF s k w + uF s, s.a, s.b, s.c, s.d + tF s k w, s.e, s.f, s.g⟩
def rnds (ws : List UInt32) (s : S8) : Nat → S8
  | 0 => s
  | k + 1 => rnd (rnds ws s k) (kc k) (ws.getD k 0)
def addS (s t : S8) : S8 := ⟨s.a + t.a, s.b + t.b, s.c + t.c, s.d + t.d, s.e + t.e, s.f + t.f, s.g + t.g, s.h + t.h⟩
def blockF (s : S8) (b : List UInt8) : S8 := addS s (rnds (wl b 64) s 64)
def iv : S8 := ⟨0x6a09e667, 0xbb67ae85, 0x3c6ef372, 0xa54ff53a, 0x510e527f, 0x9b05688c, 0x1f83d9ab, 0x5be0cd19⟩
def fbk (p : List UInt8) : Nat → S8
  | 0 => iv
  | n + 1 => blockF (fbk p n) ((p.drop (64 * n)).take 64)
def fx (n x : Nat) : List UInt8 := (List.range n).map fun i => UInt8.ofNat (x / 256 ^ (n - 1 - i) % 256)
def padN (n : Nat) : Nat := (119 - n % 64) % 64
def pad (p : List UInt8) : List UInt8 := p ++ (128 :: List.replicate (padN p.length) 0) ++ fx 8 (8 * p.length)
def s8l (s : S8) : List UInt32 := [s.a, s.b, s.c, s.d, s.e, s.f, s.g, s.h]
def s8b (s : S8) : List UInt8 := (s8l s).flatMap fun x => fx 4 x.toNat
def shaF (p : List UInt8) : List UInt8 := s8b (fbk (pad p) ((pad p).length / 64))
end Go.V
/- S1: contracts of what only turns words; of told. -/
namespace Go.V
open Go.RowKit
theorem oneCell_wvs (l : List UInt32) : ∀ v ∈ wvs l, v.oneCell' = true := by
  intro v hv
  simp [wvs] at hv
  obtain ⟨c, _, rfl⟩ := hv
  rfl
end Go.V
namespace Go.Proofs.YtnhhbbjkeekneaaGreatDoor
open Go.RowKit Go.V

theorem u32lt (x : UInt32) : x.toNat < 4294967296 := x.toNat_lt
theorem rot_out (x : UInt32) (n : Nat) : bits BinOp.or IntKind.u32 ((x.toNat : Int) / 2 ^ n) ((x.toNat : Int) * 2 ^ (32 - n) % 4294967296) = ((rotr x n).toNat : Int) := by
  have hx := u32lt x
  have h1 : x.toNat / 2 ^ n < 2 ^ 32 := Nat.lt_of_le_of_lt (Nat.div_le_self _ _) hx
  have h2 : x.toNat * 2 ^ (32 - n) % 4294967296 < 2 ^ 32 := Nat.mod_lt _ (by omega)
  have e1 : ((x.toNat : Int) / 2 ^ n) = ((x.toNat / 2 ^ n : Nat) : Int) := by rw [Int.natCast_ediv, Int.natCast_pow]; rfl
  have e2 : ((x.toNat : Int) * 2 ^ (32 - n) % 4294967296) = ((x.toNat * 2 ^ (32 - n) % 4294967296 : Nat) : Int) := by rw [Int.natCast_emod, Int.natCast_mul, Int.natCast_pow]; rfl
  rw [e1, e2, u32_or_nat _ _ h1 h2]
  unfold rotr
  rw [UInt32.toNat_ofNat', Nat.mod_eq_of_lt (Nat.or_lt_two_pow h1 h2)]
theorem xor_out (a b : UInt32) : bits BinOp.xor IntKind.u32 (a.toNat : Int) (b.toNat : Int) = ((a ^^^ b).toNat : Int) := by
  rw [u32_xor_nat _ _ (u32lt a) (u32lt b), UInt32.toNat_xor]
theorem and_out (a b : UInt32) : bits BinOp.and IntKind.u32 (a.toNat : Int) (b.toNat : Int) = ((a &&& b).toNat : Int) := by
  rw [u32_and_nat _ _ (u32lt a) (u32lt b), UInt32.toNat_and]
theorem not_out (a : UInt32) : bits BinOp.xor IntKind.u32 4294967295 (a.toNat : Int) = ((~~~a).toNat : Int) := by
  have := xor_out 4294967295 a
  rw [show (4294967295 : UInt32) ^^^ a = ~~~a from by
    apply UInt32.toBitVec_inj.1
    show 4294967295#32 ^^^ a.toBitVec = ~~~a.toBitVec
    rw [show (4294967295#32 : BitVec 32) = BitVec.allOnes 32 from by decide, BitVec.allOnes_xor]] at this
  exact this
theorem add_out (a b : UInt32) : ((a.toNat : Int) + (b.toNat : Int)) % 4294967296 = ((a + b).toNat : Int) := by
  rw [UInt32.toNat_add, Int.natCast_emod, Int.natCast_add]; rfl
theorem wadd_out (a b : UInt32) : IntKind.u32.wrap ((a.toNat : Int) + (b.toNat : Int)) = ((a + b).toNat : Int) := by rw [IntKind.wrap_u32', add_out]
theorem shr_out (a : UInt32) (n : Nat) : (a.toNat : Int) / ((2 ^ n : Nat) : Int) = ((shr a n).toNat : Int) := by
  unfold shr
  rw [UInt32.toNat_ofNat', Nat.mod_eq_of_lt (Nat.lt_of_le_of_lt (Nat.div_le_self _ _) (u32lt a)), Int.natCast_ediv]
theorem shr3 (a : UInt32) : (a.toNat : Int) / 8 = ((shr a 3).toNat : Int) := shr_out a 3
theorem shr10 (a : UInt32) : (a.toNat : Int) / 1024 = ((shr a 10).toNat : Int) := shr_out a 10

/-- a callee that leaves the world alone, in a quiet region -/
theorem qz {P : Program} {f : FuncId} {args : Array Value} {w : World} {n : Nat} {v : Value} (h : ∀ W : World, Calls P f args W fun e w' => e = .returned v ∧ W = w') :
    Calls P f args (w.drewN n) fun e w' => e = .returned v ∧ ∃ m, w' = w.drewN m := (h _).mono fun _ _ ⟨he, hw⟩ => ⟨he, n, hw.symm⟩
theorem turned_any (x : UInt32) (n : Nat) (w : World) (h1 : 1 ≤ n) (h2 : n ≤ 31) :
    Calls Tryz.prog 159 #[.int .u32 (x.toNat : Int), .int .u64 (n : Int)] w fun e w' => e = .returned (.int .u32 ((rotr x n).toNat : Int)) ∧ w = w' := by
  go_enter Tryz.func159, Tryz.ntmps159
  go_wp2
  go_ret
  exact ⟨ret_i (rot_out x n), rfl⟩
theorem turned_l (x : UInt32) (m : Int) (w : World) (h1 : 1 ≤ m) (h2 : m ≤ 31) :
    Calls Tryz.prog 159 #[.int .u32 (x.toNat : Int), .int .u64 m] w fun e w' => e = .returned (.int .u32 ((rotr x m.toNat).toNat : Int)) ∧ w = w' := by
  obtain ⟨n, rfl⟩ : ∃ n : Nat, m = n := ⟨m.toNat, by omega⟩
  exact turned_any x n w (by omega) (by omega)
theorem be4_of {b : List UInt8} {i : Nat} {x0 x1 x2 x3 : UInt8} (h0 : b[4 * i]? = some x0) (h1 : b[4 * i + 1]? = some x1) (h2 : b[4 * i + 2]? = some x2) (h3 : b[4 * i + 3]? = some x3) :
    (be4 b i).toNat = ((x0.toNat * 256 + x1.toNat) * 256 + x2.toNat) * 256 + x3.toNat := by
  have l0 := x0.toNat_lt
  have l1 := x1.toNat_lt
  have l2 := x2.toNat_lt
  have l3 := x3.toNat_lt
  unfold be4
  simp only [List.getD_eq_getElem?_getD, h0, h1, h2, h3, Option.getD_some]
  rw [UInt32.toNat_ofNat', Nat.mod_eq_of_lt (by omega)]
theorem be_out {b : List UInt8} {i : Nat} {x0 x1 x2 x3 : UInt8} (h0 : b[4 * i]? = some x0) (h1 : b[4 * i + 1]? = some x1) (h2 : b[4 * i + 2]? = some x2) (h3 : b[4 * i + 3]? = some x3) :
    bits BinOp.or IntKind.u32 (bits BinOp.or IntKind.u32 (bits BinOp.or IntKind.u32 (IntKind.u32.wrap (IntKind.u32.wrap (x0.toNat : Int) * 16777216)) (IntKind.u32.wrap (IntKind.u32.wrap (x1.toNat : Int) * 65536))) (IntKind.u32.wrap (IntKind.u32.wrap (x2.toNat : Int) * 256))) (IntKind.u32.wrap (x3.toNat : Int)) = ((be4 b i).toNat : Int) := by
  have l0 := x0.toNat_lt
  have l1 := x1.toNat_lt
  have l2 := x2.toNat_lt
  have l3 := x3.toNat_lt
  rw [be4_of h0 h1 h2 h3]
  have e0 : IntKind.u32.wrap (IntKind.u32.wrap (x0.toNat : Int) * 16777216) = ((x0.toNat * 16777216 : Nat) : Int) := by rw [IntKind.wrap_u32', IntKind.wrap_u32']; omega
  have e1 : IntKind.u32.wrap (IntKind.u32.wrap (x1.toNat : Int) * 65536) = ((x1.toNat * 65536 : Nat) : Int) := by rw [IntKind.wrap_u32', IntKind.wrap_u32']; omega
  have e2 : IntKind.u32.wrap (IntKind.u32.wrap (x2.toNat : Int) * 256) = ((x2.toNat * 256 : Nat) : Int) := by rw [IntKind.wrap_u32', IntKind.wrap_u32']; omega
  have e3 : IntKind.u32.wrap (x3.toNat : Int) = ((x3.toNat : Nat) : Int) := by rw [IntKind.wrap_u32']; omega
  rw [e0, e1, e2, e3, u32_or_nat _ _ (by omega) (by omega), nat_join 24 _ _ (by omega) (by omega), u32_or_nat _ _ (by omega) (by omega), nat_join 16 _ _ (by omega) (by omega), u32_or_nat _ _ (by omega) (by omega), nat_join 8 _ _ (by omega) (by omega)]
  omega
theorem len_fx (n x : Nat) : (fx n x).length = n := by simp [fx]
theorem len_s8b (s : S8) : (s8b s).length = 32 := by simp [s8b, s8l, len_fx]
theorem s8b_at (s : S8) (k j : Nat) (hk : k < 8) (hj : j < 4) (x : UInt32) (hx : (s8l s)[k]? = some x) : (s8b s)[4 * k + j]? = some (UInt8.ofNat (x.toNat / 256 ^ (3 - j) % 256)) := by
  obtain rfl | rfl | rfl | rfl | rfl | rfl | rfl | rfl : k = 0 ∨ k = 1 ∨ k = 2 ∨ k = 3 ∨ k = 4 ∨ k = 5 ∨ k = 6 ∨ k = 7 := by omega
  all_goals
    obtain rfl | rfl | rfl | rfl : j = 0 ∨ j = 1 ∨ j = 2 ∨ j = 3 := by omega
    all_goals
      simp [s8l] at hx
      subst hx
      rfl
theorem byte_out (x : UInt32) (j : Nat) (hj : j < 4) : Value.int .u8 ((x.toNat : Int) / 2 ^ (24 - 8 * j) % 256) = byteV (UInt8.ofNat (x.toNat / 256 ^ (3 - j) % 256)) := by
  rw [byteV_of (by omega)]
  congr 1
  rw [show (256 : Nat) ^ (3 - j) = 2 ^ (24 - 8 * j) from by rw [show 24 - 8 * j = 8 * (3 - j) from by omega, Nat.pow_mul], Int.natCast_emod, Int.natCast_ediv, Int.natCast_pow]
  rfl

theorem len_wvs (l : List UInt32) : (wvs l).length = l.length := by simp [wvs]
theorem wvs_at (l : List UInt32) (k : Nat) (x : UInt32) (h : l[k]? = some x) : (wvs l)[k]? = some (u32V x) := by simp [wvs, h]
theorem size46 : (Tryz.prog.info? 181).map (·.size) = some 8 := by kernel_rfl
theorem size64 : (Tryz.prog.info? 194).map (·.size) = some 64 := by kernel_rfl
theorem size47 : (Tryz.prog.info? 135).map (·.size) = some 64 := by kernel_rfl
theorem size32 : (Tryz.prog.info? 130).map (·.size) = some 1 := by kernel_rfl
def zs32 (n : Nat) : List Value := List.replicate n (.int .u32 0)
theorem zero64 : (Tryz.prog.info? 194).map (·.zero) = some (some (.agg (zs32 64).toArray)) := by kernel_rfl

set_option maxHeartbeats 400000 in
theorem told_any (s : S8) (w : World) :
    Calls Tryz.prog 126 #[.agg (wvs (s8l s)).toArray] w fun e w' => e = .returned (.agg (bvs (s8b s)).toArray) ∧ Below w.heap.size w w' := by
  go_enter Tryz.func126, Tryz.ntmps126
  go_wp2_with (first | (refine wp_new 32 rfl rfl zero25 ?_) | (refine wp_ld 181 (.tmp 1) rfl rfl rfl ((((Blk.new w 181 _).alloc _).alloc _).whole) Tryz.underlying181 rfl size46 ?_))
  have hb3 : Blk (((w.alloc (.cells (wvs (s8l s)).toArray 181)).alloc (.cells (zs8 32).toArray 32)).alloc (.cells (zs8 32).toArray 32)) (w.heap.size + 1 + 1) 32 (part32 (s8b s) 0) := by
    rw [part32_0]
    show Blk _ _ _ (zs8 32)
    have := Blk.new' ((w.alloc (.cells (wvs (s8l s)).toArray 181)).alloc (.cells (zs8 32).toArray 32)) 32 (zs8 32)
    simpa using this
  have hb2 : Blk (((w.alloc (.cells (wvs (s8l s)).toArray 181)).alloc (.cells (zs8 32).toArray 32)).alloc (.cells (zs8 32).toArray 32)) (w.heap.size + 1) 32 (zs8 32) := by
    have := (Blk.new' (w.alloc (.cells (wvs (s8l s)).toArray 181)) 32 (zs8 32)).alloc (.cells (zs8 32).toArray 32)
    simpa using this
  have hB0 : Below w.heap.size w (((w.alloc (.cells (wvs (s8l s)).toArray 181)).alloc (.cells (zs8 32).toArray 32)).alloc (.cells (zs8 32).toArray 32)) :=
    (((Below.refl _ _).alloc (Nat.le_refl _) _).alloc (by simp) _).alloc (by simp; omega) _
  go_loopw [8] (fun kv wr => ∃ k : Nat, k ≤ 8 ∧ kv = .int .i64 k ∧ Blk wr (w.heap.size + 1 + 1) 32 (part32 (s8b s) (4 * k)) ∧ Blk wr (w.heap.size + 1) 32 (zs8 32) ∧ Below w.heap.size w wr) (fun kv _ => 8 - (intOf kv).toNat)
  case atStart => exact ⟨0, by omega, rfl, hb3, hb2, hB0⟩
  case round =>
    obtain ⟨k, hk, rfl, h3, h2, hB⟩ := hrel
    by_cases hlt : k < 8
    · obtain ⟨x, hx⟩ : ∃ x, (s8l s)[k]? = some x := ⟨_, List.getElem?_eq_getElem (by simpa [s8l] using hlt)⟩
      have hpx := wvs_at _ _ _ hx
      unfold u32V at hpx
      have hbyte := s8b_at s k
      have Hx := hid hx
      clear hx hbyte
      go_wp2_with (refine wp_idx 181 (.tmp 7) (.tmp 8) rfl rfl rfl rfl Tryz.underlying181 hlt Tryz.isAgg130 size32 hpx ?_)
      have hxl := u32lt x
      go_loopw [12] (fun jv wr2 => ∃ j : Nat, j ≤ 4 ∧ jv = .int .i64 j ∧ Blk wr2 (w.heap.size + 1 + 1) 32 (part32 (s8b s) (4 * k + j)) ∧ Blk wr2 (w.heap.size + 1) 32 (zs8 32) ∧ Below w.heap.size w wr2) (fun jv _ => 4 - (intOf jv).toNat)
      case atStart => exact ⟨0, by omega, rfl, h3, h2, hB⟩
      case round =>
        obtain ⟨j, hj, rfl, g3, g2, gB⟩ := hrel
        by_cases hjl : j < 4
        · have hbt := hid (s8b_at s k j hlt hjl x Hx.out)
          go_wp2_with (refine wp_st1 5 (.tmp 25) (.tmp 24) rfl rfl rfl (f := 4 * k + j) rfl (byte_out x j hjl) g3 (by rw [part32_len _ _ (len_s8b s) (by omega)]; omega) size8 rfl rfl ?_; intro w3 g3' hG3)
          rw [part32_set _ _ (len_s8b s) (by omega) _ hbt.out] at g3'
          have g2' := g2.keep (hG3.block _ g2.lt (by simp))
          have gB' := gB.grown hG3 gB.size (by intro k hk; simp at hk; omega)
          go_wp2
          go_roundw
          case rel => exact ⟨j + 1, by omega, by go_num, g3', g2', gB'⟩
          case measure => simp [intOf]; omega
        · have e4 : 4 * k + j = 4 * (k + 1) := by omega
          rw [e4] at g3
          clear e4
          go_wp2
          go_roundw
          case rel => exact ⟨k + 1, by omega, by go_num, g3, g2, gB⟩
          case measure => simp [intOf]; omega
    · have hk8 : 4 * k = 32 := by omega
      rw [hk8, part32_end _ (len_s8b s)] at h3
      clear hk8
      go_wp2_with (first | (refine wp_ld 32 (.tmp 3) rfl rfl rfl h3.whole Tryz.underlying32 rfl (by rw [len_bvs, len_s8b]; exact size25) ?_) | (refine wp_st 32 (.tmp 2) (.tmp 28) rfl rfl rfl rfl rfl h2 (by simp [zs8, len_bvs, len_s8b]) (by rw [len_bvs, len_s8b]; exact size25) (oneCell_bvs _) ?_; intro w2 h2' hG2))
      refine ret_cell rfl rfl h2'.whole Tryz.underlying32 rfl ?_ rfl ?_
      · rw [show ((zs8 32).take 0 ++ bvs (s8b s) ++ (zs8 32).drop (0 + (bvs (s8b s)).length)).length = 32 from by simp [len_bvs, len_s8b, zs8]]; exact size25
      · refine ⟨?_, hB.grown hG2 hB.size (by intro k hk; simp at hk; omega)⟩
        simp [len_bvs, len_s8b, zs8]
end Go.Proofs.YtnhhbbjkeekneaaGreatDoor
