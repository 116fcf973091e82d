/- S3: several texts in one (SM S1 S2 S3). -/
import Derived.Test.YtnhhbbjkeekneaaGreatDoorV
import Derived.Laws.BitsAllLaws
import Derived.Test.YtnhhbbjkeekneaaGreatDoorRB
import Derived.Test.YtnhhbbjkeekneaaGreatDoorVA
import Derived.Test.YtnhhbbjkeekneaaGreatDoorM1
import Derived.Great.BuildSlice
import Derived.BigRegion
import Derived.IntWalk
set_option maxRecDepth 100000
set_option maxHeartbeats 16000000
namespace Go.V
open Go.RowKit
def u32V (x : UInt32) : Value := .int .u32 (x.toNat : Int)
def wvs (l : List UInt32) : List Value := l.map u32V
def rotr (x : UInt32) (n : Nat) : UInt32 := UInt32.ofNat ((x.toNat / 2 ^ n) ||| (x.toNat * 2 ^ (32 - n) % 4294967296))
def shr (x : UInt32) (n : Nat) : UInt32 := UInt32.ofNat (x.toNat / 2 ^ n)
def kl : List UInt32 := [0x428a2f98, 0x71374491, 0xb5c0fbcf, 0xe9b5dba5, 0x3956c25b, 0x59f111f1, 0x923f82a4, 0xab1c5ed5,
 0xd807aa98, 0x12835b01, 0x243185be, 0x550c7dc3, 0x72be5d74, 0x80deb1fe, 0x9bdc06a7, 0xc19bf174,
 0xe49b69c1, 0xefbe4786, 0x0fc19dc6, 0x240ca1cc, 0x2de92c6f, 0x4a7484aa, 0x5cb0a9dc, 0x76f988da,
 0x983e5152, 0xa831c66d, 0xb00327c8, 0xbf597fc7, 0xc6e00bf3, 0xd5a79147, 0x06ca6351, 0x14292967,
 0x27b70a85, 0x2e1b2138, 0x4d2c6dfc, 0x53380d13, 0x650a7354, 0x766a0abb, 0x81c2c92e, 0x92722c85,
 0xa2bfe8a1, 0xa81a664b, 0xc24b8b70, 0xc76c51a3, 0xd192e819, 0xd6990624, 0xf40e3585, 0x106aa070,
 0x19a4c116, 0x1e376c08, 0x2748774c, 0x34b0bcb5, 0x391c0cb3, 0x4ed8aa4a, 0x5b9cca4f, 0x682e6ff3,
 0x748f82ee, 0x78a5636f, 0x84c87814, 0x8cc70208, 0x90befffa, 0xa4506ceb, 0xbef9a3f7, 0xc67178f2]
def kc (i : Nat) : UInt32 := kl.getD i 0
def sg0 (x : UInt32) : UInt32 := rotr x 7 ^^^ rotr x 18 ^^^ shr x 3
def sg1 (x : UInt32) : UInt32 := rotr x 17 ^^^ rotr x 19 ^^^ shr x 10
def nxw (l : List UInt32) (i : Nat) : UInt32 := sg1 (l.getD (i - 2) 0) + l.getD (i - 7) 0 + sg0 (l.getD (i - 15) 0) + l.getD (i - 16) 0
def be4 (b : List UInt8) (i : Nat) : UInt32 := UInt32.ofNat ((((b.getD (4 * i) 0).toNat * 256 + (b.getD (4 * i + 1) 0).toNat) * 256 + (b.getD (4 * i + 2) 0).toNat) * 256 + (b.getD (4 * i + 3) 0).toNat)
def snw (b : List UInt8) (k : Nat) (l : List UInt32) : List UInt32 := l ++ [if k < 16 then be4 b k else nxw l k]
def wl (b : List UInt8) : Nat -> List UInt32
 | 0 => []
 | k + 1 => snw b k (wl b k)
structure S8 where
 a : UInt32
 b : UInt32
 c : UInt32
 d : UInt32
 e : UInt32
 f : UInt32
 g : UInt32
 h : UInt32
def tF (s : S8) (k w : UInt32) : UInt32 := s.h + (rotr s.e 6 ^^^ rotr s.e 11 ^^^ rotr s.e 25) + ((s.e &&& s.f) ^^^ (~~~s.e &&& s.g)) + k + w
def uF (s : S8) : UInt32 := (rotr s.a 2 ^^^ rotr s.a 13 ^^^ rotr s.a 22) + ((s.a &&& s.b) ^^^ (s.a &&& s.c) ^^^ (s.b &&& s.c))
def rnd (s : S8) (k w : UInt32) : S8 := ⟨tF s k w + uF s, s.a, s.b, s.c, s.d + tF s k w, s.e, s.f, s.g⟩
def rnds (ws : List UInt32) (s : S8) : Nat -> S8
 | 0 => s
 | k + 1 => rnd (rnds ws s k) (kc k) (ws.getD k 0)
def addS (s t : S8) : S8 := ⟨s.a + t.a, s.b + t.b, s.c + t.c, s.d + t.d, s.e + t.e, s.f + t.f, s.g + t.g, s.h + t.h⟩
def blockF (s : S8) (b : List UInt8) : S8 := addS s (rnds (wl b 64) s 64)
def iv : S8 := ⟨0x6a09e667, 0xbb67ae85, 0x3c6ef372, 0xa54ff53a, 0x510e527f, 0x9b05688c, 0x1f83d9ab, 0x5be0cd19⟩
def fbk (p : List UInt8) : Nat -> S8
 | 0 => iv
 | n + 1 => blockF (fbk p n) ((p.drop (64 * n)).take 64)
def fx (n x : Nat) : List UInt8 := (List.range n).map fun i => UInt8.ofNat (x / 256 ^ (n - 1 - i) % 256)
def padN (n : Nat) : Nat := (119 - n % 64) % 64
def pad (p : List UInt8) : List UInt8 := p ++ (128 :: List.replicate (padN p.length) 0) ++ fx 8 (8 * p.length)
def s8l (s : S8) : List UInt32 := [s.a, s.b, s.c, s.d, s.e, s.f, s.g, s.h]
def s8b (s : S8) : List UInt8 := (s8l s).flatMap fun x => fx 4 x.toNat
def shaF (p : List UInt8) : List UInt8 := s8b (fbk (pad p) ((pad p).length / 64))
theorem oneCell_wvs (l : List UInt32) : ∀ v ∈ wvs l, v.oneCell' = true := by
 intro v hv; simp [wvs] at hv; obtain ⟨c, _, rfl⟩ := hv; rfl
end Go.V
namespace Go.Proofs.YtnhhbbjkeekneaaGreatDoor
open Go.RowKit Go.V
theorem u32lt (x : UInt32) : x.toNat < 4294967296 := x.toNat_lt
theorem rot_out (x : UInt32) (n : Nat) : bits BinOp.or IntKind.u32 ((x.toNat : Int) / 2 ^ n) ((x.toNat : Int) * 2 ^ (32 - n) % 4294967296) = ((rotr x n).toNat : Int) := by
 have hx := u32lt x; have h1 : x.toNat / 2 ^ n < 2 ^ 32 := Nat.lt_of_le_of_lt (Nat.div_le_self _ _) hx; have h2 : x.toNat * 2 ^ (32 - n) % 4294967296 < 2 ^ 32 := Nat.mod_lt _ (by omega); have e1 : ((x.toNat : Int) / 2 ^ n) = ((x.toNat / 2 ^ n : Nat) : Int) := by rw [Int.natCast_ediv, Int.natCast_pow]; rfl
 have e2 : ((x.toNat : Int) * 2 ^ (32 - n) % 4294967296) = ((x.toNat * 2 ^ (32 - n) % 4294967296 : Nat) : Int) := by rw [Int.natCast_emod, Int.natCast_mul, Int.natCast_pow]; rfl
 rw [e1, e2, u32_or_nat _ _ h1 h2]; unfold rotr; rw [UInt32.toNat_ofNat', Nat.mod_eq_of_lt (Nat.or_lt_two_pow h1 h2)]
theorem xor_out (a b : UInt32) : bits BinOp.xor IntKind.u32 (a.toNat : Int) (b.toNat : Int) = ((a ^^^ b).toNat : Int) := by
 rw [u32_xor_nat _ _ (u32lt a) (u32lt b), UInt32.toNat_xor]
theorem and_out (a b : UInt32) : bits BinOp.and IntKind.u32 (a.toNat : Int) (b.toNat : Int) = ((a &&& b).toNat : Int) := by
 rw [u32_and_nat _ _ (u32lt a) (u32lt b), UInt32.toNat_and]
theorem not_out (a : UInt32) : bits BinOp.xor IntKind.u32 4294967295 (a.toNat : Int) = ((~~~a).toNat : Int) := by
 have := xor_out 4294967295 a
 rw [show (4294967295 : UInt32) ^^^ a = ~~~a from by
  apply UInt32.toBitVec_inj.1; show 4294967295#32 ^^^ a.toBitVec = ~~~a.toBitVec; rw [show (4294967295#32 : BitVec 32) = BitVec.allOnes 32 from by decide, BitVec.allOnes_xor]] at this
 exact this
theorem add_out (a b : UInt32) : ((a.toNat : Int) + (b.toNat : Int)) % 4294967296 = ((a + b).toNat : Int) := by
 rw [UInt32.toNat_add, Int.natCast_emod, Int.natCast_add]; rfl
theorem wadd_out (a b : UInt32) : IntKind.u32.wrap ((a.toNat : Int) + (b.toNat : Int)) = ((a + b).toNat : Int) := by rw [IntKind.wrap_u32', add_out]
theorem shr_out (a : UInt32) (n : Nat) : (a.toNat : Int) / ((2 ^ n : Nat) : Int) = ((shr a n).toNat : Int) := by
 unfold shr; rw [UInt32.toNat_ofNat', Nat.mod_eq_of_lt (Nat.lt_of_le_of_lt (Nat.div_le_self _ _) (u32lt a)), Int.natCast_ediv]
theorem shr3 (a : UInt32) : (a.toNat : Int) / 8 = ((shr a 3).toNat : Int) := shr_out a 3
theorem shr10 (a : UInt32) : (a.toNat : Int) / 1024 = ((shr a 10).toNat : Int) := shr_out a 10
theorem qz {P : Program} {f : FuncId} {args : Array Value} {w : World} {n : Nat} {v : Value} (h : ∀ W : World, Calls P f args W fun e w' => e = .returned v /\ W = w') :
 Calls P f args (w.drewN n) fun e w' => e = .returned v /\ ∃ m, w' = w.drewN m := (h _).mono fun _ _ ⟨he, hw⟩ => ⟨he, n, hw.symm⟩
theorem turned_any (x : UInt32) (n : Nat) (w : World) (h1 : 1 <= n) (h2 : n <= 31) :
 Calls Tryz.prog 159 #[.int .u32 (x.toNat : Int), .int .u64 (n : Int)] w fun e w' => e = .returned (.int .u32 ((rotr x n).toNat : Int)) /\ w = w' := by
 go_enter Tryz.func159, Tryz.ntmps159; go_wp2; go_ret; exact ⟨ret_i (rot_out x n), rfl⟩
theorem turn_any (x : UInt32) (n : Nat) (w : World) (h1 : 1 <= n) (h2 : n <= 31) :
 Calls Tryz.prog 109 #[.int .u32 (x.toNat : Int), .int .i64 (n : Int)] w fun e w' => e = .returned (.int .u32 ((rotr x n).toNat : Int)) /\ w = w' := by
 go_enter Tryz.func109, Tryz.ntmps109; go_wp2; go_ret; exact ⟨ret_i (rot_out x n), rfl⟩
theorem turned_l (x : UInt32) (m : Int) (w : World) (h1 : 1 <= m) (h2 : m <= 31) :
 Calls Tryz.prog 159 #[.int .u32 (x.toNat : Int), .int .u64 m] w fun e w' => e = .returned (.int .u32 ((rotr x m.toNat).toNat : Int)) /\ w = w' := by
 obtain ⟨n, rfl⟩ : ∃ n : Nat, m = n := ⟨m.toNat, by omega⟩
 exact turned_any x n w (by omega) (by omega)
theorem turn_l (x : UInt32) (m : Int) (w : World) (h1 : 1 <= m) (h2 : m <= 31) :
 Calls Tryz.prog 109 #[.int .u32 (x.toNat : Int), .int .i64 m] w fun e w' => e = .returned (.int .u32 ((rotr x m.toNat).toNat : Int)) /\ w = w' := by
 obtain ⟨n, rfl⟩ : ∃ n : Nat, m = n := ⟨m.toNat, by omega⟩
 exact turn_any x n w (by omega) (by omega)
theorem be4_of {b : List UInt8} {i : Nat} {x0 x1 x2 x3 : UInt8} (h0 : b[4 * i]? = some x0) (h1 : b[4 * i + 1]? = some x1) (h2 : b[4 * i + 2]? = some x2) (h3 : b[4 * i + 3]? = some x3) :
 (be4 b i).toNat = ((x0.toNat * 256 + x1.toNat) * 256 + x2.toNat) * 256 + x3.toNat := by
 have l0 := x0.toNat_lt; have l1 := x1.toNat_lt; have l2 := x2.toNat_lt; have l3 := x3.toNat_lt; unfold be4; simp only [List.getD_eq_getElem?_getD, h0, h1, h2, h3, Option.getD_some]; rw [UInt32.toNat_ofNat', Nat.mod_eq_of_lt (by omega)]
theorem be_out {b : List UInt8} {i : Nat} {x0 x1 x2 x3 : UInt8} (h0 : b[4 * i]? = some x0) (h1 : b[4 * i + 1]? = some x1) (h2 : b[4 * i + 2]? = some x2) (h3 : b[4 * i + 3]? = some x3) :
 bits BinOp.or IntKind.u32 (bits BinOp.or IntKind.u32 (bits BinOp.or IntKind.u32 (IntKind.u32.wrap (IntKind.u32.wrap (x0.toNat : Int) * 16777216)) (IntKind.u32.wrap (IntKind.u32.wrap (x1.toNat : Int) * 65536))) (IntKind.u32.wrap (IntKind.u32.wrap (x2.toNat : Int) * 256))) (IntKind.u32.wrap (x3.toNat : Int)) = ((be4 b i).toNat : Int) := by
 have l0 := x0.toNat_lt; have l1 := x1.toNat_lt; have l2 := x2.toNat_lt; have l3 := x3.toNat_lt; rw [be4_of h0 h1 h2 h3]; have e0 : IntKind.u32.wrap (IntKind.u32.wrap (x0.toNat : Int) * 16777216) = ((x0.toNat * 16777216 : Nat) : Int) := by rw [IntKind.wrap_u32', IntKind.wrap_u32']; omega
 have e1 : IntKind.u32.wrap (IntKind.u32.wrap (x1.toNat : Int) * 65536) = ((x1.toNat * 65536 : Nat) : Int) := by rw [IntKind.wrap_u32', IntKind.wrap_u32']; omega
 have e2 : IntKind.u32.wrap (IntKind.u32.wrap (x2.toNat : Int) * 256) = ((x2.toNat * 256 : Nat) : Int) := by rw [IntKind.wrap_u32', IntKind.wrap_u32']; omega
 have e3 : IntKind.u32.wrap (x3.toNat : Int) = ((x3.toNat : Nat) : Int) := by rw [IntKind.wrap_u32']; omega
 rw [e0, e1, e2, e3, u32_or_nat _ _ (by omega) (by omega), nat_join 24 _ _ (by omega) (by omega), u32_or_nat _ _ (by omega) (by omega), nat_join 16 _ _ (by omega) (by omega), u32_or_nat _ _ (by omega) (by omega), nat_join 8 _ _ (by omega) (by omega)]; omega
theorem len_fx (n x : Nat) : (fx n x).length = n := by simp [fx]
theorem len_s8b (s : S8) : (s8b s).length = 32 := by simp [s8b, s8l, len_fx]
theorem s8b_at (s : S8) (k j : Nat) (hk : k < 8) (hj : j < 4) (x : UInt32) (hx : (s8l s)[k]? = some x) : (s8b s)[4 * k + j]? = some (UInt8.ofNat (x.toNat / 256 ^ (3 - j) % 256)) := by
 obtain rfl | rfl | rfl | rfl | rfl | rfl | rfl | rfl : k = 0 \/ k = 1 \/ k = 2 \/ k = 3 \/ k = 4 \/ k = 5 \/ k = 6 \/ k = 7 := by omega
 all_goals
  obtain rfl | rfl | rfl | rfl : j = 0 \/ j = 1 \/ j = 2 \/ j = 3 := by omega
  all_goals
   simp [s8l] at hx; subst hx; rfl
theorem byte_out (x : UInt32) (j : Nat) (hj : j < 4) : Value.int .u8 ((x.toNat : Int) / 2 ^ (24 - 8 * j) % 256) = byteV (UInt8.ofNat (x.toNat / 256 ^ (3 - j) % 256)) := by
 rw [byteV_of (by omega)]
 congr 1
 rw [show (256 : Nat) ^ (3 - j) = 2 ^ (24 - 8 * j) from by rw [show 24 - 8 * j = 8 * (3 - j) from by omega, Nat.pow_mul], Int.natCast_emod, Int.natCast_ediv, Int.natCast_pow]; rfl
theorem len_wvs (l : List UInt32) : (wvs l).length = l.length := by simp [wvs]
theorem wvs_at (l : List UInt32) (k : Nat) (x : UInt32) (h : l[k]? = some x) : (wvs l)[k]? = some (u32V x) := by simp [wvs, h]
theorem size46 : (Tryz.prog.info? 181).map (·.size) = some 8 := by kernel_rfl
theorem size64 : (Tryz.prog.info? 194).map (·.size) = some 64 := by kernel_rfl
theorem size47 : (Tryz.prog.info? 135).map (·.size) = some 64 := by kernel_rfl
theorem size32 : (Tryz.prog.info? 130).map (·.size) = some 1 := by kernel_rfl
def zs32 (n : Nat) : List Value := List.replicate n (.int .u32 0)
theorem zero64 : (Tryz.prog.info? 194).map (·.zero) = some (some (.agg (zs32 64).toArray)) := by kernel_rfl
theorem told_any (s : S8) (w : World) :
 Calls Tryz.prog 126 #[.agg (wvs (s8l s)).toArray] w fun e w' => e = .returned (.agg (bvs (s8b s)).toArray) /\ Below w.heap.size w w' := by
 go_enter Tryz.func126, Tryz.ntmps126; go_wp2_with (first | (refine wp_new 32 rfl rfl zero25 ?_) | (refine wp_ld 181 (.tmp 1) rfl rfl rfl ((((Blk.new w 181 _).alloc _).alloc _).whole) Tryz.underlying181 rfl size46 ?_))
 have hb3 : Blk (((w.alloc (.cells (wvs (s8l s)).toArray 181)).alloc (.cells (zs8 32).toArray 32)).alloc (.cells (zs8 32).toArray 32)) (w.heap.size + 1 + 1) 32 (part32 (s8b s) 0) := by
  rw [part32_0]; show Blk _ _ _ (zs8 32); have := Blk.new' ((w.alloc (.cells (wvs (s8l s)).toArray 181)).alloc (.cells (zs8 32).toArray 32)) 32 (zs8 32); simpa using this
 have hb2 : Blk (((w.alloc (.cells (wvs (s8l s)).toArray 181)).alloc (.cells (zs8 32).toArray 32)).alloc (.cells (zs8 32).toArray 32)) (w.heap.size + 1) 32 (zs8 32) := by
  have := (Blk.new' (w.alloc (.cells (wvs (s8l s)).toArray 181)) 32 (zs8 32)).alloc (.cells (zs8 32).toArray 32); simpa using this
 have hB0 : Below w.heap.size w (((w.alloc (.cells (wvs (s8l s)).toArray 181)).alloc (.cells (zs8 32).toArray 32)).alloc (.cells (zs8 32).toArray 32)) :=
  (((Below.refl _ _).alloc (Nat.le_refl _) _).alloc (by simp) _).alloc (by simp; omega) _
 go_loopw [8] (fun kv wr => ∃ k : Nat, k <= 8 /\ kv = .int .i64 k /\ Blk wr (w.heap.size + 1 + 1) 32 (part32 (s8b s) (4 * k)) /\ Blk wr (w.heap.size + 1) 32 (zs8 32) /\ Below w.heap.size w wr) (fun kv _ => 8 - (intOf kv).toNat)
 case atStart => exact ⟨0, by omega, rfl, hb3, hb2, hB0⟩
 case round =>
  obtain ⟨k, hk, rfl, h3, h2, hB⟩ := hrel; by_cases hlt : k < 8
  . obtain ⟨x, hx⟩ : ∃ x, (s8l s)[k]? = some x := ⟨_, List.getElem?_eq_getElem (by simpa [s8l] using hlt)⟩
    have hpx := wvs_at _ _ _ hx; unfold u32V at hpx; have hbyte := s8b_at s k; have Hx := hid hx; clear hx hbyte; go_wp2_with (refine wp_idx 181 (.tmp 7) (.tmp 8) rfl rfl rfl rfl Tryz.underlying181 hlt Tryz.isAgg130 size32 hpx ?_); have hxl := u32lt x
    go_loopw [12] (fun jv wr2 => ∃ j : Nat, j <= 4 /\ jv = .int .i64 j /\ Blk wr2 (w.heap.size + 1 + 1) 32 (part32 (s8b s) (4 * k + j)) /\ Blk wr2 (w.heap.size + 1) 32 (zs8 32) /\ Below w.heap.size w wr2) (fun jv _ => 4 - (intOf jv).toNat)
    case atStart => exact ⟨0, by omega, rfl, h3, h2, hB⟩
    case round =>
     obtain ⟨j, hj, rfl, g3, g2, gB⟩ := hrel; by_cases hjl : j < 4
     . have hbt := hid (s8b_at s k j hlt hjl x Hx.out); go_wp2_with (refine wp_st1 5 (.tmp 25) (.tmp 24) rfl rfl rfl (f := 4 * k + j) rfl (byte_out x j hjl) g3 (by rw [part32_len _ _ (len_s8b s) (by omega)]; omega) size8 rfl rfl ?_; intro w3 g3' hG3); rw [part32_set _ _ (len_s8b s) (by omega) _ hbt.out] at g3'; have g2' := g2.keep (hG3.block _ g2.lt (by simp)); have gB' := gB.grown hG3 gB.size (by intro k hk; simp at hk; omega); go_wp2
       go_roundw
       case rel => exact ⟨j + 1, by omega, by go_num, g3', g2', gB'⟩
       case measure => simp [intOf]; omega
     . have e4 : 4 * k + j = 4 * (k + 1) := by omega
       rw [e4] at g3; clear e4; go_wp2
       go_roundw
       case rel => exact ⟨k + 1, by omega, by go_num, g3, g2, gB⟩
       case measure => simp [intOf]; omega
  . have hk8 : 4 * k = 32 := by omega
    rw [hk8, part32_end _ (len_s8b s)] at h3; clear hk8; go_wp2_with (first | (refine wp_ld 32 (.tmp 3) rfl rfl rfl h3.whole Tryz.underlying32 rfl (by rw [len_bvs, len_s8b]; exact size25) ?_) | (refine wp_st 32 (.tmp 2) (.tmp 28) rfl rfl rfl rfl rfl h2 (by simp [zs8, len_bvs, len_s8b]) (by rw [len_bvs, len_s8b]; exact size25) (oneCell_bvs _) ?_; intro w2 h2' hG2)); refine ret_cell rfl rfl h2'.whole Tryz.underlying32 rfl ?_ rfl ?_
    . rw [show ((zs8 32).take 0 ++ bvs (s8b s) ++ (zs8 32).drop (0 + (bvs (s8b s)).length)).length = 32 from by simp [len_bvs, len_s8b, zs8]]; exact size25
    . refine ⟨?_, hB.grown hG2 hB.size (by intro k hk; simp at hk; omega)⟩; simp [len_bvs, len_s8b, zs8]
def KS (w : World) : Prop := w.rangeAt 0 0 (wvs kl)
theorem KS.at {w : World} (h : KS w) (k : Nat) (hk : k < 64) : w.cell? ⟨0, k, none⟩ = some (.int .u32 ((kc k).toNat : Int)) := by
 have := h k (u32V (kc k)) (wvs_at _ _ _ (by
  unfold kc; rw [List.getD_eq_getElem?_getD, List.getElem?_eq_getElem (by simpa [kl] using hk)]; rfl))
 rw [Nat.zero_add] at this; exact this
theorem KS.keep {w w' : World} (h : KS w) (hc : w'.heap[(0 : Nat)]? = w.heap[(0 : Nat)]?) : KS w' := fun j v hv => (World.cell?_of_block hc).trans (h j v hv)
theorem KS.lt {w : World} (h : KS w) : 0 < w.heap.size := lt_of_cell (h.at 0 (by omega))
theorem KS.below {w w' : World} (h : KS w) (hB : Below w.heap.size w w') : KS w' := h.keep (hB.block _ h.lt)
theorem KS.drewN {w : World} (h : KS w) (n : Nat) : KS (w.drewN n) := h
theorem KS.drew {w : World} (h : KS w) : KS w.drew := h
theorem ones_u32 : (if IntKind.u32.signed = true then (-1 : Int) else IntKind.u32.max) = 4294967295 := rfl
theorem t_out (a b c d e f g h K X : UInt32) : ((((h.toNat : Int) + ((rotr e 6 ^^^ rotr e 11 ^^^ rotr e 25).toNat : Int) + (((e &&& f) ^^^ (~~~e &&& g)).toNat : Int) + (K.toNat : Int)) % 4294967296 + (X.toNat : Int)) % 4294967296) = ((tF ⟨a, b, c, d, e, f, g, h⟩ K X).toNat : Int) := by
 show _ = ((h + (rotr e 6 ^^^ rotr e 11 ^^^ rotr e 25) + ((e &&& f) ^^^ (~~~e &&& g)) + K + X).toNat : Int)
 rw [<- add_out, <- add_out, <- add_out, <- add_out]; omega
theorem u_out (a b c d e f g h : UInt32) : (((rotr a 2 ^^^ rotr a 13 ^^^ rotr a 22).toNat : Int) + (((a &&& b) ^^^ (a &&& c) ^^^ (b &&& c)).toNat : Int)) % 4294967296 = ((uF ⟨a, b, c, d, e, f, g, h⟩).toNat : Int) := add_out _ _
theorem rnds_s {ws : List UInt32} {s : S8} {k : Nat} {a b c d e f g h T U x : UInt32} (hs : rnds ws s k = ⟨a, b, c, d, e, f, g, h⟩) (hx : ws[k]? = some x) (hT : T = tF ⟨a, b, c, d, e, f, g, h⟩ (kc k) x) (hU : U = uF ⟨a, b, c, d, e, f, g, h⟩) :
 rnds ws s (k + 1) = ⟨T + U, a, b, c, d + T, e, f, g⟩ := by
 have : ws.getD k 0 = x := by rw [List.getD_eq_getElem?_getD, hx]; rfl
 rw [rnds, hs, this, hT, hU]; rfl
def addTo (s t : S8) (i : Nat) : List UInt32 := (s8l (addS s t)).take i ++ (s8l s).drop i
theorem addTo_len (s t : S8) (i : Nat) (h : i <= 8) : (addTo s t i).length = 8 := by simp [addTo, s8l]; omega
theorem addTo_step (s t : S8) (i : Nat) (h : i < 8) : ∃ x y, (s8l t)[i]? = some y /\ (addTo s t i)[i]? = some x /\ (addTo s t i).set i (x + y) = addTo s t (i + 1) := by
 obtain rfl | rfl | rfl | rfl | rfl | rfl | rfl | rfl : i = 0 \/ i = 1 \/ i = 2 \/ i = 3 \/ i = 4 \/ i = 5 \/ i = 6 \/ i = 7 := by omega
 all_goals exact ⟨_, _, rfl, rfl, rfl⟩
theorem wvs_set (l : List UInt32) (i : Nat) (x : UInt32) : (wvs l).set i (u32V x) = wvs (l.set i x) := by simp [wvs, List.map_set]
theorem mixed_any (s : S8) (ws : List UInt32) (w : World) (hK : KS w) (hl : ws.length = 64) :
 Calls Tryz.prog 144 #[.agg (wvs (s8l s)).toArray, .agg (wvs ws).toArray] w fun e w' => e = .returned (.agg (wvs (s8l (addS s (rnds ws s 64)))).toArray) /\ Below w.heap.size w w' := by
 have zero46 : (Tryz.prog.info? 181).map (·.zero) = some (some (.agg (zs32 8).toArray)) := by kernel_rfl
 go_enter Tryz.func144, Tryz.ntmps144; go_wp2_with (refine wp_new 181 rfl rfl zero46 ?_); have b2 : Blk (((w.alloc (.cells (wvs (s8l s)).toArray 181)).alloc (.cells (wvs ws).toArray 194)).alloc (.cells (zs32 8).toArray 181)) w.heap.size 181 (wvs (s8l s)) := ((Blk.new' w 181 _).alloc _).alloc _
 have b3 : Blk (((w.alloc (.cells (wvs (s8l s)).toArray 181)).alloc (.cells (wvs ws).toArray 194)).alloc (.cells (zs32 8).toArray 181)) (w.heap.size + 1) 194 (wvs ws) := by
  have := (Blk.new' (w.alloc (.cells (wvs (s8l s)).toArray 181)) 194 (wvs ws)).alloc (.cells (zs32 8).toArray 181); simpa using this
 have b4 : Blk (((w.alloc (.cells (wvs (s8l s)).toArray 181)).alloc (.cells (wvs ws).toArray 194)).alloc (.cells (zs32 8).toArray 181)) (w.heap.size + 1 + 1) 181 (zs32 8) := by
  have := Blk.new' ((w.alloc (.cells (wvs (s8l s)).toArray 181)).alloc (.cells (wvs ws).toArray 194)) 181 (zs32 8); simpa using this
 have hB0 : Below w.heap.size w (((w.alloc (.cells (wvs (s8l s)).toArray 181)).alloc (.cells (wvs ws).toArray 194)).alloc (.cells (zs32 8).toArray 181)) :=
  (((Below.refl _ _).alloc (Nat.le_refl _) _).alloc (by simp) _).alloc (by simp; omega) _
 obtain ⟨w0, hw0⟩ := nm ((((w.alloc (.cells (wvs (s8l s)).toArray 181)).alloc (.cells (wvs ws).toArray 194)).alloc (.cells (zs32 8).toArray 181))); rw [<- hw0] at b2 b3 b4 hB0 |-; clear hw0; have c0 := b2.cellAt 0 _ rfl; have c1 := b2.cellAt 1 _ rfl; have c2 := b2.cellAt 2 _ rfl; have c3 := b2.cellAt 3 _ rfl; have c4 := b2.cellAt 4 _ rfl; have c5 := b2.cellAt 5 _ rfl; have c6 := b2.cellAt 6 _ rfl; have c7 := b2.cellAt 7 _ rfl; unfold u32V at c0 c1 c2 c3 c4 c5 c6 c7
 go_quiet (fail)
 go_wp2
 go_quiet (fail)
 go_wp2; rw [World.drewN_drewN]; clear c0 c1 c2 c3 c4 c5 c6 c7; have hK0 : KS w0 := hK.below hB0
 go_loopw [5, 6, 7, 8, 9, 10, 11, 12, 34] (fun va vb vc vd ve vf vg vh kv wr => ∃ (k n : Nat) (a b c d e f g h : UInt32), k <= 64 /\ kv = .int .i64 k /\ va = .int .u32 (a.toNat : Int) /\ vb = .int .u32 (b.toNat : Int) /\ vc = .int .u32 (c.toNat : Int) /\ vd = .int .u32 (d.toNat : Int) /\ ve = .int .u32 (e.toNat : Int) /\ vf = .int .u32 (f.toNat : Int) /\ vg = .int .u32 (g.toNat : Int) /\ vh = .int .u32 (h.toNat : Int) /\ rnds ws s k = ⟨a, b, c, d, e, f, g, h⟩ /\ wr = w0.drewN n) (fun _ _ _ _ _ _ _ _ kv _ => 64 - (intOf kv).toNat)
 case atStart => exact ⟨0, _, s.a, s.b, s.c, s.d, s.e, s.f, s.g, s.h, by omega, rfl, rfl, rfl, rfl, rfl, rfl, rfl, rfl, rfl, rfl, rfl⟩
 case round =>
  obtain ⟨k, n, a, b, c, d, e, f, g, h, hk, rfl, rfl, rfl, rfl, rfl, rfl, rfl, rfl, rfl, hst, rfl⟩ := hrel; have Hst := hid hst; clear hst; by_cases hlt : k < 64
  . have hkc := (hK0.drewN n).at k hlt; obtain ⟨x, hx⟩ : ∃ x, ws[k]? = some x := ⟨_, List.getElem?_eq_getElem (by omega)⟩
    have hwx := (b3.drewN n).cellAt k _ (wvs_at _ _ _ hx); unfold u32V at hwx; have Hx := hid hx; clear hx; obtain ⟨W, hW⟩ := nm (w0.drewN n); rw [<- hW] at hkc hwx |-; have HW := hid hW; clear hW; go_wp2
    go_quiet ((go_at_call 159; exact qz fun W => turned_l _ _ W (by omega) (by omega)))
    simp only [ones_u32, xor_out, and_out, not_out, Int.reduceToNat]; rw [t_out a b c d]; obtain ⟨T, hT⟩ := nm (tF ⟨a, b, c, d, e, f, g, h⟩ (kc k) x); rw [<- hT]; have HT := hid hT; clear hT; go_wp2_with (go_at_call 159; refine (turned_l _ _ _ (by omega) (by omega)).mono ?_; rintro e' w' ⟨rfl, rfl⟩; simp only [Int.reduceToNat]); simp only [xor_out, and_out]; rw [u_out a b c d e f g h]; obtain ⟨U, hU⟩ := nm (uF ⟨a, b, c, d, e, f, g, h⟩); rw [<- hU]; have HU := hid hU; clear hU
    go_roundw
    case rel => exact ⟨k + 1, _, T + U, a, b, c, d + T, e, f, g, by omega, by go_num, congrArg _ (add_out T U), rfl, rfl, rfl, congrArg _ (add_out d T), rfl, rfl, rfl, rnds_s Hst.out Hx.out HT.out HU.out, by rw [HW.out, World.drewN_drewN]⟩
    case measure => simp [intOf]; omega
  . have earr : (#[.int .u32 (a.toNat : Int), .int .u32 (b.toNat : Int), .int .u32 (c.toNat : Int), .int .u32 (d.toNat : Int), .int .u32 (e.toNat : Int), .int .u32 (f.toNat : Int), .int .u32 (g.toNat : Int), .int .u32 (h.toNat : Int)] : Array Value) = (wvs (s8l ⟨a, b, c, d, e, f, g, h⟩)).toArray := rfl; have Hearr := hid earr; clear earr
    have hfin : Hid (rnds ws s 64 = ⟨a, b, c, d, e, f, g, h⟩) := by
     show _ = _; have : k = 64 := by omega
     rw [<- this, Hst.out]
    have B2 := b2.drewN n; have B4 := b4.drewN n; have HB := below_drewN hB0 n; obtain ⟨W, hW⟩ := nm (w0.drewN n); rw [<- hW] at B2 B4 |-; have HB' : Below w.heap.size w W := by rw [hW]; exact ⟨hB0.os, hB0.tape, hB0.output, hB0.size, hB0.block⟩
    clear hW HB; go_wp2; rw [Hearr.out]; obtain ⟨st, hst⟩ : ∃ st : S8, st = ⟨a, b, c, d, e, f, g, h⟩ := ⟨_, rfl⟩
    rw [<- hst]; have hfin : Hid (rnds ws s 64 = st) := by show _ = _; rw [hst]; exact hfin.out
    clear hst Hearr
    go_loopw [106] (fun iv wr => ∃ i : Nat, i <= 8 /\ iv = .int .i64 i /\ Blk wr w.heap.size 181 (wvs (addTo s st i)) /\ Blk wr (w.heap.size + 1 + 1) 181 (zs32 8) /\ Below w.heap.size w wr) (fun iv _ => 8 - (intOf iv).toNat)
    case atStart => exact ⟨0, by omega, rfl, B2, B4, HB'⟩
    case round =>
     obtain ⟨i, hi, rfl, g2, g4, gB⟩ := hrel; by_cases hil : i < 8
     . obtain ⟨x, y, hy, hx, hset⟩ := addTo_step s st i hil; have hcx := g2.cellAt i _ (wvs_at _ _ _ hx); have hvy := wvs_at _ _ _ hy; unfold u32V at hcx hvy; have Hset := hid hset; clear hx hy hset; go_wp2_with (first | (refine wp_idx 181 (.tmp 105) (.tmp 106) rfl rfl rfl rfl Tryz.underlying181 hil Tryz.isAgg130 size32 hvy ?_) | (refine wp_st1 130 (.tmp 115) (.tmp 114) rfl rfl rfl (f := i) rfl (v := u32V (x + y)) (congrArg (Value.int .u32) (add_out x y)) g2 (by rw [len_wvs, addTo_len _ _ _ (by omega)]; omega) size32 rfl rfl ?_; intro w3 g2' hG3)); rw [wvs_set, Hset.out] at g2'; have g4' := g4.keep (hG3.block _ g4.lt (by intro e; injection e with e; omega)); have gB' := gB.grown hG3 gB.size (by intro k hk; simp at hk; omega)
       go_roundw
       case rel => exact ⟨i + 1, by omega, by go_num, g2', g4', gB'⟩
       case measure => simp [intOf]; omega
     . have h8 : i = 8 := by omega
       subst h8; have ha : addTo s st 8 = s8l (addS s st) := rfl; rw [ha] at g2; clear ha; go_wp2_with (first | (refine wp_ld 181 (.tmp 2) rfl rfl rfl g2.whole Tryz.underlying181 rfl size46 ?_) | (refine wp_st 181 (.tmp 4) (.tmp 117) rfl rfl rfl rfl rfl g4 (by simp [zs32, len_wvs, s8l]) size46 (oneCell_wvs _) ?_; intro w2 h2' hG2)); refine ret_cell rfl rfl h2'.whole Tryz.underlying181 rfl size46 rfl ?_; refine ⟨?_, gB.grown hG2 gB.size (by intro k hk; simp at hk; omega)⟩; rw [hfin.out]; rfl
theorem wl_len (b : List UInt8) : ∀ k, (wl b k).length = k
 | 0 => rfl
 | k + 1 => by rw [wl, snw, List.length_append, wl_len b k]; rfl
theorem wl_s (b : List UInt8) (k : Nat) : wl b (k + 1) = wl b k ++ [if k < 16 then be4 b k else nxw (wl b k) k] := rfl
def part64 (b : List UInt8) (k : Nat) : List Value := wvs (wl b k) ++ zs32 (64 - k)
theorem part64_len (b : List UInt8) (k : Nat) (h : k <= 64) : (part64 b k).length = 64 := by simp [part64, len_wvs, wl_len, zs32]; omega
theorem part64_set (b : List UInt8) (k : Nat) (h : k < 64) (x : UInt32) (hx : x = if k < 16 then be4 b k else nxw (wl b k) k) : (part64 b k).set k (u32V x) = part64 b (k + 1) := by
 unfold part64; rw [List.set_append_right _ _ (by rw [len_wvs, wl_len]; omega), len_wvs, wl_len, Nat.sub_self, zs32, show 64 - k = (64 - (k + 1)) + 1 from by omega, List.replicate_succ, List.set_cons_zero, wl_s, <- hx]; simp [wvs, zs32]
theorem part64_at (b : List UInt8) (k j : Nat) (hj : j < k) : (part64 b k)[j]? = some (u32V ((wl b k).getD j 0)) := by
 unfold part64; rw [List.getElem?_append_left (by rw [len_wvs, wl_len]; exact hj)]; refine wvs_at _ _ _ ?_; rw [List.getD_eq_getElem?_getD, List.getElem?_eq_getElem (by rw [wl_len]; exact hj)]; rfl
theorem part64_end (b : List UInt8) : part64 b 64 = wvs (wl b 64) := by simp [part64, zs32]
theorem words_any (b : List UInt8) (w : World) (hl : b.length = 64) :
 Calls Tryz.prog 145 #[.agg (bvs b).toArray] w fun e w' => e = .returned (.agg (wvs (wl b 64)).toArray) /\ Below w.heap.size w w' := by
 go_enter Tryz.func145, Tryz.ntmps145; go_wp2_with (refine wp_new 194 rfl rfl zero64 ?_); have b1 : Blk (((w.alloc (.cells (bvs b).toArray 135)).alloc (.cells (zs32 64).toArray 194)).alloc (.cells (zs32 64).toArray 194)) w.heap.size 135 (bvs b) := ((Blk.new' w 135 _).alloc _).alloc _
 have b2 : Blk (((w.alloc (.cells (bvs b).toArray 135)).alloc (.cells (zs32 64).toArray 194)).alloc (.cells (zs32 64).toArray 194)) (w.heap.size + 1) 194 (zs32 64) := by
  have := (Blk.new' (w.alloc (.cells (bvs b).toArray 135)) 194 (zs32 64)).alloc (.cells (zs32 64).toArray 194); simpa using this
 have b3 : Blk (((w.alloc (.cells (bvs b).toArray 135)).alloc (.cells (zs32 64).toArray 194)).alloc (.cells (zs32 64).toArray 194)) (w.heap.size + 1 + 1) 194 (part64 b 0) := by
  show Blk _ _ _ (zs32 64); have := Blk.new' ((w.alloc (.cells (bvs b).toArray 135)).alloc (.cells (zs32 64).toArray 194)) 194 (zs32 64); simpa using this
 have hB0 : Below w.heap.size w (((w.alloc (.cells (bvs b).toArray 135)).alloc (.cells (zs32 64).toArray 194)).alloc (.cells (zs32 64).toArray 194)) :=
  (((Below.refl _ _).alloc (Nat.le_refl _) _).alloc (by simp) _).alloc (by simp; omega) _
 obtain ⟨w0, hw0⟩ := nm ((((w.alloc (.cells (bvs b).toArray 135)).alloc (.cells (zs32 64).toArray 194)).alloc (.cells (zs32 64).toArray 194))); rw [<- hw0] at b1 b2 b3 hB0 |-; clear hw0
 go_loopw [11] (fun iv wr => ∃ i : Nat, i <= 16 /\ iv = .int .i64 i /\ Blk wr w.heap.size 135 (bvs b) /\ Blk wr (w.heap.size + 1) 194 (zs32 64) /\ Blk wr (w.heap.size + 1 + 1) 194 (part64 b i) /\ Below w.heap.size w wr) (fun iv _ => 16 - (intOf iv).toNat)
 case atStart => exact ⟨0, by omega, rfl, b1, b2, b3, hB0⟩
 case round =>
  obtain ⟨i, hi, rfl, g1, g2, g3, gB⟩ := hrel; by_cases hil : i < 16
  . have hs1 := fun W => run_sla_l Tryz.underlying135 size8 w.heap.size 0 (4 * i) .i64 (4 * (i : Int)) (by omega) (by omega) W; rw [Nat.zero_add] at hs1; have hs2 := fun W => run_slh slB w.heap.size (4 * i) (64 - 4 * i) (64 - 4 * i) 4 .i64 4 rfl (by omega) (by omega) W; go_wp2; obtain ⟨x0, hx0⟩ : ∃ x, b[4 * i]? = some x := ⟨_, List.getElem?_eq_getElem (by omega)⟩
    obtain ⟨x1, hx1⟩ : ∃ x, b[4 * i + 1]? = some x := ⟨_, List.getElem?_eq_getElem (by omega)⟩
    obtain ⟨x2, hx2⟩ : ∃ x, b[4 * i + 2]? = some x := ⟨_, List.getElem?_eq_getElem (by omega)⟩
    obtain ⟨x3, hx3⟩ : ∃ x, b[4 * i + 3]? = some x := ⟨_, List.getElem?_eq_getElem (by omega)⟩
    have c0 := g1.cellAt _ _ (bvs_at _ _ _ hx0); have c1 := g1.cellAt _ _ (bvs_at _ _ _ hx1); have c2 := g1.cellAt _ _ (bvs_at _ _ _ hx2); have c3 := g1.cellAt _ _ (bvs_at _ _ _ hx3); unfold byteV at c0 c1 c2 c3; have d0 := hid hx0; have d1 := hid hx1; have d2 := hid hx2; have d3 := hid hx3; have l0 := x0.toNat_lt; have l1 := x1.toNat_lt; have l2 := x2.toNat_lt; have l3 := x3.toNat_lt; clear hx0 hx1 hx2 hx3 hs1 hs2; refine wp_region_tail 23 (by kernel_rfl) (by kernel_rfl) ?_; simp only [List.take_succ_cons, List.take_zero, List.drop_succ_cons, List.drop_zero]
    repeat still_step
    refine wpStill_nil ?_; simp only [be_out d0.out d1.out d2.out d3.out]; have Hs := hid (part64_set b i (by omega) (be4 b i) (by rw [if_pos hil])); have g3d := g3.drew; go_wp2_with (refine wp_st1 130 (.tmp 41) (.tmp 40) rfl rfl rfl (f := i) rfl (v := u32V (be4 b i)) rfl g3d (by rw [part64_len _ _ (by omega)]; omega) size32 rfl rfl ?_; intro w3 g3' hG3); rw [Hs.out] at g3'; have gB' : Below w.heap.size w w3 := gB.drew.grown hG3 gB.size (sk (by omega)); have g1' := g1.drew.keep (hG3.block _ g1.lt (by intro e; injection e with e; omega)); have g2' := g2.drew.keep (hG3.block _ g2.lt (by intro e; injection e with e; omega))
    go_roundw
    case rel => exact ⟨i + 1, by omega, by go_num, g1', g2', g3', gB'⟩
    case measure => simp [intOf]; omega
  . have h16 : i = 16 := by omega
    subst h16; clear hil; rw [show ((16 : Nat) : Int) = 16 from rfl]; go_wp2
    go_loopw [6] (fun iv wr => ∃ i : Nat, 16 <= i /\ i <= 64 /\ iv = .int .i64 i /\ Blk wr (w.heap.size + 1) 194 (zs32 64) /\ Blk wr (w.heap.size + 1 + 1) 194 (part64 b i) /\ Below w.heap.size w wr) (fun iv _ => 64 - (intOf iv).toNat)
    case atStart => exact ⟨16, by omega, by omega, rfl, g2, g3, gB⟩
    case round =>
     obtain ⟨i, hi16, hi, rfl, g2, g3, gB⟩ := hrel; by_cases hil : i < 64
     . obtain ⟨A, hA⟩ := nm ((wl b i).getD (i - 15) 0); obtain ⟨B, hB⟩ := nm ((wl b i).getD (i - 2) 0); obtain ⟨C, hC⟩ := nm ((wl b i).getD (i - 7) 0); obtain ⟨D, hD⟩ := nm ((wl b i).getD (i - 16) 0); have cA := g3.cellAt _ _ (part64_at b i (i - 15) (by omega)); have cB := g3.cellAt _ _ (part64_at b i (i - 2) (by omega)); have cC := g3.cellAt _ _ (part64_at b i (i - 7) (by omega)); have cD := g3.cellAt _ _ (part64_at b i (i - 16) (by omega)); unfold u32V at cA cB cC cD; rw [<- hA] at cA; rw [<- hB] at cB; rw [<- hC] at cC; rw [<- hD] at cD; have Hs := hid (part64_set b i hil (sg1 B + C + sg0 A + D) (by rw [if_neg (by omega), hA, hB, hC, hD]; rfl)); clear hA hB hC hD; have HC := hid cC; have HD := hid cD; clear cC cD; have eA : ((i : Int) - 15).toNat = i - 15 := by omega
       have eB : ((i : Int) - 2).toNat = i - 2 := by omega
       go_wp2; have wA : IntKind.i64.wrap ((i : Int) - 15) = (i : Int) - 15 := IntWalk.i64_in _ (by omega); have wB : IntKind.i64.wrap ((i : Int) - 2) = (i : Int) - 2 := IntWalk.i64_in _ (by omega); have nA : (0 : Int) <= (i : Int) - 15 := by omega
       have nB : (0 : Int) <= (i : Int) - 2 := by omega
       have bA : (i : Int) - 15 < 64 := by omega
       have bB : (i : Int) - 2 < 64 := by omega
       go_quiet (fail)
       clear wA wB nA nB bA bB eA eB cA cB; go_wp2_with (go_at_call 159; refine (turned_l _ _ _ (by omega) (by omega)).mono ?_; rintro e' w' ⟨rfl, rfl⟩; simp only [Int.reduceToNat]); have e0 : bits BinOp.xor IntKind.u32 (bits BinOp.xor IntKind.u32 ((rotr A 7).toNat : Int) ((rotr A 18).toNat : Int)) ((A.toNat : Int) / 8) = ((sg0 A).toNat : Int) := by rw [xor_out, shr3, xor_out]; rfl
       have e1 : bits BinOp.xor IntKind.u32 (bits BinOp.xor IntKind.u32 ((rotr B 17).toNat : Int) ((rotr B 19).toNat : Int)) ((B.toNat : Int) / 1024) = ((sg1 B).toNat : Int) := by rw [xor_out, shr10, xor_out]; rfl
       rw [e0, e1]; clear e0 e1; obtain ⟨W, hW⟩ := nm (wr.drewN nq); have k2 : Blk W (w.heap.size + 1) 194 (zs32 64) := by rw [hW]; exact g2
       have k3 : Blk W (w.heap.size + 1 + 1) 194 (part64 b i) := by rw [hW]; exact g3
       have kB : Below w.heap.size w W := by rw [hW]; exact ⟨gB.os, gB.tape, gB.output, gB.size, gB.block⟩
       have cC : W.cell? ⟨w.heap.size + 1 + 1, i - 7, none⟩ = some (.int .u32 (C.toNat : Int)) := by rw [hW]; exact HC.out
       have cD : W.cell? ⟨w.heap.size + 1 + 1, i - 16, none⟩ = some (.int .u32 (D.toNat : Int)) := by rw [hW]; exact HD.out
       rw [<- hW]; clear hW; have eA : ((i : Int) - 7).toNat = i - 7 := by omega
       have eB : ((i : Int) - 16).toNat = i - 16 := by omega
       have wA : IntKind.i64.wrap ((i : Int) - 7) = (i : Int) - 7 := IntWalk.i64_in _ (by omega); have wB : IntKind.i64.wrap ((i : Int) - 16) = (i : Int) - 16 := IntWalk.i64_in _ (by omega); have nA : (0 : Int) <= (i : Int) - 7 := by omega
       have nB : (0 : Int) <= (i : Int) - 16 := by omega
       have bA : (i : Int) - 7 < 64 := by omega
       have bB : (i : Int) - 16 < 64 := by omega
       have mA : (7 : Int) <= (i : Int) := by omega
       have mB : (16 : Int) <= (i : Int) := by omega
       refine wp_region_tail 14 (by kernel_rfl) (by kernel_rfl) ?_; simp only [List.take_succ_cons, List.take_zero, List.drop_succ_cons, List.drop_zero]
       repeat still_step
       refine wpStill_nil ?_; clear wA wB nA nB bA bB eA eB cC cD mA mB; simp only [wadd_out]; have k3d := k3.drew; go_wp2_with (refine wp_st1 130 (.tmp 85) (.tmp 84) rfl rfl rfl (f := i) rfl (v := u32V (sg1 B + C + sg0 A + D)) rfl k3d (by rw [part64_len _ _ (by omega)]; omega) size32 rfl rfl ?_; intro w3 k3' hG3); rw [Hs.out] at k3'; have kB' : Below w.heap.size w w3 := kB.drew.grown hG3 kB.size (sk (by omega)); have k2' := k2.drew.keep (hG3.block _ k2.lt (by intro e; injection e with e; omega)); go_wp2
       go_roundw
       case rel => exact ⟨i + 1, by omega, by omega, by go_num, k2', k3', kB'⟩
       case measure => simp [intOf]; omega
     . have h64 : i = 64 := by omega
       subst h64; rw [part64_end] at g3; go_wp2_with (first | (refine wp_ld 194 (.tmp 3) rfl rfl rfl g3.whole Tryz.underlying194 rfl (by rw [len_wvs, wl_len]; exact size64) ?_) | (refine wp_st 194 (.tmp 2) (.tmp 86) rfl rfl rfl rfl rfl g2 (by simp [zs32, len_wvs, wl_len]) (by rw [len_wvs, wl_len]; exact size64) (oneCell_wvs _) ?_; intro w2 h2' hG2)); have e64 : (zs32 64).take 0 ++ wvs (wl b 64) ++ (zs32 64).drop (0 + (wvs (wl b 64)).length) = wvs (wl b 64) := by simp [len_wvs, wl_len, zs32]
       rw [e64] at h2'; refine ret_cell rfl rfl h2'.whole Tryz.underlying194 rfl (by rw [len_wvs, wl_len]; exact size64) rfl ?_; exact ⟨rfl, gB.grown hG2 gB.size (by intro k hk; simp at hk; omega)⟩
end Go.Proofs.YtnhhbbjkeekneaaGreatDoor
