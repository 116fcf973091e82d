/- S6: several texts in one (S1 S2 S3 SP S4 S5 S6). -/
import Derived.Test.YtmjpkdehkdpdpaaDoorR2
import Derived.Test.YtmjpkdehkdpdpaaDoorVA
import Derived.Test.YtmjpkdehkdpdpaaDoorSM
import Derived.Test.YtmjpkdehkdpdpaaDoorVH
import Derived.Great.BuildSlice
import Derived.BigRegion
import Derived.IntWalk
import Derived.Deep.RegionHeld3
/- S1: contracts of what only turns words; of told. -/
namespace Go.V
open Go.RowKit
theorem oneCell_wvs (l : List UInt32) : ∀ v ∈ wvs l, v.oneCell' = true := by
  intro v hv
  simp [wvs] at hv
  obtain ⟨c, _, rfl⟩ := hv
  rfl
end Go.V
namespace Go.Proofs.YtmjpkdehkdpdpaaDoor
open Go.RowKit Go.V

theorem u32lt (x : UInt32) : x.toNat < 4294967296 := x.toNat_lt
theorem rot_out (x : UInt32) (n : Nat) : bits BinOp.or IntKind.u32 ((x.toNat : Int) / 2 ^ n) ((x.toNat : Int) * 2 ^ (32 - n) % 4294967296) = ((rotr x n).toNat : Int) := by
  have hx := u32lt x
  have h1 : x.toNat / 2 ^ n < 2 ^ 32 := Nat.lt_of_le_of_lt (Nat.div_le_self _ _) hx
  have h2 : x.toNat * 2 ^ (32 - n) % 4294967296 < 2 ^ 32 := Nat.mod_lt _ (by omega)
  have e1 : ((x.toNat : Int) / 2 ^ n) = ((x.toNat / 2 ^ n : Nat) : Int) := by rw [Int.natCast_ediv, Int.natCast_pow]; rfl
  have e2 : ((x.toNat : Int) * 2 ^ (32 - n) % 4294967296) = ((x.toNat * 2 ^ (32 - n) % 4294967296 : Nat) : Int) := by rw [Int.natCast_emod, Int.natCast_mul, Int.natCast_pow]; rfl
  rw [e1, e2, u32_or_nat _ _ h1 h2]
  unfold rotr
  rw [UInt32.toNat_ofNat', Nat.mod_eq_of_lt (Nat.or_lt_two_pow h1 h2)]
theorem xor_out (a b : UInt32) : bits BinOp.xor IntKind.u32 (a.toNat : Int) (b.toNat : Int) = ((a ^^^ b).toNat : Int) := by
  rw [u32_xor_nat _ _ (u32lt a) (u32lt b), UInt32.toNat_xor]
theorem and_out (a b : UInt32) : bits BinOp.and IntKind.u32 (a.toNat : Int) (b.toNat : Int) = ((a &&& b).toNat : Int) := by
  rw [u32_and_nat _ _ (u32lt a) (u32lt b), UInt32.toNat_and]
theorem not_out (a : UInt32) : bits BinOp.xor IntKind.u32 4294967295 (a.toNat : Int) = ((~~~a).toNat : Int) := by
  have := xor_out 4294967295 a
  rw [show (4294967295 : UInt32) ^^^ a = ~~~a from by
    apply UInt32.toBitVec_inj.1
    show 4294967295#32 ^^^ a.toBitVec = ~~~a.toBitVec
    rw [show (4294967295#32 : BitVec 32) = BitVec.allOnes 32 from by decide, BitVec.allOnes_xor]] at this
  exact this
theorem add_out (a b : UInt32) : ((a.toNat : Int) + (b.toNat : Int)) % 4294967296 = ((a + b).toNat : Int) := by
  rw [UInt32.toNat_add, Int.natCast_emod, Int.natCast_add]; rfl
theorem wadd_out (a b : UInt32) : IntKind.u32.wrap ((a.toNat : Int) + (b.toNat : Int)) = ((a + b).toNat : Int) := by rw [IntKind.wrap_u32', add_out]
theorem shr_out (a : UInt32) (n : Nat) : (a.toNat : Int) / ((2 ^ n : Nat) : Int) = ((shr a n).toNat : Int) := by
  unfold shr
  rw [UInt32.toNat_ofNat', Nat.mod_eq_of_lt (Nat.lt_of_le_of_lt (Nat.div_le_self _ _) (u32lt a)), Int.natCast_ediv]
theorem shr3 (a : UInt32) : (a.toNat : Int) / 8 = ((shr a 3).toNat : Int) := shr_out a 3
theorem shr10 (a : UInt32) : (a.toNat : Int) / 1024 = ((shr a 10).toNat : Int) := shr_out a 10

/-- a callee that leaves the world alone, in a quiet region -/
theorem qz {P : Program} {f : FuncId} {args : Array Value} {w : World} {n : Nat} {v : Value} (h : ∀ W : World, Calls P f args W fun e w' => e = .returned v ∧ W = w') :
    Calls P f args (w.drewN n) fun e w' => e = .returned v ∧ ∃ m, w' = w.drewN m := (h _).mono fun _ _ ⟨he, hw⟩ => ⟨he, n, hw.symm⟩
theorem turned_any (x : UInt32) (n : Nat) (w : World) (h1 : 1 ≤ n) (h2 : n ≤ 31) :
    Calls Tryd.prog 96 #[.int .u32 (x.toNat : Int), .int .u64 (n : Int)] w fun e w' => e = .returned (.int .u32 ((rotr x n).toNat : Int)) ∧ w = w' := by
  go_enter Tryd.func96, Tryd.ntmps96
  go_wp2
  go_ret
  exact ⟨ret_i (rot_out x n), rfl⟩
theorem turn_any (x : UInt32) (n : Nat) (w : World) (h1 : 1 ≤ n) (h2 : n ≤ 31) :
    Calls Tryd.prog 98 #[.int .u32 (x.toNat : Int), .int .i64 (n : Int)] w fun e w' => e = .returned (.int .u32 ((rotr x n).toNat : Int)) ∧ w = w' := by
  go_enter Tryd.func98, Tryd.ntmps98
  go_wp2
  go_ret
  exact ⟨ret_i (rot_out x n), rfl⟩

theorem turned_l (x : UInt32) (m : Int) (w : World) (h1 : 1 ≤ m) (h2 : m ≤ 31) :
    Calls Tryd.prog 96 #[.int .u32 (x.toNat : Int), .int .u64 m] w fun e w' => e = .returned (.int .u32 ((rotr x m.toNat).toNat : Int)) ∧ w = w' := by
  obtain ⟨n, rfl⟩ : ∃ n : Nat, m = n := ⟨m.toNat, by omega⟩
  exact turned_any x n w (by omega) (by omega)
theorem turn_l (x : UInt32) (m : Int) (w : World) (h1 : 1 ≤ m) (h2 : m ≤ 31) :
    Calls Tryd.prog 98 #[.int .u32 (x.toNat : Int), .int .i64 m] w fun e w' => e = .returned (.int .u32 ((rotr x m.toNat).toNat : Int)) ∧ w = w' := by
  obtain ⟨n, rfl⟩ : ∃ n : Nat, m = n := ⟨m.toNat, by omega⟩
  exact turn_any x n w (by omega) (by omega)
theorem be4_of {b : List UInt8} {i : Nat} {x0 x1 x2 x3 : UInt8} (h0 : b[4 * i]? = some x0) (h1 : b[4 * i + 1]? = some x1) (h2 : b[4 * i + 2]? = some x2) (h3 : b[4 * i + 3]? = some x3) :
    (be4 b i).toNat = ((x0.toNat * 256 + x1.toNat) * 256 + x2.toNat) * 256 + x3.toNat := by
  have l0 := x0.toNat_lt
  have l1 := x1.toNat_lt
  have l2 := x2.toNat_lt
  have l3 := x3.toNat_lt
  unfold be4
  simp only [List.getD_eq_getElem?_getD, h0, h1, h2, h3, Option.getD_some]
  rw [UInt32.toNat_ofNat', Nat.mod_eq_of_lt (by omega)]
theorem be_out {b : List UInt8} {i : Nat} {x0 x1 x2 x3 : UInt8} (h0 : b[4 * i]? = some x0) (h1 : b[4 * i + 1]? = some x1) (h2 : b[4 * i + 2]? = some x2) (h3 : b[4 * i + 3]? = some x3) :
    bits BinOp.or IntKind.u32 (bits BinOp.or IntKind.u32 (bits BinOp.or IntKind.u32 (IntKind.u32.wrap (IntKind.u32.wrap (x0.toNat : Int) * 16777216)) (IntKind.u32.wrap (IntKind.u32.wrap (x1.toNat : Int) * 65536))) (IntKind.u32.wrap (IntKind.u32.wrap (x2.toNat : Int) * 256))) (IntKind.u32.wrap (x3.toNat : Int)) = ((be4 b i).toNat : Int) := by
  have l0 := x0.toNat_lt
  have l1 := x1.toNat_lt
  have l2 := x2.toNat_lt
  have l3 := x3.toNat_lt
  rw [be4_of h0 h1 h2 h3]
  have e0 : IntKind.u32.wrap (IntKind.u32.wrap (x0.toNat : Int) * 16777216) = ((x0.toNat * 16777216 : Nat) : Int) := by rw [IntKind.wrap_u32', IntKind.wrap_u32']; omega
  have e1 : IntKind.u32.wrap (IntKind.u32.wrap (x1.toNat : Int) * 65536) = ((x1.toNat * 65536 : Nat) : Int) := by rw [IntKind.wrap_u32', IntKind.wrap_u32']; omega
  have e2 : IntKind.u32.wrap (IntKind.u32.wrap (x2.toNat : Int) * 256) = ((x2.toNat * 256 : Nat) : Int) := by rw [IntKind.wrap_u32', IntKind.wrap_u32']; omega
  have e3 : IntKind.u32.wrap (x3.toNat : Int) = ((x3.toNat : Nat) : Int) := by rw [IntKind.wrap_u32']; omega
  rw [e0, e1, e2, e3, u32_or_nat _ _ (by omega) (by omega), nat_join 24 _ _ (by omega) (by omega), u32_or_nat _ _ (by omega) (by omega), nat_join 16 _ _ (by omega) (by omega), u32_or_nat _ _ (by omega) (by omega), nat_join 8 _ _ (by omega) (by omega)]
  omega
theorem len_fx (n x : Nat) : (fx n x).length = n := by simp [fx]
theorem len_s8b (s : S8) : (s8b s).length = 32 := by simp [s8b, s8l, len_fx]
theorem s8b_at (s : S8) (k j : Nat) (hk : k < 8) (hj : j < 4) (x : UInt32) (hx : (s8l s)[k]? = some x) : (s8b s)[4 * k + j]? = some (UInt8.ofNat (x.toNat / 256 ^ (3 - j) % 256)) := by
  obtain rfl | rfl | rfl | rfl | rfl | rfl | rfl | rfl : k = 0 ∨ k = 1 ∨ k = 2 ∨ k = 3 ∨ k = 4 ∨ k = 5 ∨ k = 6 ∨ k = 7 := by omega
  all_goals
    obtain rfl | rfl | rfl | rfl : j = 0 ∨ j = 1 ∨ j = 2 ∨ j = 3 := by omega
    all_goals
      simp [s8l] at hx
      subst hx
      rfl
theorem byte_out (x : UInt32) (j : Nat) (hj : j < 4) : Value.int .u8 ((x.toNat : Int) / 2 ^ (24 - 8 * j) % 256) = byteV (UInt8.ofNat (x.toNat / 256 ^ (3 - j) % 256)) := by
  rw [byteV_of (by omega)]
  congr 1
  rw [show (256 : Nat) ^ (3 - j) = 2 ^ (24 - 8 * j) from by rw [show 24 - 8 * j = 8 * (3 - j) from by omega, Nat.pow_mul], Int.natCast_emod, Int.natCast_ediv, Int.natCast_pow]
  rfl

theorem len_wvs (l : List UInt32) : (wvs l).length = l.length := by simp [wvs]
theorem wvs_at (l : List UInt32) (k : Nat) (x : UInt32) (h : l[k]? = some x) : (wvs l)[k]? = some (u32V x) := by simp [wvs, h]
theorem size46 : (Tryd.prog.info? 126).map (·.size) = some 8 := by kernel_rfl
theorem size64 : (Tryd.prog.info? 147).map (·.size) = some 64 := by kernel_rfl
theorem size47 : (Tryd.prog.info? 110).map (·.size) = some 64 := by kernel_rfl
theorem size32 : (Tryd.prog.info? 125).map (·.size) = some 1 := by kernel_rfl
def zs32 (n : Nat) : List Value := List.replicate n (.int .u32 0)
theorem zero64 : (Tryd.prog.info? 147).map (·.zero) = some (some (.agg (zs32 64).toArray)) := by kernel_rfl

set_option maxHeartbeats 400000 in
theorem told_any (s : S8) (w : World) :
    Calls Tryd.prog 75 #[.agg (wvs (s8l s)).toArray] w fun e w' => e = .returned (.agg (bvs (s8b s)).toArray) ∧ Below w.heap.size w w' := by
  go_enter Tryd.func75, Tryd.ntmps75
  go_wp2_with (first | (refine wp_new 41 rfl rfl zero25 ?_) | (refine wp_ld 126 (.tmp 1) rfl rfl rfl ((((Blk.new w 126 _).alloc _).alloc _).whole) Tryd.underlying126 rfl size46 ?_))
  have hb3 : Blk (((w.alloc (.cells (wvs (s8l s)).toArray 126)).alloc (.cells (zs8 32).toArray 41)).alloc (.cells (zs8 32).toArray 41)) (w.heap.size + 1 + 1) 41 (part32 (s8b s) 0) := by
    rw [part32_0]
    show Blk _ _ _ (zs8 32)
    have := Blk.new' ((w.alloc (.cells (wvs (s8l s)).toArray 126)).alloc (.cells (zs8 32).toArray 41)) 41 (zs8 32)
    simpa using this
  have hb2 : Blk (((w.alloc (.cells (wvs (s8l s)).toArray 126)).alloc (.cells (zs8 32).toArray 41)).alloc (.cells (zs8 32).toArray 41)) (w.heap.size + 1) 41 (zs8 32) := by
    have := (Blk.new' (w.alloc (.cells (wvs (s8l s)).toArray 126)) 41 (zs8 32)).alloc (.cells (zs8 32).toArray 41)
    simpa using this
  have hB0 : Below w.heap.size w (((w.alloc (.cells (wvs (s8l s)).toArray 126)).alloc (.cells (zs8 32).toArray 41)).alloc (.cells (zs8 32).toArray 41)) :=
    (((Below.refl _ _).alloc (Nat.le_refl _) _).alloc (by simp) _).alloc (by simp; omega) _
  go_loopw [8] (fun kv wr => ∃ k : Nat, k ≤ 8 ∧ kv = .int .i64 k ∧ Blk wr (w.heap.size + 1 + 1) 41 (part32 (s8b s) (4 * k)) ∧ Blk wr (w.heap.size + 1) 41 (zs8 32) ∧ Below w.heap.size w wr) (fun kv _ => 8 - (intOf kv).toNat)
  case atStart => exact ⟨0, by omega, rfl, hb3, hb2, hB0⟩
  case round =>
    obtain ⟨k, hk, rfl, h3, h2, hB⟩ := hrel
    by_cases hlt : k < 8
    · obtain ⟨x, hx⟩ : ∃ x, (s8l s)[k]? = some x := ⟨_, List.getElem?_eq_getElem (by simpa [s8l] using hlt)⟩
      have hpx := wvs_at _ _ _ hx
      unfold u32V at hpx
      have hbyte := s8b_at s k
      have Hx := hid hx
      clear hx hbyte
      go_wp2_with (refine wp_idx 126 (.tmp 7) (.tmp 8) rfl rfl rfl rfl Tryd.underlying126 hlt Tryd.isAgg125 size32 hpx ?_)
      have hxl := u32lt x
      go_loopw [12] (fun jv wr2 => ∃ j : Nat, j ≤ 4 ∧ jv = .int .i64 j ∧ Blk wr2 (w.heap.size + 1 + 1) 41 (part32 (s8b s) (4 * k + j)) ∧ Blk wr2 (w.heap.size + 1) 41 (zs8 32) ∧ Below w.heap.size w wr2) (fun jv _ => 4 - (intOf jv).toNat)
      case atStart => exact ⟨0, by omega, rfl, h3, h2, hB⟩
      case round =>
        obtain ⟨j, hj, rfl, g3, g2, gB⟩ := hrel
        by_cases hjl : j < 4
        · have hbt := hid (s8b_at s k j hlt hjl x Hx.out)
          go_wp2_with (refine wp_st1 5 (.tmp 25) (.tmp 24) rfl rfl rfl (f := 4 * k + j) rfl (byte_out x j hjl) g3 (by rw [part32_len _ _ (len_s8b s) (by omega)]; omega) size8 rfl rfl ?_; intro w3 g3' hG3)
          rw [part32_set _ _ (len_s8b s) (by omega) _ hbt.out] at g3'
          have g2' := g2.keep (hG3.block _ g2.lt (by simp))
          have gB' := gB.grown hG3 gB.size (by intro k hk; simp at hk; omega)
          go_wp2
          go_roundw
          case rel => exact ⟨j + 1, by omega, by go_num, g3', g2', gB'⟩
          case measure => simp [intOf]; omega
        · have e4 : 4 * k + j = 4 * (k + 1) := by omega
          rw [e4] at g3
          clear e4
          go_wp2
          go_roundw
          case rel => exact ⟨k + 1, by omega, by go_num, g3, g2, gB⟩
          case measure => simp [intOf]; omega
    · have hk8 : 4 * k = 32 := by omega
      rw [hk8, part32_end _ (len_s8b s)] at h3
      clear hk8
      go_wp2_with (first | (refine wp_ld 41 (.tmp 3) rfl rfl rfl h3.whole Tryd.underlying41 rfl (by rw [len_bvs, len_s8b]; exact size25) ?_) | (refine wp_st 41 (.tmp 2) (.tmp 28) rfl rfl rfl rfl rfl h2 (by simp [zs8, len_bvs, len_s8b]) (by rw [len_bvs, len_s8b]; exact size25) (oneCell_bvs _) ?_; intro w2 h2' hG2))
      refine ret_cell rfl rfl h2'.whole Tryd.underlying41 rfl ?_ rfl ?_
      · rw [show ((zs8 32).take 0 ++ bvs (s8b s) ++ (zs8 32).drop (0 + (bvs (s8b s)).length)).length = 32 from by simp [len_bvs, len_s8b, zs8]]; exact size25
      · refine ⟨?_, hB.grown hG2 hB.size (by intro k hk; simp at hk; omega)⟩
        simp [len_bvs, len_s8b, zs8]
end Go.Proofs.YtmjpkdehkdpdpaaDoor
/- S2: contracts of mixed and words. -/
namespace Go.Proofs.YtmjpkdehkdpdpaaDoor
open Go.RowKit Go.V

/-- the program's constants lie where they were laid -/
def KS (w : World) : Prop := w.rangeAt 0 0 (wvs kl)
theorem KS.at {w : World} (h : KS w) (k : Nat) (hk : k < 64) : w.cell? ⟨0, k, none⟩ = some (.int .u32 ((kc k).toNat : Int)) := by
  have := h k (u32V (kc k)) (wvs_at _ _ _ (by
    unfold kc
    rw [List.getD_eq_getElem?_getD, List.getElem?_eq_getElem (by simpa [kl] using hk)]
    rfl))
  rw [Nat.zero_add] at this
  exact this
theorem KS.keep {w w' : World} (h : KS w) (hc : w'.heap[(0 : Nat)]? = w.heap[(0 : Nat)]?) : KS w' := fun j v hv => (World.cell?_of_block hc).trans (h j v hv)
theorem KS.lt {w : World} (h : KS w) : 0 < w.heap.size := lt_of_cell (h.at 0 (by omega))
theorem KS.below {w w' : World} (h : KS w) (hB : Below w.heap.size w w') : KS w' := h.keep (hB.block _ h.lt)
theorem KS.belowN {w w' : World} {n : Nat} (h : KS w) (hB : Below n w w') (hn : 0 < n) : KS w' := h.keep (hB.block _ hn)
theorem KS.drewN {w : World} (h : KS w) (n : Nat) : KS (w.drewN n) := h
theorem KS.drew {w : World} (h : KS w) : KS w.drew := h

theorem ones_u32 : (if IntKind.u32.signed = true then (-1 : Int) else IntKind.u32.max) = 4294967295 := rfl
theorem t_out (a b c d e f g h K X : UInt32) : ((((h.toNat : Int) + ((rotr e 6 ^^^ rotr e 11 ^^^ rotr e 25).toNat : Int) + (((e &&& f) ^^^ (~~~e &&& g)).toNat : Int) + (K.toNat : Int)) % 4294967296 + (X.toNat : Int)) % 4294967296) = ((tF ⟨a, b, c, d, e, f, g, h⟩ K X).toNat : Int) := by
  show _ = ((h + (rotr e 6 ^^^ rotr e 11 ^^^ rotr e 25) + ((e &&& f) ^^^ (~~~e &&& g)) + K + X).toNat : Int)
  rw [← add_out, ← add_out, ← add_out, ← add_out]
  omega
theorem u_out (a b c d e f g h : UInt32) : (((rotr a 2 ^^^ rotr a 13 ^^^ rotr a 22).toNat : Int) + (((a &&& b) ^^^ (a &&& c) ^^^ (b &&& c)).toNat : Int)) % 4294967296 = ((uF ⟨a, b, c, d, e, f, g, h⟩).toNat : Int) := add_out _ _

theorem rnds_s {ws : List UInt32} {s : S8} {k : Nat} {a b c d e f g h T U x : UInt32} (hs : rnds ws s k = ⟨a, b, c, d, e, f, g, h⟩) (hx : ws[k]? = some x) (hT : T = tF ⟨a, b, c, d, e, f, g, h⟩ (kc k) x) (hU : U = uF ⟨a, b, c, d, e, f, g, h⟩) :
    rnds ws s (k + 1) = ⟨T + U, a, b, c, d + T, e, f, g⟩ := by
  have : ws.getD k 0 = x := by rw [List.getD_eq_getElem?_getD, hx]; rfl
  rw [rnds, hs, this, hT, hU]
  rfl
/-- the first i words added, the others as they were -/
def addTo (s t : S8) (i : Nat) : List UInt32 := (s8l (addS s t)).take i ++ (s8l s).drop i
theorem addTo_len (s t : S8) (i : Nat) (h : i ≤ 8) : (addTo s t i).length = 8 := by simp [addTo, s8l]; omega
theorem addTo_step (s t : S8) (i : Nat) (h : i < 8) : ∃ x y, (s8l t)[i]? = some y ∧ (addTo s t i)[i]? = some x ∧ (addTo s t i).set i (x + y) = addTo s t (i + 1) := by
  obtain rfl | rfl | rfl | rfl | rfl | rfl | rfl | rfl : i = 0 ∨ i = 1 ∨ i = 2 ∨ i = 3 ∨ i = 4 ∨ i = 5 ∨ i = 6 ∨ i = 7 := by omega
  all_goals exact ⟨_, _, rfl, rfl, rfl⟩
theorem wvs_set (l : List UInt32) (i : Nat) (x : UInt32) : (wvs l).set i (u32V x) = wvs (l.set i x) := by simp [wvs, List.map_set]

set_option maxRecDepth 100000 in
set_option maxHeartbeats 2000000 in
theorem mixed_any (s : S8) (ws : List UInt32) (w : World) (hK : KS w) (hl : ws.length = 64) :
    Calls Tryd.prog 88 #[.agg (wvs (s8l s)).toArray, .agg (wvs ws).toArray] w fun e w' => e = .returned (.agg (wvs (s8l (addS s (rnds ws s 64)))).toArray) ∧ Below w.heap.size w w' := by
  have zero46 : (Tryd.prog.info? 126).map (·.zero) = some (some (.agg (zs32 8).toArray)) := by kernel_rfl
  go_enter Tryd.func88, Tryd.ntmps88
  go_wp2_with (refine wp_new 126 rfl rfl zero46 ?_)
  have b2 : Blk (((w.alloc (.cells (wvs (s8l s)).toArray 126)).alloc (.cells (wvs ws).toArray 147)).alloc (.cells (zs32 8).toArray 126)) w.heap.size 126 (wvs (s8l s)) := ((Blk.new' w 126 _).alloc _).alloc _
  have b3 : Blk (((w.alloc (.cells (wvs (s8l s)).toArray 126)).alloc (.cells (wvs ws).toArray 147)).alloc (.cells (zs32 8).toArray 126)) (w.heap.size + 1) 147 (wvs ws) := by
    have := (Blk.new' (w.alloc (.cells (wvs (s8l s)).toArray 126)) 147 (wvs ws)).alloc (.cells (zs32 8).toArray 126)
    simpa using this
  have b4 : Blk (((w.alloc (.cells (wvs (s8l s)).toArray 126)).alloc (.cells (wvs ws).toArray 147)).alloc (.cells (zs32 8).toArray 126)) (w.heap.size + 1 + 1) 126 (zs32 8) := by
    have := Blk.new' ((w.alloc (.cells (wvs (s8l s)).toArray 126)).alloc (.cells (wvs ws).toArray 147)) 126 (zs32 8)
    simpa using this
  have hB0 : Below w.heap.size w (((w.alloc (.cells (wvs (s8l s)).toArray 126)).alloc (.cells (wvs ws).toArray 147)).alloc (.cells (zs32 8).toArray 126)) :=
    (((Below.refl _ _).alloc (Nat.le_refl _) _).alloc (by simp) _).alloc (by simp; omega) _
  obtain ⟨w0, hw0⟩ : ∃ w0, w0 = (((w.alloc (.cells (wvs (s8l s)).toArray 126)).alloc (.cells (wvs ws).toArray 147)).alloc (.cells (zs32 8).toArray 126)) := ⟨_, rfl⟩
  rw [← hw0] at b2 b3 b4 hB0 ⊢
  clear hw0
  have c0 := b2.cellAt 0 _ rfl
  have c1 := b2.cellAt 1 _ rfl
  have c2 := b2.cellAt 2 _ rfl
  have c3 := b2.cellAt 3 _ rfl
  have c4 := b2.cellAt 4 _ rfl
  have c5 := b2.cellAt 5 _ rfl
  have c6 := b2.cellAt 6 _ rfl
  have c7 := b2.cellAt 7 _ rfl
  unfold u32V at c0 c1 c2 c3 c4 c5 c6 c7
  go_quiet (fail)
  go_wp2
  go_quiet (fail)
  go_wp2
  rw [World.drewN_drewN]
  clear c0 c1 c2 c3 c4 c5 c6 c7
  have hK0 : KS w0 := hK.below hB0
  go_loopw [5, 6, 7, 8, 9, 10, 11, 12, 34] (fun va vb vc vd ve vf vg vh kv wr => ∃ (k n : Nat) (a b c d e f g h : UInt32), k ≤ 64 ∧ kv = .int .i64 k ∧ va = .int .u32 (a.toNat : Int) ∧ vb = .int .u32 (b.toNat : Int) ∧ vc = .int .u32 (c.toNat : Int) ∧ vd = .int .u32 (d.toNat : Int) ∧ ve = .int .u32 (e.toNat : Int) ∧ vf = .int .u32 (f.toNat : Int) ∧ vg = .int .u32 (g.toNat : Int) ∧ vh = .int .u32 (h.toNat : Int) ∧ rnds ws s k = ⟨a, b, c, d, e, f, g, h⟩ ∧ wr = w0.drewN n) (fun _ _ _ _ _ _ _ _ kv _ => 64 - (intOf kv).toNat)
  case atStart => exact ⟨0, _, s.a, s.b, s.c, s.d, s.e, s.f, s.g, s.h, by omega, rfl, rfl, rfl, rfl, rfl, rfl, rfl, rfl, rfl, rfl, rfl⟩
  case round =>
    obtain ⟨k, n, a, b, c, d, e, f, g, h, hk, rfl, rfl, rfl, rfl, rfl, rfl, rfl, rfl, rfl, hst, rfl⟩ := hrel
    have Hst := hid hst
    clear hst
    by_cases hlt : k < 64
    · have hkc := (hK0.drewN n).at k hlt
      obtain ⟨x, hx⟩ : ∃ x, ws[k]? = some x := ⟨_, List.getElem?_eq_getElem (by omega)⟩
      have hwx := (b3.drewN n).cellAt k _ (wvs_at _ _ _ hx)
      unfold u32V at hwx
      have Hx := hid hx
      clear hx
      obtain ⟨W, hW⟩ : ∃ W, W = w0.drewN n := ⟨_, rfl⟩
      rw [← hW] at hkc hwx ⊢
      have HW := hid hW
      clear hW
      go_wp2
      go_quiet ((go_at_call 96; exact qz fun W => turned_l _ _ W (by omega) (by omega)))
      simp only [ones_u32, xor_out, and_out, not_out, Int.reduceToNat]
      rw [t_out a b c d]
      obtain ⟨T, hT⟩ : ∃ T, T = tF ⟨a, b, c, d, e, f, g, h⟩ (kc k) x := ⟨_, rfl⟩
      rw [← hT]
      have HT := hid hT
      clear hT
      go_wp2_with (go_at_call 96; refine (turned_l _ _ _ (by omega) (by omega)).mono ?_; rintro e' w' ⟨rfl, rfl⟩; simp only [Int.reduceToNat])
      simp only [xor_out, and_out]
      rw [u_out a b c d e f g h]
      obtain ⟨U, hU⟩ : ∃ U, U = uF ⟨a, b, c, d, e, f, g, h⟩ := ⟨_, rfl⟩
      rw [← hU]
      have HU := hid hU
      clear hU
      go_roundw
      case rel => exact ⟨k + 1, _, T + U, a, b, c, d + T, e, f, g, by omega, by go_num, congrArg _ (add_out T U), rfl, rfl, rfl, congrArg _ (add_out d T), rfl, rfl, rfl, rnds_s Hst.out Hx.out HT.out HU.out, by rw [HW.out, World.drewN_drewN]⟩
      case measure => simp [intOf]; omega
    · have earr : (#[.int .u32 (a.toNat : Int), .int .u32 (b.toNat : Int), .int .u32 (c.toNat : Int), .int .u32 (d.toNat : Int), .int .u32 (e.toNat : Int), .int .u32 (f.toNat : Int), .int .u32 (g.toNat : Int), .int .u32 (h.toNat : Int)] : Array Value) = (wvs (s8l ⟨a, b, c, d, e, f, g, h⟩)).toArray := rfl
      have Hearr := hid earr
      clear earr
      have hfin : Hid (rnds ws s 64 = ⟨a, b, c, d, e, f, g, h⟩) := by
        show _ = _
        have : k = 64 := by omega
        rw [← this, Hst.out]
      have B2 := b2.drewN n
      have B4 := b4.drewN n
      have HB := below_drewN hB0 n
      obtain ⟨W, hW⟩ : ∃ W, W = w0.drewN n := ⟨_, rfl⟩
      rw [← hW] at B2 B4 ⊢
      have HB' : Below w.heap.size w W := by rw [hW]; exact ⟨hB0.os, hB0.tape, hB0.output, hB0.size, hB0.block⟩
      clear hW HB
      go_wp2
      rw [Hearr.out]
      obtain ⟨st, hst⟩ : ∃ st : S8, st = ⟨a, b, c, d, e, f, g, h⟩ := ⟨_, rfl⟩
      rw [← hst]
      have hfin : Hid (rnds ws s 64 = st) := by show _ = _; rw [hst]; exact hfin.out
      clear hst Hearr
      go_loopw [106] (fun iv wr => ∃ i : Nat, i ≤ 8 ∧ iv = .int .i64 i ∧ Blk wr w.heap.size 126 (wvs (addTo s st i)) ∧ Blk wr (w.heap.size + 1 + 1) 126 (zs32 8) ∧ Below w.heap.size w wr) (fun iv _ => 8 - (intOf iv).toNat)
      case atStart => exact ⟨0, by omega, rfl, B2, B4, HB'⟩
      case round =>
        obtain ⟨i, hi, rfl, g2, g4, gB⟩ := hrel
        by_cases hil : i < 8
        · obtain ⟨x, y, hy, hx, hset⟩ := addTo_step s st i hil
          have hcx := g2.cellAt i _ (wvs_at _ _ _ hx)
          have hvy := wvs_at _ _ _ hy
          unfold u32V at hcx hvy
          have Hset := hid hset
          clear hx hy hset
          go_wp2_with (first | (refine wp_idx 126 (.tmp 105) (.tmp 106) rfl rfl rfl rfl Tryd.underlying126 hil Tryd.isAgg125 size32 hvy ?_) | (refine wp_st1 125 (.tmp 115) (.tmp 114) rfl rfl rfl (f := i) rfl (v := u32V (x + y)) (congrArg (Value.int .u32) (add_out x y)) g2 (by rw [len_wvs, addTo_len _ _ _ (by omega)]; omega) size32 rfl rfl ?_; intro w3 g2' hG3))
          rw [wvs_set, Hset.out] at g2'
          have g4' := g4.keep (hG3.block _ g4.lt (by intro e; injection e with e; omega))
          have gB' := gB.grown hG3 gB.size (by intro k hk; simp at hk; omega)
          go_roundw
          case rel => exact ⟨i + 1, by omega, by go_num, g2', g4', gB'⟩
          case measure => simp [intOf]; omega
        · have h8 : i = 8 := by omega
          subst h8
          have ha : addTo s st 8 = s8l (addS s st) := rfl
          rw [ha] at g2
          clear ha
          go_wp2_with (first | (refine wp_ld 126 (.tmp 2) rfl rfl rfl g2.whole Tryd.underlying126 rfl size46 ?_) | (refine wp_st 126 (.tmp 4) (.tmp 117) rfl rfl rfl rfl rfl g4 (by simp [zs32, len_wvs, s8l]) size46 (oneCell_wvs _) ?_; intro w2 h2' hG2))
          refine ret_cell rfl rfl h2'.whole Tryd.underlying126 rfl size46 rfl ?_
          refine ⟨?_, gB.grown hG2 gB.size (by intro k hk; simp at hk; omega)⟩
          rw [hfin.out]
          rfl

theorem wl_len (b : List UInt8) : ∀ k, (wl b k).length = k
  | 0 => rfl
  | k + 1 => by rw [wl, snw, List.length_append, wl_len b k]; rfl
theorem wl_s (b : List UInt8) (k : Nat) : wl b (k + 1) = wl b k ++ [if k < 16 then be4 b k else nxw (wl b k) k] := rfl
theorem zero47 : True := trivial
/-- 64 words, the first k of them known, the rest noughts -/
def part64 (b : List UInt8) (k : Nat) : List Value := wvs (wl b k) ++ zs32 (64 - k)
theorem part64_len (b : List UInt8) (k : Nat) (h : k ≤ 64) : (part64 b k).length = 64 := by simp [part64, len_wvs, wl_len, zs32]; omega
theorem part64_set (b : List UInt8) (k : Nat) (h : k < 64) (x : UInt32) (hx : x = if k < 16 then be4 b k else nxw (wl b k) k) : (part64 b k).set k (u32V x) = part64 b (k + 1) := by
  unfold part64
  rw [List.set_append_right _ _ (by rw [len_wvs, wl_len]; omega), len_wvs, wl_len, Nat.sub_self, zs32, show 64 - k = (64 - (k + 1)) + 1 from by omega, List.replicate_succ, List.set_cons_zero, wl_s, ← hx]
  simp [wvs, zs32]
theorem part64_at (b : List UInt8) (k j : Nat) (hj : j < k) : (part64 b k)[j]? = some (u32V ((wl b k).getD j 0)) := by
  unfold part64
  rw [List.getElem?_append_left (by rw [len_wvs, wl_len]; exact hj)]
  refine wvs_at _ _ _ ?_
  rw [List.getD_eq_getElem?_getD, List.getElem?_eq_getElem (by rw [wl_len]; exact hj)]
  rfl
theorem part64_end (b : List UInt8) : part64 b 64 = wvs (wl b 64) := by simp [part64, zs32]
end Go.Proofs.YtmjpkdehkdpdpaaDoor
/- S3: contract of words. -/
namespace Go.Proofs.YtmjpkdehkdpdpaaDoor
open Go.RowKit Go.V
set_option maxRecDepth 100000 in
set_option maxHeartbeats 2000000 in
theorem words_any (b : List UInt8) (w : World) (hl : b.length = 64) :
    Calls Tryd.prog 89 #[.agg (bvs b).toArray] w fun e w' => e = .returned (.agg (wvs (wl b 64)).toArray) ∧ Below w.heap.size w w' := by
  go_enter Tryd.func89, Tryd.ntmps89
  go_wp2_with (refine wp_new 147 rfl rfl zero64 ?_)
  have b1 : Blk (((w.alloc (.cells (bvs b).toArray 110)).alloc (.cells (zs32 64).toArray 147)).alloc (.cells (zs32 64).toArray 147)) w.heap.size 110 (bvs b) := ((Blk.new' w 110 _).alloc _).alloc _
  have b2 : Blk (((w.alloc (.cells (bvs b).toArray 110)).alloc (.cells (zs32 64).toArray 147)).alloc (.cells (zs32 64).toArray 147)) (w.heap.size + 1) 147 (zs32 64) := by
    have := (Blk.new' (w.alloc (.cells (bvs b).toArray 110)) 147 (zs32 64)).alloc (.cells (zs32 64).toArray 147)
    simpa using this
  have b3 : Blk (((w.alloc (.cells (bvs b).toArray 110)).alloc (.cells (zs32 64).toArray 147)).alloc (.cells (zs32 64).toArray 147)) (w.heap.size + 1 + 1) 147 (part64 b 0) := by
    show Blk _ _ _ (zs32 64)
    have := Blk.new' ((w.alloc (.cells (bvs b).toArray 110)).alloc (.cells (zs32 64).toArray 147)) 147 (zs32 64)
    simpa using this
  have hB0 : Below w.heap.size w (((w.alloc (.cells (bvs b).toArray 110)).alloc (.cells (zs32 64).toArray 147)).alloc (.cells (zs32 64).toArray 147)) :=
    (((Below.refl _ _).alloc (Nat.le_refl _) _).alloc (by simp) _).alloc (by simp; omega) _
  obtain ⟨w0, hw0⟩ : ∃ w0, w0 = (((w.alloc (.cells (bvs b).toArray 110)).alloc (.cells (zs32 64).toArray 147)).alloc (.cells (zs32 64).toArray 147)) := ⟨_, rfl⟩
  rw [← hw0] at b1 b2 b3 hB0 ⊢
  clear hw0
  go_loopw [11] (fun iv wr => ∃ i : Nat, i ≤ 16 ∧ iv = .int .i64 i ∧ Blk wr w.heap.size 110 (bvs b) ∧ Blk wr (w.heap.size + 1) 147 (zs32 64) ∧ Blk wr (w.heap.size + 1 + 1) 147 (part64 b i) ∧ Below w.heap.size w wr) (fun iv _ => 16 - (intOf iv).toNat)
  case atStart => exact ⟨0, by omega, rfl, b1, b2, b3, hB0⟩
  case round =>
    obtain ⟨i, hi, rfl, g1, g2, g3, gB⟩ := hrel
    by_cases hil : i < 16
    · have hs1 := fun W => run_sla_l Tryd.underlying110 size8 w.heap.size 0 (4 * i) .i64 (4 * (i : Int)) (by omega) (by omega) W
      rw [Nat.zero_add] at hs1
      have hs2 := fun W => run_slh slB w.heap.size (4 * i) (64 - 4 * i) (64 - 4 * i) 4 .i64 4 rfl (by omega) (by omega) W
      go_wp2
      obtain ⟨x0, hx0⟩ : ∃ x, b[4 * i]? = some x := ⟨_, List.getElem?_eq_getElem (by omega)⟩
      obtain ⟨x1, hx1⟩ : ∃ x, b[4 * i + 1]? = some x := ⟨_, List.getElem?_eq_getElem (by omega)⟩
      obtain ⟨x2, hx2⟩ : ∃ x, b[4 * i + 2]? = some x := ⟨_, List.getElem?_eq_getElem (by omega)⟩
      obtain ⟨x3, hx3⟩ : ∃ x, b[4 * i + 3]? = some x := ⟨_, List.getElem?_eq_getElem (by omega)⟩
      have c0 := g1.cellAt _ _ (bvs_at _ _ _ hx0)
      have c1 := g1.cellAt _ _ (bvs_at _ _ _ hx1)
      have c2 := g1.cellAt _ _ (bvs_at _ _ _ hx2)
      have c3 := g1.cellAt _ _ (bvs_at _ _ _ hx3)
      unfold byteV at c0 c1 c2 c3
      have d0 := hid hx0
      have d1 := hid hx1
      have d2 := hid hx2
      have d3 := hid hx3
      have l0 := x0.toNat_lt
      have l1 := x1.toNat_lt
      have l2 := x2.toNat_lt
      have l3 := x3.toNat_lt
      clear hx0 hx1 hx2 hx3 hs1 hs2
      refine wp_region_tail 23 (by kernel_rfl) (by kernel_rfl) ?_
      simp only [List.take_succ_cons, List.take_zero, List.drop_succ_cons, List.drop_zero]
      repeat still_step
      refine wpStill_nil ?_
      simp only [be_out d0.out d1.out d2.out d3.out]
      have Hs := hid (part64_set b i (by omega) (be4 b i) (by rw [if_pos hil]))
      have g3d := g3.drew
      go_wp2_with (refine wp_st1 125 (.tmp 41) (.tmp 40) rfl rfl rfl (f := i) rfl (v := u32V (be4 b i)) rfl g3d (by rw [part64_len _ _ (by omega)]; omega) size32 rfl rfl ?_; intro w3 g3' hG3)
      rw [Hs.out] at g3'
      have gB' : Below w.heap.size w w3 := gB.drew.grown hG3 gB.size (by intro k hk; injection hk with hk; omega)
      have g1' := g1.drew.keep (hG3.block _ g1.lt (by intro e; injection e with e; omega))
      have g2' := g2.drew.keep (hG3.block _ g2.lt (by intro e; injection e with e; omega))
      go_roundw
      case rel => exact ⟨i + 1, by omega, by go_num, g1', g2', g3', gB'⟩
      case measure => simp [intOf]; omega
    · have h16 : i = 16 := by omega
      subst h16
      clear hil
      rw [show ((16 : Nat) : Int) = 16 from rfl]
      go_wp2
      go_loopw [6] (fun iv wr => ∃ i : Nat, 16 ≤ i ∧ i ≤ 64 ∧ iv = .int .i64 i ∧ Blk wr (w.heap.size + 1) 147 (zs32 64) ∧ Blk wr (w.heap.size + 1 + 1) 147 (part64 b i) ∧ Below w.heap.size w wr) (fun iv _ => 64 - (intOf iv).toNat)
      case atStart => exact ⟨16, by omega, by omega, rfl, g2, g3, gB⟩
      case round =>
        obtain ⟨i, hi16, hi, rfl, g2, g3, gB⟩ := hrel
        by_cases hil : i < 64
        · obtain ⟨A, hA⟩ : ∃ A, A = (wl b i).getD (i - 15) 0 := ⟨_, rfl⟩
          obtain ⟨B, hB⟩ : ∃ B, B = (wl b i).getD (i - 2) 0 := ⟨_, rfl⟩
          obtain ⟨C, hC⟩ : ∃ C, C = (wl b i).getD (i - 7) 0 := ⟨_, rfl⟩
          obtain ⟨D, hD⟩ : ∃ D, D = (wl b i).getD (i - 16) 0 := ⟨_, rfl⟩
          have cA := g3.cellAt _ _ (part64_at b i (i - 15) (by omega))
          have cB := g3.cellAt _ _ (part64_at b i (i - 2) (by omega))
          have cC := g3.cellAt _ _ (part64_at b i (i - 7) (by omega))
          have cD := g3.cellAt _ _ (part64_at b i (i - 16) (by omega))
          unfold u32V at cA cB cC cD
          rw [← hA] at cA
          rw [← hB] at cB
          rw [← hC] at cC
          rw [← hD] at cD
          have Hs := hid (part64_set b i hil (sg1 B + C + sg0 A + D) (by rw [if_neg (by omega), hA, hB, hC, hD]; rfl))
          clear hA hB hC hD
          have HC := hid cC
          have HD := hid cD
          clear cC cD
          have eA : ((i : Int) - 15).toNat = i - 15 := by omega
          have eB : ((i : Int) - 2).toNat = i - 2 := by omega
          go_wp2
          have wA : IntKind.i64.wrap ((i : Int) - 15) = (i : Int) - 15 := IntWalk.i64_in _ (by omega)
          have wB : IntKind.i64.wrap ((i : Int) - 2) = (i : Int) - 2 := IntWalk.i64_in _ (by omega)
          have nA : (0 : Int) ≤ (i : Int) - 15 := by omega
          have nB : (0 : Int) ≤ (i : Int) - 2 := by omega
          have bA : (i : Int) - 15 < 64 := by omega
          have bB : (i : Int) - 2 < 64 := by omega
          go_quiet (fail)
          clear wA wB nA nB bA bB eA eB cA cB
          go_wp2_with (go_at_call 96; refine (turned_l _ _ _ (by omega) (by omega)).mono ?_; rintro e' w' ⟨rfl, rfl⟩; simp only [Int.reduceToNat])
          have e0 : bits BinOp.xor IntKind.u32 (bits BinOp.xor IntKind.u32 ((rotr A 7).toNat : Int) ((rotr A 18).toNat : Int)) ((A.toNat : Int) / 8) = ((sg0 A).toNat : Int) := by rw [xor_out, shr3, xor_out]; rfl
          have e1 : bits BinOp.xor IntKind.u32 (bits BinOp.xor IntKind.u32 ((rotr B 17).toNat : Int) ((rotr B 19).toNat : Int)) ((B.toNat : Int) / 1024) = ((sg1 B).toNat : Int) := by rw [xor_out, shr10, xor_out]; rfl
          rw [e0, e1]
          clear e0 e1
          obtain ⟨W, hW⟩ : ∃ W, W = wr.drewN nq := ⟨_, rfl⟩
          have k2 : Blk W (w.heap.size + 1) 147 (zs32 64) := by rw [hW]; exact g2
          have k3 : Blk W (w.heap.size + 1 + 1) 147 (part64 b i) := by rw [hW]; exact g3
          have kB : Below w.heap.size w W := by rw [hW]; exact ⟨gB.os, gB.tape, gB.output, gB.size, gB.block⟩
          have cC : W.cell? ⟨w.heap.size + 1 + 1, i - 7, none⟩ = some (.int .u32 (C.toNat : Int)) := by rw [hW]; exact HC.out
          have cD : W.cell? ⟨w.heap.size + 1 + 1, i - 16, none⟩ = some (.int .u32 (D.toNat : Int)) := by rw [hW]; exact HD.out
          rw [← hW]
          clear hW
          have eA : ((i : Int) - 7).toNat = i - 7 := by omega
          have eB : ((i : Int) - 16).toNat = i - 16 := by omega
          have wA : IntKind.i64.wrap ((i : Int) - 7) = (i : Int) - 7 := IntWalk.i64_in _ (by omega)
          have wB : IntKind.i64.wrap ((i : Int) - 16) = (i : Int) - 16 := IntWalk.i64_in _ (by omega)
          have nA : (0 : Int) ≤ (i : Int) - 7 := by omega
          have nB : (0 : Int) ≤ (i : Int) - 16 := by omega
          have bA : (i : Int) - 7 < 64 := by omega
          have bB : (i : Int) - 16 < 64 := by omega
          have mA : (7 : Int) ≤ (i : Int) := by omega
          have mB : (16 : Int) ≤ (i : Int) := by omega
          refine wp_region_tail 14 (by kernel_rfl) (by kernel_rfl) ?_
          simp only [List.take_succ_cons, List.take_zero, List.drop_succ_cons, List.drop_zero]
          repeat still_step
          refine wpStill_nil ?_
          clear wA wB nA nB bA bB eA eB cC cD mA mB
          simp only [wadd_out]
          have k3d := k3.drew
          go_wp2_with (refine wp_st1 125 (.tmp 85) (.tmp 84) rfl rfl rfl (f := i) rfl (v := u32V (sg1 B + C + sg0 A + D)) rfl k3d (by rw [part64_len _ _ (by omega)]; omega) size32 rfl rfl ?_; intro w3 k3' hG3)
          rw [Hs.out] at k3'
          have kB' : Below w.heap.size w w3 := kB.drew.grown hG3 kB.size (by intro k hk; injection hk with hk; omega)
          have k2' := k2.drew.keep (hG3.block _ k2.lt (by intro e; injection e with e; omega))
          go_wp2
          go_roundw
          case rel => exact ⟨i + 1, by omega, by omega, by go_num, k2', k3', kB'⟩
          case measure => simp [intOf]; omega
        · have h64 : i = 64 := by omega
          subst h64
          rw [part64_end] at g3
          go_wp2_with (first | (refine wp_ld 147 (.tmp 3) rfl rfl rfl g3.whole Tryd.underlying147 rfl (by rw [len_wvs, wl_len]; exact size64) ?_) | (refine wp_st 147 (.tmp 2) (.tmp 86) rfl rfl rfl rfl rfl g2 (by simp [zs32, len_wvs, wl_len]) (by rw [len_wvs, wl_len]; exact size64) (oneCell_wvs _) ?_; intro w2 h2' hG2))
          have e64 : (zs32 64).take 0 ++ wvs (wl b 64) ++ (zs32 64).drop (0 + (wvs (wl b 64)).length) = wvs (wl b 64) := by simp [len_wvs, wl_len, zs32]
          rw [e64] at h2'
          refine ret_cell rfl rfl h2'.whole Tryd.underlying147 rfl (by rw [len_wvs, wl_len]; exact size64) rfl ?_
          exact ⟨rfl, gB.grown hG2 gB.size (by intro k hk; simp at hk; omega)⟩
end Go.Proofs.YtmjpkdehkdpdpaaDoor
/- SP: facts of the mixer's lists. No project text. -/
namespace Go.V

theorem fbk_congr (p q : List UInt8) : ∀ n, p.take (64 * n) = q.take (64 * n) → fbk p n = fbk q n
  | 0, _ => rfl
  | n + 1, h => by
    have h1 : p.take (64 * n) = q.take (64 * n) := by
      have := congrArg (List.take (64 * n)) h
      rw [List.take_take, List.take_take, show min (64 * n) (64 * (n + 1)) = 64 * n from by omega] at this
      exact this
    have h2 : (p.drop (64 * n)).take 64 = (q.drop (64 * n)).take 64 := by
      have := congrArg (List.drop (64 * n)) h
      rw [List.drop_take, List.drop_take, show 64 * (n + 1) - 64 * n = 64 from by omega] at this
      exact this
    rw [fbk, fbk, fbk_congr p q n h1, h2]
theorem fbk_app (p q : List UInt8) (n : Nat) (h : 64 * n ≤ p.length) : fbk (p ++ q) n = fbk p n :=
  fbk_congr _ _ n (by rw [List.take_append_of_le_length h])
/-- the mixer's state and block behind the bytes p -/
def MS (p blk : List UInt8) (s : S8) : Prop := blk.length = 64 ∧ blk.take (p.length % 64) = p.drop (64 * (p.length / 64)) ∧ s = fbk p (p.length / 64)
theorem MS.part {p blk : List UInt8} {s : S8} (h : MS p blk s) (x : List UInt8) (hx : p.length % 64 + x.length < 64) :
    MS (p ++ x) (blk.take (p.length % 64) ++ x ++ blk.drop (p.length % 64 + x.length)) s := by
  obtain ⟨h1, h2, h3⟩ := h
  have e1 : (p ++ x).length / 64 = p.length / 64 := by rw [List.length_append]; omega
  have e2 : (p ++ x).length % 64 = p.length % 64 + x.length := by rw [List.length_append]; omega
  have e3 : (blk.take (p.length % 64)).length = p.length % 64 := by rw [List.length_take]; omega
  refine ⟨by simp only [List.length_append, List.length_drop, e3]; omega, ?_, ?_⟩
  · rw [e1, e2, List.take_append_of_le_length (by rw [List.length_append, e3]; omega), List.take_of_length_le (by rw [List.length_append, e3]; omega), h2,
      List.drop_append_of_le_length (by omega)]
  · rw [e1, fbk_app _ _ _ (by omega)]; exact h3
theorem MS.full {p blk : List UInt8} {s : S8} (h : MS p blk s) (x : List UInt8) (hx : p.length % 64 + x.length = 64) :
    MS (p ++ x) (blk.take (p.length % 64) ++ x) (blockF s (blk.take (p.length % 64) ++ x)) := by
  obtain ⟨h1, h2, h3⟩ := h
  have e1 : (p ++ x).length / 64 = p.length / 64 + 1 := by rw [List.length_append]; omega
  have e2 : (p ++ x).length % 64 = 0 := by rw [List.length_append]; omega
  have e3 : (blk.take (p.length % 64)).length = p.length % 64 := by rw [List.length_take]; omega
  refine ⟨by rw [List.length_append, e3]; omega, ?_, ?_⟩
  · rw [e1, e2, List.take_zero, List.drop_of_length_le (by rw [List.length_append]; omega)]
  · rw [e1, fbk, fbk_app _ _ _ (by omega), ← h3, List.drop_append_of_le_length (by omega), h2, List.take_of_length_le (by rw [List.length_append, List.length_drop]; omega)]
theorem MS.nil (blk : List UInt8) (h : blk.length = 64) : MS [] blk iv := ⟨h, by simp, rfl⟩
end Go.V
/- S4: contracts of the mixer's put and end. -/
namespace Go.Proofs.YtmjpkdehkdpdpaaDoor
open Go.RowKit Go.V

/-- the cells of a mixer -/
def mixC (s : S8) (blk : List UInt8) (n : Nat) : List Value := wvs (s8l s) ++ (bvs blk ++ [.int .u64 (n : Int)])
theorem wvs8 (s : S8) : (wvs (s8l s)).length = 8 := by simp [len_wvs, s8l]
theorem mixC_len (s : S8) (blk : List UInt8) (n : Nat) (h : blk.length = 64) : (mixC s blk n).length = 73 := by simp [mixC, len_wvs, len_bvs, h, s8l]
theorem mixC_size (s : S8) (blk : List UInt8) (n : Nat) (h : blk.length = 64) : (mixC s blk n)[72]? = some (.int .u64 (n : Int)) := by
  unfold mixC
  rw [List.getElem?_append_right (by rw [wvs8]; omega), wvs8, List.getElem?_append_right (by rw [len_bvs]; omega), len_bvs, h]
  rfl
theorem mixC_st (s : S8) (blk : List UInt8) (n : Nat) : ∀ j v, (wvs (s8l s))[j]? = some v → (mixC s blk n)[0 + j]? = some v := by
  intro j v h
  have hj := (List.getElem?_eq_some_iff.1 h).1
  unfold mixC
  rw [Nat.zero_add, List.getElem?_append_left hj]
  exact h
theorem mixC_blk (s : S8) (blk : List UInt8) (n : Nat) : ∀ j v, (bvs blk)[j]? = some v → (mixC s blk n)[8 + j]? = some v := by
  intro j v h
  have hj := (List.getElem?_eq_some_iff.1 h).1
  unfold mixC
  rw [List.getElem?_append_right (by rw [wvs8]; omega), wvs8, show 8 + j - 8 = j from by omega, List.getElem?_append_left hj]
  exact h
theorem mixC_copy (s : S8) (blk x : List UInt8) (n m : Nat) (hb : blk.length = 64) (h : m + x.length ≤ 64) :
    (mixC s blk n).take (8 + m) ++ bvs x ++ (mixC s blk n).drop (8 + m + x.length) = mixC s (blk.take m ++ x ++ blk.drop (m + x.length)) n := by
  unfold mixC
  rw [List.take_append, wvs8, List.take_of_length_le (by rw [wvs8]; omega), show 8 + m - 8 = m from by omega, List.take_append_of_le_length (by rw [len_bvs]; omega),
    List.drop_append, wvs8, List.drop_of_length_le (by rw [wvs8]; omega), show 8 + m + x.length - 8 = m + x.length from by omega, List.drop_append_of_le_length (by rw [len_bvs]; omega)]
  simp [bvs]
theorem mixC_size_set (s : S8) (blk : List UInt8) (n k : Nat) (hb : blk.length = 64) : (mixC s blk n).set 72 (.int .u64 (k : Int)) = mixC s blk k := by
  unfold mixC
  rw [List.set_append_right _ _ (by rw [wvs8]; omega), wvs8, List.set_append_right _ _ (by rw [len_bvs]; omega), len_bvs, hb]
  rfl
theorem mixC_st_set (s t : S8) (blk : List UInt8) (n : Nat) : (mixC s blk n).take 0 ++ wvs (s8l t) ++ (mixC s blk n).drop (0 + (wvs (s8l t)).length) = mixC t blk n := by
  unfold mixC
  rw [wvs8, List.drop_append, wvs8, List.drop_of_length_le (by rw [wvs8]; omega)]
  simp

/-- block g is a mixer behind the bytes p -/
def MixR (w : World) (g : Nat) (p : List UInt8) : Prop := ∃ blk s, MS p blk s ∧ Blk w g 128 (mixC s blk p.length)
theorem MixR.keep {w w' : World} {g : Nat} {p : List UInt8} (h : MixR w g p) (hc : w'.heap[g]? = w.heap[g]?) : MixR w' g p := by
  obtain ⟨blk, s, h1, h2⟩ := h
  exact ⟨blk, s, h1, h2.keep hc⟩
def lenV : Value → Nat
  | .slice _ n _ => n
  | _ => 0

theorem size39 : (Tryd.prog.info? 107).map (·.size) = some 1 := by kernel_rfl
/-- 'copy(d, s)', d a piece of a block that is known whole -/
theorem wp_cp {P : Program} {w : World} {ops : Array Oper} {rest : List Oper} {o : Oper} {a : Act} {Q : Exit → Act → World → Prop} (d s : Operand) {t e : TypeId} {z : Value} {by_ : Nat} (ht : SlT P t e z by_) (hgd : o.guard = none)
    (ho : o.op = .call { callee := .builtin .copy, args := #[d, s], argTypes := #[t, t] })
    {g f L cap : Nat} (hd : a.eval d = .slice (some ⟨g, f, none⟩) L cap) {A : Option Addr} {m c : Nat} (hs : a.eval s = .slice A m c)
    {u : TypeId} {cs : List Value} (hg : Blk w g u cs) {news : List Value} (hsrc : Src w A m news) (h1 : ∀ u ∈ news, u.oneCell' = true) (hpos : 0 < m) (k : Nat) (hk : k = min m L) (hfit : f + k ≤ cs.length)
    (h : ∀ w', Blk w' g u (cs.take f ++ news.take k ++ cs.drop (f + k)) → w.grownBy w' (some g) → wpList P ops Q rest (a.put o.dst (goInt ((k : Nat) : Int))) w') :
    wpList P ops Q (o :: rest) a w := by
  obtain ⟨i, hi, _, hsz, _⟩ := ht.inf
  have hz : (P.info? e).map (·.size) = some 1 := by rw [hi]; simp [hsz]
  cases A with
  | none =>
    obtain ⟨rfl, rfl⟩ := hsrc.none0
    omega
  | some ad =>
    have hl := hsrc.1
    have hln : (news.take k).length = k := by rw [List.length_take]; omega
    refine wpList_plain hgd fun K hK => ?_
    have hr := run_copy_row (P := P) w t t o.type e g f L cap ad m c cs.toArray u (news.take k) ht.sl hz hg (hln.trans hk)
      (fun j v hv => hsrc.at j v (by
        have hj := (List.getElem?_eq_some_iff.1 hv).1
        rw [List.getElem?_take, if_pos (by omega)] at hv
        exact hv)) (by rw [hln]; simpa using hfit) (fun v hv => h1 v (List.mem_of_mem_take hv))
    unfold Oper.wp execOp
    simp only [ho, resolve, invoke, builtin, Sem.run_bind, Sem.run_pure, Result.andThen_ok, List.map_toArray, List.map_cons, List.map_nil, hd, hs, hr]
    rw [hln]
    have := h _ (hg.row _) (grown_setRow w g _)
    exact hK _ _ this

/-- what holds while a mixer goes through its block -/
def PS (g : Nat) (s : S8) (blk : List UInt8) (n : Nat) (w0 w' : World) : Prop := Blk w' g 128 (mixC s blk n) ∧ KS w' ∧ Ch (fun b => b = g) w0 w'
def PSx (g : Nat) (s : S8) (blk : List UInt8) (n : Nat) (w0 w' : World) : Prop :=
  w'.cell? ⟨g, 0, none⟩ = some (.int .u32 (s.a.toNat : Int)) ∧ w'.cell? ⟨g, 1, none⟩ = some (.int .u32 (s.b.toNat : Int)) ∧ w'.cell? ⟨g, 2, none⟩ = some (.int .u32 (s.c.toNat : Int)) ∧ w'.cell? ⟨g, 3, none⟩ = some (.int .u32 (s.d.toNat : Int)) ∧
  w'.cell? ⟨g, 4, none⟩ = some (.int .u32 (s.e.toNat : Int)) ∧ w'.cell? ⟨g, 5, none⟩ = some (.int .u32 (s.f.toNat : Int)) ∧ w'.cell? ⟨g, 6, none⟩ = some (.int .u32 (s.g.toNat : Int)) ∧ w'.cell? ⟨g, 7, none⟩ = some (.int .u32 (s.h.toNat : Int)) ∧
  w'.frozen? ⟨g, 0, none⟩ = false ∧ w'.frozen? ⟨g, 1, none⟩ = false ∧ w'.frozen? ⟨g, 2, none⟩ = false ∧ w'.frozen? ⟨g, 3, none⟩ = false ∧
  w'.frozen? ⟨g, 4, none⟩ = false ∧ w'.frozen? ⟨g, 5, none⟩ = false ∧ w'.frozen? ⟨g, 6, none⟩ = false ∧ w'.frozen? ⟨g, 7, none⟩ = false ∧
  w'.rangeAt g 8 (bvs blk) ∧ PS g s blk n w0 w'
theorem PS.x {g : Nat} {s : S8} {blk : List UInt8} {n : Nat} {w0 w' : World} (h : PS g s blk n w0 w') : PSx g s blk n w0 w' := by
  have hb := h.1
  exact ⟨hb.cellAt 0 _ rfl, hb.cellAt 1 _ rfl, hb.cellAt 2 _ rfl, hb.cellAt 3 _ rfl, hb.cellAt 4 _ rfl, hb.cellAt 5 _ rfl, hb.cellAt 6 _ rfl, hb.cellAt 7 _ rfl, hb.frz 0, hb.frz 1, hb.frz 2, hb.frz 3, hb.frz 4, hb.frz 5, hb.frz 6, hb.frz 7, hb.range 8 _ (mixC_blk s blk n), h⟩
theorem PS.below {g : Nat} {s : S8} {blk : List UInt8} {n : Nat} {w0 w w' : World} (h : PS g s blk n w0 w) (hB : Below w.heap.size w w') : PS g s blk n w0 w' := ⟨h.1.below hB, h.2.1.below hB, h.2.2.belowR hB⟩
theorem PS.belowR {g : Nat} {s : S8} {blk : List UInt8} {n : Nat} {w0 w w' : World} (hB : Below w.heap.size w w') (h : PS g s blk n w0 w) : PSx g s blk n w0 w' := (h.below hB).x
theorem PS.ks {g : Nat} {s : S8} {blk : List UInt8} {n : Nat} {w0 w : World} (h : PS g s blk n w0 w) : KS w := h.2.1
theorem PS.blk {g : Nat} {s : S8} {blk : List UInt8} {n : Nat} {w0 w : World} (h : PS g s blk n w0 w) : Blk w g 128 (mixC s blk n) := h.1
theorem mixed_b (s t : S8) (b : List UInt8) (w : World) (hK : KS w) (ht : t = blockF s b) :
    Calls Tryd.prog 88 #[.agg #[.int .u32 (s.a.toNat : Int), .int .u32 (s.b.toNat : Int), .int .u32 (s.c.toNat : Int), .int .u32 (s.d.toNat : Int), .int .u32 (s.e.toNat : Int), .int .u32 (s.f.toNat : Int), .int .u32 (s.g.toNat : Int), .int .u32 (s.h.toNat : Int)], .agg (wvs (wl b 64)).toArray] w
      fun e w' => e = .returned (.agg #[.int .u32 (t.a.toNat : Int), .int .u32 (t.b.toNat : Int), .int .u32 (t.c.toNat : Int), .int .u32 (t.d.toNat : Int), .int .u32 (t.e.toNat : Int), .int .u32 (t.f.toNat : Int), .int .u32 (t.g.toNat : Int), .int .u32 (t.h.toNat : Int)]) ∧ Below w.heap.size w w' := by
  subst ht
  exact mixed_any s (wl b 64) w hK (wl_len _ _)
theorem PS.drewR {g : Nat} {s : S8} {blk : List UInt8} {n : Nat} {w0 w : World} (h : PS g s blk n w0 w) : PSx g s blk n w0 w.drew := PS.x ⟨h.1.drew, h.2.1.drew, h.2.2.drew⟩
theorem PS.drew {g : Nat} {s : S8} {blk : List UInt8} {n : Nat} {w0 w : World} (h : PS g s blk n w0 w) : PS g s blk n w0 w.drew := ⟨h.1.drew, h.2.1.drew, h.2.2.drew⟩
set_option maxRecDepth 100000 in
set_option maxHeartbeats 2000000 in
theorem put_any (g : Nat) (p bs : List UInt8) (v : Value) (F : Nat → Prop) (w : World) (hK : KS w) (hM : MixR w g p) (ht : Rd w F v (bys bs)) (hF : ¬ F g) (hg : g ≠ 0) (hn : p.length + bs.length < 1152921504606846976) :
    Calls Tryd.prog 73 #[.pointer (some ⟨g, 0, none⟩), v] w fun e w' => e = .returned (.tuple #[]) ∧ MixR w' g (p ++ bs) ∧ Ch (fun b => b = g) w w' := by
  go_enter Tryd.func73, Tryd.ntmps73
  go_wp2
  go_loopw [1] (fun tv wr => ∃ k : Nat, k ≤ bs.length ∧ Rd wr F tv (bys (bs.drop k)) ∧ MixR wr g (p ++ bs.take k) ∧ Ch (fun b => b = g) w wr) (fun tv _ => lenV tv)
  case atStart => exact ⟨0, by omega, by simpa using ht, by simpa using hM, Ch.refl _ _⟩
  case round =>
    obtain ⟨k, hk, hr, ⟨blk, s, hms, hblk⟩, hC⟩ := hrel
    obtain ⟨A, c, rfl⟩ := hr.shape
    obtain ⟨r, hrl⟩ : ∃ r, (bs.drop k).length = r := ⟨_, rfl⟩
    rw [hrl] at hr ⊢
    have hrk : r + k = bs.length := by rw [← hrl, List.length_drop]; omega
    have Hrl := hid hrl
    clear hrl
    by_cases hlt : 0 < r
    · have hql : (p ++ bs.take k).length = p.length + k := by rw [List.length_append, List.length_take]; omega
      obtain ⟨q, hq⟩ : ∃ q, q = p ++ bs.take k := ⟨_, rfl⟩
      rw [← hq] at hms hblk hql
      have HQ := hid hq
      have hq60 : q.length + r < 1152921504606846976 := by omega
      clear hq hql
      obtain ⟨m, hm⟩ : ∃ m, m = q.length % 64 := ⟨_, rfl⟩
      have hm64 : m < 64 := by omega
      have hcs := hblk.cellAt 72 _ (mixC_size s blk _ hms.1)
      have hs1 := fun W => run_sla_l Tryd.underlying110 size8 g 8 m .u64 (m : Int) rfl hm64 W
      have htm : ((q.length : Int)).tmod 64 = (m : Int) := by rw [Int.tmod_eq_emod_of_nonneg (by omega)]; omega
      have Hm := hid hm
      clear hm
      go_wp2
      refine wp_region_tail 10 (by kernel_rfl) (by kernel_rfl) ?_
      simp only [List.take_succ_cons, List.take_zero, List.drop_succ_cons, List.drop_zero]
      repeat still_step
      refine wpStill_nil ?_
      clear hs1 htm hcs
      have hblk' := hblk.drew
      have hsrc : Src wr.drew A r (bvs (bs.drop k)) := by
        have := hr.drew.src
        rw [Hrl.out] at this
        exact this
      obtain ⟨n, hn'⟩ : ∃ n, n = min r (64 - m) := ⟨_, rfl⟩
      have hn1 : 0 < n := by omega
      have hn2 : n ≤ r := by omega
      have hn3 : m + n ≤ 64 := by omega
      have Hn := hid hn'
      clear hn'
      obtain ⟨x, hx⟩ : ∃ x, x = (bs.drop k).take n := ⟨_, rfl⟩
      have hxl : Hid (x.length = n) := by show _ = _; rw [hx, List.length_take, Hrl.out]; omega
      have hxb : Hid ((bvs (bs.drop k)).take n = bvs x) := by show _ = _; rw [hx]; simp [bvs]
      have Hx := hid hx
      clear hx
      refine wp_cp (.tmp 16) (.tmp 17) slB rfl rfl rfl rfl hblk' hsrc (oneCell_bvs _) hlt n Hn.out (by rw [mixC_len _ _ _ hms.1]; omega) ?_
      intro w2 hb2 hG2
      rw [hxb.out] at hb2
      have hmc := mixC_copy s blk x q.length m hms.1 (by rw [hxl.out]; exact hn3)
      rw [hxl.out] at hmc
      rw [hmc] at hb2
      clear hmc
      have hC2 : Ch (fun b => b = g) wr w2 := ((Ch.refl (fun b => b = g) wr).drew).grow hG2 (by intro k hk; injection hk with hk; exact .inl hk.symm)
      have hr2 := hr.ch hC2 (fun b hb e => hF (e ▸ hb))
      obtain ⟨A', m', c', hsl, hcut⟩ := hr2.cut_l slB (n : Int) (by omega) (by rw [Hrl.out]; omega)
      have hm' := hid hcut.cap.1
      have Hcut := hid hcut
      clear hcut
      have hb64 : (blk.take m ++ x ++ blk.drop (m + n)).length = 64 := by
        rw [List.length_append, List.length_append, List.length_take, List.length_drop, hxl.out, hms.1]; omega
      obtain ⟨blk2, hblk2⟩ : ∃ b, b = blk.take m ++ x ++ blk.drop (m + n) := ⟨_, rfl⟩
      rw [← hblk2] at hb2 hb64
      have Hb2 := hid hblk2
      have H64 := hid hb64
      clear hblk2 hb64
      have hcz := hb2.cellAt 72 _ (mixC_size s blk2 _ H64.out)
      have hqx : Hid (p ++ bs.take (k + n) = q ++ x) := by show _ = _; rw [List.take_add, ← List.append_assoc, ← HQ.out, ← Hx.out]
      have hdr : Hid ((bs.drop k).drop ((n : Int).toNat) = bs.drop (k + n)) := by show _ = _; rw [List.drop_drop]; rfl
      have hmr : Hid (m' = r - n) := by show _ = _; rw [hm'.out, List.length_drop, Hrl.out]; rfl
      have hqn : Hid ((q ++ x).length = q.length + n) := by show _ = _; rw [List.length_append, hxl.out]
      by_cases hful : (q.length + n) % 64 = 0
      · have hbt : (((q.length : Int) + (n : Int)) % 64 == 0) = true := by rw [beq_iff_eq]; omega
        have hmn : m + n = 64 := by have := Hm.out; omega
        clear hful
        go_wp2_with (refine wp_st1 107 (.tmp 30) (.tmp 28) rfl rfl rfl (f := 72) rfl (v := .int .u64 ((q.length + n : Nat) : Int)) (congrArg (Value.int .u64) (by omega)) hb2 (by rw [mixC_len _ _ _ H64.out]; omega) size39 rfl rfl ?_; intro w3 hb3 hG3; rw [mixC_size_set _ _ _ _ H64.out] at hb3; have hcz3 := hb3.cellAt 72 _ (mixC_size s blk2 _ H64.out); clear hcz)
        have hC3 : Ch (fun b => b = g) w w3 := hC.trans (hC2.grow hG3 (by intro k hk; injection hk with hk; exact .inl hk.symm))
        have hr3 := Hcut.out.keep (F' := F) (w' := w3) (fun b hb hF' => ⟨hF', hG3.block b hb (by intro e; injection e with e; exact hF (e ▸ hF'))⟩)
        rw [hdr.out] at hr3
        have hP3 : PS g s blk2 (q.length + n) w3 w3 := ⟨hb3, hK.keep (hC3.block _ hK.lt (fun e => hg e.symm)), Ch.refl _ _⟩
        clear hcz3
        obtain ⟨t, ht'⟩ : ∃ t, t = blockF s blk2 := ⟨_, rfl⟩
        have Ht := hid ht'
        clear ht'
        have hMS : MS (q ++ x) blk2 t := by
          have h1 := hms.full x (by rw [hxl.out, ← Hm.out]; exact hmn)
          have h2 : blk2 = blk.take (q.length % 64) ++ x := by
            rw [Hb2.out, hmn, List.drop_of_length_le (by rw [hms.1]; omega), List.append_nil, ← Hm.out]
          rw [Ht.out, h2]
          exact h1
        have HMS := hid hMS
        clear hMS
        refine wp_region_noPanic ?_
        refine wp_region_any (by kernel_rfl) ?_
        change wpAny _ _ _ _ _ _ _ (World.drew _)
        have hPd := hP3.drew
        obtain ⟨w4, hw4⟩ : ∃ w4, w4 = w3.drew := ⟨_, rfl⟩
        rw [← hw4] at hPd ⊢
        clear hw4
        refine wpAny_take (i := 0) (oi := ⟨some 37, .move (.tmp 0), _, _, _, none⟩) (v := ?_) rfl (by kernel_rfl) (by kernel_rfl) (by kernel_rfl) (fun _ _ _ h => h) (Or.inl ⟨by rfl, ?_⟩) ?_
        rotate_left
        · intro w; go_simp; try with_reducible rfl
        simp only [Act.put, List.setIfInBounds_toArray, List.set_cons_zero, List.set_cons_succ]
        refine wpAny_take (i := 1) (oi := ⟨some 38, .move (.tmp 0), _, _, _, none⟩) (v := ?_) rfl (by kernel_rfl) (by kernel_rfl) (by kernel_rfl) (fun _ _ _ h => h) (Or.inl ⟨by rfl, ?_⟩) ?_
        rotate_left
        · intro w; go_simp; try with_reducible rfl
        simp only [Act.put, List.setIfInBounds_toArray, List.set_cons_zero, List.set_cons_succ]
        refine wpAny_take (i := 2) (oi := ⟨some 39, .nilCheck (.tmp 38), _, _, _, none⟩) (v := ?_) rfl (by kernel_rfl) (by kernel_rfl) (by kernel_rfl) (fun _ _ _ h => h) (Or.inl ⟨by rfl, ?_⟩) ?_
        rotate_left
        · intro w; go_simp; try with_reducible rfl
        simp only [Act.put, List.setIfInBounds_toArray, List.set_cons_zero, List.set_cons_succ]
        refine wpAny_take (i := 3) (oi := ⟨some 40, .fieldAddr 128 (.tmp 39) 0, _, _, _, none⟩) (v := ?_) rfl (by kernel_rfl) (by kernel_rfl) (by kernel_rfl) (fun _ _ _ h => h) (Or.inl ⟨by rfl, ?_⟩) ?_
        rotate_left
        · intro w; go_simp; try with_reducible rfl
        simp only [Act.put, List.setIfInBounds_toArray, List.set_cons_zero, List.set_cons_succ]
        refine wpAny_take (i := 5) (oi := ⟨some 42, .move (.tmp 0), _, _, _, none⟩) (v := ?_) rfl (by kernel_rfl) (by kernel_rfl) (by kernel_rfl) (fun _ _ _ h => h) (Or.inl ⟨by rfl, ?_⟩) ?_
        rotate_left
        · intro w; go_simp; try with_reducible rfl
        simp only [Act.put, List.setIfInBounds_toArray, List.set_cons_zero, List.set_cons_succ]
        refine wpAny_take (i := 6) (oi := ⟨some 43, .nilCheck (.tmp 42), _, _, _, none⟩) (v := ?_) rfl (by kernel_rfl) (by kernel_rfl) (by kernel_rfl) (fun _ _ _ h => h) (Or.inl ⟨by rfl, ?_⟩) ?_
        rotate_left
        · intro w; go_simp; try with_reducible rfl
        simp only [Act.put, List.setIfInBounds_toArray, List.set_cons_zero, List.set_cons_succ]
        refine wpAny_take (i := 7) (oi := ⟨some 44, .fieldAddr 128 (.tmp 43) 1, _, _, _, none⟩) (v := ?_) rfl (by kernel_rfl) (by kernel_rfl) (by kernel_rfl) (fun _ _ _ h => h) (Or.inl ⟨by rfl, ?_⟩) ?_
        rotate_left
        · intro w; go_simp; try with_reducible rfl
        simp only [Act.put, List.setIfInBounds_toArray, List.set_cons_zero, List.set_cons_succ]
        refine wpAny_ready (rs := [4, 8]) (by kernel_rfl) (by simp) ?_
        refine AllReady.cons (o := ⟨some 41, .load 126 (.tmp 40), _, _, _, none⟩) rfl (fun K hK => ?_) ?_
        · refine step_ld 126 (.tmp 40) (by rfl) (by rfl) (f := 0) (by rfl) (hPd.blk.range 0 _ (mixC_st s blk2 _)) Tryd.underlying126 rfl size46 ?_
          refine hK _ _ ?_
          clear hK K
          simp only [Act.put, List.setIfInBounds_toArray, List.set_cons_zero, List.set_cons_succ]
          refine wpAny_ready (rs := [8]) (by kernel_rfl) (by simp) ?_
          refine AllReady.cons (o := ⟨some 45, .load 110 (.tmp 44), _, _, _, none⟩) rfl (fun K hK => ?_) ?_
          · refine step_ld 110 (.tmp 44) (by rfl) (by rfl) (f := 8) (by rfl) (hPd.blk.range 8 _ (mixC_blk s blk2 _)) Tryd.underlying110 rfl (by rw [len_bvs, H64.out]; exact size47) ?_
            refine hK _ _ ?_
            clear hK K
            simp only [Act.put, List.setIfInBounds_toArray, List.set_cons_zero, List.set_cons_succ]
            refine wpAny_ready (rs := [9]) (by kernel_rfl) (by simp) ?_
            refine AllReady.cons (o := ⟨some 46, _, _, _, _, none⟩) rfl (fun K hK => ?_) ?_
            · go_simp
              refine (words_any blk2 _ H64.out).mono ?_
              rintro e' w5 ⟨rfl, hB5⟩
              have hPd5 := hPd.below hB5
              refine hK _ _ ?_
              clear hK K
              try simp only [Act.put, List.setIfInBounds_toArray, List.set_cons_zero, List.set_cons_succ]
              refine wpAny_ready (rs := [10]) (by kernel_rfl) (by simp) ?_
              refine AllReady.cons (o := ⟨some 47, _, _, _, _, none⟩) rfl (fun K hK => ?_) ?_
              · go_simp
                refine (mixed_b s t blk2 _ hPd5.ks Ht.out).mono ?_
                rintro e' w6 ⟨rfl, hB6⟩
                have hPd56 := hPd5.below hB6
                refine hK _ _ ?_
                clear hK K
                try simp only [Act.put, List.setIfInBounds_toArray, List.set_cons_zero, List.set_cons_succ]
                refine wpAny_take (i := 11) (oi := ⟨some 48, .nilCheck (.tmp 37), _, _, _, none⟩) (v := ?_) rfl (by kernel_rfl) (by kernel_rfl) (by kernel_rfl) (fun _ _ _ h => h) (Or.inl ⟨by rfl, ?_⟩) ?_
                rotate_left
                · intro w; go_simp; try with_reducible rfl
                simp only [Act.put, List.setIfInBounds_toArray, List.set_cons_zero, List.set_cons_succ]
                refine wpAny_take (i := 12) (oi := ⟨some 49, .fieldAddr 128 (.tmp 48) 0, _, _, _, none⟩) (v := ?_) rfl (by kernel_rfl) (by kernel_rfl) (by kernel_rfl) (fun _ _ _ h => h) (Or.inl ⟨by rfl, ?_⟩) ?_
                rotate_left
                · intro w; go_simp; try with_reducible rfl
                simp only [Act.put, List.setIfInBounds_toArray, List.set_cons_zero, List.set_cons_succ]
                refine wpAny_ready (rs := [13]) (by kernel_rfl) (by simp) ?_
                refine AllReady.cons (o := ⟨none, .store 126 (.tmp 49) (.tmp 47), _, _, _, none⟩) rfl (fun K hK => ?_) ?_
                · refine step_st 126 (.tmp 49) (.tmp 47) (by rfl) (by rfl) (by rfl) (f := 0) (by rfl) (l := wvs (s8l t)) (by rfl) hPd56.blk (by rw [wvs8, mixC_len _ _ _ H64.out]; omega) size46 (oneCell_wvs _) ?_
                  intro w7 hb7 hG7
                  have hP7 := hPd56
                  refine hK _ _ ?_
                  clear hK K
                  refine wpAny_done (by kernel_rfl) ?_ _
                  refine NoPanic.normal ?_
                  rw [mixC_st_set] at hb7
                  have hC7 : Ch (fun b => b = g) w3 _ := hP7.2.2.grow hG7 (by intro k hk; injection hk with hk; exact .inl hk.symm)
                  have hr7 := hr3.ch hC7 (fun b hb e => hF (e ▸ hb))
                  have hC9 := hC3.trans hC7
                  clear hC7 hP7 hG7
                  go_wp2
                  go_roundw
                  case rel => exact ⟨k + n, by omega, hr7, ⟨blk2, t, by rw [hqx.out]; exact HMS.out, by rw [hqx.out, hqn.out]; exact hb7⟩, hC9⟩
                  case measure => show m' < r; have := hmr.out; omega
                exact AllReady.nil
              exact AllReady.nil
            exact AllReady.nil
          exact AllReady.nil
        refine AllReady.cons (o := ⟨some 45, .load 110 (.tmp 44), _, _, _, none⟩) rfl (fun K hK => ?_) ?_
        · refine step_ld 110 (.tmp 44) (by rfl) (by rfl) (f := 8) (by rfl) (hPd.blk.range 8 _ (mixC_blk s blk2 _)) Tryd.underlying110 rfl (by rw [len_bvs, H64.out]; exact size47) ?_
          refine hK _ _ ?_
          clear hK K
          simp only [Act.put, List.setIfInBounds_toArray, List.set_cons_zero, List.set_cons_succ]
          refine wpAny_ready (rs := [4, 9]) (by kernel_rfl) (by simp) ?_
          refine AllReady.cons (o := ⟨some 41, .load 126 (.tmp 40), _, _, _, none⟩) rfl (fun K hK => ?_) ?_
          · refine step_ld 126 (.tmp 40) (by rfl) (by rfl) (f := 0) (by rfl) (hPd.blk.range 0 _ (mixC_st s blk2 _)) Tryd.underlying126 rfl size46 ?_
            refine hK _ _ ?_
            clear hK K
            simp only [Act.put, List.setIfInBounds_toArray, List.set_cons_zero, List.set_cons_succ]
            refine wpAny_ready (rs := [9]) (by kernel_rfl) (by simp) ?_
            refine AllReady.cons (o := ⟨some 46, _, _, _, _, none⟩) rfl (fun K hK => ?_) ?_
            · go_simp
              refine (words_any blk2 _ H64.out).mono ?_
              rintro e' w5 ⟨rfl, hB5⟩
              have hPd5 := hPd.below hB5
              refine hK _ _ ?_
              clear hK K
              try simp only [Act.put, List.setIfInBounds_toArray, List.set_cons_zero, List.set_cons_succ]
              refine wpAny_ready (rs := [10]) (by kernel_rfl) (by simp) ?_
              refine AllReady.cons (o := ⟨some 47, _, _, _, _, none⟩) rfl (fun K hK => ?_) ?_
              · go_simp
                refine (mixed_b s t blk2 _ hPd5.ks Ht.out).mono ?_
                rintro e' w6 ⟨rfl, hB6⟩
                have hPd56 := hPd5.below hB6
                refine hK _ _ ?_
                clear hK K
                try simp only [Act.put, List.setIfInBounds_toArray, List.set_cons_zero, List.set_cons_succ]
                refine wpAny_take (i := 11) (oi := ⟨some 48, .nilCheck (.tmp 37), _, _, _, none⟩) (v := ?_) rfl (by kernel_rfl) (by kernel_rfl) (by kernel_rfl) (fun _ _ _ h => h) (Or.inl ⟨by rfl, ?_⟩) ?_
                rotate_left
                · intro w; go_simp; try with_reducible rfl
                simp only [Act.put, List.setIfInBounds_toArray, List.set_cons_zero, List.set_cons_succ]
                refine wpAny_take (i := 12) (oi := ⟨some 49, .fieldAddr 128 (.tmp 48) 0, _, _, _, none⟩) (v := ?_) rfl (by kernel_rfl) (by kernel_rfl) (by kernel_rfl) (fun _ _ _ h => h) (Or.inl ⟨by rfl, ?_⟩) ?_
                rotate_left
                · intro w; go_simp; try with_reducible rfl
                simp only [Act.put, List.setIfInBounds_toArray, List.set_cons_zero, List.set_cons_succ]
                refine wpAny_ready (rs := [13]) (by kernel_rfl) (by simp) ?_
                refine AllReady.cons (o := ⟨none, .store 126 (.tmp 49) (.tmp 47), _, _, _, none⟩) rfl (fun K hK => ?_) ?_
                · refine step_st 126 (.tmp 49) (.tmp 47) (by rfl) (by rfl) (by rfl) (f := 0) (by rfl) (l := wvs (s8l t)) (by rfl) hPd56.blk (by rw [wvs8, mixC_len _ _ _ H64.out]; omega) size46 (oneCell_wvs _) ?_
                  intro w7 hb7 hG7
                  have hP7 := hPd56
                  refine hK _ _ ?_
                  clear hK K
                  refine wpAny_done (by kernel_rfl) ?_ _
                  refine NoPanic.normal ?_
                  rw [mixC_st_set] at hb7
                  have hC7 : Ch (fun b => b = g) w3 _ := hP7.2.2.grow hG7 (by intro k hk; injection hk with hk; exact .inl hk.symm)
                  have hr7 := hr3.ch hC7 (fun b hb e => hF (e ▸ hb))
                  have hC9 := hC3.trans hC7
                  clear hC7 hP7 hG7
                  go_wp2
                  go_roundw
                  case rel => exact ⟨k + n, by omega, hr7, ⟨blk2, t, by rw [hqx.out]; exact HMS.out, by rw [hqx.out, hqn.out]; exact hb7⟩, hC9⟩
                  case measure => show m' < r; have := hmr.out; omega
                exact AllReady.nil
              exact AllReady.nil
            exact AllReady.nil
          refine AllReady.cons (o := ⟨some 46, _, _, _, _, none⟩) rfl (fun K hK => ?_) ?_
          · go_simp
            refine (words_any blk2 _ H64.out).mono ?_
            rintro e' w5 ⟨rfl, hB5⟩
            have hPd5 := hPd.below hB5
            refine hK _ _ ?_
            clear hK K
            try simp only [Act.put, List.setIfInBounds_toArray, List.set_cons_zero, List.set_cons_succ]
            refine wpAny_ready (rs := [4]) (by kernel_rfl) (by simp) ?_
            refine AllReady.cons (o := ⟨some 41, .load 126 (.tmp 40), _, _, _, none⟩) rfl (fun K hK => ?_) ?_
            · refine step_ld 126 (.tmp 40) (by rfl) (by rfl) (f := 0) (by rfl) (hPd5.blk.range 0 _ (mixC_st s blk2 _)) Tryd.underlying126 rfl size46 ?_
              refine hK _ _ ?_
              clear hK K
              simp only [Act.put, List.setIfInBounds_toArray, List.set_cons_zero, List.set_cons_succ]
              refine wpAny_ready (rs := [10]) (by kernel_rfl) (by simp) ?_
              refine AllReady.cons (o := ⟨some 47, _, _, _, _, none⟩) rfl (fun K hK => ?_) ?_
              · go_simp
                refine (mixed_b s t blk2 _ hPd5.ks Ht.out).mono ?_
                rintro e' w6 ⟨rfl, hB6⟩
                have hPd56 := hPd5.below hB6
                refine hK _ _ ?_
                clear hK K
                try simp only [Act.put, List.setIfInBounds_toArray, List.set_cons_zero, List.set_cons_succ]
                refine wpAny_take (i := 11) (oi := ⟨some 48, .nilCheck (.tmp 37), _, _, _, none⟩) (v := ?_) rfl (by kernel_rfl) (by kernel_rfl) (by kernel_rfl) (fun _ _ _ h => h) (Or.inl ⟨by rfl, ?_⟩) ?_
                rotate_left
                · intro w; go_simp; try with_reducible rfl
                simp only [Act.put, List.setIfInBounds_toArray, List.set_cons_zero, List.set_cons_succ]
                refine wpAny_take (i := 12) (oi := ⟨some 49, .fieldAddr 128 (.tmp 48) 0, _, _, _, none⟩) (v := ?_) rfl (by kernel_rfl) (by kernel_rfl) (by kernel_rfl) (fun _ _ _ h => h) (Or.inl ⟨by rfl, ?_⟩) ?_
                rotate_left
                · intro w; go_simp; try with_reducible rfl
                simp only [Act.put, List.setIfInBounds_toArray, List.set_cons_zero, List.set_cons_succ]
                refine wpAny_ready (rs := [13]) (by kernel_rfl) (by simp) ?_
                refine AllReady.cons (o := ⟨none, .store 126 (.tmp 49) (.tmp 47), _, _, _, none⟩) rfl (fun K hK => ?_) ?_
                · refine step_st 126 (.tmp 49) (.tmp 47) (by rfl) (by rfl) (by rfl) (f := 0) (by rfl) (l := wvs (s8l t)) (by rfl) hPd56.blk (by rw [wvs8, mixC_len _ _ _ H64.out]; omega) size46 (oneCell_wvs _) ?_
                  intro w7 hb7 hG7
                  have hP7 := hPd56
                  refine hK _ _ ?_
                  clear hK K
                  refine wpAny_done (by kernel_rfl) ?_ _
                  refine NoPanic.normal ?_
                  rw [mixC_st_set] at hb7
                  have hC7 : Ch (fun b => b = g) w3 _ := hP7.2.2.grow hG7 (by intro k hk; injection hk with hk; exact .inl hk.symm)
                  have hr7 := hr3.ch hC7 (fun b hb e => hF (e ▸ hb))
                  have hC9 := hC3.trans hC7
                  clear hC7 hP7 hG7
                  go_wp2
                  go_roundw
                  case rel => exact ⟨k + n, by omega, hr7, ⟨blk2, t, by rw [hqx.out]; exact HMS.out, by rw [hqx.out, hqn.out]; exact hb7⟩, hC9⟩
                  case measure => show m' < r; have := hmr.out; omega
                exact AllReady.nil
              exact AllReady.nil
            exact AllReady.nil
          exact AllReady.nil
        exact AllReady.nil
      · have hbf : (((q.length : Int) + (n : Int)) % 64 == 0) = false := by rw [beq_eq_false_iff_ne]; omega
        have hmn : m + n < 64 := by have := Hm.out; omega
        clear hful
        go_wp2_with (refine wp_st1 107 (.tmp 30) (.tmp 28) rfl rfl rfl (f := 72) rfl (v := .int .u64 ((q.length + n : Nat) : Int)) (congrArg (Value.int .u64) (by omega)) hb2 (by rw [mixC_len _ _ _ H64.out]; omega) size39 rfl rfl ?_; intro w3 hb3 hG3; rw [mixC_size_set _ _ _ _ H64.out] at hb3; have hcz3 := hb3.cellAt 72 _ (mixC_size s blk2 _ H64.out); clear hcz)
        have hC3 : Ch (fun b => b = g) w w3 := hC.trans (hC2.grow hG3 (by intro k hk; injection hk with hk; exact .inl hk.symm))
        have hr3 := Hcut.out.keep (F' := F) (w' := w3) (fun b hb hF' => ⟨hF', hG3.block b hb (by intro e; injection e with e; exact hF (e ▸ hF'))⟩)
        rw [hdr.out] at hr3
        have hMS := hms.part x (by rw [hxl.out, ← Hm.out]; exact hmn)
        rw [hxl.out, ← Hm.out, ← Hb2.out] at hMS
        go_roundw
        case rel => exact ⟨k + n, by omega, hr3, ⟨blk2, s, by rw [hqx.out]; exact hMS, by rw [hqx.out, hqn.out]; exact hb3⟩, hC3⟩
        case measure => show m' < r; have := hmr.out; omega
    · have hbk : k = bs.length := by omega
      rw [hbk, List.take_length] at hms hblk
      clear hbk
      go_wp2
      go_end0
      exact ⟨rfl, ⟨_, _, hms, hblk⟩, hC⟩
end Go.Proofs.YtmjpkdehkdpdpaaDoor
/- S5: contracts of the mixer's end, of digest. -/
namespace Go.Proofs.YtmjpkdehkdpdpaaDoor
open Go.RowKit Go.V

/-- the array rest, i bytes of the length in it -/
def restL (n bits i : Nat) : List UInt8 := 128 :: (List.replicate n 0 ++ ((fx 8 bits).take i ++ List.replicate (71 - n - i) 0))
theorem restL_len (n bits i : Nat) (hn : n < 64) (hi : i ≤ 8) : (restL n bits i).length = 72 := by
  simp [restL, len_fx]; omega
theorem restL_0 (n bits : Nat) (hn : n < 64) : (zs8 72).set 0 (.int .u8 128) = bvs (restL n bits 0) := by
  have e : restL n bits 0 = 128 :: List.replicate 71 0 := by
    unfold restL
    rw [List.take_zero, List.nil_append, List.replicate_append_replicate]
    congr 2
    omega
  rw [e]
  simp [zs8, bvs, List.replicate_succ, byteV]
theorem restL_set (n bits i : Nat) (hn : n < 64) (hi : i < 8) (c : UInt8) (hc : (fx 8 bits)[i]? = some c) : (bvs (restL n bits i)).set (1 + n + i) (byteV c) = bvs (restL n bits (i + 1)) := by
  rw [show (bvs (restL n bits i)).set (1 + n + i) (byteV c) = bvs ((restL n bits i).set (1 + n + i) c) from by simp [bvs, List.map_set]]
  congr 1
  unfold restL
  rw [show 1 + n + i = (n + i) + 1 from by omega, List.set_cons_succ, List.set_append_right _ _ (by simp), List.length_replicate, show n + i - n = i from by omega]
  congr 2
  have hl : ((fx 8 bits).take i).length = i := by simp [len_fx]; omega
  have hil : i < (fx 8 bits).length := by rw [len_fx]; exact hi
  rw [List.set_append_right _ _ (by omega), hl, Nat.sub_self, show 71 - n - i = (71 - n - (i + 1)) + 1 from by omega, List.replicate_succ, List.set_cons_zero, List.take_succ_eq_append_getElem hil]
  have : (fx 8 bits)[i] = c := by rw [List.getElem?_eq_getElem hil] at hc; injection hc
  rw [this]
  simp
theorem restL_take (n bits : Nat) (_hn : n < 64) : (restL n bits 8).take (9 + n) = 128 :: (List.replicate n 0 ++ fx 8 bits) := by
  unfold restL
  rw [show 9 + n = (n + 8) + 1 from by omega, List.take_succ_cons]
  congr 1
  rw [List.take_append, List.length_replicate, List.take_of_length_le (by simp), show n + 8 - n = 8 from by omega, List.take_of_length_le (by rw [len_fx]; omega : (fx 8 bits).length ≤ 8), List.take_append_of_le_length (by rw [len_fx]; omega), List.take_of_length_le (by rw [len_fx]; omega)]
theorem fx_at (n x i : Nat) (hi : i < n) : (fx n x)[i]? = some (UInt8.ofNat (x / 256 ^ (n - 1 - i) % 256)) := by
  simp [fx, hi]
theorem byte8 (x j : Nat) : Value.int .u8 ((x : Int) / 2 ^ (8 * j) % 256) = byteV (UInt8.ofNat (x / 256 ^ j % 256)) := by rw [fix_byte, byteV_of (by omega)]
theorem size66 : (Tryd.prog.info? 149).map (·.size) = some 72 := by kernel_rfl
theorem zero66 : (Tryd.prog.info? 149).map (·.zero) = some (some (.agg (zs8 72).toArray)) := by kernel_rfl
theorem Blk.rdcut {w : World} {b : Nat} {t : TypeId} {bs : List UInt8} (h : Blk w b t (bvs bs)) (m c : Nat) (hm : m ≤ bs.length) (h1 : m ≤ c) (h2 : c ≤ maxLen) : Rd w (fun k => k = b) (.slice (some ⟨b, 0, none⟩) m c) (bys (bs.take m)) := by
  have hl : (bs.take m).length = m := by rw [List.length_take]; omega
  unfold bys Rd
  refine ⟨_, c, by rw [hl], by rw [hl]; exact h1, h2, fun h0 => by rw [List.eq_nil_of_length_eq_zero h0]; rfl, fun _ => ⟨_, _, rfl, rfl, RdC.of_bytes fun j u hu => ?_⟩⟩
  rw [Nat.zero_add]
  refine h.cellAt j u ?_
  have hj := (List.getElem?_eq_some_iff.1 hu).1
  rw [len_bvs, hl] at hj
  have e : bvs (bs.take m) = (bvs bs).take m := by simp [bvs]
  rw [e, List.getElem?_take, if_pos hj] at hu
  exact hu

set_option maxRecDepth 100000 in
set_option maxHeartbeats 2000000 in
theorem end_any (g : Nat) (p : List UInt8) (w : World) (hK : KS w) (hM : MixR w g p) (hg : g ≠ 0) (hn : p.length < 288230376151711744) :
    Calls Tryd.prog 74 #[.pointer (some ⟨g, 0, none⟩)] w fun e w' => e = .returned (.tuple #[]) ∧ MixR w' g (pad p) ∧ Ch (fun b => b = g) w w' := by
  have hM' := hM
  obtain ⟨blk, s, hms, hblk⟩ := hM
  have hcs := hblk.cellAt 72 _ (mixC_size s blk _ hms.1)
  have hgl := hblk.lt
  obtain ⟨n, hn'⟩ : ∃ n, n = padN p.length := ⟨_, rfl⟩
  have hn64 : n < 64 := by rw [hn']; unfold padN; omega
  have hne : ((119 : Int) - (p.length : Int) % 64) % 64 = (n : Int) := by rw [hn']; unfold padN; omega
  have Hn := hid hn'
  clear hn'
  go_enter Tryd.func74, Tryd.ntmps74
  have hs1 := fun W => run_sla_l Tryd.underlying149 size8 w.heap.size 0 (1 + n) .u64 (1 + (n : Int)) (by omega) (by omega) W
  rw [Nat.zero_add] at hs1
  have hs2 := fun W => run_slh slB w.heap.size (1 + n) (72 - (1 + n)) (72 - (1 + n)) 8 .i64 8 rfl (by omega) (by omega) W
  have hs3 := fun W => run_sla_h Tryd.underlying149 size8 w.heap.size 0 (9 + n) .u64 (1 + (n : Int) + 8) (by omega) (by omega) (by omega) W
  have hB0 : Below w.heap.size w (w.alloc (.cells (zs8 72).toArray 149)) := (Below.refl _ _).alloc (Nat.le_refl _) _
  have hz := Blk.new' w 149 (zs8 72)
  go_wp2_with (first | (refine wp_new 149 rfl rfl zero66 ?_) | (refine wp_st1 5 (.tmp 19) (.const (.int .u8 128)) rfl rfl rfl (f := 0) rfl (v := .int .u8 128) rfl hz (by simp [zs8]) size8 rfl rfl ?_; intro w1 hb1 hG1))
  rw [restL_0 n (8 * p.length) hn64] at hb1
  have hB1 := hB0.grown hG1 (Nat.le_of_lt (by simp)) (by intro k hk; injection hk with hk; omega)
  clear hz hG1 hB0 hcs hs1 hs2 hne
  obtain ⟨bits, hbits⟩ : ∃ bits, bits = 8 * p.length := ⟨_, rfl⟩
  rw [show (8 * (p.length : Int)) = (bits : Int) from by omega]
  rw [← hbits] at hb1
  have hbl : bits < 18446744073709551616 := by omega
  have Hb := hid hbits
  clear hbits
  go_loopw [26] (fun iv wr => ∃ i : Nat, i ≤ 8 ∧ iv = .int .i64 i ∧ Blk wr w.heap.size 149 (bvs (restL n bits i)) ∧ Below w.heap.size w wr) (fun iv _ => 8 - (intOf iv).toNat)
  case atStart => exact ⟨0, by omega, rfl, hb1, hB1⟩
  case round =>
    obtain ⟨i, hi, rfl, hb, hB⟩ := hrel
    by_cases hil : i < 8
    · have hset := hid (restL_set n bits i hn64 hil _ (fx_at 8 bits i hil))
      go_wp2_with (refine wp_st1 5 (.tmp 37) (.tmp 36) rfl rfl rfl (f := 1 + n + i) rfl (v := byteV (UInt8.ofNat (bits / 256 ^ (8 - 1 - i) % 256))) (byte8 bits (7 - i)) hb (by rw [len_bvs, restL_len _ _ _ hn64 (by omega)]; omega) size8 rfl rfl ?_; intro w3 hb3 hG3)
      rw [hset.out] at hb3
      have hB3 := hB.grown hG3 hB.size (by intro k hk; injection hk with hk; omega)
      go_wp2
      go_roundw
      case rel => exact ⟨i + 1, by omega, by go_num, hb3, hB3⟩
      case measure => simp [intOf]; omega
    · have h8 : i = 8 := by omega
      subst h8
      have hr := Blk.rdcut hb (9 + n) 72 (by rw [restL_len _ _ _ hn64 (by omega)]; omega) (by omega) (by simp [maxLen])
      rw [restL_take _ _ hn64] at hr
      have hpad : Hid (p ++ 128 :: (List.replicate n 0 ++ fx 8 bits) = pad p) := by
        show _ = _
        rw [Hn.out, Hb.out]
        unfold pad
        simp
      have Hr := hid hr
      clear hr hb
      go_wp2_with (fail)
      refine (put_any g p _ _ _ _ (hK.below hB) (hM'.keep (hB.block g hgl)) Hr.out (by intro e; omega) hg (by simp [len_fx]; omega)).mono ?_
      rintro e' w5 ⟨rfl, hM5, hC5⟩
      rw [hpad.out] at hM5
      go_wp2
      go_end0
      exact ⟨rfl, hM5, ((Ch.of_below hB).weaken fun _ _ e => e.elim).trans hC5⟩
end Go.Proofs.YtmjpkdehkdpdpaaDoor
/- S6: contracts of digest, Sum, Pair, Chain, All. -/
namespace Go.Proofs.YtmjpkdehkdpdpaaDoor
open Go.RowKit Go.V
theorem size49 : (Tryd.prog.info? 128).map (·.size) = some 73 := by kernel_rfl
def zmix : List Value := mixC ⟨0, 0, 0, 0, 0, 0, 0, 0⟩ (List.replicate 64 0) 0
theorem zero49 : (Tryd.prog.info? 128).map (·.zero) = some (some (.agg zmix.toArray)) := by kernel_rfl
theorem build49 : ∀ W : World, (Instr.build 128 #[(0, .agg #[.int .u32 1779033703, .int .u32 3144134277, .int .u32 1013904242, .int .u32 2773480762, .int .u32 1359893119, .int .u32 2600822924, .int .u32 528734635, .int .u32 1541459225])]).run Tryd.prog W = .ok (.agg (mixC iv (List.replicate 64 0) 0).toArray) W := fun W => by kernel_rfl
theorem mixC_one (s : S8) (blk : List UInt8) (n : Nat) : ∀ v ∈ mixC s blk n, v.oneCell' = true := by
  intro v hv
  unfold mixC at hv
  rcases List.mem_append.1 hv with h | h
  · exact oneCell_wvs _ v h
  · rcases List.mem_append.1 h with h | h
    · exact oneCell_bvs _ v h
    · simp at h; subst h; rfl
theorem len_sha (p : List UInt8) : (shaF p).length = 32 := len_s8b _
theorem set25 (l : List UInt8) (hl : l.length = 32) : (zs8 32).take 0 ++ bvs l ++ (zs8 32).drop (0 + (bvs l).length) = bvs l := by simp [len_bvs, hl, zs8]
theorem flatten_take_succ (ts : List (List UInt8)) (i : Nat) (t : List UInt8) (h : ts[i]? = some t) : (ts.take (i + 1)).flatten = (ts.take i).flatten ++ t := by
  obtain ⟨hi, he⟩ := List.getElem?_eq_some_iff.1 h
  rw [List.take_succ_eq_append_getElem hi, he]
  simp
theorem flatten_take_le (ts : List (List UInt8)) (i : Nat) : (ts.take i).flatten.length ≤ ts.flatten.length := by
  have : ts.flatten = (ts.take i).flatten ++ (ts.drop i).flatten := by rw [← List.flatten_append, List.take_append_drop]
  rw [this, List.length_append]
  omega

set_option maxRecDepth 100000 in
set_option maxHeartbeats 2000000 in
theorem digest_any (v : Value) (ts : List (List UInt8)) (F0 : Nat → Prop) (w : World) (hK : KS w) (ht0 : Rd w F0 v (tx ts)) (hn : ts.flatten.length < 288230376151711744) :
    Calls Tryd.prog 65 #[v] w fun e w' => e = .returned (.agg (bvs (shaF ts.flatten)).toArray) ∧ Below w.heap.size w w' := by
  have ht := ht0.weak (F' := fun b => b < w.heap.size) (fun b hb _ => hb)
  clear ht0
  unfold tx at ht
  obtain ⟨A, c, rfl, hc1, hc2⟩ := ht.slShape
  unfold maxLen at hc2
  go_enter Tryd.func65, Tryd.ntmps65
  go_wp2_with (first | (refine wp_new 41 rfl rfl zero25 ?_) | (refine wp_bld 128 [(0, .tmp 6)] rfl rfl [(0, .agg #[.int .u32 1779033703, .int .u32 3144134277, .int .u32 1013904242, .int .u32 2773480762, .int .u32 1359893119, .int .u32 2600822924, .int .u32 528734635, .int .u32 1541459225])] rfl build49 ?_) | (refine wp_new 128 rfl rfl zero49 ?_) | (refine wp_st 128 (.tmp 3) (.tmp 7) rfl rfl rfl (f := 0) rfl (l := mixC iv (List.replicate 64 0) 0) rfl (Blk.new' (w.alloc (.cells (zs8 32).toArray 41)) 128 zmix) (by simp [zmix, mixC_len]) (by rw [mixC_len _ _ _ (by simp)]; exact size49) (mixC_one _ _ _) ?_; intro w1 hb1 hG1))
  have e1 : zmix.take 0 ++ mixC iv (List.replicate 64 0) 0 ++ zmix.drop (0 + (mixC iv (List.replicate 64 0) 0).length) = mixC iv (List.replicate 64 0) 0 := by
    rw [List.drop_of_length_le (by rw [mixC_len _ _ _ (by simp), zmix, mixC_len _ _ _ (by simp)]; omega)]
    simp
  rw [e1] at hb1
  clear e1
  have hm : (w.alloc (.cells (zs8 32).toArray 41)).heap.size = w.heap.size + 1 := by simp
  rw [hm] at hb1 hG1
  have hB1 : Below w.heap.size w w1 := (((Below.refl _ _).alloc (Nat.le_refl _) _).alloc (by simp) _).grown hG1 (by simp; omega) (by intro k hk; injection hk with hk; omega)
  have hz1 : Blk w1 w.heap.size 41 (zs8 32) := ((Blk.new' w 41 (zs8 32)).alloc (.cells zmix.toArray 128)).keep (hG1.block _ (by simp; omega) (by intro e; injection e with e; omega))
  have hM1 : MixR w1 (w.heap.size + 1) [] := ⟨_, iv, MS.nil _ (by simp), hb1⟩
  clear hm hG1 hb1
  have hks := hK.lt
  go_loopw [10] (fun iv wr => ∃ i : Nat, i ≤ ts.length ∧ iv = .int .i64 i ∧ MixR wr (w.heap.size + 1) (ts.take i).flatten ∧ Blk wr w.heap.size 41 (zs8 32) ∧ Below w.heap.size w wr) (fun iv _ => ts.length - (intOf iv).toNat)
  case atStart => exact ⟨0, by omega, rfl, by simpa using hM1, hz1, hB1⟩
  case round =>
    obtain ⟨i, hi, rfl, hM, hz, hB⟩ := hrel
    by_cases hil : i < ts.length
    · obtain ⟨ti, hti⟩ : ∃ t, ts[i]? = some t := ⟨_, List.getElem?_eq_getElem hil⟩
      obtain ⟨g, off, u, rfl, hgl, hcu, hru⟩ := (ht.below hB).elem i (bys ti) (by rw [List.getElem?_map, hti]; rfl)
      have hfl := hid (flatten_take_succ ts i ti hti)
      have hle := flatten_take_le ts (i + 1)
      rw [hfl.out, List.length_append] at hle
      clear hti
      go_wp2_with (fail)
      refine (put_any (w.heap.size + 1) _ ti u _ _ (hK.below hB) hM hru (by intro e; have : w.heap.size + 1 < w.heap.size := e; omega) (by omega) (by omega)).mono ?_
      rintro e' w5 ⟨rfl, hM5, hC5⟩
      rw [← hfl.out] at hM5
      have hB5 := Ch.below_of hB hC5 (fun k hk => by have : k = w.heap.size + 1 := hk; omega) hB.size
      have hz5 := hz.ch hC5 (by intro e; have : w.heap.size = w.heap.size + 1 := e; omega)
      go_wp2
      go_roundw
      case rel => exact ⟨i + 1, by omega, by go_num, hM5, hz5, hB5⟩
      case measure => simp [intOf]; omega
    · have hii : i = ts.length := by omega
      rw [hii, List.take_length] at hM
      clear hii
      go_wp2_with (fail)
      refine (end_any (w.heap.size + 1) _ _ (hK.below hB) hM (by omega) hn).mono ?_
      rintro e' w5 ⟨rfl, hM5, hC5⟩
      have hB5 := Ch.below_of hB hC5 (fun k hk => by have : k = w.heap.size + 1 := hk; omega) hB.size
      have hz5 := hz.ch hC5 (by intro e; have : w.heap.size = w.heap.size + 1 := e; omega)
      obtain ⟨blk, s, hms, hblk⟩ := hM5
      have hs : Hid (s8b s = shaF ts.flatten) := by show _ = _; rw [hms.2.2]; rfl
      clear hms hC5
      go_wp2_with (first | (refine wp_ld 126 (.tmp 18) rfl rfl rfl (hblk.range 0 _ (mixC_st s blk _)) Tryd.underlying126 rfl size46 ?_))
      refine (told_any s _).mono ?_
      rintro e' w6 ⟨rfl, hB6⟩
      have hz6 := hz5.below hB6
      have hB6' := hB5.trans (hB6.mono hB5.size)
      go_wp2_with (refine wp_st 41 (.tmp 2) (.tmp 20) rfl rfl rfl (f := 0) rfl (l := bvs (s8b s)) rfl hz6 (by simp [zs8, len_bvs, len_s8b]) (by rw [len_bvs, len_s8b]; exact size25) (oneCell_bvs _) ?_; intro w7 hb7 hG7)
      rw [set25 _ (len_s8b s)] at hb7
      refine ret_cell rfl rfl hb7.whole Tryd.underlying41 rfl (by rw [len_bvs, len_s8b]; exact size25) rfl ?_
      exact ⟨by rw [hs.out], hB6'.grown hG7 hB6'.size (by intro k hk; injection hk with hk; omega)⟩

end Go.Proofs.YtmjpkdehkdpdpaaDoor
