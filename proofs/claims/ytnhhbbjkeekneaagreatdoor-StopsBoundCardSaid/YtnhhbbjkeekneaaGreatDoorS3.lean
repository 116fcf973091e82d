/- S3: several texts in one (S2 S3). -/
import Derived.Test.YtnhhbbjkeekneaaGreatDoorS1
import Derived.Great.BuildSlice
import Derived.BigRegion
import Derived.IntWalk
/- S2: contracts of mixed and words. -/
namespace Go.Proofs.YtnhhbbjkeekneaaGreatDoor
open Go.RowKit Go.V

/-- the program's constants lie where they were laid -/
def KS (w : World) : Prop := w.rangeAt 0 0 (wvs kl)
theorem KS.at {w : World} (h : KS w) (k : Nat) (hk : k < 64) : w.cell? ⟨0, k, none⟩ = some (.int .u32 ((kc k).toNat : Int)) := by
  have := h k (u32V (kc k)) (wvs_at _ _ _ (by
    unfold kc
    rw [List.getD_eq_getElem?_getD, List.getElem?_eq_getElem (by simpa [kl] using hk)]
    rfl))
  rw [Nat.zero_add] at this
  exact this
theorem KS.keep {w w' : World} (h : KS w) (hc : w'.heap[(0 : Nat)]? = w.heap[(0 : Nat)]?) : KS w' := fun j v hv => (World.cell?_of_block hc).trans (h j v hv)
theorem KS.lt {w : World} (h : KS w) : 0 < w.heap.size := lt_of_cell (h.at 0 (by omega))
theorem KS.below {w w' : World} (h : KS w) (hB : Below w.heap.size w w') : KS w' := h.keep (hB.block _ h.lt)
theorem KS.drewN {w : World} (h : KS w) (n : Nat) : KS (w.drewN n) := h
theorem KS.drew {w : World} (h : KS w) : KS w.drew := h

theorem ones_u32 : (if IntKind.u32.signed = true then (-1 : Int) else IntKind.u32.max) = 4294967295 := rfl
theorem t_out (a b c d e f g h K X : UInt32) : ((((h.toNat : Int) + ((rotr e 6 ^^^ rotr e 11 ^^^ rotr e 25).toNat : Int) + (((e &&& f) ^^^ (~~~e &&& g)).toNat : Int) + (K.toNat : Int)) % 4294967296 + (X.toNat : Int)) % 4294967296) = ((tF ⟨a, b, c, d, e, f, g, h⟩ K X).toNat : Int) := by
  show _ = ((h + (rotr e 6 ^^^ rotr e 11 ^^^ rotr e 25) + ((e &&& f) ^^^ (~~~e &&& g)) + K + X).toNat : Int)
  rw [← add_out, ← add_out, ← add_out, ← add_out]
  omega
theorem u_out (a b c d e f g h : UInt32) : (((rotr a 2 ^^^ rotr a 13 ^^^ rotr a 22).toNat : Int) + (((a &&& b) ^^^ (a &&& c) ^^^ (b &&& c)).toNat : Int)) % 4294967296 = ((uF ⟨a, b, c, d, e, f, g, h⟩).toNat : Int) := add_out _ _

theorem rnds_s {ws : List UInt32} {s : S8} {k : Nat} {a b c d e f g h T U x : UInt32} (hs : rnds ws s k = ⟨a, b, c, d, e, f, g, h⟩) (hx : ws[k]? = some x) (hT : T = tF ⟨a, b, c, d, e, f, g, h⟩ (kc k) x) (hU : U = uF ⟨a, b, c, d, e, f, g, h⟩) :
    rnds ws s (k + 1) = ⟨T + U, a, b, c, d + T, e, f, g⟩ := by
  have : ws.getD k 0 = x := by rw [List.getD_eq_getElem?_getD, hx]; rfl
  rw [rnds, hs, this, hT, hU]
  rfl
/-- the first i words added, the others as they were -/
def addTo (s t : S8) (i : Nat) : List UInt32 := (s8l (addS s t)).take i ++ (s8l s).drop i
theorem addTo_len (s t : S8) (i : Nat) (h : i ≤ 8) : (addTo s t i).length = 8 := by simp [addTo, s8l]; omega
theorem addTo_step (s t : S8) (i : Nat) (h : i < 8) : ∃ x y, (s8l t)[i]? = some y ∧ (addTo s t i)[i]? = some x ∧ (addTo s t i).set i (x + y) = addTo s t (i + 1) := by
  obtain rfl | rfl | rfl | rfl | rfl | rfl | rfl | rfl : i = 0 ∨ i = 1 ∨ i = 2 ∨ i = 3 ∨ i = 4 ∨ i = 5 ∨ i = 6 ∨ i = 7 := by omega
  all_goals exact ⟨_, _, rfl, rfl, rfl⟩
theorem wvs_set (l : List UInt32) (i : Nat) (x : UInt32) : (wvs l).set i (u32V x) = wvs (l.set i x) := by simp [wvs, List.map_set]

set_option maxRecDepth 100000 in
set_option maxHeartbeats 2000000 in
theorem mixed_any (s : S8) (ws : List UInt32) (w : World) (hK : KS w) (hl : ws.length = 64) :
    Calls Tryz.prog 144 #[.agg (wvs (s8l s)).toArray, .agg (wvs ws).toArray] w fun e w' => e = .returned (.agg (wvs (s8l (addS s (rnds ws s 64)))).toArray) ∧ Below w.heap.size w w' := by
  have zero46 : (Tryz.prog.info? 181).map (·.zero) = some (some (.agg (zs32 8).toArray)) := by kernel_rfl
  go_enter Tryz.func144, Tryz.ntmps144
  go_wp2_with (refine wp_new 181 rfl rfl zero46 ?_)
  have b2 : Blk (((w.alloc (.cells (wvs (s8l s)).toArray 181)).alloc (.cells (wvs ws).toArray 194)).alloc (.cells (zs32 8).toArray 181)) w.heap.size 181 (wvs (s8l s)) := ((Blk.new' w 181 _).alloc _).alloc _
  have b3 : Blk (((w.alloc (.cells (wvs (s8l s)).toArray 181)).alloc (.cells (wvs ws).toArray 194)).alloc (.cells (zs32 8).toArray 181)) (w.heap.size + 1) 194 (wvs ws) := by
    have := (Blk.new' (w.alloc (.cells (wvs (s8l s)).toArray 181)) 194 (wvs ws)).alloc (.cells (zs32 8).toArray 181)
    simpa using this
  have b4 : Blk (((w.alloc (.cells (wvs (s8l s)).toArray 181)).alloc (.cells (wvs ws).toArray 194)).alloc (.cells (zs32 8).toArray 181)) (w.heap.size + 1 + 1) 181 (zs32 8) := by
    have := Blk.new' ((w.alloc (.cells (wvs (s8l s)).toArray 181)).alloc (.cells (wvs ws).toArray 194)) 181 (zs32 8)
    simpa using this
  have hB0 : Below w.heap.size w (((w.alloc (.cells (wvs (s8l s)).toArray 181)).alloc (.cells (wvs ws).toArray 194)).alloc (.cells (zs32 8).toArray 181)) :=
    (((Below.refl _ _).alloc (Nat.le_refl _) _).alloc (by simp) _).alloc (by simp; omega) _
  obtain ⟨w0, hw0⟩ : ∃ w0, w0 = (((w.alloc (.cells (wvs (s8l s)).toArray 181)).alloc (.cells (wvs ws).toArray 194)).alloc (.cells (zs32 8).toArray 181)) := ⟨_, rfl⟩
  rw [← hw0] at b2 b3 b4 hB0 ⊢
  clear hw0
  have c0 := b2.cellAt 0 _ rfl
  have c1 := b2.cellAt 1 _ rfl
  have c2 := b2.cellAt 2 _ rfl
  have c3 := b2.cellAt 3 _ rfl
  have c4 := b2.cellAt 4 _ rfl
  have c5 := b2.cellAt 5 _ rfl
  have c6 := b2.cellAt 6 _ rfl
  have c7 := b2.cellAt 7 _ rfl
  unfold u32V at c0 c1 c2 c3 c4 c5 c6 c7
  go_quiet (fail)
  go_wp2
  go_quiet (fail)
  go_wp2
  rw [World.drewN_drewN]
  clear c0 c1 c2 c3 c4 c5 c6 c7
  have hK0 : KS w0 := hK.below hB0
  go_loopw [5, 6, 7, 8, 9, 10, 11, 12, 34] (fun va vb vc vd ve vf vg vh kv wr => ∃ (k n : Nat) (a b c d e f g h : UInt32), k ≤ 64 ∧ kv = .int .i64 k ∧ va = .int .u32 (a.toNat : Int) ∧ vb = .int .u32 (b.toNat : Int) ∧ vc = .int .u32 (c.toNat : Int) ∧ vd = .int .u32 (d.toNat : Int) ∧ ve = .int .u32 (e.toNat : Int) ∧ vf = .int .u32 (f.toNat : Int) ∧ vg = .int .u32 (g.toNat : Int) ∧ vh = .int .u32 (h.toNat : Int) ∧ rnds ws s k = ⟨a, b, c, d, e, f, g, h⟩ ∧ wr = w0.drewN n) (fun _ _ _ _ _ _ _ _ kv _ => 64 - (intOf kv).toNat)
  case atStart => exact ⟨0, _, s.a, s.b, s.c, s.d, s.e, s.f, s.g, s.h, by omega, rfl, rfl, rfl, rfl, rfl, rfl, rfl, rfl, rfl, rfl, rfl⟩
  case round =>
    obtain ⟨k, n, a, b, c, d, e, f, g, h, hk, rfl, rfl, rfl, rfl, rfl, rfl, rfl, rfl, rfl, hst, rfl⟩ := hrel
    have Hst := hid hst
    clear hst
    by_cases hlt : k < 64
    · have hkc := (hK0.drewN n).at k hlt
      obtain ⟨x, hx⟩ : ∃ x, ws[k]? = some x := ⟨_, List.getElem?_eq_getElem (by omega)⟩
      have hwx := (b3.drewN n).cellAt k _ (wvs_at _ _ _ hx)
      unfold u32V at hwx
      have Hx := hid hx
      clear hx
      obtain ⟨W, hW⟩ : ∃ W, W = w0.drewN n := ⟨_, rfl⟩
      rw [← hW] at hkc hwx ⊢
      have HW := hid hW
      clear hW
      go_wp2
      go_quiet ((go_at_call 159; exact qz fun W => turned_l _ _ W (by omega) (by omega)))
      simp only [ones_u32, xor_out, and_out, not_out, Int.reduceToNat]
      rw [t_out a b c d]
      obtain ⟨T, hT⟩ : ∃ T, T = tF ⟨a, b, c, d, e, f, g, h⟩ (kc k) x := ⟨_, rfl⟩
      rw [← hT]
      have HT := hid hT
      clear hT
      go_wp2_with (go_at_call 159; refine (turned_l _ _ _ (by omega) (by omega)).mono ?_; rintro e' w' ⟨rfl, rfl⟩; simp only [Int.reduceToNat])
      simp only [xor_out, and_out]
      rw [u_out a b c d e f g h]
      obtain ⟨U, hU⟩ : ∃ U, U = uF ⟨a, b, c, d, e, f, g, h⟩ := ⟨_, rfl⟩
      rw [← hU]
      have HU := hid hU
      clear hU
      go_roundw
      case rel => exact ⟨k + 1, _, T + U, a, b, c, d + T, e, f, g, by omega, by go_num, congrArg _ (add_out T U), rfl, rfl, rfl, congrArg _ (add_out d T), rfl, rfl, rfl, rnds_s Hst.out Hx.out HT.out HU.out, by rw [HW.out, World.drewN_drewN]⟩
      case measure => simp [intOf]; omega
    · have earr : (#[.int .u32 (a.toNat : Int), .int .u32 (b.toNat : Int), .int .u32 (c.toNat : Int), .int .u32 (d.toNat : Int), .int .u32 (e.toNat : Int), .int .u32 (f.toNat : Int), .int .u32 (g.toNat : Int), .int .u32 (h.toNat : Int)] : Array Value) = (wvs (s8l ⟨a, b, c, d, e, f, g, h⟩)).toArray := rfl
      have Hearr := hid earr
      clear earr
      have hfin : Hid (rnds ws s 64 = ⟨a, b, c, d, e, f, g, h⟩) := by
        show _ = _
        have : k = 64 := by omega
        rw [← this, Hst.out]
      have B2 := b2.drewN n
      have B4 := b4.drewN n
      have HB := Go.below_drewN hB0 n
      obtain ⟨W, hW⟩ : ∃ W, W = w0.drewN n := ⟨_, rfl⟩
      rw [← hW] at B2 B4 ⊢
      have HB' : Below w.heap.size w W := by rw [hW]; exact ⟨hB0.os, hB0.tape, hB0.output, hB0.size, hB0.block⟩
      clear hW HB
      go_wp2
      rw [Hearr.out]
      obtain ⟨st, hst⟩ : ∃ st : S8, st = ⟨a, b, c, d, e, f, g, h⟩ := ⟨_, rfl⟩
      rw [← hst]
      have hfin : Hid (rnds ws s 64 = st) := by show _ = _; rw [hst]; exact hfin.out
      clear hst Hearr
      go_loopw [106] (fun iv wr => ∃ i : Nat, i ≤ 8 ∧ iv = .int .i64 i ∧ Blk wr w.heap.size 181 (wvs (addTo s st i)) ∧ Blk wr (w.heap.size + 1 + 1) 181 (zs32 8) ∧ Below w.heap.size w wr) (fun iv _ => 8 - (intOf iv).toNat)
      case atStart => exact ⟨0, by omega, rfl, B2, B4, HB'⟩
      case round =>
        obtain ⟨i, hi, rfl, g2, g4, gB⟩ := hrel
        by_cases hil : i < 8
        · obtain ⟨x, y, hy, hx, hset⟩ := addTo_step s st i hil
          have hcx := g2.cellAt i _ (wvs_at _ _ _ hx)
          have hvy := wvs_at _ _ _ hy
          unfold u32V at hcx hvy
          have Hset := hid hset
          clear hx hy hset
          go_wp2_with (first | (refine wp_idx 181 (.tmp 105) (.tmp 106) rfl rfl rfl rfl Tryz.underlying181 hil Tryz.isAgg130 size32 hvy ?_) | (refine wp_st1 130 (.tmp 115) (.tmp 114) rfl rfl rfl (f := i) rfl (v := u32V (x + y)) (congrArg (Value.int .u32) (add_out x y)) g2 (by rw [len_wvs, addTo_len _ _ _ (by omega)]; omega) size32 rfl rfl ?_; intro w3 g2' hG3))
          rw [wvs_set, Hset.out] at g2'
          have g4' := g4.keep (hG3.block _ g4.lt (by intro e; injection e with e; omega))
          have gB' := gB.grown hG3 gB.size (by intro k hk; simp at hk; omega)
          go_roundw
          case rel => exact ⟨i + 1, by omega, by go_num, g2', g4', gB'⟩
          case measure => simp [intOf]; omega
        · have h8 : i = 8 := by omega
          subst h8
          have ha : addTo s st 8 = s8l (addS s st) := rfl
          rw [ha] at g2
          clear ha
          go_wp2_with (first | (refine wp_ld 181 (.tmp 2) rfl rfl rfl g2.whole Tryz.underlying181 rfl size46 ?_) | (refine wp_st 181 (.tmp 4) (.tmp 117) rfl rfl rfl rfl rfl g4 (by simp [zs32, len_wvs, s8l]) size46 (oneCell_wvs _) ?_; intro w2 h2' hG2))
          refine ret_cell rfl rfl h2'.whole Tryz.underlying181 rfl size46 rfl ?_
          refine ⟨?_, gB.grown hG2 gB.size (by intro k hk; simp at hk; omega)⟩
          rw [hfin.out]
          rfl

theorem wl_len (b : List UInt8) : ∀ k, (wl b k).length = k
  | 0 => rfl
  | k + 1 => by rw [wl, snw, List.length_append, wl_len b k]; rfl
theorem wl_s (b : List UInt8) (k : Nat) : wl b (k + 1) = wl b k ++ [if k < 16 then be4 b k else nxw (wl b k) k] := rfl
/-- 64 words, the first k of them known, the rest noughts -/
def part64 (b : List UInt8) (k : Nat) : List Value := wvs (wl b k) ++ zs32 (64 - k)
theorem part64_len (b : List UInt8) (k : Nat) (h : k ≤ 64) : (part64 b k).length = 64 := by simp [part64, len_wvs, wl_len, zs32]; omega
theorem part64_set (b : List UInt8) (k : Nat) (h : k < 64) (x : UInt32) (hx : x = if k < 16 then be4 b k else nxw (wl b k) k) : (part64 b k).set k (u32V x) = part64 b (k + 1) := by
  unfold part64
  rw [List.set_append_right _ _ (by rw [len_wvs, wl_len]; omega), len_wvs, wl_len, Nat.sub_self, zs32, show 64 - k = (64 - (k + 1)) + 1 from by omega, List.replicate_succ, List.set_cons_zero, wl_s, ← hx]
  simp [wvs, zs32]
theorem part64_at (b : List UInt8) (k j : Nat) (hj : j < k) : (part64 b k)[j]? = some (u32V ((wl b k).getD j 0)) := by
  unfold part64
  rw [List.getElem?_append_left (by rw [len_wvs, wl_len]; exact hj)]
  refine wvs_at _ _ _ ?_
  rw [List.getD_eq_getElem?_getD, List.getElem?_eq_getElem (by rw [wl_len]; exact hj)]
  rfl
theorem part64_end (b : List UInt8) : part64 b 64 = wvs (wl b 64) := by simp [part64, zs32]
end Go.Proofs.YtnhhbbjkeekneaaGreatDoor
/- S3: contract of words. -/
namespace Go.Proofs.YtnhhbbjkeekneaaGreatDoor
open Go.RowKit Go.V
set_option maxRecDepth 100000 in
set_option maxHeartbeats 2000000 in
theorem words_any (b : List UInt8) (w : World) (hl : b.length = 64) :
    Calls Tryz.prog 145 #[.agg (bvs b).toArray] w fun e w' => e = .returned (.agg (wvs (wl b 64)).toArray) ∧ Below w.heap.size w w' := by
  go_enter Tryz.func145, Tryz.ntmps145
  go_wp2_with (refine wp_new 194 rfl rfl zero64 ?_)
  have b1 : Blk (((w.alloc (.cells (bvs b).toArray 135)).alloc (.cells (zs32 64).toArray 194)).alloc (.cells (zs32 64).toArray 194)) w.heap.size 135 (bvs b) := ((Blk.new' w 135 _).alloc _).alloc _
  have b2 : Blk (((w.alloc (.cells (bvs b).toArray 135)).alloc (.cells (zs32 64).toArray 194)).alloc (.cells (zs32 64).toArray 194)) (w.heap.size + 1) 194 (zs32 64) := by
    have := (Blk.new' (w.alloc (.cells (bvs b).toArray 135)) 194 (zs32 64)).alloc (.cells (zs32 64).toArray 194)
    simpa using this
  have b3 : Blk (((w.alloc (.cells (bvs b).toArray 135)).alloc (.cells (zs32 64).toArray 194)).alloc (.cells (zs32 64).toArray 194)) (w.heap.size + 1 + 1) 194 (part64 b 0) := by
    show Blk _ _ _ (zs32 64)
    have := Blk.new' ((w.alloc (.cells (bvs b).toArray 135)).alloc (.cells (zs32 64).toArray 194)) 194 (zs32 64)
    simpa using this
  have hB0 : Below w.heap.size w (((w.alloc (.cells (bvs b).toArray 135)).alloc (.cells (zs32 64).toArray 194)).alloc (.cells (zs32 64).toArray 194)) :=
    (((Below.refl _ _).alloc (Nat.le_refl _) _).alloc (by simp) _).alloc (by simp; omega) _
  obtain ⟨w0, hw0⟩ : ∃ w0, w0 = (((w.alloc (.cells (bvs b).toArray 135)).alloc (.cells (zs32 64).toArray 194)).alloc (.cells (zs32 64).toArray 194)) := ⟨_, rfl⟩
  rw [← hw0] at b1 b2 b3 hB0 ⊢
  clear hw0
  go_loopw [11] (fun iv wr => ∃ i : Nat, i ≤ 16 ∧ iv = .int .i64 i ∧ Blk wr w.heap.size 135 (bvs b) ∧ Blk wr (w.heap.size + 1) 194 (zs32 64) ∧ Blk wr (w.heap.size + 1 + 1) 194 (part64 b i) ∧ Below w.heap.size w wr) (fun iv _ => 16 - (intOf iv).toNat)
  case atStart => exact ⟨0, by omega, rfl, b1, b2, b3, hB0⟩
  case round =>
    obtain ⟨i, hi, rfl, g1, g2, g3, gB⟩ := hrel
    by_cases hil : i < 16
    · have hs1 := fun W => run_sla_l Tryz.underlying135 size8 w.heap.size 0 (4 * i) .i64 (4 * (i : Int)) (by omega) (by omega) W
      rw [Nat.zero_add] at hs1
      have hs2 := fun W => run_slh slB w.heap.size (4 * i) (64 - 4 * i) (64 - 4 * i) 4 .i64 4 rfl (by omega) (by omega) W
      go_wp2
      obtain ⟨x0, hx0⟩ : ∃ x, b[4 * i]? = some x := ⟨_, List.getElem?_eq_getElem (by omega)⟩
      obtain ⟨x1, hx1⟩ : ∃ x, b[4 * i + 1]? = some x := ⟨_, List.getElem?_eq_getElem (by omega)⟩
      obtain ⟨x2, hx2⟩ : ∃ x, b[4 * i + 2]? = some x := ⟨_, List.getElem?_eq_getElem (by omega)⟩
      obtain ⟨x3, hx3⟩ : ∃ x, b[4 * i + 3]? = some x := ⟨_, List.getElem?_eq_getElem (by omega)⟩
      have c0 := g1.cellAt _ _ (bvs_at _ _ _ hx0)
      have c1 := g1.cellAt _ _ (bvs_at _ _ _ hx1)
      have c2 := g1.cellAt _ _ (bvs_at _ _ _ hx2)
      have c3 := g1.cellAt _ _ (bvs_at _ _ _ hx3)
      unfold byteV at c0 c1 c2 c3
      have d0 := hid hx0
      have d1 := hid hx1
      have d2 := hid hx2
      have d3 := hid hx3
      have l0 := x0.toNat_lt
      have l1 := x1.toNat_lt
      have l2 := x2.toNat_lt
      have l3 := x3.toNat_lt
      clear hx0 hx1 hx2 hx3 hs1 hs2
      refine wp_region_tail 23 (by kernel_rfl) (by kernel_rfl) ?_
      simp only [List.take_succ_cons, List.take_zero, List.drop_succ_cons, List.drop_zero]
      repeat still_step
      refine wpStill_nil ?_
      simp only [be_out d0.out d1.out d2.out d3.out]
      have Hs := hid (part64_set b i (by omega) (be4 b i) (by rw [if_pos hil]))
      have g3d := g3.drew
      go_wp2_with (refine wp_st1 130 (.tmp 41) (.tmp 40) rfl rfl rfl (f := i) rfl (v := u32V (be4 b i)) rfl g3d (by rw [part64_len _ _ (by omega)]; omega) size32 rfl rfl ?_; intro w3 g3' hG3)
      rw [Hs.out] at g3'
      have gB' : Below w.heap.size w w3 := gB.drew.grown hG3 gB.size (by intro k hk; injection hk with hk; omega)
      have g1' := g1.drew.keep (hG3.block _ g1.lt (by intro e; injection e with e; omega))
      have g2' := g2.drew.keep (hG3.block _ g2.lt (by intro e; injection e with e; omega))
      go_roundw
      case rel => exact ⟨i + 1, by omega, by go_num, g1', g2', g3', gB'⟩
      case measure => simp [intOf]; omega
    · have h16 : i = 16 := by omega
      subst h16
      clear hil
      rw [show ((16 : Nat) : Int) = 16 from rfl]
      go_wp2
      go_loopw [6] (fun iv wr => ∃ i : Nat, 16 ≤ i ∧ i ≤ 64 ∧ iv = .int .i64 i ∧ Blk wr (w.heap.size + 1) 194 (zs32 64) ∧ Blk wr (w.heap.size + 1 + 1) 194 (part64 b i) ∧ Below w.heap.size w wr) (fun iv _ => 64 - (intOf iv).toNat)
      case atStart => exact ⟨16, by omega, by omega, rfl, g2, g3, gB⟩
      case round =>
        obtain ⟨i, hi16, hi, rfl, g2, g3, gB⟩ := hrel
        by_cases hil : i < 64
        · obtain ⟨A, hA⟩ : ∃ A, A = (wl b i).getD (i - 15) 0 := ⟨_, rfl⟩
          obtain ⟨B, hB⟩ : ∃ B, B = (wl b i).getD (i - 2) 0 := ⟨_, rfl⟩
          obtain ⟨C, hC⟩ : ∃ C, C = (wl b i).getD (i - 7) 0 := ⟨_, rfl⟩
          obtain ⟨D, hD⟩ : ∃ D, D = (wl b i).getD (i - 16) 0 := ⟨_, rfl⟩
          have cA := g3.cellAt _ _ (part64_at b i (i - 15) (by omega))
          have cB := g3.cellAt _ _ (part64_at b i (i - 2) (by omega))
          have cC := g3.cellAt _ _ (part64_at b i (i - 7) (by omega))
          have cD := g3.cellAt _ _ (part64_at b i (i - 16) (by omega))
          unfold u32V at cA cB cC cD
          rw [← hA] at cA
          rw [← hB] at cB
          rw [← hC] at cC
          rw [← hD] at cD
          have Hs := hid (part64_set b i hil (sg1 B + C + sg0 A + D) (by rw [if_neg (by omega), hA, hB, hC, hD]; rfl))
          clear hA hB hC hD
          have HC := hid cC
          have HD := hid cD
          clear cC cD
          have eA : ((i : Int) - 15).toNat = i - 15 := by omega
          have eB : ((i : Int) - 2).toNat = i - 2 := by omega
          go_wp2
          have wA : IntKind.i64.wrap ((i : Int) - 15) = (i : Int) - 15 := IntWalk.i64_in _ (by omega)
          have wB : IntKind.i64.wrap ((i : Int) - 2) = (i : Int) - 2 := IntWalk.i64_in _ (by omega)
          have nA : (0 : Int) ≤ (i : Int) - 15 := by omega
          have nB : (0 : Int) ≤ (i : Int) - 2 := by omega
          have bA : (i : Int) - 15 < 64 := by omega
          have bB : (i : Int) - 2 < 64 := by omega
          go_quiet (fail)
          clear wA wB nA nB bA bB eA eB cA cB
          go_wp2_with (go_at_call 159; refine (turned_l _ _ _ (by omega) (by omega)).mono ?_; rintro e' w' ⟨rfl, rfl⟩; simp only [Int.reduceToNat])
          have e0 : bits BinOp.xor IntKind.u32 (bits BinOp.xor IntKind.u32 ((rotr A 7).toNat : Int) ((rotr A 18).toNat : Int)) ((A.toNat : Int) / 8) = ((sg0 A).toNat : Int) := by rw [xor_out, shr3, xor_out]; rfl
          have e1 : bits BinOp.xor IntKind.u32 (bits BinOp.xor IntKind.u32 ((rotr B 17).toNat : Int) ((rotr B 19).toNat : Int)) ((B.toNat : Int) / 1024) = ((sg1 B).toNat : Int) := by rw [xor_out, shr10, xor_out]; rfl
          rw [e0, e1]
          clear e0 e1
          obtain ⟨W, hW⟩ : ∃ W, W = wr.drewN nq := ⟨_, rfl⟩
          have k2 : Blk W (w.heap.size + 1) 194 (zs32 64) := by rw [hW]; exact g2
          have k3 : Blk W (w.heap.size + 1 + 1) 194 (part64 b i) := by rw [hW]; exact g3
          have kB : Below w.heap.size w W := by rw [hW]; exact ⟨gB.os, gB.tape, gB.output, gB.size, gB.block⟩
          have cC : W.cell? ⟨w.heap.size + 1 + 1, i - 7, none⟩ = some (.int .u32 (C.toNat : Int)) := by rw [hW]; exact HC.out
          have cD : W.cell? ⟨w.heap.size + 1 + 1, i - 16, none⟩ = some (.int .u32 (D.toNat : Int)) := by rw [hW]; exact HD.out
          rw [← hW]
          clear hW
          have eA : ((i : Int) - 7).toNat = i - 7 := by omega
          have eB : ((i : Int) - 16).toNat = i - 16 := by omega
          have wA : IntKind.i64.wrap ((i : Int) - 7) = (i : Int) - 7 := IntWalk.i64_in _ (by omega)
          have wB : IntKind.i64.wrap ((i : Int) - 16) = (i : Int) - 16 := IntWalk.i64_in _ (by omega)
          have nA : (0 : Int) ≤ (i : Int) - 7 := by omega
          have nB : (0 : Int) ≤ (i : Int) - 16 := by omega
          have bA : (i : Int) - 7 < 64 := by omega
          have bB : (i : Int) - 16 < 64 := by omega
          have mA : (7 : Int) ≤ (i : Int) := by omega
          have mB : (16 : Int) ≤ (i : Int) := by omega
          refine wp_region_tail 14 (by kernel_rfl) (by kernel_rfl) ?_
          simp only [List.take_succ_cons, List.take_zero, List.drop_succ_cons, List.drop_zero]
          repeat still_step
          refine wpStill_nil ?_
          clear wA wB nA nB bA bB eA eB cC cD mA mB
          simp only [wadd_out]
          have k3d := k3.drew
          go_wp2_with (refine wp_st1 130 (.tmp 85) (.tmp 84) rfl rfl rfl (f := i) rfl (v := u32V (sg1 B + C + sg0 A + D)) rfl k3d (by rw [part64_len _ _ (by omega)]; omega) size32 rfl rfl ?_; intro w3 k3' hG3)
          rw [Hs.out] at k3'
          have kB' : Below w.heap.size w w3 := kB.drew.grown hG3 kB.size (by intro k hk; injection hk with hk; omega)
          have k2' := k2.drew.keep (hG3.block _ k2.lt (by intro e; injection e with e; omega))
          go_wp2
          go_roundw
          case rel => exact ⟨i + 1, by omega, by omega, by go_num, k2', k3', kB'⟩
          case measure => simp [intOf]; omega
        · have h64 : i = 64 := by omega
          subst h64
          rw [part64_end] at g3
          go_wp2_with (first | (refine wp_ld 194 (.tmp 3) rfl rfl rfl g3.whole Tryz.underlying194 rfl (by rw [len_wvs, wl_len]; exact size64) ?_) | (refine wp_st 194 (.tmp 2) (.tmp 86) rfl rfl rfl rfl rfl g2 (by simp [zs32, len_wvs, wl_len]) (by rw [len_wvs, wl_len]; exact size64) (oneCell_wvs _) ?_; intro w2 h2' hG2))
          have e64 : (zs32 64).take 0 ++ wvs (wl b 64) ++ (zs32 64).drop (0 + (wvs (wl b 64)).length) = wvs (wl b 64) := by simp [len_wvs, wl_len, zs32]
          rw [e64] at h2'
          refine ret_cell rfl rfl h2'.whole Tryz.underlying194 rfl (by rw [len_wvs, wl_len]; exact size64) rfl ?_
          exact ⟨rfl, gB.grown hG2 gB.size (by intro k hk; simp at hk; omega)⟩
end Go.Proofs.YtnhhbbjkeekneaaGreatDoor
