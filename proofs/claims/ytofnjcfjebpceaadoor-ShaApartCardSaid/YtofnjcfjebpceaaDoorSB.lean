/- SB: contracts of the document's All and Chain. -/
import Derived.Test.YtofnjcfjebpceaaDoorSA
namespace Go.Proofs.YtofnjcfjebpceaaDoor
open Go.RowKit Go.V

set_option maxRecDepth 100000 in
set_option maxHeartbeats 1000000 in
theorem ref_all_any (v : Value) (ts : List (List UInt8)) (F0 : Nat → Prop) (w : World) (ht0 : Rd w F0 v (tx ts)) (hs : ∀ t ∈ ts, t.length ≤ 17592186044416) (hc : ts.length ≤ 1000) (hn : (ts.map tt).flatten.length ≤ 8796093022208) :
    Calls Tryd.prog 12 #[v] w fun e w' => e = .returned (.agg (bvs (shaF (ts.map tt).flatten)).toArray) ∧ Below w.heap.size w w' := by
  have ht := ht0.weak (F' := fun b => b < w.heap.size) (fun b hb _ => hb)
  clear ht0
  unfold tx at ht
  obtain ⟨A, c, rfl, hc1, hc2⟩ := ht.slShape
  have b0 : Blk (w.alloc (.cells (zs8 32).toArray 25)) w.heap.size 25 (zs8 32) := Blk.new' w 25 _
  have hB0 : Below w.heap.size w (w.alloc (.cells (zs8 32).toArray 25)) := (Below.refl _ _).alloc (Nat.le_refl _) _
  go_enter Tryd.func12, Tryd.ntmps12
  go_wp2_with (refine wp_new 25 rfl rfl zero25 ?_)
  go_loopw [3, 4] (fun bv iv wr => ∃ i : Nat, i ≤ ts.length ∧ iv = .int .i64 i ∧ wr.ownsRow (w.heap.size + 1) 5 1 bv ((ts.take i).map tt).flatten.length (bvs ((ts.take i).map tt).flatten) ∧ Blk wr w.heap.size 25 (zs8 32) ∧ Below w.heap.size w wr) (fun _ iv _ => ts.length - (intOf iv).toNat)
  case atStart => exact ⟨0, by omega, rfl, World.ownsRow_nil _ _ _ _, b0, hB0⟩
  case round =>
    clear b0 hB0
    obtain ⟨i, hi, rfl, ho, hb, hB⟩ := hrel
    have hbl := hb.lt
    by_cases hil : i < ts.length
    · obtain ⟨ti, hti⟩ : ∃ t, ts[i]? = some t := ⟨_, List.getElem?_eq_getElem hil⟩
      obtain ⟨g, off, u, rfl, hgl, hcu, hru⟩ := (ht.below hB).elem i (bys ti) (by rw [List.getElem?_map, hti]; rfl)
      have hsi := hs ti (List.mem_of_getElem? hti)
      have hfl : Hid (((ts.take (i + 1)).map tt).flatten = ((ts.take i).map tt).flatten ++ tt ti) := by
        show _ = _
        rw [map_take_succ ts i ti hti]
        simp
      have hle : ((ts.take (i + 1)).map tt).flatten.length ≤ (ts.map tt).flatten.length := by
        rw [List.map_take]
        exact flatten_take_le _ _
      rw [hfl.out, List.length_append] at hle
      obtain ⟨X, hX⟩ : ∃ X, X = ((ts.take i).map tt).flatten := ⟨_, rfl⟩
      rw [← hX] at ho hfl hle
      obtain ⟨L, hL⟩ : ∃ L, L = (tt ti).length := ⟨_, rfl⟩
      rw [← hL] at hle
      have HX := hid hX
      have HL := hid hL
      clear hti hX hL
      obtain ⟨N, hN⟩ : ∃ N, N = X.length := ⟨_, rfl⟩
      rw [← hN] at ho hle
      have HN := hid hN
      clear hN
      go_wp2_with (fail)
      refine (reft_any u ti _ _ hru hsi).mono ?_
      rintro e w3 ⟨v3, rfl, hn3⟩
      have hB3 := hB.trans (hn3.2.mono hB.size)
      have hb3 := hb.below hn3.2
      have ho3 := own_keepB ho hn3.2
      have ho5 : w3.ownsRow wr.heap.size 5 1 v3 L (bvs (tt ti)) := by rw [HL.out]; exact hn3.1
      have hr5 := Rd.of_own ho5
      obtain ⟨A3, c3, rfl⟩ := own_shape ho5
      have hs5 : Src w3 A3 L (bvs (tt ti)) := by rw [HL.out] at hr5 ⊢; exact hr5.src
      clear hn3 hr5
      go_wp2_with (refine wp_app (.tmp 11) (.tmp 16) slB rfl rfl rfl ho3 rfl hs5 (oneCell_bvs _) (by simp only [maxLen]; omega) (by omega) (by have := hB3.size; have := hb3.lt; omega) ?_; intro v4 w4 ho4 hG4 _; refine wp_stop ?_)
      have hB4 := hB3.grown hG4 hB3.size (fun k hk => by have := (ho3.lt k hk).1; omega)
      have hb4 := hb3.keep (hG4.block _ hb3.lt (fun e => by have := (ho3.lt _ e.symm).1; omega))
      have ho6 : w4.ownsRow (w.heap.size + 1) 5 1 v4 ((ts.take (i + 1)).map tt).flatten.length (bvs ((ts.take (i + 1)).map tt).flatten) := by
        rw [hfl.out, List.length_append, ← HN.out, ← HL.out, show bvs (X ++ tt ti) = bvs X ++ bvs (tt ti) from by simp [bvs]]
        exact ho4
      refine wp_go ?_
      go_wp2
      go_roundw
      case rel => exact ⟨i + 1, by omega, by go_num, ho6, hb4, hB4⟩
      case measure => simp [intOf]; omega
    · have hii : i = ts.length := by omega
      rw [hii, List.take_length] at ho
      clear hii
      have hr := Rd.of_own ho
      go_wp2_with (fail)
      refine (rsum_any _ _ _ _ hr (by omega)).mono ?_
      rintro e w3 ⟨rfl, hB3⟩
      have hb3 := hb.below hB3
      have hB3' := hB.trans (hB3.mono hB.size)
      go_wp2_with (refine wp_st 25 (.tmp 2) (.tmp 19) rfl rfl rfl (f := 0) rfl (l := bvs (shaF (ts.map tt).flatten)) rfl hb3 (by simp [zs8, len_bvs, len_sha]) (by rw [len_bvs, len_sha]; exact size25) (oneCell_bvs _) ?_; intro w7 hb7 hG7)
      rw [set25 _ (len_sha _)] at hb7
      refine ret_cell rfl rfl hb7.whole und25 rfl (by rw [len_bvs, len_sha]; exact size25) rfl ?_
      exact ⟨rfl, hB3'.grown hG7 hB3'.size (by intro k hk; injection hk with hk; omega)⟩

set_option maxRecDepth 100000 in
set_option maxHeartbeats 1000000 in
theorem ref_chain_any (h : List UInt8) (n : Int) (w : World) (hl : h.length = 32) (h1 : -9223372036854775808 ≤ n) (h2 : n ≤ 9223372036854775807) :
    Calls Tryd.prog 16 #[.agg (bvs h).toArray, .int .i64 n] w fun e w' => e = .returned (.agg (bvs (chF h (min n 4096).toNat)).toArray) ∧ Below w.heap.size w w' := by
  have b0 : Blk ((w.alloc (.cells (bvs h).toArray 25)).alloc (.cells (zs8 32).toArray 25)) w.heap.size 25 (bvs h) := (Blk.new' w 25 _).alloc _
  have b1 : Blk ((w.alloc (.cells (bvs h).toArray 25)).alloc (.cells (zs8 32).toArray 25)) (w.heap.size + 1) 25 (zs8 32) := by
    have := Blk.new' (w.alloc (.cells (bvs h).toArray 25)) 25 (zs8 32)
    simpa using this
  have hB0 : Below w.heap.size w ((w.alloc (.cells (bvs h).toArray 25)).alloc (.cells (zs8 32).toArray 25)) := ((Below.refl _ _).alloc (Nat.le_refl _) _).alloc (by simp) _
  obtain ⟨M, hM⟩ : ∃ M : Int, M = min n 4096 := ⟨_, rfl⟩
  have hM1 : M ≤ 4096 := by omega
  have hM2 : 4096 < n → M = 4096 := by omega
  have hM3 : ¬ 4096 < n → M = n := by omega
  have HM := hid hM
  rw [← hM]
  clear hM
  go_enter Tryd.func16, Tryd.ntmps16
  by_cases hc : 4096 < n
  all_goals
    first | have hMn := hid (hM2 hc) | have hMn := hid (hM3 hc)
    clear hM2 hM3
    go_wp2_with (refine wp_new 25 rfl rfl zero25 ?_)
    first | rw [show (4096 : Int) = M from hMn.out.symm] | rw [show n = M from hMn.out.symm]
    obtain ⟨w0, hw0⟩ : ∃ w0, w0 = ((w.alloc (.cells (bvs h).toArray 25)).alloc (.cells (zs8 32).toArray 25)) := ⟨_, rfl⟩
    rw [← hw0] at b0 b1 hB0 ⊢
    clear hw0
    go_loopw [5] (fun kv wr => ∃ k : Nat, k ≤ M.toNat ∧ kv = .int .i64 k ∧ Blk wr w.heap.size 25 (bvs (chF h k)) ∧ Blk wr (w.heap.size + 1) 25 (zs8 32) ∧ Below w.heap.size w wr) (fun kv _ => M.toNat - (intOf kv).toNat)
    case atStart => exact ⟨0, by omega, rfl, b0, b1, hB0⟩
    case round =>
      obtain ⟨k, hk, rfl, c0, c1, hB⟩ := hrel
      have hck := hid (len_ch h hl k)
      have hck1 := hid (len_ch h hl (k + 1))
      by_cases hlt : (k : Int) < M
      · go_wp2_with (refine wp_ld 25 (.tmp 2) rfl rfl rfl c0.whole und25 rfl (by rw [len_bvs, hck.out]; exact size25) ?_)
        refine (rbytes_any (chF h k) _ hck.out).mono ?_
        rintro e w3 ⟨v3, rfl, hn3⟩
        go_wp2_with (fail)
        refine (rsum_any v3 (chF h k) _ _ hn3.rd (by rw [hck.out]; omega)).mono ?_
        rintro e w4 ⟨rfl, hB4⟩
        have d0 := (c0.below hn3.2).below hB4
        have d1 := (c1.below hn3.2).below hB4
        have hB3' := (hB.trans (hn3.2.mono hB.size))
        have hB4' := hB3'.trans (hB4.mono hB3'.size)
        rw [show shaF (chF h k) = chF h (k + 1) from rfl]
        go_wp2_with (refine wp_st 25 (.tmp 2) (.tmp 15) rfl rfl rfl (f := 0) rfl (l := bvs (chF h (k + 1))) rfl d0 (by rw [len_bvs, len_bvs, hck.out, hck1.out]; omega) (by rw [len_bvs, hck1.out]; exact size25) (oneCell_bvs _) ?_; intro w7 hb7 hG7)
        have e7 : (bvs (chF h k)).take 0 ++ bvs (chF h (k + 1)) ++ (bvs (chF h k)).drop (0 + (bvs (chF h (k + 1))).length) = bvs (chF h (k + 1)) := by
          rw [List.drop_of_length_le (by rw [len_bvs, len_bvs, hck.out, hck1.out]; omega)]
          simp
        rw [e7] at hb7
        clear e7
        have d1' := d1.keep (hG7.block _ d1.lt (by intro e; injection e with e; omega))
        have hB7 := hB4'.grown hG7 hB4'.size (by intro k hk; injection hk with hk; omega)
        go_wp2
        go_roundw
        case rel => exact ⟨k + 1, by omega, by go_num, hb7, d1', hB7⟩
        case measure => simp [intOf]; omega
      · have hkM : Hid (k = M.toNat) := by show _ = _; omega
        go_wp2_with (first | (refine wp_ld 25 (.tmp 2) rfl rfl rfl c0.whole und25 rfl (by rw [len_bvs, hck.out]; exact size25) ?_) | (refine wp_st 25 (.tmp 4) (.tmp 16) rfl rfl rfl (f := 0) rfl (l := bvs (chF h k)) rfl c1 (by simp [zs8, len_bvs, hck.out]) (by rw [len_bvs, hck.out]; exact size25) (oneCell_bvs _) ?_; intro w7 hb7 hG7))
        rw [set25 _ hck.out] at hb7
        refine ret_cell rfl rfl hb7.whole und25 rfl (by rw [len_bvs, hck.out]; exact size25) rfl ?_
        exact ⟨by rw [← hkM.out], hB.grown hG7 hB.size (by intro k hk; injection hk with hk; omega)⟩
end Go.Proofs.YtofnjcfjebpceaaDoor
