/- U7: layer 14: KvAsks. -/
import Derived.Test.YtjlncgikmpdgdaaU3
namespace Go.V
open Go.RowKit
theorem getD_set_eq {s : List (Option Int)} {i : Nat} (h : i < s.length) (x : Option Int) : (s.set i x).getD i none = x := by
  rw [List.getD_eq_getElem?_getD, List.getElem?_set, if_pos rfl, if_pos h]
  rfl
theorem do_get {s : List (Option Int)} {i : Nat} (h : i < s.length) (h16 : i < 16) : doK s ⟨1, i, 0, 0⟩ = (s, ((s.getD i none).isSome, (s.getD i none).getD 0)) := by
  unfold doK
  rw [if_pos ⟨⟨by show (0 : Int) ≤ i; omega, by show (i : Int) ≤ 15; omega⟩, by show (1 : Int) ≤ 1; omega, by show (1 : Int) ≤ 5; omega⟩]
  show (s.set ((i : Int).toNat) (s.getD ((i : Int).toNat) none), _) = _
  rw [Int.toNat_natCast, set_same h]
  rfl
theorem do_put14 {s : List (Option Int)} {i : Nat} (h16 : i < 16) (n : Int) : doK s ⟨2, i, n, 0⟩ = (s.set i (some n), (true, (s.getD i none).getD 0)) := by
  unfold doK
  rw [if_pos ⟨⟨by show (0 : Int) ≤ i; omega, by show (i : Int) ≤ 15; omega⟩, by show (1 : Int) ≤ 2; omega, by show (2 : Int) ≤ 5; omega⟩]
  rfl
theorem do_del {s : List (Option Int)} {i : Nat} (h16 : i < 16) : doK s ⟨5, i, 0, 0⟩ = (s.set i none, ((s.getD i none).isSome, (s.getD i none).getD 0)) := by
  unfold doK
  rw [if_pos ⟨⟨by show (0 : Int) ≤ i; omega, by show (i : Int) ≤ 15; omega⟩, by show (1 : Int) ≤ 5; omega, by show (5 : Int) ≤ 5; omega⟩]
  rfl
end Go.V
namespace Go.Proofs.Ytjlncgikmpdgdaa
open Go.RowKit Go.V
set_option maxRecDepth 100000 in
set_option maxHeartbeats 8000000 in
theorem kvAsks_law (c : List Cl) (x : UInt8) (n : Int) (w : World) (hc : ClIn c) (hn : i64s n) :
    Calls Try.prog 5 #[.agg (cvs c).toArray, .int .u8 (x.toNat : Int), .int .i64 n] w fun e w' => e = .returned (.bool true) ∧ Below w.heap.size w w' := by
  obtain ⟨k, hk⟩ : ∃ k : Nat, k = x.toNat := ⟨_, rfl⟩
  have hk256 : k < 256 := by rw [hk]; exact x.toNat_lt
  rw [← hk]
  clear hk
  obtain ⟨i, hi⟩ : ∃ i : Nat, i = k % 16 := ⟨_, rfl⟩
  have hi16 : i < 16 := by omega
  have Hi := hid hi
  have hki2 : ((k : Int)) % 16 = (i : Int) := by rw [hi]; omega
  clear hi
  have hs16 := (nmF_in hc).1
  obtain ⟨s, hs⟩ : ∃ s, s = nmF c := ⟨_, rfl⟩
  have z0 : i64s 0 := ⟨by omega, by omega⟩
  have zi : i64s (i : Int) := ⟨by omega, by omega⟩
  have z1 : i64s 1 := ⟨by omega, by omega⟩
  have z2 : i64s 2 := ⟨by omega, by omega⟩
  have z5 : i64s 5 := ⟨by omega, by omega⟩
  have hget := fun (d : List Cl) (W : World) (hd : ClIn d) => kvdo14_any d ⟨1, i, 0, 0⟩ W hd ⟨z1, zi, z0, z0⟩
  have hput := fun (W : World) => kvdo14_any c ⟨2, i, n, 0⟩ W hc ⟨z2, zi, hn, z0⟩
  have hdel := fun (W : World) => kvdo14_any c ⟨5, i, 0, 0⟩ W hc ⟨z5, zi, z0, z0⟩
  rw [← hs] at hput hdel hs16
  rw [do_put14 hi16] at hput
  rw [do_del hi16] at hdel
  obtain ⟨m, hm⟩ : ∃ m, m = (s.getD i none).getD 0 := ⟨_, rfl⟩
  obtain ⟨q, hq⟩ : ∃ q, q = (s.getD i none).isSome := ⟨_, rfl⟩
  have hg1 := fun (W : World) => by
    have := hget c W hc
    rw [← hs, do_get (by omega) hi16, ← hm, ← hq] at this
    exact this
  have hg2 := fun (d : List Cl) (W : World) (hd : ClIn d) (he : nmF d = s.set i (some n)) => by
    have := hget d W hd
    rw [he, do_get (by rw [List.length_set]; omega) hi16, getD_set_eq (by omega)] at this
    exact this
  have hg3 := fun (d : List Cl) (W : World) (hd : ClIn d) (he : nmF d = s.set i none) => by
    have := hget d W hd
    rw [he, do_get (by rw [List.length_set]; omega) hi16, getD_set_eq (by omega)] at this
    exact this
  rw [← hm] at hput
  rw [← hm, ← hq] at hdel
  have Hg1 := hid hg1
  have Hg2 := hid hg2
  have Hg3 := hid hg3
  have Hput := hid hput
  have Hdel := hid hdel
  have Hs := hid hs
  clear hget hput hdel hg1 hg2 hg3 hs hm hq hs16 z0 zi z1 z2 z5
  have Lc := hid (show (cvs c).length = 32 by rw [len_cvs, hc.len])
  have b3 := Blk.new' w 24 (cvs c)
  have hB : Below w.heap.size w (w.alloc (.cells (cvs c).toArray 24)) := (Below.refl _ _).alloc (Nat.le_refl _) _
  go_enter Try.func5, Try.ntmps5
  go_wp2_with (fail)
  refine (wakes14_any _).mono ?_
  rintro e w1 ⟨rfl, hB1⟩
  have b3 := b3.below hB1
  have hB := hB.trans (hB1.mono hB.size)
  obtain ⟨g3, hg3⟩ : ∃ g, g = w.heap.size := ⟨_, rfl⟩
  rw [← hg3] at b3 ⊢
  clear hg3 hB1
  go_wp2_with (first | refine wp_bld 28 [(0, .const (.int .i64 1)), (1, .tmp 24)] rfl rfl [(0, .int .i64 1), (1, .int .i64 i)] rfl (bldOk2 1 i) ?_ | (refine wp_newst 28 8 (.tmp 25) rfl rfl rfl rfl rfl rfl zeroOk (l := Ok.l ⟨1, i, 0, 0⟩) rfl rfl sizeOk (one_okl _) (by simp) ?_; intro w2 b8 hB2 hs2; refine wp_stop ?_))
  obtain ⟨g8, hg8⟩ : ∃ g, g = w1.heap.size := ⟨_, rfl⟩
  rw [← hg8] at b8 ⊢
  have b3 := b3.below hB2
  have hB := hB.trans (hB2.mono hB.size)
  clear hg8 hs2 hB2
  refine wp_go ?_
  go_wp2_with (first | refine wp_ld 24 (.tmp 3) rfl rfl rfl b3.whole Try.underlying24 rfl (by rw [Lc.out]; exact sizeCs) ?_ | refine wp_ld 28 (.tmp 8) rfl rfl rfl b8.whole Try.underlying28 rfl sizeOk ?_)
  refine (Hg1.out _).mono ?_
  rintro e w3 ⟨c1, rfl, hin1, hnm1, hB3⟩
  have L1 := hid (show (cvs c1).length = 32 by rw [len_cvs, hin1.len])
  have b3 := b3.below hB3
  have b8 := b8.below hB3
  have hB := hB.trans (hB3.mono hB.size)
  clear hB3
  go_wp2_with (first | (refine wp_new2st 24 30 9 10 (.tmp 30) (.tmp 31) rfl rfl rfl rfl rfl rfl rfl rfl rfl rfl rfl rfl zeroCs zeroRs (fun _ _ => rfl) (fun _ _ => rfl) (lA := cvs c1) (lB := rvs (q, m)) (fun _ _ => rfl) (fun _ _ => rfl) (by rw [L1.out, len_zCs]) rfl (by rw [L1.out]; exact sizeCs) sizeRs (one_cvs _) (one_rvs _) ?_; intro g9 g10 w4 b9 b10 hne hgA hgB hBn; refine wp_stop ?_))
  have b3 := b3.below hBn
  have b8 := b8.below hBn
  have hB := hB.trans (hBn.mono hB.size)
  clear hne hgA hgB hBn
  refine wp_go ?_
  go_wp2_with (first | refine wp_ld 24 (.tmp 9) rfl rfl rfl b9.whole Try.underlying24 rfl (by rw [L1.out]; exact sizeCs) ?_ | refine wp_ld 24 (.tmp 3) rfl rfl rfl b3.whole Try.underlying24 rfl (by rw [Lc.out]; exact sizeCs) ?_)
  refine (rsame14_any c1 c _ hin1.len hc.len).mono ?_
  rw [decide_eq_true (by rw [hnm1, Hs.out])]
  rintro e w5 ⟨rfl, hB5⟩
  have b3 := b3.below hB5
  have b8 := b8.below hB5
  have b9 := b9.below hB5
  have b10 := b10.below hB5
  have hB := hB.trans (hB5.mono hB.size)
  clear hB5 b9 hnm1 hin1
  go_wp2_with (first | refine wp_ld 24 (.tmp 3) rfl rfl rfl b3.whole Try.underlying24 rfl (by rw [Lc.out]; exact sizeCs) ?_ | refine wp_bld 28 [(0, .const (.int .i64 2)), (1, .tmp 38), (2, .tmp 39)] rfl rfl [(0, .int .i64 2), (1, .int .i64 i), (2, .int .i64 n)] rfl (bldOk3 2 i n) ?_)
  refine (Hput.out _).mono ?_
  rintro e w6 ⟨c2, rfl, hin2, hnm2, hB6⟩
  have L2 := hid (show (cvs c2).length = 32 by rw [len_cvs, hin2.len])
  have b3 := b3.below hB6
  have b8 := b8.below hB6
  have b10 := b10.below hB6
  have hB := hB.trans (hB6.mono hB.size)
  clear hB6
  go_wp2_with (first | (refine wp_new2st 24 30 11 12 (.tmp 42) (.tmp 43) rfl rfl rfl rfl rfl rfl rfl rfl rfl rfl rfl rfl zeroCs zeroRs (fun _ _ => rfl) (fun _ _ => rfl) (lA := cvs c2) (lB := rvs (true, m)) (fun _ _ => rfl) (fun _ _ => rfl) (by rw [L2.out, len_zCs]) rfl (by rw [L2.out]; exact sizeCs) sizeRs (one_cvs _) (one_rvs _) ?_; intro g11 g12 w7 b11 b12 hne hgA hgB hBn; refine wp_stop ?_))
  have b3 := b3.below hBn
  have b8 := b8.below hBn
  have b10 := b10.below hBn
  have hB := hB.trans (hBn.mono hB.size)
  clear hne hgA hgB hBn
  refine wp_go ?_
  go_wp2_with (first | refine wp_ld 24 (.tmp 11) rfl rfl rfl b11.whole Try.underlying24 rfl (by rw [L2.out]; exact sizeCs) ?_ | refine wp_ld 28 (.tmp 8) rfl rfl rfl b8.whole Try.underlying28 rfl sizeOk ?_)
  refine (Hg2.out c2 _ hin2 hnm2).mono ?_
  rintro e w8 ⟨c3, rfl, hin3, hnm3, hB8⟩
  have L3 := hid (show (cvs c3).length = 32 by rw [len_cvs, hin3.len])
  have b3 := b3.below hB8
  have b8 := b8.below hB8
  have b10 := b10.below hB8
  have b11 := b11.below hB8
  have b12 := b12.below hB8
  have hB := hB.trans (hB8.mono hB.size)
  clear hB8
  go_wp2_with (first | (refine wp_new2st 24 30 13 14 (.tmp 48) (.tmp 49) rfl rfl rfl rfl rfl rfl rfl rfl rfl rfl rfl rfl zeroCs zeroRs (fun _ _ => rfl) (fun _ _ => rfl) (lA := cvs c3) (lB := rvs (true, n)) (fun _ _ => rfl) (fun _ _ => rfl) (by rw [L3.out, len_zCs]) rfl (by rw [L3.out]; exact sizeCs) sizeRs (one_cvs _) (one_rvs _) ?_; intro g13 g14 w9 b13 b14 hne hgA hgB hBn; refine wp_stop ?_))
  have b3 := b3.below hBn
  have b8 := b8.below hBn
  have b10 := b10.below hBn
  have b11 := b11.below hBn
  have b12 := b12.below hBn
  have hB := hB.trans (hBn.mono hB.size)
  clear hne hgA hgB hBn
  refine wp_go ?_
  clear b11 b13 hnm2 hin2 hnm3 hin3
  go_wp2_with (first | refine wp_ld 24 (.tmp 3) rfl rfl rfl b3.whole Try.underlying24 rfl (by rw [Lc.out]; exact sizeCs) ?_ | refine wp_bld 28 [(0, .const (.int .i64 5)), (1, .tmp 52)] rfl rfl [(0, .int .i64 5), (1, .int .i64 i)] rfl (bldOk2 5 i) ?_)
  refine (Hdel.out _).mono ?_
  rintro e w10 ⟨c4, rfl, hin4, hnm4, hB10⟩
  have L4 := hid (show (cvs c4).length = 32 by rw [len_cvs, hin4.len])
  have b3 := b3.below hB10
  have b8 := b8.below hB10
  have b10 := b10.below hB10
  have b12 := b12.below hB10
  have b14 := b14.below hB10
  have hB := hB.trans (hB10.mono hB.size)
  clear hB10
  go_wp2_with (first | (refine wp_new2st 24 30 15 16 (.tmp 55) (.tmp 56) rfl rfl rfl rfl rfl rfl rfl rfl rfl rfl rfl rfl zeroCs zeroRs (fun _ _ => rfl) (fun _ _ => rfl) (lA := cvs c4) (lB := rvs (q, m)) (fun _ _ => rfl) (fun _ _ => rfl) (by rw [L4.out, len_zCs]) rfl (by rw [L4.out]; exact sizeCs) sizeRs (one_cvs _) (one_rvs _) ?_; intro g15 g16 w11 b15 b16 hne hgA hgB hBn; refine wp_stop ?_))
  have b3 := b3.below hBn
  have b8 := b8.below hBn
  have b10 := b10.below hBn
  have b12 := b12.below hBn
  have b14 := b14.below hBn
  have hB := hB.trans (hBn.mono hB.size)
  clear hne hgA hgB hBn
  refine wp_go ?_
  go_wp2_with (first | refine wp_ld 24 (.tmp 15) rfl rfl rfl b15.whole Try.underlying24 rfl (by rw [L4.out]; exact sizeCs) ?_ | refine wp_ld 28 (.tmp 8) rfl rfl rfl b8.whole Try.underlying28 rfl sizeOk ?_)
  refine (Hg3.out c4 _ hin4 hnm4).mono ?_
  rintro e w12 ⟨c5, rfl, hin5, hnm5, hB12⟩
  have L5 := hid (show (cvs c5).length = 32 by rw [len_cvs, hin5.len])
  have b3 := b3.below hB12
  have b8 := b8.below hB12
  have b10 := b10.below hB12
  have b12 := b12.below hB12
  have b14 := b14.below hB12
  have b15 := b15.below hB12
  have b16 := b16.below hB12
  have hB := hB.trans (hB12.mono hB.size)
  clear hB12
  go_wp2_with (first | (refine wp_new2st 24 30 17 18 (.tmp 61) (.tmp 62) rfl rfl rfl rfl rfl rfl rfl rfl rfl rfl rfl rfl zeroCs zeroRs (fun _ _ => rfl) (fun _ _ => rfl) (lA := cvs c5) (lB := rvs (false, 0)) (fun _ _ => rfl) (fun _ _ => rfl) (by rw [L5.out, len_zCs]) rfl (by rw [L5.out]; exact sizeCs) sizeRs (one_cvs _) (one_rvs _) ?_; intro g17 g18 w13 b17 b18 hne hgA hgB hBn; refine wp_stop ?_))
  have b3 := b3.below hBn
  have b8 := b8.below hBn
  have b10 := b10.below hBn
  have b12 := b12.below hBn
  have b14 := b14.below hBn
  have b15 := b15.below hBn
  have b16 := b16.below hBn
  have hB := hB.trans (hBn.mono hB.size)
  clear hne hgA hgB hBn
  refine wp_go ?_
  have b10 : Blk w13 g10 30 [.bool q, .int .i64 m] := b10
  have b12 : Blk w13 g12 30 [.bool true, .int .i64 m] := b12
  have b14 : Blk w13 g14 30 [.bool true, .int .i64 n] := b14
  have b16 : Blk w13 g16 30 [.bool q, .int .i64 m] := b16
  have b18 : Blk w13 g18 30 [.bool false, .int .i64 0] := b18
  have d1 := b10.cellAt 1 _ rfl
  go_wp2_with (first | refine wp_ld 30 (.tmp 12) rfl rfl rfl b12.whole Try.underlying30 rfl sizeRs ?_ | refine wp_ldg 30 (.tmp 14) rfl rfl rfl b14.whole Try.underlying30 rfl sizeRs ?_ | refine wp_ldg 30 (.tmp 16) rfl rfl rfl b16.whole Try.underlying30 rfl sizeRs ?_ | refine wp_ldg 30 (.tmp 10) rfl rfl rfl b10.whole Try.underlying30 rfl sizeRs ?_ | refine wp_ldg 30 (.tmp 18) rfl rfl rfl b18.whole Try.underlying30 rfl sizeRs ?_)
  go_ret
  exact ⟨rfl, hB⟩
end Go.Proofs.Ytjlncgikmpdgdaa
