/- QA: several texts in one (Q2 Q3 Q4 Q5 Q6 Q7 QA). -/
import Derived.Test.YtnhhbbjkeekneaaGreatDoorQ1
import Derived.Test.YtnhhbbjkeekneaaGreatDoorRB
import Derived.Test.YtnhhbbjkeekneaaGreatDoorVA
import Derived.Test.YtnhhbbjkeekneaaGreatDoorM1
import Derived.Deep.DeepCutAuto
import Derived.Test.YtnhhbbjkeekneaaGreatDoorN6
import Derived.Test.YtnhhbbjkeekneaaGreatDoorN8
set_option maxRecDepth 100000
set_option maxHeartbeats 16000000
namespace Go.Proofs.YtnhhbbjkeekneaaGreatDoor
open Go.RowKit Go.V
theorem fm_false {r : Rq} (h : r.c < 0 \/ 6 <= r.c \/ r.s < 1 \/ 9 <= r.s) : r.fm = false := by
 unfold Rq.fm; rw [decide_eq_false_iff_not]; omega
theorem formed_any (r : Rq) (u : Value) (F : Nat -> Prop) (w : World) (hu : Rd w F u (bys r.g)) :
 Calls Tryz.prog 121 #[r.v u] w fun e w' => e = .returned (.bool r.fm) /\ Below w.heap.size w w' := by
 obtain ⟨A, cp, rfl⟩ := hu.shape; have hrt := (right7_any r.c r.k r.y r.a r.b ·)
 have hff := fm_false (r := r); have hf : r.fm = decide (0 <= r.c /\ r.c <= 5 /\ 1 <= r.s /\ r.s <= 8 /\ rgtO r.c r.k r.y r.a r.b = true /\ r.g.length <= 1000) := rfl; unfold opV at hrt; unfold Rq.v; obtain ⟨c, s, k, y, a, b, g⟩ := r; simp only at hrt hff hf |-; obtain ⟨q, hq⟩ := nm (Rq.fm ⟨c, s, k, y, a, b, g⟩); obtain ⟨t, ht⟩ := nm (rgtO c k y a b); rw [<- hq] at hf hff |-; rw [<- ht] at hrt hf; clear hq ht; have hb := Blk.new' w 126 [.int .i64 c, .int .i64 s, .int .i64 k, .int .i64 y, .int .i64 a, .int .i64 b, .slice A g.length cp]; have hB : Below w.heap.size w (w.alloc (.cells #[.int .i64 c, .int .i64 s, .int .i64 k, .int .i64 y, .int .i64 a, .int .i64 b, .slice A g.length cp] 126)) := (Below.refl _ _).alloc (Nat.le_refl _) _; have c0 := hb.cellAt 0 _ rfl; have c1 := hb.cellAt 1 _ rfl; have c2 := hb.cellAt 2 _ rfl; have c3 := hb.cellAt 3 _ rfl; have c4 := hb.cellAt 4 _ rfl; have c5 := hb.cellAt 5 _ rfl; have c6 := hb.cellAt 6 _ rfl; have Hf := hid hf; have Hff := hid hff; clear hf hff; go_enter Tryz.func121, Tryz.ntmps121; go_wp2_with (fail); rotate_left
 all_goals try (go_ret; exact ⟨by rw [Hff.out (by omega)]; rfl, hB⟩)
 refine (hrt _).mono ?_; rintro e w1 ⟨rfl, hB1⟩; have hb1 := hb.below hB1; have hB1' := hB.trans (hB1.mono hB.size); clear c0 c1 c2 c3 c4 c5 c6 hb hrt; have c6 := hb1.cellAt 6 _ rfl; cases t with
 | false =>
  go_wp2; go_ret; exact ⟨by rw [Hf.out]; exact ret_b (by simp), hB1'⟩
 | true =>
  go_wp2; go_ret; exact ⟨by rw [Hf.out]; exact ret_b (by rw [Bool.eq_iff_iff]; simp; try omega), hB1'⟩
theorem rformed_any (r : Rq) (u : Value) (F : Nat -> Prop) (w : World) (hu : Rd w F u (bys r.g)) :
 Calls Tryz.prog 105 #[r.v u] w fun e w' => e = .returned (.bool r.fm) /\ Below w.heap.size w w' := by
 obtain ⟨A, cp, rfl⟩ := hu.shape; have hrt := (rright7_any r.c r.k r.y r.a r.b ·)
 have hff := fm_false (r := r); have hf : r.fm = decide (0 <= r.c /\ r.c <= 5 /\ 1 <= r.s /\ r.s <= 8 /\ rgtO r.c r.k r.y r.a r.b = true /\ r.g.length <= 1000) := rfl; unfold opV at hrt; unfold Rq.v; obtain ⟨c, s, k, y, a, b, g⟩ := r; simp only at hrt hff hf |-; obtain ⟨q, hq⟩ := nm (Rq.fm ⟨c, s, k, y, a, b, g⟩); obtain ⟨t, ht⟩ := nm (rgtO c k y a b); rw [<- hq] at hf hff |-; rw [<- ht] at hrt hf; clear hq ht; have hb := Blk.new' w 126 [.int .i64 c, .int .i64 s, .int .i64 k, .int .i64 y, .int .i64 a, .int .i64 b, .slice A g.length cp]; have hB : Below w.heap.size w (w.alloc (.cells #[.int .i64 c, .int .i64 s, .int .i64 k, .int .i64 y, .int .i64 a, .int .i64 b, .slice A g.length cp] 126)) := (Below.refl _ _).alloc (Nat.le_refl _) _; have c0 := hb.cellAt 0 _ rfl; have c1 := hb.cellAt 1 _ rfl; have c2 := hb.cellAt 2 _ rfl; have c3 := hb.cellAt 3 _ rfl; have c4 := hb.cellAt 4 _ rfl; have c5 := hb.cellAt 5 _ rfl; have c6 := hb.cellAt 6 _ rfl; have Hf := hid hf; have Hff := hid hff; clear hf hff; go_enter Tryz.func105, Tryz.ntmps105; go_wp2_with (fail); rotate_left
 all_goals try (go_ret; exact ⟨by rw [Hff.out (by omega)]; rfl, hB⟩)
 refine (hrt _).mono ?_; rintro e w1 ⟨rfl, hB1⟩; have hb1 := hb.below hB1; have hB1' := hB.trans (hB1.mono hB.size); clear c0 c1 c2 c3 c4 c5 c6 hb hrt; have c6 := hb1.cellAt 6 _ rfl; cases t with
 | false =>
  go_wp2; go_ret; exact ⟨by rw [Hf.out]; exact ret_b (by simp), hB1'⟩
 | true =>
  go_wp2; go_ret; exact ⟨by rw [Hf.out]; exact ret_b (by rw [Bool.eq_iff_iff]; simp; try omega), hB1'⟩
end Go.Proofs.YtnhhbbjkeekneaaGreatDoor
namespace Go.V
open Go.RowKit
def in64 (x : Int) : Prop := -9223372036854775808 <= x /\ x <= 9223372036854775807
def Rq.four (r : Rq) : List UInt8 := [UInt8.ofNat r.c.toNat, UInt8.ofNat r.s.toNat, UInt8.ofNat r.k.toNat, UInt8.ofNat r.y.toNat]
def Rq.text (r : Rq) : List UInt8 := (r.four ++ packed (foldN r.a)) ++ packed (foldN r.b)
def Rq.txt (r : Rq) : List UInt8 := if r.fm then r.text else []
theorem fm_bd {r : Rq} (h : r.fm = true) : ∃ c s k y : Nat, r.c = c /\ r.s = s /\ r.k = k /\ r.y = y /\ c <= 5 /\ 1 <= s /\ s <= 8 /\ k <= 6 /\ y <= 15 /\ r.g.length <= 1000 := by
 unfold Rq.fm at h; rw [decide_eq_true_iff] at h; obtain ⟨h1, h2, h3, h4, h5, h6⟩ := h
 have hk : 0 <= r.k /\ r.k <= 6 /\ 0 <= r.y /\ r.y <= 15 := by
  unfold rgtO at h5
  split at h5
  . rw [decide_eq_true_iff] at h5; omega
  . rw [decide_eq_true_iff] at h5; omega
 exact ⟨r.c.toNat, r.s.toNat, r.k.toNat, r.y.toNat, by omega, by omega, by omega, by omega, by omega, by omega, by omega, by omega, by omega, h6⟩
theorem len_four (r : Rq) : r.four.length = 4 := rfl
theorem len_text (r : Rq) : r.text.length <= 24 /\ 6 <= r.text.length := by
 unfold Rq.text; have h1 := psz_bd (foldN r.a); have h2 := psz_bd (foldN r.b); rw [List.length_append, List.length_append, length_packed, length_packed, len_four]; omega
end Go.V
namespace Go.Proofs.YtnhhbbjkeekneaaGreatDoor
open Go.RowKit Go.V
theorem fix1_eq (n : Nat) (h : n < 256) : fixR 1 n = [UInt8.ofNat n] := by
 unfold fixR; rw [if_pos (by unfold okN; omega)]; simp [fixB, List.range_succ, Nat.mod_eq_of_lt h]
theorem four_at (c s k y : Nat) (hc : c < 256) (hs : s < 256) (hk : k < 256) (hy : y < 256) (i : Nat) (hi : i < 4) : ∃ n : Nat, n < 256 /\ ([.int .i64 (c : Int), .int .i64 (s : Int), .int .i64 (k : Int), .int .i64 (y : Int)] : List Value)[i]? = some (.int .i64 (n : Int)) /\
 [UInt8.ofNat c, UInt8.ofNat s, UInt8.ofNat k, UInt8.ofNat y].take (i + 1) = [UInt8.ofNat c, UInt8.ofNat s, UInt8.ofNat k, UInt8.ofNat y].take i ++ [UInt8.ofNat n] := by
 match i, hi with
 | 0, _ => exact ⟨c, hc, rfl, rfl⟩
 | 1, _ => exact ⟨s, hs, rfl, rfl⟩
 | 2, _ => exact ⟨k, hk, rfl, rfl⟩
 | 3, _ => exact ⟨y, hy, rfl, rfl⟩
theorem text7_any (r : Rq) (u : Value) (F : Nat -> Prop) (w : World) (hu : Rd w F u (bys r.g)) (ha : in64 r.a) (hb : in64 r.b) :
 Calls Tryz.prog 123 #[r.v u] w fun e w' => ∃ v', e = .returned v' /\ NewB w w' v' r.txt := by
 have hfm := fun W h => formed_any r u F W h; have hbd := fm_bd (r := r); have htx : r.txt = if r.fm then r.text else [] := rfl
 have htt : r.text = (r.four ++ packed (foldN r.a)) ++ packed (foldN r.b) := rfl; have hfo : r.four = [UInt8.ofNat r.c.toNat, UInt8.ofNat r.s.toNat, UInt8.ofNat r.k.toNat, UInt8.ofNat r.y.toNat] := rfl; obtain ⟨A, cp, rfl⟩ := hu.shape; rw [hfo] at htt; rw [htt] at htx; clear hfo htt; obtain ⟨X, hX⟩ := nm (r.txt); rw [<- hX] at htx |-; clear hX; obtain ⟨q, hq⟩ := nm (r.fm); rw [<- hq] at hfm htx hbd; clear hq; unfold Rq.v at hfm |-; obtain ⟨c, s, k, y, a, b, g⟩ := r; dsimp only at hfm hbd htx ha hb hu |-; have hvb := Blk.new' w 126 [.int .i64 c, .int .i64 s, .int .i64 k, .int .i64 y, .int .i64 a, .int .i64 b, .slice A g.length cp]; have hB : Below w.heap.size w (w.alloc (.cells #[.int .i64 c, .int .i64 s, .int .i64 k, .int .i64 y, .int .i64 a, .int .i64 b, .slice A g.length cp] 126)) := (Below.refl _ _).alloc (Nat.le_refl _) _; have hub := hu.below hB; have c0 := hvb.cellAt 0 _ rfl; have c1 := hvb.cellAt 1 _ rfl; have c2 := hvb.cellAt 2 _ rfl; have c3 := hvb.cellAt 3 _ rfl; have c4 := hvb.cellAt 4 _ rfl; have c5 := hvb.cellAt 5 _ rfl; have c6 := hvb.cellAt 6 _ rfl; have Htx := hid htx; have Hbd := hid hbd; clear htx hbd; go_enter Tryz.func123, Tryz.ntmps123; go_wp2_with (fail); refine (hfm _ hub).mono ?_; rintro e w1 ⟨rfl, hB1⟩; have hv1 := hvb.below hB1; have hB1' := hB.trans (hB1.mono hB.size); clear c0 c1 c2 c3 c4 c5 c6 hvb hfm hub; cases q with
 | false =>
  go_wp2; go_ret; exact ⟨_, rfl, by rw [Htx.out]; exact ⟨World.ownsRow_nil _ _ _ _, hB1'⟩⟩
 | true =>
  obtain ⟨C, S, K, Y, rfl, rfl, rfl, rfl, hC, _, hS, hK, hY, _⟩ := Hbd.out rfl; have htx := Htx.out; rw [if_pos rfl, Int.toNat_natCast, Int.toNat_natCast, Int.toNat_natCast, Int.toNat_natCast] at htx; have h4 := four_at C S K Y (by omega) (by omega) (by omega) (by omega); obtain ⟨T, hT⟩ := nm ([UInt8.ofNat C, UInt8.ofNat S, UInt8.ofNat K, UInt8.ofNat Y]); have hTl : T.length = 4 := by rw [hT]; rfl
  rw [<- hT] at h4 htx; clear hT Htx Hbd; have Htx := hid htx; clear htx; have c0 := hv1.cellAt 0 _ rfl; have c1 := hv1.cellAt 1 _ rfl; have c2 := hv1.cellAt 2 _ rfl; have c3 := hv1.cellAt 3 _ rfl; go_wp2; clear c0 c1 c2 c3
  go_loopw [3, 20] (fun bv iv wr => ∃ i : Nat, i <= 4 /\ iv = .int .i64 i /\ Rd wr (fun b => w.heap.size <= b) bv (bys (T.take i)) /\ Below w1.heap.size w1 wr) (fun _ i _ => 4 - (intOf i).toNat)
  case atStart => exact ⟨0, Nat.zero_le _, rfl, Rd.nil _ _, Below.refl _ _⟩
  case round =>
   obtain ⟨i, hi, rfl, hrd, hBr⟩ := hrel; have hBr' := hB1'.trans (hBr.mono hB1'.size); by_cases hlt : i < 4
   . obtain ⟨n, hn, hat, htk⟩ := h4 i hlt; have hI : (i : Int) < 4 := by omega
     have hwn : IntKind.u64.wrap (n : Int) = (n : Int) := by rw [IntKind.wrap_u64]; omega
     have Hat := hid hat; have Htk := hid htk; clear hat htk h4; go_wp2_with (refine wp_idx 201 (.tmp 19) (.tmp 20) rfl rfl (l := [.int .i64 (C : Int), .int .i64 (S : Int), .int .i64 (K : Int), .int .i64 (Y : Int)]) rfl rfl Tryz.underlying201 hlt (fun _ => by kernel_rfl) (by kernel_rfl) Hat.out ?_); refine (putx_any _ (T.take i) n 1 _ _ hrd (by omega) (by rw [List.length_take]; omega)).mono ?_; rintro e w2 ⟨v2, rfl, ho2, hB2⟩; rw [fix1_eq n hn, <- Htk.out] at ho2; go_wp2
     go_roundw
     case rel => exact ⟨i + 1, by omega, by go_num, (Rd.of_own ho2).weak (fun b _ h => by have := hBr'.size; omega), hBr.trans (hB2.mono hBr.size)⟩
     case measure => simp [intOf]; omega
   . have h4' : i = 4 := by omega
     subst h4'; have hI : ¬ (4 : Int) < 4 := by omega
     rw [show T.take 4 = T from List.take_of_length_le (by omega)] at hrd; have hvr := hv1.below hBr; have c4 := hvr.cellAt 4 _ rfl; go_wp2_with (fail); refine (putf_any _ T a _ _ hrd ha.1 ha.2 (by omega)).mono ?_; rintro e w2 ⟨v2, rfl, ho2, hB2⟩; have hv2 := hvr.below hB2; have hB2' := hBr'.trans (hB2.mono hBr'.size); clear c4; have c5 := hv2.cellAt 5 _ rfl; have hp1 := psz_bd (foldN a); go_wp2_with (fail); refine (putf_any v2 (T ++ packed (foldN a)) b _ _ (Rd.of_own ho2) hb.1 hb.2 (by rw [List.length_append, length_packed]; omega)).mono ?_; rintro e w3 ⟨v3, rfl, ho3, hB3⟩; go_wp2; go_ret; exact ⟨v3, rfl, by rw [Htx.out]; exact ⟨own_weak ho3 hB2'.size, hB2'.trans (hB3.mono hB2'.size)⟩⟩
end Go.Proofs.YtnhhbbjkeekneaaGreatDoor
namespace Go.V
open Go.RowKit
def Rq.bt (r : Rq) : List UInt8 := (packed r.text.length ++ r.text) ++ (packed r.g.length ++ r.g)
theorem blk_grown {w w' : World} {g b s n : Nat} {t e : TypeId} {v : Value} {cs xs : List Value} (hb : Blk w g t cs) (hG : w.grownBy w' v.ownBlock) (h : w.ownsRow b e s v n xs) (hne : t ≠ e) : Blk w' g t cs :=
 hb.keep (hG.block _ hb.lt (blk_row hb h hne))
end Go.V
namespace Go.Proofs.YtnhhbbjkeekneaaGreatDoor
open Go.RowKit Go.V
theorem bs4B (x0 x1 x2 x3 : Int) : ∀ W : World, (Instr.buildSlice 33 4 #[(0, .int .u8 x0), (1, .int .u8 x1), (2, .int .u8 x2), (3, .int .u8 x3)]).run Tryz.prog W = .ok (.slice (some ⟨W.heap.size, 0, none⟩) 4 4) (W.alloc (.cells #[.int .u8 x0, .int .u8 x1, .int .u8 x2, .int .u8 x3] 5)) := fun _ => by kernel_rfl
theorem rtext7_any (r : Rq) (u : Value) (F : Nat -> Prop) (w : World) (hu : Rd w F u (bys r.g)) (ha : in64 r.a) (hb : in64 r.b) (hf : r.fm = true) :
 Calls Tryz.prog 107 #[r.v u] w fun e w' => ∃ v', e = .returned v' /\ NewB w w' v' r.text := by
 have hbd := fm_bd hf; have htt : r.text = (r.four ++ packed (foldN r.a)) ++ packed (foldN r.b) := rfl; have hfo : r.four = [UInt8.ofNat r.c.toNat, UInt8.ofNat r.s.toNat, UInt8.ofNat r.k.toNat, UInt8.ofNat r.y.toNat] := rfl; obtain ⟨A, cp, rfl⟩ := hu.shape; rw [hfo] at htt; obtain ⟨X, hX⟩ := nm (r.text); rw [<- hX] at htt |-; clear hX hfo hf; unfold Rq.v; obtain ⟨c, s, k, y, a, b, g⟩ := r; dsimp only at hbd htt ha hb hu |-; obtain ⟨C, S, K, Y, rfl, rfl, rfl, rfl, hC, _, hS, hK, hY, _⟩ := hbd; rw [Int.toNat_natCast, Int.toNat_natCast, Int.toNat_natCast, Int.toNat_natCast] at htt; obtain ⟨T, hT⟩ := nm ([UInt8.ofNat C, UInt8.ofNat S, UInt8.ofNat K, UInt8.ofNat Y]); have hTl : T.length = 4 := by rw [hT]; rfl
 have hTv : [.int .u8 (C : Int), .int .u8 (S : Int), .int .u8 (K : Int), .int .u8 (Y : Int)] = bvs T := by
  rw [hT]; show _ = [byteV _, byteV _, byteV _, byteV _]
  rw [byteV_of (by omega), byteV_of (by omega), byteV_of (by omega), byteV_of (by omega)]
 rw [<- hT] at htt; have HTv := hid hTv; clear hT hTv; have Htt := hid htt; clear htt; have hvb := Blk.new' w 126 [.int .i64 (C : Int), .int .i64 (S : Int), .int .i64 (K : Int), .int .i64 (Y : Int), .int .i64 a, .int .i64 b, .slice A g.length cp]; have hB : Below w.heap.size w (w.alloc (.cells #[.int .i64 (C : Int), .int .i64 (S : Int), .int .i64 (K : Int), .int .i64 (Y : Int), .int .i64 a, .int .i64 b, .slice A g.length cp] 126)) := (Below.refl _ _).alloc (Nat.le_refl _) _; have w0 : IntKind.u8.wrap (C : Int) = (C : Int) := by rw [u8w]; omega
 have w1 : IntKind.u8.wrap (S : Int) = (S : Int) := by rw [u8w]; omega
 have w2 : IntKind.u8.wrap (K : Int) = (K : Int) := by rw [u8w]; omega
 have w3 : IntKind.u8.wrap (Y : Int) = (Y : Int) := by rw [u8w]; omega
 have c0 := hvb.cellAt 0 _ rfl; have c1 := hvb.cellAt 1 _ rfl; have c2 := hvb.cellAt 2 _ rfl; have c3 := hvb.cellAt 3 _ rfl; have hb4 := bs4B C S K Y; go_enter Tryz.func107, Tryz.ntmps107; go_wp2_with (refine wp_pushN (.tmp 4) 19 slB rfl rfl 4 [(0, .tmp 7), (1, .tmp 10), (2, .tmp 14), (3, .tmp 18)] rfl rfl rfl [(0, .int .u8 (C : Int)), (1, .int .u8 (S : Int)), (2, .int .u8 (K : Int)), (3, .int .u8 (Y : Int))] (by rfl) [.int .u8 (C : Int), .int .u8 (S : Int), .int .u8 (K : Int), .int .u8 (Y : Int)] hb4 (by intro u hu; simp at hu; rcases hu with rfl | rfl | rfl | rfl <;> rfl) (by simp) rfl (World.ownsRow_nil _ w.heap.size _ _) (by simp [maxLen]) (by simp) hB.size ?_); intro v1 x1 ho1 hG1 _; have hB1 : Below w.heap.size w x1 := hB.grown hG1 hB.size (fun b h => by simp [Value.ownBlock] at h); have ho1 : x1.ownsRow w.heap.size 5 1 v1 4 (bvs T) := by rw [<- HTv.out]; simpa using ho1
 have hv1 : Blk x1 w.heap.size 126 [.int .i64 (C : Int), .int .i64 (S : Int), .int .i64 (K : Int), .int .i64 (Y : Int), .int .i64 a, .int .i64 b, .slice A g.length cp] := hvb.keep (hG1.block _ hvb.lt (by simp [Value.ownBlock])); clear c0 c1 c2 c3 w0 w1 w2 w3 hb4 HTv hvb; obtain ⟨g0, hg0⟩ := nm (w.heap.size); rw [<- hg0] at hv1 |-; clear hg0; have c4 := hv1.cellAt 4 _ rfl; go_wp2_with (fail); refine (ref_fold_any a _ ha.1 ha.2).mono ?_; rintro e _ ⟨rfl, rfl⟩; go_wp2_with (fail); refine (refp_any _ _ (foldN_lt a ha.1 ha.2)).mono ?_; rintro e x2 ⟨v2, rfl, ho2, hB2⟩; have hv2 := hv1.below hB2; have hB2' := hB1.trans (hB2.mono hB1.size); have ho1 := own_bel ho1 hB2; have hp1 := psz_bd (foldN a); rw [length_packed] at ho2; obtain ⟨A2, p2, rfl⟩ := own_shape ho2; have hr2 := Rd.of_own ho2; clear c4 hv1 hG1; go_wp2_with (refine wp_app (.tmp 21) (.tmp 26) slB rfl rfl rfl ho1 rfl (by rw [<- length_packed]; exact hr2.src) (oneCell_bvs _) (by simp only [maxLen]; omega) (by omega) hB2'.size ?_); intro v3 x3 ho3 hG3 _; have ho3 : x3.ownsRow w.heap.size 5 1 v3 (4 + psz (foldN a)) (bvs (T ++ packed (foldN a))) := by simpa [bvs] using ho3
 have hB3 : Below w.heap.size w x3 := hB2'.grown hG3 hB2'.size (fun k hk => (ho1.lt k hk).1); have hv3 := blk_grown hv2 hG3 ho1 (by decide); clear hv2 ho1 ho2 hr2; have c5 := hv3.cellAt 5 _ rfl; go_wp2_with (fail); refine (ref_fold_any b _ hb.1 hb.2).mono ?_; rintro e _ ⟨rfl, rfl⟩; go_wp2_with (fail); refine (refp_any _ _ (foldN_lt b hb.1 hb.2)).mono ?_; rintro e x4 ⟨v4, rfl, ho4, hB4⟩; have hB4' := hB3.trans (hB4.mono hB3.size); have ho3 := own_bel ho3 hB4; have hp2 := psz_bd (foldN b); rw [length_packed] at ho4; obtain ⟨A4, p4, rfl⟩ := own_shape ho4; have hr4 := Rd.of_own ho4; clear c5; go_wp2_with (refine wp_app (.tmp 28) (.tmp 33) slB rfl rfl rfl ho3 rfl (by rw [<- length_packed]; exact hr4.src) (oneCell_bvs _) (by simp only [maxLen]; omega) (by omega) hB4'.size ?_); intro v5 x5 ho5 hG5 _; have hB5 : Below w.heap.size w x5 := hB4'.grown hG5 hB4'.size (fun k hk => (ho3.lt k hk).1); go_wp2; go_ret; refine ⟨v5, rfl, ?_, hB5⟩; rw [Htt.out, List.length_append, List.length_append, length_packed, length_packed, hTl, show bvs ((T ++ packed (foldN a)) ++ packed (foldN b)) = bvs (T ++ packed (foldN a)) ++ bvs (packed (foldN b)) from by simp [bvs]]; exact ho5
theorem sizeQ : (Tryz.prog.info? 126).map (·.size) = some 7 := by kernel_rfl
theorem sizeI7 : (Tryz.prog.info? 3).map (·.size) = some 1 := by kernel_rfl
theorem sizeL7 : (Tryz.prog.info? 2).map (·.size) = some 1 := by kernel_rfl
theorem sizeO : (Tryz.prog.info? 124).map (·.size) = some 4 := by kernel_rfl
theorem zeroO : (Tryz.prog.info? 124).map (·.zero) = some (some (.agg [.int .i64 0, .int .i64 0, .int .i64 0, .int .i64 0].toArray)) := by kernel_rfl
def zQ : List Value := [.int .i64 0, .int .i64 0, .int .i64 0, .int .i64 0, .int .i64 0, .int .i64 0, .slice none 0 0]
theorem zeroQ : (Tryz.prog.info? 126).map (·.zero) = some (some (.agg zQ.toArray)) := by kernel_rfl
theorem sizeSl7 : (Tryz.prog.info? 33).map (·.size) = some 1 := by kernel_rfl
theorem oneQ (r : Rq) (A : Option Addr) (n c : Nat) : ∀ v ∈ r.l (.slice A n c), v.oneCell' = true := by
 intro v hv; simp [Rq.l] at hv; rcases hv with rfl | rfl | rfl | rfl | rfl | rfl | rfl <;> rfl
end Go.Proofs.YtnhhbbjkeekneaaGreatDoor
namespace Go.V
open Go.RowKit
section
variable {P : Program} {w : World} {ops : Array Oper} {rest : List Oper} {o : Oper} {a : Act} {Q : Exit -> Act -> World -> Prop}
theorem wp_mk0W {t e : TypeId} {z : List Value} {sz by_ : Nat} (ht : SlW P t e z sz by_) (x y : Operand) (hgd : o.guard = none) (ho : o.op = .makeSlice t x y) (c : Nat)
 (hx : a.eval x = .int .i64 0) (hy : a.eval y = .int .i64 (c : Int)) (hb : by_ * c <= 281474976710656) (hm : c <= maxLen)
 (h : ∀ w', w'.ownsRow w.heap.size e sz (.slice (some ⟨w.heap.size, 0, none⟩) 0 c) 0 [] -> Below w.heap.size w w' -> wpList P ops Q rest (a.put o.dst (.slice (some ⟨w.heap.size, 0, none⟩) 0 c)) w') : wpList P ops Q (o :: rest) a w := by
 refine wpList_plain hgd fun K hK => ?_; obtain ⟨i, hi, hzz, hsz, hby⟩ := ht.inf; have h63 : (c : Int) <= 9223372036854775807 := by simp [maxLen] at hm; omega
 have hb' : (i.bytes : Int) * (c : Int) <= 281474976710656 := by
  have : ((i.bytes * c : Nat) : Int) <= 281474976710656 := by rw [hby]; omega
  rwa [Int.natCast_mul] at this
 have hr := run_make (P := P) (w := w) t e i (.agg z.toArray) ht.sl hi hzz .i64 .i64 0 c (by omega) (by omega) hb' h63; unfold Oper.wp execOp; simp only [ho, hx, hy, Sem.run_bind, Sem.run_pure, hr, Result.andThen_ok]; refine hK _ _ ?_; have e0 : (0 : Int).toNat = 0 := rfl; simp only [Int.toNat_natCast, e0]; exact h _ (World.ownsRow_made w _ c (Nat.le_refl _) hm (by simp [madeCells, hsz])) ((Below.refl _ _).alloc (Nat.le_refl _) _)
end
def rqD (r : Rq) : List Dat := [.atom (.int .i64 r.c), .atom (.int .i64 r.s), .atom (.int .i64 r.k), .atom (.int .i64 r.y), .atom (.int .i64 r.a), .atom (.int .i64 r.b), bys r.g]
def rqs (l : List Rq) : Dat := .sl l.length (l.flatMap rqD)
theorem rdC_cons {w : World} {F : Nat -> Prop} {g : Nat} (d : Dat) (ds : List Dat) (off : Nat) : RdC w F g off (d :: ds) ↔ (∃ u, w.cell? ⟨g, off, none⟩ = some u /\ Rd w F u d) /\ RdC w F g (off + 1) ds := by
 rw [RdC]
theorem rdC_app {w : World} {F : Nat -> Prop} {g : Nat} : ∀ (x y : List Dat) (off : Nat), RdC w F g off (x ++ y) ↔ RdC w F g off x /\ RdC w F g (off + x.length) y
 | [], y, off => by simp [RdC]
 | d :: x, y, off => by
  rw [List.cons_append, rdC_cons, rdC_cons, rdC_app x y (off + 1), List.length_cons, show off + 1 + x.length = off + (x.length + 1) from by omega, and_assoc]
theorem rdC_rq {w : World} {F : Nat -> Prop} {g off : Nat} {r : Rq} : RdC w F g off (rqD r) ↔ ∃ u, w.rangeAt g off (r.l u) /\ Rd w F u (bys r.g) := by
 unfold rqD; constructor
 . intro h; simp only [RdC, Rd, and_true] at h; obtain ⟨⟨_, h0, rfl⟩, ⟨_, h1, rfl⟩, ⟨_, h2, rfl⟩, ⟨_, h3, rfl⟩, ⟨_, h4, rfl⟩, ⟨_, h5, rfl⟩, ⟨u, h6, hu⟩⟩ := h; refine ⟨u, fun j v hv => ?_, hu⟩
   match j, hv with
   | 0, hv => simp [Rq.l] at hv; subst hv; exact h0
   | 1, hv => simp [Rq.l] at hv; subst hv; exact h1
   | 2, hv => simp [Rq.l] at hv; subst hv; exact h2
   | 3, hv => simp [Rq.l] at hv; subst hv; exact h3
   | 4, hv => simp [Rq.l] at hv; subst hv; exact h4
   | 5, hv => simp [Rq.l] at hv; subst hv; exact h5
   | 6, hv => simp [Rq.l] at hv; subst hv; exact h6
   | _ + 7, hv => simp [Rq.l] at hv
 . rintro ⟨u, h, hu⟩; simp only [RdC, Rd, and_true]; exact ⟨⟨_, h 0 _ rfl, rfl⟩, ⟨_, h 1 _ rfl, rfl⟩, ⟨_, h 2 _ rfl, rfl⟩, ⟨_, h 3 _ rfl, rfl⟩, ⟨_, h 4 _ rfl, rfl⟩, ⟨_, h 5 _ rfl, rfl⟩, ⟨u, h 6 _ rfl, hu⟩⟩
theorem len_rqD (r : Rq) : (rqD r).length = 7 := rfl
theorem rdC_el {w : World} {F : Nat -> Prop} {g : Nat} : ∀ (l : List Rq) (off i : Nat) (r : Rq), RdC w F g off (l.flatMap rqD) -> l[i]? = some r -> RdC w F g (off + i * 7) (rqD r)
 | [], _, i, r, _, h => by simp at h
 | x :: l, off, 0, r, hc, h => by
  simp at h; subst h; rw [List.flatMap_cons, rdC_app] at hc; rw [Nat.zero_mul, Nat.add_zero]; exact hc.1
 | x :: l, off, i + 1, r, hc, h => by
  rw [List.flatMap_cons, rdC_app, len_rqD] at hc; rw [show off + (i + 1) * 7 = off + 7 + i * 7 from by omega]; exact rdC_el l (off + 7) i r hc.2 (by simpa using h)
theorem rdC_of {w : World} {F : Nat -> Prop} {g : Nat} : ∀ (l : List Rq) (off : Nat), (∀ i r, l[i]? = some r -> RdC w F g (off + i * 7) (rqD r)) -> RdC w F g off (l.flatMap rqD)
 | [], _, _ => by simp [RdC]
 | x :: l, off, h => by
  rw [List.flatMap_cons, rdC_app, len_rqD]; refine ⟨by simpa using h 0 x rfl, rdC_of l (off + 7) (fun i r hi => ?_)⟩; rw [show off + 7 + i * 7 = off + (i + 1) * 7 from by omega]; exact h (i + 1) r (by simpa using hi)
theorem rqs_shape {w : World} {F : Nat -> Prop} {v : Value} {l : List Rq} (h : Rd w F v (rqs l)) : ∃ A c, v = .slice A l.length c := by
 unfold rqs Rd at h; obtain ⟨A, c, hv, _⟩ := h; exact ⟨A, c, hv⟩
theorem rqs_spot {w : World} {F : Nat -> Prop} {v : Value} {l : List Rq} (h : Rd w F v (rqs l)) (hl : 0 < l.length) : ∃ g off c, v = .slice (some ⟨g, off, none⟩) l.length c := by
 unfold rqs Rd at h; obtain ⟨A, c, hv, _, _, _, h4⟩ := h
 have hne : l.flatMap rqD ≠ [] := by
  match l, hl with
  | x :: l, _ => simp [rqD]
 obtain ⟨g, off, hA, _⟩ := h4 hne; exact ⟨g, off, c, by rw [hv, hA]⟩
theorem rqs_el {w : World} {F : Nat -> Prop} {l : List Rq} {g off n c : Nat} (h : Rd w F (.slice (some ⟨g, off, none⟩) n c) (rqs l)) {i : Nat} {r : Rq} (hr : l[i]? = some r) : ∃ u, w.rangeAt g (off + i * 7) (r.l u) /\ Rd w F u (bys r.g) := by
 unfold rqs Rd at h; obtain ⟨A, k, hv, _, _, _, h4⟩ := h
 have hne : l.flatMap rqD ≠ [] := by
  match l, hr with
  | x :: l, _ => simp [rqD]
 obtain ⟨g', off', hA, _, hc⟩ := h4 hne; injection hv with hv
 rw [hA] at hv; injection hv with hv
 injection hv with h1 h2
 subst h1 h2; exact rdC_rq.1 (rdC_el l _ i r hc hr)
def RqX (w : World) (F : Nat -> Prop) : List Rq -> List Value -> Prop
 | [], xs => xs = []
 | r :: l, xs => ∃ u ys, xs = r.l u ++ ys /\ Rd w F u (bys r.g) /\ RqX w F l ys
theorem RqX.keep {w w' : World} {F F' : Nat -> Prop} (hF : ∀ b, b < w.heap.size -> F b -> F' b /\ w'.heap[b]? = w.heap[b]?) : ∀ {l : List Rq} {xs : List Value}, RqX w F l xs -> RqX w' F' l xs
 | [], _, h => h
 | _ :: _, _, ⟨u, ys, h1, h2, h3⟩ => ⟨u, ys, h1, h2.keep hF, h3.keep hF⟩
theorem RqX.snoc {w : World} {F : Nat -> Prop} {r : Rq} {u : Value} (hu : Rd w F u (bys r.g)) : ∀ {l : List Rq} {xs : List Value}, RqX w F l xs -> RqX w F (l ++ [r]) (xs ++ r.l u)
 | [], _, h => by
  have h : _ = [] := h; subst h; exact ⟨u, [], by simp, hu, rfl⟩
 | x :: l, _, ⟨u', ys, h1, h2, h3⟩ => ⟨u', ys ++ r.l u, by rw [h1, List.append_assoc], h2, RqX.snoc hu h3⟩
theorem len_l (r : Rq) (u : Value) : (r.l u).length = 7 := rfl
theorem RqX.el {w : World} {F : Nat -> Prop} {g : Nat} : ∀ {l : List Rq} {xs : List Value} (off : Nat), RqX w F l xs -> w.rangeAt g off xs -> ∀ i r, l[i]? = some r -> RdC w F g (off + i * 7) (rqD r)
 | [], _, _, _, _, i, r, hi => by simp at hi
 | x :: l, xs, off, ⟨u, ys, h1, h2, _⟩, hg, 0, r, hi => by
  simp at hi; subst hi h1; rw [Nat.zero_mul, Nat.add_zero]; refine rdC_rq.2 ⟨u, fun j v hv => hg j v ?_, h2⟩; rw [List.getElem?_append_left (List.getElem?_eq_some_iff.1 hv).1]; exact hv
 | x :: l, xs, off, ⟨u, ys, h1, _, h3⟩, hg, i + 1, r, hi => by
  subst h1
  have hg' : w.rangeAt g (off + 7) ys := fun j v hv => by
   have := hg (7 + j) v (by rw [List.getElem?_append_right (by rw [len_l]; omega), len_l, show 7 + j - 7 = j from by omega]; exact hv)
   rwa [<- Nat.add_assoc] at this
  have := RqX.el (off + 7) h3 hg' i r (by simpa using hi)
  rwa [show off + 7 + i * 7 = off + (i + 1) * 7 from by omega] at this
theorem rqs_own {w : World} {base : Nat} {e : TypeId} {F : Nat -> Prop} {v : Value} {l : List Rq} {xs : List Value} (ho : w.ownsRow base e 7 v l.length xs) (hx : RqX w F l xs) (hF : ∀ b, F b -> base <= b) : Rd w (fun b => base <= b) v (rqs l) := by
 unfold rqs Rd; have hx := hx.keep (F' := fun b => base <= b) (fun b _ h => ⟨hF b h, rfl⟩); rcases ho.2 with ⟨rfl, h0⟩ | ⟨g, cap, cur, rfl, hg, hh, h1, h2, h3, h4⟩
 . have : l = [] := List.eq_nil_of_length_eq_zero h0; subst this; exact ⟨none, 0, rfl, Nat.le_refl _, by simp [maxLen], fun _ => rfl, fun h => absurd rfl h⟩
 . refine ⟨_, cap, rfl, h1, h2, fun h => by rw [List.eq_nil_of_length_eq_zero h]; rfl, fun _ => ⟨g, 0, rfl, hg, rdC_of l 0 (fun i r hi => ?_)⟩⟩
   have hr : w.rangeAt g 0 xs := fun j u hu => by
    have := ho.cells (g := g) rfl j u hu
    rwa [add_mk] at this
   exact hx.el 0 hr i r hi
def ris (l : List Rq) : Prop := l.Pairwise (fun x y => x.c = y.c -> x.s < y.s)
instance (l : List Rq) : Decidable (ris l) := by unfold ris; infer_instance
def fmB (l : List Rq) : Bool := decide (1 <= l.length /\ l.length <= 4 /\ (∀ r ∈ l, r.fm = true) /\ ris l)
def good (A : Nat -> Int) (p : List Rq) : Prop := (∀ x ∈ p, ∀ c : Nat, x.c = (c : Int) -> x.s <= A c) /\ ∀ c, A c = 0 \/ ∃ x ∈ p, x.c = (c : Int) /\ x.s = A c
def upd (A : Nat -> Int) (C : Nat) (s : Int) (c : Nat) : Int := if c = C then s else A c
theorem good_nil : good (fun _ => 0) [] := ⟨fun x h => by simp at h, fun _ => .inl rfl⟩
theorem good_snoc {A : Nat -> Int} {p : List Rq} {r : Rq} {C : Nat} (h : good A p) (hc : r.c = (C : Int)) (hs : A C < r.s) : good (upd A C r.s) (p ++ [r]) := by
 refine ⟨fun x hx c hxc => ?_, fun c => ?_⟩
 . unfold upd; rw [List.mem_append] at hx; rcases hx with hx | hx
   . have := h.1 x hx c hxc
     split
     . rename_i e; subst e; omega
     . exact this
   . simp at hx; subst hx; rw [if_pos (by omega)]; exact Int.le_refl _
 . unfold upd
   split
   . rename_i e; subst e; exact .inr ⟨r, by simp, hc, rfl⟩
   . rcases h.2 c with h0 | ⟨x, hx, hxc, hxs⟩
     . exact .inl h0
     . exact .inr ⟨x, by simp [hx], hxc, hxs⟩
theorem ris_snoc {p : List Rq} {r : Rq} : ris (p ++ [r]) ↔ ris p /\ ∀ x ∈ p, x.c = r.c -> x.s < r.s := by
 unfold ris; rw [List.pairwise_append]; simp
theorem ris_good {A : Nat -> Int} {p : List Rq} {r : Rq} {C : Nat} (h : good A p) (hp : ris p) (hc : r.c = (C : Int)) (hs : A C < r.s) : ris (p ++ [r]) :=
 ris_snoc.2 ⟨hp, fun x hx he => by have := h.1 x hx C (by omega); omega⟩
theorem ris_bad {A : Nat -> Int} {p : List Rq} {r : Rq} {C : Nat} (h : good A p) (hc : r.c = (C : Int)) (h1 : 1 <= r.s) (hs : r.s <= A C) : ¬ ris (p ++ [r]) := by
 intro hr; rcases h.2 C with h0 | ⟨x, hx, hxc, hxs⟩
 . omega
 . have := (ris_snoc.1 hr).2 x hx (by omega); omega
theorem take_snoc' {l : List Rq} {i : Nat} {r : Rq} (h : l[i]? = some r) : l.take (i + 1) = l.take i ++ [r] := by
 rw [List.take_add_one, h]; rfl
theorem ris_take {l : List Rq} (h : ris l) (i : Nat) : ris (l.take i) := List.Pairwise.sublist (List.take_sublist _ _) h
theorem fmB_true {l : List Rq} (h1 : 1 <= l.length) (h2 : l.length <= 4) (h3 : ∀ r ∈ l, r.fm = true) (h4 : ris l) : fmB l = true := by
 unfold fmB; rw [decide_eq_true_iff]; exact ⟨h1, h2, h3, h4⟩
theorem fmB_len {l : List Rq} (h : l.length < 1 \/ 4 < l.length) : fmB l = false := by
 unfold fmB; rw [decide_eq_false_iff_not]; omega
theorem fmB_fm {l : List Rq} {i : Nat} {r : Rq} (h : l[i]? = some r) (hf : r.fm = false) : fmB l = false := by
 unfold fmB; rw [decide_eq_false_iff_not]; rintro ⟨_, _, h3, _⟩; rw [h3 r (List.mem_of_getElem? h)] at hf; cases hf
theorem fmB_ris {l : List Rq} (i : Nat) (h : ¬ ris (l.take i)) : fmB l = false := by
 unfold fmB; rw [decide_eq_false_iff_not]; rintro ⟨_, _, _, h4⟩; exact h (ris_take h4 i)
theorem fmB_all {l : List Rq} (h : fmB l = true) : 1 <= l.length /\ l.length <= 4 /\ (∀ r ∈ l, r.fm = true) /\ ris l := by
 unfold fmB at h; rwa [decide_eq_true_iff] at h
end Go.V
