/- Q4: layer 7: a request's text and bytes by the document. -/
import Derived.Test.YthdkfcbfjhdpoaaQ3
namespace Go.V
open Go.RowKit
def Rq.bt (r : Rq) : List UInt8 := (packed r.text.length ++ r.text) ++ (packed r.g.length ++ r.g)
theorem len_bt (r : Rq) : r.bt.length ≤ 44 + r.g.length := by
  unfold Rq.bt
  have h1 := len_text r
  have h2 := psz_bd r.text.length
  have h3 := psz_bd r.g.length
  simp only [List.length_append, length_packed]
  omega
end Go.V
namespace Go.V
open Go.RowKit
/-- a block of another type stays when a row grows -/
theorem blk_grown {w w' : World} {g b s n : Nat} {t e : TypeId} {v : Value} {cs xs : List Value} (hb : Blk w g t cs) (hG : w.grownBy w' v.ownBlock) (h : w.ownsRow b e s v n xs) (hne : t ≠ e) : Blk w' g t cs :=
  hb.keep (hG.block _ hb.lt (blk_row hb h hne))
end Go.V
namespace Go.Proofs.Ythdkfcbfjhdpoaa
open Go.RowKit Go.V
theorem bs4B (x0 x1 x2 x3 : Int) : ∀ W : World, (Instr.buildSlice 24 4 #[(0, .int .u8 x0), (1, .int .u8 x1), (2, .int .u8 x2), (3, .int .u8 x3)]).run Try.prog W = .ok (.slice (some ⟨W.heap.size, 0, none⟩) 4 4) (W.alloc (.cells #[.int .u8 x0, .int .u8 x1, .int .u8 x2, .int .u8 x3] 5)) := fun _ => by kernel_rfl
set_option maxHeartbeats 1000000 in
theorem rtext7_any (r : Rq) (u : Value) (F : Nat → Prop) (w : World) (hu : Rd w F u (bys r.g)) (ha : in64 r.a) (hb : in64 r.b) (hf : r.fm = true) :
    Calls Try.prog 14 #[r.v u] w fun e w' => ∃ v', e = .returned v' ∧ NewB w w' v' r.text := by
  have hbd := fm_bd hf
  have htt : r.text = (r.four ++ packed (foldN r.a)) ++ packed (foldN r.b) := rfl
  have hfo : r.four = [UInt8.ofNat r.c.toNat, UInt8.ofNat r.s.toNat, UInt8.ofNat r.k.toNat, UInt8.ofNat r.y.toNat] := rfl
  obtain ⟨A, cp, rfl⟩ := hu.shape
  rw [hfo] at htt
  obtain ⟨X, hX⟩ : ∃ X, X = r.text := ⟨_, rfl⟩
  rw [← hX] at htt ⊢
  clear hX hfo hf
  unfold Rq.v
  obtain ⟨c, s, k, y, a, b, g⟩ := r
  dsimp only at hbd htt ha hb hu ⊢
  obtain ⟨C, S, K, Y, rfl, rfl, rfl, rfl, hC, _, hS, hK, hY, _⟩ := hbd
  rw [Int.toNat_natCast, Int.toNat_natCast, Int.toNat_natCast, Int.toNat_natCast] at htt
  obtain ⟨T, hT⟩ : ∃ T, T = [UInt8.ofNat C, UInt8.ofNat S, UInt8.ofNat K, UInt8.ofNat Y] := ⟨_, rfl⟩
  have hTl : T.length = 4 := by rw [hT]; rfl
  have hTv : [.int .u8 (C : Int), .int .u8 (S : Int), .int .u8 (K : Int), .int .u8 (Y : Int)] = bvs T := by
    rw [hT]
    show _ = [byteV _, byteV _, byteV _, byteV _]
    rw [byteV_of (by omega), byteV_of (by omega), byteV_of (by omega), byteV_of (by omega)]
  rw [← hT] at htt
  have HTv := hid hTv
  clear hT hTv
  have Htt := hid htt
  clear htt
  have hvb := Blk.new' w 26 [.int .i64 (C : Int), .int .i64 (S : Int), .int .i64 (K : Int), .int .i64 (Y : Int), .int .i64 a, .int .i64 b, .slice A g.length cp]
  have hB : Below w.heap.size w (w.alloc (.cells #[.int .i64 (C : Int), .int .i64 (S : Int), .int .i64 (K : Int), .int .i64 (Y : Int), .int .i64 a, .int .i64 b, .slice A g.length cp] 26)) := (Below.refl _ _).alloc (Nat.le_refl _) _
  have w0 : IntKind.u8.wrap (C : Int) = (C : Int) := by rw [u8w]; omega
  have w1 : IntKind.u8.wrap (S : Int) = (S : Int) := by rw [u8w]; omega
  have w2 : IntKind.u8.wrap (K : Int) = (K : Int) := by rw [u8w]; omega
  have w3 : IntKind.u8.wrap (Y : Int) = (Y : Int) := by rw [u8w]; omega
  have c0 := hvb.cellAt 0 _ rfl
  have c1 := hvb.cellAt 1 _ rfl
  have c2 := hvb.cellAt 2 _ rfl
  have c3 := hvb.cellAt 3 _ rfl
  have hb4 := bs4B C S K Y
  go_enter Try.func14, Try.ntmps14
  go_wp2_with (refine wp_pushN (.tmp 4) 19 slB rfl rfl 4 [(0, .tmp 7), (1, .tmp 10), (2, .tmp 14), (3, .tmp 18)] rfl rfl rfl [(0, .int .u8 (C : Int)), (1, .int .u8 (S : Int)), (2, .int .u8 (K : Int)), (3, .int .u8 (Y : Int))] (by rfl) [.int .u8 (C : Int), .int .u8 (S : Int), .int .u8 (K : Int), .int .u8 (Y : Int)] hb4 (by intro u hu; simp at hu; rcases hu with rfl | rfl | rfl | rfl <;> rfl) (by simp) rfl (World.ownsRow_nil _ w.heap.size _ _) (by simp [maxLen]) (by simp) hB.size ?_)
  intro v1 x1 ho1 hG1 _
  have hB1 : Below w.heap.size w x1 := hB.grown hG1 hB.size (fun b h => by simp [Value.ownBlock] at h)
  have ho1 : x1.ownsRow w.heap.size 5 1 v1 4 (bvs T) := by rw [← HTv.out]; simpa using ho1
  have hv1 : Blk x1 w.heap.size 26 [.int .i64 (C : Int), .int .i64 (S : Int), .int .i64 (K : Int), .int .i64 (Y : Int), .int .i64 a, .int .i64 b, .slice A g.length cp] := hvb.keep (hG1.block _ hvb.lt (by simp [Value.ownBlock]))
  clear c0 c1 c2 c3 w0 w1 w2 w3 hb4 HTv hvb
  obtain ⟨g0, hg0⟩ : ∃ g, g = w.heap.size := ⟨_, rfl⟩
  rw [← hg0] at hv1 ⊢
  clear hg0
  have c4 := hv1.cellAt 4 _ rfl
  go_wp2_with (fail)
  refine (ref_fold_any a _ ha.1 ha.2).mono ?_
  rintro e _ ⟨rfl, rfl⟩
  go_wp2_with (fail)
  refine (refp_any _ _ (foldN_lt a ha.1 ha.2)).mono ?_
  rintro e x2 ⟨v2, rfl, ho2, hB2⟩
  have hv2 := hv1.below hB2
  have hB2' := hB1.trans (hB2.mono hB1.size)
  have ho1 := own_bel ho1 hB2
  have hp1 := psz_bd (foldN a)
  rw [length_packed] at ho2
  obtain ⟨A2, p2, rfl⟩ := own_shape ho2
  have hr2 := Rd.of_own ho2
  clear c4 hv1 hG1
  go_wp2_with (refine wp_app (.tmp 21) (.tmp 26) slB rfl rfl rfl ho1 rfl (by rw [← length_packed]; exact hr2.src) (oneCell_bvs _) (by simp only [maxLen]; omega) (by omega) hB2'.size ?_)
  intro v3 x3 ho3 hG3 _
  have ho3 : x3.ownsRow w.heap.size 5 1 v3 (4 + psz (foldN a)) (bvs (T ++ packed (foldN a))) := by simpa [bvs] using ho3
  have hB3 : Below w.heap.size w x3 := hB2'.grown hG3 hB2'.size (fun k hk => (ho1.lt k hk).1)
  have hv3 := blk_grown hv2 hG3 ho1 (by decide)
  clear hv2 ho1 ho2 hr2
  have c5 := hv3.cellAt 5 _ rfl
  go_wp2_with (fail)
  refine (ref_fold_any b _ hb.1 hb.2).mono ?_
  rintro e _ ⟨rfl, rfl⟩
  go_wp2_with (fail)
  refine (refp_any _ _ (foldN_lt b hb.1 hb.2)).mono ?_
  rintro e x4 ⟨v4, rfl, ho4, hB4⟩
  have hB4' := hB3.trans (hB4.mono hB3.size)
  have ho3 := own_bel ho3 hB4
  have hp2 := psz_bd (foldN b)
  rw [length_packed] at ho4
  obtain ⟨A4, p4, rfl⟩ := own_shape ho4
  have hr4 := Rd.of_own ho4
  clear c5
  go_wp2_with (refine wp_app (.tmp 28) (.tmp 33) slB rfl rfl rfl ho3 rfl (by rw [← length_packed]; exact hr4.src) (oneCell_bvs _) (by simp only [maxLen]; omega) (by omega) hB4'.size ?_)
  intro v5 x5 ho5 hG5 _
  have hB5 : Below w.heap.size w x5 := hB4'.grown hG5 hB4'.size (fun k hk => (ho3.lt k hk).1)
  go_wp2
  go_ret
  refine ⟨v5, rfl, ?_, hB5⟩
  rw [Htt.out, List.length_append, List.length_append, length_packed, length_packed, hTl, show bvs ((T ++ packed (foldN a)) ++ packed (foldN b)) = bvs (T ++ packed (foldN a)) ++ bvs (packed (foldN b)) from by simp [bvs]]
  exact ho5
end Go.Proofs.Ythdkfcbfjhdpoaa
