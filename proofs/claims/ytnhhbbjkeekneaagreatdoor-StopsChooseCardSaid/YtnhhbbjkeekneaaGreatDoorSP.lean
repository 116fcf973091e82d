/- SP: several texts in one (S3 SP). -/
import Derived.Test.YtnhhbbjkeekneaaGreatDoorS2
import Derived.BigRegion
import Derived.IntWalk
set_option maxRecDepth 100000
set_option maxHeartbeats 16000000
namespace Go.Proofs.YtnhhbbjkeekneaaGreatDoor
open Go.RowKit Go.V
theorem words_any (b : List UInt8) (w : World) (hl : b.length = 64) :
 Calls Tryz.prog 145 #[.agg (bvs b).toArray] w fun e w' => e = .returned (.agg (wvs (wl b 64)).toArray) /\ Below w.heap.size w w' := by
 go_enter Tryz.func145, Tryz.ntmps145; go_wp2_with (refine wp_new 194 rfl rfl zero64 ?_); have b1 : Blk (((w.alloc (.cells (bvs b).toArray 135)).alloc (.cells (zs32 64).toArray 194)).alloc (.cells (zs32 64).toArray 194)) w.heap.size 135 (bvs b) := ((Blk.new' w 135 _).alloc _).alloc _
 have b2 : Blk (((w.alloc (.cells (bvs b).toArray 135)).alloc (.cells (zs32 64).toArray 194)).alloc (.cells (zs32 64).toArray 194)) (w.heap.size + 1) 194 (zs32 64) := by
  have := (Blk.new' (w.alloc (.cells (bvs b).toArray 135)) 194 (zs32 64)).alloc (.cells (zs32 64).toArray 194); simpa using this
 have b3 : Blk (((w.alloc (.cells (bvs b).toArray 135)).alloc (.cells (zs32 64).toArray 194)).alloc (.cells (zs32 64).toArray 194)) (w.heap.size + 1 + 1) 194 (part64 b 0) := by
  show Blk _ _ _ (zs32 64); have := Blk.new' ((w.alloc (.cells (bvs b).toArray 135)).alloc (.cells (zs32 64).toArray 194)) 194 (zs32 64); simpa using this
 have hB0 : Below w.heap.size w (((w.alloc (.cells (bvs b).toArray 135)).alloc (.cells (zs32 64).toArray 194)).alloc (.cells (zs32 64).toArray 194)) :=
  (((Below.refl _ _).alloc (Nat.le_refl _) _).alloc (by simp) _).alloc (by simp; omega) _
 obtain ⟨w0, hw0⟩ := nm ((((w.alloc (.cells (bvs b).toArray 135)).alloc (.cells (zs32 64).toArray 194)).alloc (.cells (zs32 64).toArray 194))); rw [<- hw0] at b1 b2 b3 hB0 |-; clear hw0
 go_loopw [11] (fun iv wr => ∃ i : Nat, i <= 16 /\ iv = .int .i64 i /\ Blk wr w.heap.size 135 (bvs b) /\ Blk wr (w.heap.size + 1) 194 (zs32 64) /\ Blk wr (w.heap.size + 1 + 1) 194 (part64 b i) /\ Below w.heap.size w wr) (fun iv _ => 16 - (intOf iv).toNat)
 case atStart => exact ⟨0, by omega, rfl, b1, b2, b3, hB0⟩
 case round =>
  obtain ⟨i, hi, rfl, g1, g2, g3, gB⟩ := hrel; by_cases hil : i < 16
  . have hs1 := fun W => run_sla_l Tryz.underlying135 size8 w.heap.size 0 (4 * i) .i64 (4 * (i : Int)) (by omega) (by omega) W; rw [Nat.zero_add] at hs1; have hs2 := fun W => run_slh slB w.heap.size (4 * i) (64 - 4 * i) (64 - 4 * i) 4 .i64 4 rfl (by omega) (by omega) W; go_wp2; obtain ⟨x0, hx0⟩ : ∃ x, b[4 * i]? = some x := ⟨_, List.getElem?_eq_getElem (by omega)⟩
    obtain ⟨x1, hx1⟩ : ∃ x, b[4 * i + 1]? = some x := ⟨_, List.getElem?_eq_getElem (by omega)⟩
    obtain ⟨x2, hx2⟩ : ∃ x, b[4 * i + 2]? = some x := ⟨_, List.getElem?_eq_getElem (by omega)⟩
    obtain ⟨x3, hx3⟩ : ∃ x, b[4 * i + 3]? = some x := ⟨_, List.getElem?_eq_getElem (by omega)⟩
    have c0 := g1.cellAt _ _ (bvs_at _ _ _ hx0); have c1 := g1.cellAt _ _ (bvs_at _ _ _ hx1); have c2 := g1.cellAt _ _ (bvs_at _ _ _ hx2); have c3 := g1.cellAt _ _ (bvs_at _ _ _ hx3); unfold byteV at c0 c1 c2 c3; have d0 := hid hx0; have d1 := hid hx1; have d2 := hid hx2; have d3 := hid hx3; have l0 := x0.toNat_lt; have l1 := x1.toNat_lt; have l2 := x2.toNat_lt; have l3 := x3.toNat_lt; clear hx0 hx1 hx2 hx3 hs1 hs2; refine wp_region_tail 23 (by kernel_rfl) (by kernel_rfl) ?_; simp only [List.take_succ_cons, List.take_zero, List.drop_succ_cons, List.drop_zero]
    repeat still_step
    refine wpStill_nil ?_; simp only [be_out d0.out d1.out d2.out d3.out]; have Hs := hid (part64_set b i (by omega) (be4 b i) (by rw [if_pos hil])); have g3d := g3.drew; go_wp2_with (refine wp_st1 130 (.tmp 41) (.tmp 40) rfl rfl rfl (f := i) rfl (v := u32V (be4 b i)) rfl g3d (by rw [part64_len _ _ (by omega)]; omega) size32 rfl rfl ?_; intro w3 g3' hG3); rw [Hs.out] at g3'; have gB' : Below w.heap.size w w3 := gB.drew.grown hG3 gB.size (sk (by omega)); have g1' := g1.drew.keep (hG3.block _ g1.lt (by intro e; injection e with e; omega)); have g2' := g2.drew.keep (hG3.block _ g2.lt (by intro e; injection e with e; omega))
    go_roundw
    case rel => exact ⟨i + 1, by omega, by go_num, g1', g2', g3', gB'⟩
    case measure => simp [intOf]; omega
  . have h16 : i = 16 := by omega
    subst h16; clear hil; rw [show ((16 : Nat) : Int) = 16 from rfl]; go_wp2
    go_loopw [6] (fun iv wr => ∃ i : Nat, 16 <= i /\ i <= 64 /\ iv = .int .i64 i /\ Blk wr (w.heap.size + 1) 194 (zs32 64) /\ Blk wr (w.heap.size + 1 + 1) 194 (part64 b i) /\ Below w.heap.size w wr) (fun iv _ => 64 - (intOf iv).toNat)
    case atStart => exact ⟨16, by omega, by omega, rfl, g2, g3, gB⟩
    case round =>
     obtain ⟨i, hi16, hi, rfl, g2, g3, gB⟩ := hrel; by_cases hil : i < 64
     . obtain ⟨A, hA⟩ := nm ((wl b i).getD (i - 15) 0); obtain ⟨B, hB⟩ := nm ((wl b i).getD (i - 2) 0); obtain ⟨C, hC⟩ := nm ((wl b i).getD (i - 7) 0); obtain ⟨D, hD⟩ := nm ((wl b i).getD (i - 16) 0); have cA := g3.cellAt _ _ (part64_at b i (i - 15) (by omega)); have cB := g3.cellAt _ _ (part64_at b i (i - 2) (by omega)); have cC := g3.cellAt _ _ (part64_at b i (i - 7) (by omega)); have cD := g3.cellAt _ _ (part64_at b i (i - 16) (by omega)); unfold u32V at cA cB cC cD; rw [<- hA] at cA; rw [<- hB] at cB; rw [<- hC] at cC; rw [<- hD] at cD; have Hs := hid (part64_set b i hil (sg1 B + C + sg0 A + D) (by rw [if_neg (by omega), hA, hB, hC, hD]; rfl)); clear hA hB hC hD; have HC := hid cC; have HD := hid cD; clear cC cD; have eA : ((i : Int) - 15).toNat = i - 15 := by omega
       have eB : ((i : Int) - 2).toNat = i - 2 := by omega
       go_wp2; have wA : IntKind.i64.wrap ((i : Int) - 15) = (i : Int) - 15 := IntWalk.i64_in _ (by omega); have wB : IntKind.i64.wrap ((i : Int) - 2) = (i : Int) - 2 := IntWalk.i64_in _ (by omega); have nA : (0 : Int) <= (i : Int) - 15 := by omega
       have nB : (0 : Int) <= (i : Int) - 2 := by omega
       have bA : (i : Int) - 15 < 64 := by omega
       have bB : (i : Int) - 2 < 64 := by omega
       go_quiet (fail)
       clear wA wB nA nB bA bB eA eB cA cB; go_wp2_with (go_at_call 159; refine (turned_l _ _ _ (by omega) (by omega)).mono ?_; rintro e' w' ⟨rfl, rfl⟩; simp only [Int.reduceToNat]); have e0 : bits BinOp.xor IntKind.u32 (bits BinOp.xor IntKind.u32 ((rotr A 7).toNat : Int) ((rotr A 18).toNat : Int)) ((A.toNat : Int) / 8) = ((sg0 A).toNat : Int) := by rw [xor_out, shr3, xor_out]; rfl
       have e1 : bits BinOp.xor IntKind.u32 (bits BinOp.xor IntKind.u32 ((rotr B 17).toNat : Int) ((rotr B 19).toNat : Int)) ((B.toNat : Int) / 1024) = ((sg1 B).toNat : Int) := by rw [xor_out, shr10, xor_out]; rfl
       rw [e0, e1]; clear e0 e1; obtain ⟨W, hW⟩ := nm (wr.drewN nq); have k2 : Blk W (w.heap.size + 1) 194 (zs32 64) := by rw [hW]; exact g2
       have k3 : Blk W (w.heap.size + 1 + 1) 194 (part64 b i) := by rw [hW]; exact g3
       have kB : Below w.heap.size w W := by rw [hW]; exact ⟨gB.os, gB.tape, gB.output, gB.size, gB.block⟩
       have cC : W.cell? ⟨w.heap.size + 1 + 1, i - 7, none⟩ = some (.int .u32 (C.toNat : Int)) := by rw [hW]; exact HC.out
       have cD : W.cell? ⟨w.heap.size + 1 + 1, i - 16, none⟩ = some (.int .u32 (D.toNat : Int)) := by rw [hW]; exact HD.out
       rw [<- hW]; clear hW; have eA : ((i : Int) - 7).toNat = i - 7 := by omega
       have eB : ((i : Int) - 16).toNat = i - 16 := by omega
       have wA : IntKind.i64.wrap ((i : Int) - 7) = (i : Int) - 7 := IntWalk.i64_in _ (by omega); have wB : IntKind.i64.wrap ((i : Int) - 16) = (i : Int) - 16 := IntWalk.i64_in _ (by omega); have nA : (0 : Int) <= (i : Int) - 7 := by omega
       have nB : (0 : Int) <= (i : Int) - 16 := by omega
       have bA : (i : Int) - 7 < 64 := by omega
       have bB : (i : Int) - 16 < 64 := by omega
       have mA : (7 : Int) <= (i : Int) := by omega
       have mB : (16 : Int) <= (i : Int) := by omega
       refine wp_region_tail 14 (by kernel_rfl) (by kernel_rfl) ?_; simp only [List.take_succ_cons, List.take_zero, List.drop_succ_cons, List.drop_zero]
       repeat still_step
       refine wpStill_nil ?_; clear wA wB nA nB bA bB eA eB cC cD mA mB; simp only [wadd_out]; have k3d := k3.drew; go_wp2_with (refine wp_st1 130 (.tmp 85) (.tmp 84) rfl rfl rfl (f := i) rfl (v := u32V (sg1 B + C + sg0 A + D)) rfl k3d (by rw [part64_len _ _ (by omega)]; omega) size32 rfl rfl ?_; intro w3 k3' hG3); rw [Hs.out] at k3'; have kB' : Below w.heap.size w w3 := kB.drew.grown hG3 kB.size (sk (by omega)); have k2' := k2.drew.keep (hG3.block _ k2.lt (by intro e; injection e with e; omega)); go_wp2
       go_roundw
       case rel => exact ⟨i + 1, by omega, by omega, by go_num, k2', k3', kB'⟩
       case measure => simp [intOf]; omega
     . have h64 : i = 64 := by omega
       subst h64; rw [part64_end] at g3; go_wp2_with (first | (refine wp_ld 194 (.tmp 3) rfl rfl rfl g3.whole Tryz.underlying194 rfl (by rw [len_wvs, wl_len]; exact size64) ?_) | (refine wp_st 194 (.tmp 2) (.tmp 86) rfl rfl rfl rfl rfl g2 (by simp [zs32, len_wvs, wl_len]) (by rw [len_wvs, wl_len]; exact size64) (oneCell_wvs _) ?_; intro w2 h2' hG2)); have e64 : (zs32 64).take 0 ++ wvs (wl b 64) ++ (zs32 64).drop (0 + (wvs (wl b 64)).length) = wvs (wl b 64) := by simp [len_wvs, wl_len, zs32]
       rw [e64] at h2'; refine ret_cell rfl rfl h2'.whole Tryz.underlying194 rfl (by rw [len_wvs, wl_len]; exact size64) rfl ?_; exact ⟨rfl, gB.grown hG2 gB.size (by intro k hk; simp at hk; omega)⟩
end Go.Proofs.YtnhhbbjkeekneaaGreatDoor
namespace Go.V
theorem fbk_congr (p q : List UInt8) : ∀ n, p.take (64 * n) = q.take (64 * n) -> fbk p n = fbk q n
 | 0, _ => rfl
 | n + 1, h => by
  have h1 : p.take (64 * n) = q.take (64 * n) := by
   have := congrArg (List.take (64 * n)) h; rw [List.take_take, List.take_take, show min (64 * n) (64 * (n + 1)) = 64 * n from by omega] at this; exact this
  have h2 : (p.drop (64 * n)).take 64 = (q.drop (64 * n)).take 64 := by
   have := congrArg (List.drop (64 * n)) h; rw [List.drop_take, List.drop_take, show 64 * (n + 1) - 64 * n = 64 from by omega] at this; exact this
  rw [fbk, fbk, fbk_congr p q n h1, h2]
theorem fbk_app (p q : List UInt8) (n : Nat) (h : 64 * n <= p.length) : fbk (p ++ q) n = fbk p n :=
 fbk_congr _ _ n (by rw [List.take_append_of_le_length h])
def MS (p blk : List UInt8) (s : S8) : Prop := blk.length = 64 /\ blk.take (p.length % 64) = p.drop (64 * (p.length / 64)) /\ s = fbk p (p.length / 64)
theorem MS.part {p blk : List UInt8} {s : S8} (h : MS p blk s) (x : List UInt8) (hx : p.length % 64 + x.length < 64) :
 MS (p ++ x) (blk.take (p.length % 64) ++ x ++ blk.drop (p.length % 64 + x.length)) s := by
 obtain ⟨h1, h2, h3⟩ := h; have e1 : (p ++ x).length / 64 = p.length / 64 := by rw [List.length_append]; omega
 have e2 : (p ++ x).length % 64 = p.length % 64 + x.length := by rw [List.length_append]; omega
 have e3 : (blk.take (p.length % 64)).length = p.length % 64 := by rw [List.length_take]; omega
 refine ⟨by simp only [List.length_append, List.length_drop, e3]; omega, ?_, ?_⟩
 . rw [e1, e2, List.take_append_of_le_length (by rw [List.length_append, e3]; omega), List.take_of_length_le (by rw [List.length_append, e3]; omega), h2,
    List.drop_append_of_le_length (by omega)]
 . rw [e1, fbk_app _ _ _ (by omega)]; exact h3
theorem MS.full {p blk : List UInt8} {s : S8} (h : MS p blk s) (x : List UInt8) (hx : p.length % 64 + x.length = 64) :
 MS (p ++ x) (blk.take (p.length % 64) ++ x) (blockF s (blk.take (p.length % 64) ++ x)) := by
 obtain ⟨h1, h2, h3⟩ := h; have e1 : (p ++ x).length / 64 = p.length / 64 + 1 := by rw [List.length_append]; omega
 have e2 : (p ++ x).length % 64 = 0 := by rw [List.length_append]; omega
 have e3 : (blk.take (p.length % 64)).length = p.length % 64 := by rw [List.length_take]; omega
 refine ⟨by rw [List.length_append, e3]; omega, ?_, ?_⟩
 . rw [e1, e2, List.take_zero, List.drop_of_length_le (by rw [List.length_append]; omega)]
 . rw [e1, fbk, fbk_app _ _ _ (by omega), <- h3, List.drop_append_of_le_length (by omega), h2, List.take_of_length_le (by rw [List.length_append, List.length_drop]; omega)]
theorem MS.nil (blk : List UInt8) (h : blk.length = 64) : MS [] blk iv := ⟨h, by simp, rfl⟩
end Go.V
