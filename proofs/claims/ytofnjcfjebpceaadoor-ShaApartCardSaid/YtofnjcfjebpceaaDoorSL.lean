/- SL: the laws of layer 2: what each law's Go function comes to. -/
import Derived.Test.YtofnjcfjebpceaaDoorSB
import Derived.Stop.BytesEq
import Derived.Lib.SlBytesConst
namespace Go.Proofs.YtofnjcfjebpceaaDoor
open Go.RowKit Go.V

theorem eqB (p : List UInt8) (hp : p.length = 32) : ∀ W : World, (Op.equalIn 10000 25 (.agg (bvs p).toArray) (.agg (bvs p).toArray)).run Tryd.prog W = .ok true W := fun W => by
  have := run_equalIn_bytes (P := Tryd.prog) W 9998 25 5 32 und25 Tryd.underlying5 Tryd.sizeOf5 p p hp hp
  rw [beq_self_eq_true] at this
  exact this
theorem at4 {l : List UInt8} {a b c d : UInt8} (h : l.take 4 = [a, b, c, d]) : l[0]? = some a ∧ l[1]? = some b ∧ l[2]? = some c ∧ l[3]? = some d := by
  have e : ∀ i, i < 4 → l[i]? = ([a, b, c, d] : List UInt8)[i]? := by
    intro i hi
    rw [← h, List.getElem?_take, if_pos hi]
  exact ⟨e 0 (by omega), e 1 (by omega), e 2 (by omega), e 3 (by omega)⟩
theorem bsB (x0 x1 x2 : Int) : ∀ W : World, (Instr.buildSlice 22 3 #[(0, .int .u8 x0), (1, .int .u8 x1), (2, .int .u8 x2)]).run Tryd.prog W = .ok (.slice (some ⟨W.heap.size, 0, none⟩) 3 3) (W.alloc (.cells #[.int .u8 x0, .int .u8 x1, .int .u8 x2] 5)) := fun _ => by kernel_rfl

theorem cvB (w : World) : (convert 22 22 (.slice (some ⟨w.heap.size, 0, none⟩) 3 3)).run Tryd.prog (w.alloc (.cells #[.int .u8 97, .int .u8 98, .int .u8 99] 5)) = .ok (.slice (some ⟨w.heap.size, 0, none⟩) 3 3) (w.alloc (.cells #[.int .u8 97, .int .u8 98, .int .u8 99] 5 (3, 4))) :=
  Lib.run_convert_bytes_const w 22 5 #[.int .u8 97, .int .u8 98, .int .u8 99] 3 3 Tryd.underlying22 Tryd.underlying5
theorem rdAbc (w : World) (t : TypeId) (fr : Nat × Nat) : Rd (w.alloc (.cells #[.int .u8 97, .int .u8 98, .int .u8 99] t fr)) (fun _ => True) (.slice (some ⟨w.heap.size, 0, none⟩) 3 3) (bys [97, 98, 99]) := by
  unfold bys Rd
  refine ⟨_, 3, rfl, by simp, by simp [maxLen], fun h => by simp at h, fun _ => ⟨_, _, rfl, trivial, RdC.of_bytes fun j u hu => ?_⟩⟩
  have hh : (w.alloc (.cells #[.int .u8 97, .int .u8 98, .int .u8 99] t fr)).heap[w.heap.size]? = some (.cells #[.int .u8 97, .int .u8 98, .int .u8 99] t fr) := heap_alloc_new w _
  rw [Nat.zero_add]
  simp only [World.cell?, hh]
  simp [bvs, byteV] at hu ⊢
  exact hu
set_option maxRecDepth 100000 in
set_option maxHeartbeats 1000000 in
theorem wakes_any (w : World) (hK : KS w) :
    Calls Tryd.prog 7 #[] w fun e w' => e = .returned (.bool true) ∧ Below w.heap.size w w' := by
  have hbs := bsB 97 98 99
  obtain ⟨p0, p1, p2, p3⟩ := at4 sha_nil
  obtain ⟨q0, q1, q2, q3⟩ := at4 sha_abc
  have P0 := hid (bvs_at _ _ _ p0)
  have P1 := hid (bvs_at _ _ _ p1)
  have P2 := hid (bvs_at _ _ _ p2)
  have P3 := hid (bvs_at _ _ _ p3)
  have Q0 := hid (bvs_at _ _ _ q0)
  have Q1 := hid (bvs_at _ _ _ q1)
  have Q2 := hid (bvs_at _ _ _ q2)
  have Q3 := hid (bvs_at _ _ _ q3)
  clear p0 p1 p2 p3 q0 q1 q2 q3
  go_enter Tryd.func7, Tryd.ntmps7
  go_wp2_with (fail)
  refine (sum_any _ [] nob _ hK (Rd.nil _ _) (by simp)).mono ?_
  rintro e w1 ⟨rfl, hB1⟩
  have hcv := cvB w1
  go_wp2_with (fail)
  have hal : Below w1.heap.size w1 (w1.alloc (.cells #[.int .u8 97, .int .u8 98, .int .u8 99] 5 (3, 4))) := (Below.refl _ _).alloc (Nat.le_refl _) _
  have hB2 := hB1.trans (hal.mono hB1.size)
  refine (sum_any _ [97, 98, 99] (fun _ => True) _ (hK.below hB2) (rdAbc w1 _ _) (by simp)).mono ?_
  rintro e w3 ⟨rfl, hB3⟩
  have hB3' := hB2.trans (hB3.mono hB2.size)
  have hz1 := Blk.new' w3 25 (zs8 32)
  obtain ⟨N, hN⟩ : ∃ N, N = shaF [] := ⟨_, rfl⟩
  obtain ⟨M, hM⟩ : ∃ M, M = shaF [97, 98, 99] := ⟨_, rfl⟩
  rw [← hM]
  rw [← hN] at P0 P1 P2 P3 ⊢
  rw [← hM] at Q0 Q1 Q2 Q3
  have lN : Hid (N.length = 32) := by show _ = _; rw [hN]; exact len_sha _
  have lM : Hid (M.length = 32) := by show _ = _; rw [hM]; exact len_sha _
  clear hN hM hbs hcv
  have hz1 : Blk ((w3.alloc (.cells (zs8 32).toArray 25)).alloc (.cells (zs8 32).toArray 25)) w3.heap.size 25 (zs8 32) := (Blk.new' w3 25 (zs8 32)).alloc _
  have hz2 : Blk ((w3.alloc (.cells (zs8 32).toArray 25)).alloc (.cells (zs8 32).toArray 25)) (w3.heap.size + 1) 25 (zs8 32) := by
    have := Blk.new' (w3.alloc (.cells (zs8 32).toArray 25)) 25 (zs8 32)
    simpa using this
  have hB4 : Below w.heap.size w ((w3.alloc (.cells (zs8 32).toArray 25)).alloc (.cells (zs8 32).toArray 25)) := (hB3'.alloc hB3'.size _).alloc (by have := hB3'.size; simp; omega) _
  go_wp2_with (first | (refine wp_new 25 rfl rfl zero25 ?_) | (refine wp_st (o := ⟨none, .store _ (.tmp 1) (.tmp 3), _, _, _, none⟩) 25 (.tmp 1) (.tmp 3) rfl rfl rfl (f := 0) rfl (l := bvs N) rfl hz1 (by simp [zs8, len_bvs, lN.out]) (by rw [len_bvs, lN.out]; exact size25) (oneCell_bvs _) ?_; intro w5 hb5 hG5; refine wp_stop ?_))
  rw [set25 _ lN.out] at hb5
  have hz5 := hz2.keep (hG5.block _ hz2.lt (by intro e; injection e with e; omega))
  have hB5 := hB4.grown hG5 hB4.size (by intro k hk; injection hk with hk; have := hB3'.size; omega)
  refine wp_go ?_
  refine wp_st 25 (.tmp 2) (.tmp 6) (by rfl) (by rfl) (by rfl) (f := 0) (by rfl) (l := bvs M) (by rfl) hz5 (by simp [zs8, len_bvs, lM.out]) (by rw [len_bvs, lM.out]; exact size25) (oneCell_bvs _) ?_
  intro w6 hb6 hG6
  rw [set25 _ lM.out] at hb6
  have hb5' := hb5.keep (hG6.block _ hb5.lt (by intro e; injection e with e; omega))
  have hB6 := hB5.grown hG6 hB5.size (by intro k hk; injection hk with hk; have := hB3'.size; omega)
  have c0 := hb5'.cellAt 0 _ P0.out
  have c1 := hb5'.cellAt 1 _ P1.out
  have c2 := hb5'.cellAt 2 _ P2.out
  have c3 := hb5'.cellAt 3 _ P3.out
  have d0 := hb6.cellAt 0 _ Q0.out
  have d1 := hb6.cellAt 1 _ Q1.out
  have d2 := hb6.cellAt 2 _ Q2.out
  have d3 := hb6.cellAt 3 _ Q3.out
  rw [show byteV 0xe3 = .int .u8 227 from rfl] at c0
  rw [show byteV 0xb0 = .int .u8 176 from rfl] at c1
  rw [show byteV 0xc4 = .int .u8 196 from rfl] at c2
  rw [show byteV 0x42 = .int .u8 66 from rfl] at c3
  rw [show byteV 0xba = .int .u8 186 from rfl] at d0
  rw [show byteV 0x78 = .int .u8 120 from rfl] at d1
  rw [show byteV 0x16 = .int .u8 22 from rfl] at d2
  rw [show byteV 0xbf = .int .u8 191 from rfl] at d3
  go_wp2
  go_ret
  exact ⟨rfl, hB6⟩

set_option maxRecDepth 100000 in
set_option maxHeartbeats 1000000 in
theorem shaSum_law (v : Value) (bs : List UInt8) (F : Nat → Prop) (w : World) (hK : KS w) (hb : Rd w F v (bys bs)) :
    Calls Tryd.prog 3 #[v] w fun e w' => e = .returned (.bool true) ∧ Below w.heap.size w w' := by
  obtain ⟨A, c, rfl⟩ := hb.shape
  go_enter Tryd.func3, Tryd.ntmps3
  go_wp2_with (fail)
  refine (wakes_any _ hK).mono ?_
  rintro e w1 ⟨rfl, hB1⟩
  by_cases hl : 3000 < bs.length
  · go_wp2
    go_ret
    exact ⟨rfl, hB1⟩
  · have hbs : ∀ W : World, (Instr.buildSlice 22 0 #[]).run Tryd.prog W = .ok (.slice (some ⟨W.heap.size, 0, none⟩) 0 0) (W.alloc (.cells #[] 5)) := fun W => by kernel_rfl
    have heq := eqB (shaF bs) (len_sha _)
    have h0 : (w1.alloc (.cells #[] 5)).ownsRow w1.heap.size 5 1 (.slice (some ⟨w1.heap.size, 0, none⟩) 0 0) 0 [] := World.ownsRow_made w1 #[] 0 (Nat.le_refl _) (by simp [maxLen]) rfl
    have hal : Below w.heap.size w (w1.alloc (.cells #[] 5)) := hB1.alloc hB1.size _
    go_wp2_with (refine wp_app (.tmp 9) (.tmp 10) slB rfl rfl rfl h0 rfl (hb.below hal).src (oneCell_bvs bs) (by simp only [maxLen]; omega) (by omega) (by simp) ?_; intro v2 w2 ho2 hG2 _; refine wp_stop ?_)
    have hB2 := hal.grown hG2 hal.size (fun k hk => by have := (h0.lt k hk).1; have := hB1.size; omega)
    rw [List.nil_append, Nat.zero_add] at ho2
    have hr2 := Rd.of_own ho2
    have hb2 := hb.below hB2
    refine wp_go ?_
    go_wp2_with (fail)
    refine (sum_any v2 bs _ _ (hK.below hB2) hr2 (by omega)).mono ?_
    rintro e w3 ⟨rfl, hB3⟩
    have hB3' := hB2.trans (hB3.mono hB2.size)
    go_wp2_with (fail)
    refine (rsum_any _ bs _ _ (hb2.below hB3) (by omega)).mono ?_
    rintro e w4 ⟨rfl, hB4⟩
    have hB4' := hB3'.trans (hB4.mono hB3'.size)
    go_wp2_with (fail)
    refine (same_b _ _ bs bs _ _ _ ((hr2.below hB3).below hB4) ((hb2.below hB3).below hB4)).mono ?_
    rintro e w5 ⟨rfl, hB5⟩
    rw [decide_eq_true rfl]
    go_wp2
    go_ret
    exact ⟨rfl, hB4'.trans (hB5.mono hB4'.size)⟩
end Go.Proofs.YtofnjcfjebpceaaDoor
