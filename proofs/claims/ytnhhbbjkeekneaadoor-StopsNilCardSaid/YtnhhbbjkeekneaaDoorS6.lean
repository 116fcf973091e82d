/- S6: contracts of digest, Sum, Pair, Chain, All. -/
import Derived.Test.YtnhhbbjkeekneaaDoorS5
import Derived.Test.YtnhhbbjkeekneaaDoorVA
namespace Go.Proofs.YtnhhbbjkeekneaaDoor
open Go.RowKit Go.V
theorem size49 : (Tryd.prog.info? 98).map (·.size) = some 73 := by kernel_rfl
def zmix : List Value := mixC ⟨0, 0, 0, 0, 0, 0, 0, 0⟩ (List.replicate 64 0) 0
theorem zero49 : (Tryd.prog.info? 98).map (·.zero) = some (some (.agg zmix.toArray)) := by kernel_rfl
theorem build49 : ∀ W : World, (Instr.build 98 #[(0, .agg #[.int .u32 1779033703, .int .u32 3144134277, .int .u32 1013904242, .int .u32 2773480762, .int .u32 1359893119, .int .u32 2600822924, .int .u32 528734635, .int .u32 1541459225])]).run Tryd.prog W = .ok (.agg (mixC iv (List.replicate 64 0) 0).toArray) W := fun W => by kernel_rfl
theorem mixC_one (s : S8) (blk : List UInt8) (n : Nat) : ∀ v ∈ mixC s blk n, v.oneCell' = true := by
  intro v hv
  unfold mixC at hv
  rcases List.mem_append.1 hv with h | h
  · exact oneCell_wvs _ v h
  · rcases List.mem_append.1 h with h | h
    · exact oneCell_bvs _ v h
    · simp at h; subst h; rfl
theorem len_sha (p : List UInt8) : (shaF p).length = 32 := len_s8b _
theorem set25 (l : List UInt8) (hl : l.length = 32) : (zs8 32).take 0 ++ bvs l ++ (zs8 32).drop (0 + (bvs l).length) = bvs l := by simp [len_bvs, hl, zs8]
theorem flatten_take_succ (ts : List (List UInt8)) (i : Nat) (t : List UInt8) (h : ts[i]? = some t) : (ts.take (i + 1)).flatten = (ts.take i).flatten ++ t := by
  obtain ⟨hi, he⟩ := List.getElem?_eq_some_iff.1 h
  rw [List.take_succ_eq_append_getElem hi, he]
  simp
theorem flatten_take_le (ts : List (List UInt8)) (i : Nat) : (ts.take i).flatten.length ≤ ts.flatten.length := by
  have : ts.flatten = (ts.take i).flatten ++ (ts.drop i).flatten := by rw [← List.flatten_append, List.take_append_drop]
  rw [this, List.length_append]
  omega

set_option maxRecDepth 100000 in
set_option maxHeartbeats 2000000 in
theorem digest_any (v : Value) (ts : List (List UInt8)) (F0 : Nat → Prop) (w : World) (hK : KS w) (ht0 : Rd w F0 v (tx ts)) (hn : ts.flatten.length < 288230376151711744) :
    Calls Tryd.prog 50 #[v] w fun e w' => e = .returned (.agg (bvs (shaF ts.flatten)).toArray) ∧ Below w.heap.size w w' := by
  have ht := ht0.weak (F' := fun b => b < w.heap.size) (fun b hb _ => hb)
  clear ht0
  unfold tx at ht
  obtain ⟨A, c, rfl, hc1, hc2⟩ := ht.slShape
  unfold maxLen at hc2
  go_enter Tryd.func50, Tryd.ntmps50
  go_wp2_with (first | (refine wp_new 46 rfl rfl zero25 ?_) | (refine wp_bld 98 [(0, .tmp 6)] rfl rfl [(0, .agg #[.int .u32 1779033703, .int .u32 3144134277, .int .u32 1013904242, .int .u32 2773480762, .int .u32 1359893119, .int .u32 2600822924, .int .u32 528734635, .int .u32 1541459225])] rfl build49 ?_) | (refine wp_new 98 rfl rfl zero49 ?_) | (refine wp_st 98 (.tmp 3) (.tmp 7) rfl rfl rfl (f := 0) rfl (l := mixC iv (List.replicate 64 0) 0) rfl (Blk.new' (w.alloc (.cells (zs8 32).toArray 46)) 98 zmix) (by simp [zmix, mixC_len]) (by rw [mixC_len _ _ _ (by simp)]; exact size49) (mixC_one _ _ _) ?_; intro w1 hb1 hG1))
  have e1 : zmix.take 0 ++ mixC iv (List.replicate 64 0) 0 ++ zmix.drop (0 + (mixC iv (List.replicate 64 0) 0).length) = mixC iv (List.replicate 64 0) 0 := by
    rw [List.drop_of_length_le (by rw [mixC_len _ _ _ (by simp), zmix, mixC_len _ _ _ (by simp)]; omega)]
    simp
  rw [e1] at hb1
  clear e1
  have hm : (w.alloc (.cells (zs8 32).toArray 46)).heap.size = w.heap.size + 1 := by simp
  rw [hm] at hb1 hG1
  have hB1 : Below w.heap.size w w1 := (((Below.refl _ _).alloc (Nat.le_refl _) _).alloc (by simp) _).grown hG1 (by simp; omega) (by intro k hk; injection hk with hk; omega)
  have hz1 : Blk w1 w.heap.size 46 (zs8 32) := ((Blk.new' w 46 (zs8 32)).alloc (.cells zmix.toArray 98)).keep (hG1.block _ (by simp; omega) (by intro e; injection e with e; omega))
  have hM1 : MixR w1 (w.heap.size + 1) [] := ⟨_, iv, MS.nil _ (by simp), hb1⟩
  clear hm hG1 hb1
  have hks := hK.lt
  go_loopw [10] (fun iv wr => ∃ i : Nat, i ≤ ts.length ∧ iv = .int .i64 i ∧ MixR wr (w.heap.size + 1) (ts.take i).flatten ∧ Blk wr w.heap.size 46 (zs8 32) ∧ Below w.heap.size w wr) (fun iv _ => ts.length - (intOf iv).toNat)
  case atStart => exact ⟨0, by omega, rfl, by simpa using hM1, hz1, hB1⟩
  case round =>
    obtain ⟨i, hi, rfl, hM, hz, hB⟩ := hrel
    by_cases hil : i < ts.length
    · obtain ⟨ti, hti⟩ : ∃ t, ts[i]? = some t := ⟨_, List.getElem?_eq_getElem hil⟩
      obtain ⟨g, off, u, rfl, hgl, hcu, hru⟩ := (ht.below hB).elem i (bys ti) (by rw [List.getElem?_map, hti]; rfl)
      have hfl := hid (flatten_take_succ ts i ti hti)
      have hle := flatten_take_le ts (i + 1)
      rw [hfl.out, List.length_append] at hle
      clear hti
      go_wp2_with (fail)
      refine (put_any (w.heap.size + 1) _ ti u _ _ (hK.below hB) hM hru (by intro e; have : w.heap.size + 1 < w.heap.size := e; omega) (by omega) (by omega)).mono ?_
      rintro e' w5 ⟨rfl, hM5, hC5⟩
      rw [← hfl.out] at hM5
      have hB5 := Ch.below_of hB hC5 (fun k hk => by have : k = w.heap.size + 1 := hk; omega) hB.size
      have hz5 := hz.ch hC5 (by intro e; have : w.heap.size = w.heap.size + 1 := e; omega)
      go_wp2
      go_roundw
      case rel => exact ⟨i + 1, by omega, by go_num, hM5, hz5, hB5⟩
      case measure => simp [intOf]; omega
    · have hii : i = ts.length := by omega
      rw [hii, List.take_length] at hM
      clear hii
      go_wp2_with (fail)
      refine (end_any (w.heap.size + 1) _ _ (hK.below hB) hM (by omega) hn).mono ?_
      rintro e' w5 ⟨rfl, hM5, hC5⟩
      have hB5 := Ch.below_of hB hC5 (fun k hk => by have : k = w.heap.size + 1 := hk; omega) hB.size
      have hz5 := hz.ch hC5 (by intro e; have : w.heap.size = w.heap.size + 1 := e; omega)
      obtain ⟨blk, s, hms, hblk⟩ := hM5
      have hs : Hid (s8b s = shaF ts.flatten) := by show _ = _; rw [hms.2.2]; rfl
      clear hms hC5
      go_wp2_with (first | (refine wp_ld 96 (.tmp 18) rfl rfl rfl (hblk.range 0 _ (mixC_st s blk _)) Tryd.underlying96 rfl size46 ?_))
      refine (told_any s _).mono ?_
      rintro e' w6 ⟨rfl, hB6⟩
      have hz6 := hz5.below hB6
      have hB6' := hB5.trans (hB6.mono hB5.size)
      go_wp2_with (refine wp_st 46 (.tmp 2) (.tmp 20) rfl rfl rfl (f := 0) rfl (l := bvs (s8b s)) rfl hz6 (by simp [zs8, len_bvs, len_s8b]) (by rw [len_bvs, len_s8b]; exact size25) (oneCell_bvs _) ?_; intro w7 hb7 hG7)
      rw [set25 _ (len_s8b s)] at hb7
      refine ret_cell rfl rfl hb7.whole Tryd.underlying46 rfl (by rw [len_bvs, len_s8b]; exact size25) rfl ?_
      exact ⟨by rw [hs.out], hB6'.grown hG7 hB6'.size (by intro k hk; injection hk with hk; omega)⟩

end Go.Proofs.YtnhhbbjkeekneaaDoor
