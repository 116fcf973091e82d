/- S6: several texts in one (S5 S6). -/
import Derived.Test.YtnhhbbjkeekneaaGreatDoorS4
import Derived.Test.YtnhhbbjkeekneaaGreatDoorRB
import Derived.Test.YtnhhbbjkeekneaaGreatDoorVA
/- S5: contracts of the mixer's end, of digest. -/
namespace Go.Proofs.YtnhhbbjkeekneaaGreatDoor
open Go.RowKit Go.V

/-- the array rest, i bytes of the length in it -/
def restL (n bits i : Nat) : List UInt8 := 128 :: (List.replicate n 0 ++ ((fx 8 bits).take i ++ List.replicate (71 - n - i) 0))
theorem restL_len (n bits i : Nat) (hn : n < 64) (hi : i ≤ 8) : (restL n bits i).length = 72 := by
  simp [restL, len_fx]; omega
theorem restL_0 (n bits : Nat) (hn : n < 64) : (zs8 72).set 0 (.int .u8 128) = bvs (restL n bits 0) := by
  have e : restL n bits 0 = 128 :: List.replicate 71 0 := by
    unfold restL
    rw [List.take_zero, List.nil_append, List.replicate_append_replicate]
    congr 2
    omega
  rw [e]
  simp [zs8, bvs, List.replicate_succ, byteV]
theorem restL_set (n bits i : Nat) (hn : n < 64) (hi : i < 8) (c : UInt8) (hc : (fx 8 bits)[i]? = some c) : (bvs (restL n bits i)).set (1 + n + i) (byteV c) = bvs (restL n bits (i + 1)) := by
  rw [show (bvs (restL n bits i)).set (1 + n + i) (byteV c) = bvs ((restL n bits i).set (1 + n + i) c) from by simp [bvs, List.map_set]]
  congr 1
  unfold restL
  rw [show 1 + n + i = (n + i) + 1 from by omega, List.set_cons_succ, List.set_append_right _ _ (by simp), List.length_replicate, show n + i - n = i from by omega]
  congr 2
  have hl : ((fx 8 bits).take i).length = i := by simp [len_fx]; omega
  have hil : i < (fx 8 bits).length := by rw [len_fx]; exact hi
  rw [List.set_append_right _ _ (by omega), hl, Nat.sub_self, show 71 - n - i = (71 - n - (i + 1)) + 1 from by omega, List.replicate_succ, List.set_cons_zero, List.take_succ_eq_append_getElem hil]
  have : (fx 8 bits)[i] = c := by rw [List.getElem?_eq_getElem hil] at hc; injection hc
  rw [this]
  simp
theorem restL_take (n bits : Nat) (_hn : n < 64) : (restL n bits 8).take (9 + n) = 128 :: (List.replicate n 0 ++ fx 8 bits) := by
  unfold restL
  rw [show 9 + n = (n + 8) + 1 from by omega, List.take_succ_cons]
  congr 1
  rw [List.take_append, List.length_replicate, List.take_of_length_le (by simp), show n + 8 - n = 8 from by omega, List.take_of_length_le (by rw [len_fx]; omega : (fx 8 bits).length ≤ 8), List.take_append_of_le_length (by rw [len_fx]; omega), List.take_of_length_le (by rw [len_fx]; omega)]
theorem fx_at (n x i : Nat) (hi : i < n) : (fx n x)[i]? = some (UInt8.ofNat (x / 256 ^ (n - 1 - i) % 256)) := by
  simp [fx, hi]
theorem byte8 (x j : Nat) : Value.int .u8 ((x : Int) / 2 ^ (8 * j) % 256) = byteV (UInt8.ofNat (x / 256 ^ j % 256)) := by rw [fix_byte, byteV_of (by omega)]
theorem zero66 : (Tryz.prog.info? 206).map (·.zero) = some (some (.agg (zs8 72).toArray)) := by kernel_rfl
theorem Blk.rdcut {w : World} {b : Nat} {t : TypeId} {bs : List UInt8} (h : Blk w b t (bvs bs)) (m c : Nat) (hm : m ≤ bs.length) (h1 : m ≤ c) (h2 : c ≤ maxLen) : Rd w (fun k => k = b) (.slice (some ⟨b, 0, none⟩) m c) (bys (bs.take m)) := by
  have hl : (bs.take m).length = m := by rw [List.length_take]; omega
  unfold bys Rd
  refine ⟨_, c, by rw [hl], by rw [hl]; exact h1, h2, fun h0 => by rw [List.eq_nil_of_length_eq_zero h0]; rfl, fun _ => ⟨_, _, rfl, rfl, RdC.of_bytes fun j u hu => ?_⟩⟩
  rw [Nat.zero_add]
  refine h.cellAt j u ?_
  have hj := (List.getElem?_eq_some_iff.1 hu).1
  rw [len_bvs, hl] at hj
  have e : bvs (bs.take m) = (bvs bs).take m := by simp [bvs]
  rw [e, List.getElem?_take, if_pos hj] at hu
  exact hu

set_option maxRecDepth 100000 in
set_option maxHeartbeats 2000000 in
theorem end_any (g : Nat) (p : List UInt8) (w : World) (hK : KS w) (hM : MixR w g p) (hg : g ≠ 0) (hn : p.length < 288230376151711744) :
    Calls Tryz.prog 125 #[.pointer (some ⟨g, 0, none⟩)] w fun e w' => e = .returned (.tuple #[]) ∧ MixR w' g (pad p) ∧ Ch (fun b => b = g) w w' := by
  have hM' := hM
  obtain ⟨blk, s, hms, hblk⟩ := hM
  have hcs := hblk.cellAt 72 _ (mixC_size s blk _ hms.1)
  have hgl := hblk.lt
  obtain ⟨n, hn'⟩ : ∃ n, n = padN p.length := ⟨_, rfl⟩
  have hn64 : n < 64 := by rw [hn']; unfold padN; omega
  have hne : ((119 : Int) - (p.length : Int) % 64) % 64 = (n : Int) := by rw [hn']; unfold padN; omega
  have Hn := hid hn'
  clear hn'
  go_enter Tryz.func125, Tryz.ntmps125
  have hs1 := fun W => run_sla_l Tryz.underlying206 size8 w.heap.size 0 (1 + n) .u64 (1 + (n : Int)) (by omega) (by omega) W
  rw [Nat.zero_add] at hs1
  have hs2 := fun W => run_slh slB w.heap.size (1 + n) (72 - (1 + n)) (72 - (1 + n)) 8 .i64 8 rfl (by omega) (by omega) W
  have hs3 := fun W => run_sla_h Tryz.underlying206 size8 w.heap.size 0 (9 + n) .u64 (1 + (n : Int) + 8) (by omega) (by omega) (by omega) W
  have hB0 : Below w.heap.size w (w.alloc (.cells (zs8 72).toArray 206)) := (Below.refl _ _).alloc (Nat.le_refl _) _
  have hz := Blk.new' w 206 (zs8 72)
  go_wp2_with (first | (refine wp_new 206 rfl rfl zero66 ?_) | (refine wp_st1 5 (.tmp 19) (.const (.int .u8 128)) rfl rfl rfl (f := 0) rfl (v := .int .u8 128) rfl hz (by simp [zs8]) size8 rfl rfl ?_; intro w1 hb1 hG1))
  rw [restL_0 n (8 * p.length) hn64] at hb1
  have hB1 := hB0.grown hG1 (Nat.le_of_lt (by simp)) (by intro k hk; injection hk with hk; omega)
  clear hz hG1 hB0 hcs hs1 hs2 hne
  obtain ⟨bits, hbits⟩ : ∃ bits, bits = 8 * p.length := ⟨_, rfl⟩
  rw [show (8 * (p.length : Int)) = (bits : Int) from by omega]
  rw [← hbits] at hb1
  have hbl : bits < 18446744073709551616 := by omega
  have Hb := hid hbits
  clear hbits
  go_loopw [26] (fun iv wr => ∃ i : Nat, i ≤ 8 ∧ iv = .int .i64 i ∧ Blk wr w.heap.size 206 (bvs (restL n bits i)) ∧ Below w.heap.size w wr) (fun iv _ => 8 - (intOf iv).toNat)
  case atStart => exact ⟨0, by omega, rfl, hb1, hB1⟩
  case round =>
    obtain ⟨i, hi, rfl, hb, hB⟩ := hrel
    by_cases hil : i < 8
    · have hset := hid (restL_set n bits i hn64 hil _ (fx_at 8 bits i hil))
      go_wp2_with (refine wp_st1 5 (.tmp 37) (.tmp 36) rfl rfl rfl (f := 1 + n + i) rfl (v := byteV (UInt8.ofNat (bits / 256 ^ (8 - 1 - i) % 256))) (byte8 bits (7 - i)) hb (by rw [len_bvs, restL_len _ _ _ hn64 (by omega)]; omega) size8 rfl rfl ?_; intro w3 hb3 hG3)
      rw [hset.out] at hb3
      have hB3 := hB.grown hG3 hB.size (by intro k hk; injection hk with hk; omega)
      go_wp2
      go_roundw
      case rel => exact ⟨i + 1, by omega, by go_num, hb3, hB3⟩
      case measure => simp [intOf]; omega
    · have h8 : i = 8 := by omega
      subst h8
      have hr := Blk.rdcut hb (9 + n) 72 (by rw [restL_len _ _ _ hn64 (by omega)]; omega) (by omega) (by simp [maxLen])
      rw [restL_take _ _ hn64] at hr
      have hpad : Hid (p ++ 128 :: (List.replicate n 0 ++ fx 8 bits) = pad p) := by
        show _ = _
        rw [Hn.out, Hb.out]
        unfold pad
        simp
      have Hr := hid hr
      clear hr hb
      go_wp2_with (fail)
      refine (put_any g p _ _ _ _ (hK.below hB) (hM'.keep (hB.block g hgl)) Hr.out (by intro e; omega) hg (by simp [len_fx]; omega)).mono ?_
      rintro e' w5 ⟨rfl, hM5, hC5⟩
      rw [hpad.out] at hM5
      go_wp2
      go_end0
      exact ⟨rfl, hM5, ((Ch.of_below hB).weaken fun _ _ e => e.elim).trans hC5⟩
end Go.Proofs.YtnhhbbjkeekneaaGreatDoor
/- S6: contracts of digest, Sum, Pair, Chain, All. -/
namespace Go.Proofs.YtnhhbbjkeekneaaGreatDoor
open Go.RowKit Go.V
theorem size49 : (Tryz.prog.info? 183).map (·.size) = some 73 := by kernel_rfl
def zmix : List Value := mixC ⟨0, 0, 0, 0, 0, 0, 0, 0⟩ (List.replicate 64 0) 0
theorem zero49 : (Tryz.prog.info? 183).map (·.zero) = some (some (.agg zmix.toArray)) := by kernel_rfl
theorem build49 : ∀ W : World, (Instr.build 183 #[(0, .agg #[.int .u32 1779033703, .int .u32 3144134277, .int .u32 1013904242, .int .u32 2773480762, .int .u32 1359893119, .int .u32 2600822924, .int .u32 528734635, .int .u32 1541459225])]).run Tryz.prog W = .ok (.agg (mixC iv (List.replicate 64 0) 0).toArray) W := fun W => by kernel_rfl
theorem mixC_one (s : S8) (blk : List UInt8) (n : Nat) : ∀ v ∈ mixC s blk n, v.oneCell' = true := by
  intro v hv
  unfold mixC at hv
  rcases List.mem_append.1 hv with h | h
  · exact oneCell_wvs _ v h
  · rcases List.mem_append.1 h with h | h
    · exact oneCell_bvs _ v h
    · simp at h; subst h; rfl
theorem len_sha (p : List UInt8) : (shaF p).length = 32 := len_s8b _
theorem set25 (l : List UInt8) (hl : l.length = 32) : (zs8 32).take 0 ++ bvs l ++ (zs8 32).drop (0 + (bvs l).length) = bvs l := by simp [len_bvs, hl, zs8]
theorem flatten_take_succ (ts : List (List UInt8)) (i : Nat) (t : List UInt8) (h : ts[i]? = some t) : (ts.take (i + 1)).flatten = (ts.take i).flatten ++ t := by
  obtain ⟨hi, he⟩ := List.getElem?_eq_some_iff.1 h
  rw [List.take_succ_eq_append_getElem hi, he]
  simp
theorem flatten_take_le (ts : List (List UInt8)) (i : Nat) : (ts.take i).flatten.length ≤ ts.flatten.length := by
  have : ts.flatten = (ts.take i).flatten ++ (ts.drop i).flatten := by rw [← List.flatten_append, List.take_append_drop]
  rw [this, List.length_append]
  omega

set_option maxRecDepth 100000 in
set_option maxHeartbeats 2000000 in
theorem digest_any (v : Value) (ts : List (List UInt8)) (F0 : Nat → Prop) (w : World) (hK : KS w) (ht0 : Rd w F0 v (tx ts)) (hn : ts.flatten.length < 288230376151711744) :
    Calls Tryz.prog 90 #[v] w fun e w' => e = .returned (.agg (bvs (shaF ts.flatten)).toArray) ∧ Below w.heap.size w w' := by
  have ht := ht0.weak (F' := fun b => b < w.heap.size) (fun b hb _ => hb)
  clear ht0
  unfold tx at ht
  obtain ⟨A, c, rfl, hc1, hc2⟩ := ht.slShape
  unfold maxLen at hc2
  go_enter Tryz.func90, Tryz.ntmps90
  go_wp2_with (first | (refine wp_new 32 rfl rfl zero25 ?_) | (refine wp_bld 183 [(0, .tmp 6)] rfl rfl [(0, .agg #[.int .u32 1779033703, .int .u32 3144134277, .int .u32 1013904242, .int .u32 2773480762, .int .u32 1359893119, .int .u32 2600822924, .int .u32 528734635, .int .u32 1541459225])] rfl build49 ?_) | (refine wp_new 183 rfl rfl zero49 ?_) | (refine wp_st 183 (.tmp 3) (.tmp 7) rfl rfl rfl (f := 0) rfl (l := mixC iv (List.replicate 64 0) 0) rfl (Blk.new' (w.alloc (.cells (zs8 32).toArray 32)) 183 zmix) (by simp [zmix, mixC_len]) (by rw [mixC_len _ _ _ (by simp)]; exact size49) (mixC_one _ _ _) ?_; intro w1 hb1 hG1))
  have e1 : zmix.take 0 ++ mixC iv (List.replicate 64 0) 0 ++ zmix.drop (0 + (mixC iv (List.replicate 64 0) 0).length) = mixC iv (List.replicate 64 0) 0 := by
    rw [List.drop_of_length_le (by rw [mixC_len _ _ _ (by simp), zmix, mixC_len _ _ _ (by simp)]; omega)]
    simp
  rw [e1] at hb1
  clear e1
  have hm : (w.alloc (.cells (zs8 32).toArray 32)).heap.size = w.heap.size + 1 := by simp
  rw [hm] at hb1 hG1
  have hB1 : Below w.heap.size w w1 := (((Below.refl _ _).alloc (Nat.le_refl _) _).alloc (by simp) _).grown hG1 (by simp; omega) (by intro k hk; injection hk with hk; omega)
  have hz1 : Blk w1 w.heap.size 32 (zs8 32) := ((Blk.new' w 32 (zs8 32)).alloc (.cells zmix.toArray 183)).keep (hG1.block _ (by simp; omega) (by intro e; injection e with e; omega))
  have hM1 : MixR w1 (w.heap.size + 1) [] := ⟨_, iv, MS.nil _ (by simp), hb1⟩
  clear hm hG1 hb1
  have hks := hK.lt
  go_loopw [10] (fun iv wr => ∃ i : Nat, i ≤ ts.length ∧ iv = .int .i64 i ∧ MixR wr (w.heap.size + 1) (ts.take i).flatten ∧ Blk wr w.heap.size 32 (zs8 32) ∧ Below w.heap.size w wr) (fun iv _ => ts.length - (intOf iv).toNat)
  case atStart => exact ⟨0, by omega, rfl, by simpa using hM1, hz1, hB1⟩
  case round =>
    obtain ⟨i, hi, rfl, hM, hz, hB⟩ := hrel
    by_cases hil : i < ts.length
    · obtain ⟨ti, hti⟩ : ∃ t, ts[i]? = some t := ⟨_, List.getElem?_eq_getElem hil⟩
      obtain ⟨g, off, u, rfl, hgl, hcu, hru⟩ := (ht.below hB).elem i (bys ti) (by rw [List.getElem?_map, hti]; rfl)
      have hfl := hid (flatten_take_succ ts i ti hti)
      have hle := flatten_take_le ts (i + 1)
      rw [hfl.out, List.length_append] at hle
      clear hti
      go_wp2_with (fail)
      refine (put_any (w.heap.size + 1) _ ti u _ _ (hK.below hB) hM hru (by intro e; have : w.heap.size + 1 < w.heap.size := e; omega) (by omega) (by omega)).mono ?_
      rintro e' w5 ⟨rfl, hM5, hC5⟩
      rw [← hfl.out] at hM5
      have hB5 := Ch.below_of hB hC5 (fun k hk => by have : k = w.heap.size + 1 := hk; omega) hB.size
      have hz5 := hz.ch hC5 (by intro e; have : w.heap.size = w.heap.size + 1 := e; omega)
      go_wp2
      go_roundw
      case rel => exact ⟨i + 1, by omega, by go_num, hM5, hz5, hB5⟩
      case measure => simp [intOf]; omega
    · have hii : i = ts.length := by omega
      rw [hii, List.take_length] at hM
      clear hii
      go_wp2_with (fail)
      refine (end_any (w.heap.size + 1) _ _ (hK.below hB) hM (by omega) hn).mono ?_
      rintro e' w5 ⟨rfl, hM5, hC5⟩
      have hB5 := Ch.below_of hB hC5 (fun k hk => by have : k = w.heap.size + 1 := hk; omega) hB.size
      have hz5 := hz.ch hC5 (by intro e; have : w.heap.size = w.heap.size + 1 := e; omega)
      obtain ⟨blk, s, hms, hblk⟩ := hM5
      have hs : Hid (s8b s = shaF ts.flatten) := by show _ = _; rw [hms.2.2]; rfl
      clear hms hC5
      go_wp2_with (first | (refine wp_ld 181 (.tmp 18) rfl rfl rfl (hblk.range 0 _ (mixC_st s blk _)) Tryz.underlying181 rfl size46 ?_))
      refine (told_any s _).mono ?_
      rintro e' w6 ⟨rfl, hB6⟩
      have hz6 := hz5.below hB6
      have hB6' := hB5.trans (hB6.mono hB5.size)
      go_wp2_with (refine wp_st 32 (.tmp 2) (.tmp 20) rfl rfl rfl (f := 0) rfl (l := bvs (s8b s)) rfl hz6 (by simp [zs8, len_bvs, len_s8b]) (by rw [len_bvs, len_s8b]; exact size25) (oneCell_bvs _) ?_; intro w7 hb7 hG7)
      rw [set25 _ (len_s8b s)] at hb7
      refine ret_cell rfl rfl hb7.whole Tryz.underlying32 rfl (by rw [len_bvs, len_s8b]; exact size25) rfl ?_
      exact ⟨by rw [hs.out], hB6'.grown hG7 hB6'.size (by intro k hk; injection hk with hk; omega)⟩

end Go.Proofs.YtnhhbbjkeekneaaGreatDoor
