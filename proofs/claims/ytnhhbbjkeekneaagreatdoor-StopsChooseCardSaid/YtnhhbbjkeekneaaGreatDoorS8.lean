/- S8: several texts in one (S5 S6 S7 R3 S8). -/
import Derived.Test.YtnhhbbjkeekneaaGreatDoorS4
import Derived.Test.YtnhhbbjkeekneaaGreatDoorRB
import Derived.Test.YtnhhbbjkeekneaaGreatDoorVA
import Derived.Great.BuildSlice
set_option maxRecDepth 100000
set_option maxHeartbeats 16000000
namespace Go.Proofs.YtnhhbbjkeekneaaGreatDoor
open Go.RowKit Go.V
def restL (n bits i : Nat) : List UInt8 := 128 :: (List.replicate n 0 ++ ((fx 8 bits).take i ++ List.replicate (71 - n - i) 0))
theorem restL_len (n bits i : Nat) (hn : n < 64) (hi : i <= 8) : (restL n bits i).length = 72 := by
 simp [restL, len_fx]; omega
theorem restL_0 (n bits : Nat) (hn : n < 64) : (zs8 72).set 0 (.int .u8 128) = bvs (restL n bits 0) := by
 have e : restL n bits 0 = 128 :: List.replicate 71 0 := by
  unfold restL; rw [List.take_zero, List.nil_append, List.replicate_append_replicate]
  congr 2
  omega
 rw [e]; simp [zs8, bvs, List.replicate_succ, byteV]
theorem restL_set (n bits i : Nat) (hn : n < 64) (hi : i < 8) (c : UInt8) (hc : (fx 8 bits)[i]? = some c) : (bvs (restL n bits i)).set (1 + n + i) (byteV c) = bvs (restL n bits (i + 1)) := by
 rw [show (bvs (restL n bits i)).set (1 + n + i) (byteV c) = bvs ((restL n bits i).set (1 + n + i) c) from by simp [bvs, List.map_set]]
 congr 1
 unfold restL; rw [show 1 + n + i = (n + i) + 1 from by omega, List.set_cons_succ, List.set_append_right _ _ (by simp), List.length_replicate, show n + i - n = i from by omega]
 congr 2
 have hl : ((fx 8 bits).take i).length = i := by simp [len_fx]; omega
 have hil : i < (fx 8 bits).length := by rw [len_fx]; exact hi
 rw [List.set_append_right _ _ (by omega), hl, Nat.sub_self, show 71 - n - i = (71 - n - (i + 1)) + 1 from by omega, List.replicate_succ, List.set_cons_zero, List.take_succ_eq_append_getElem hil]; have : (fx 8 bits)[i] = c := by rw [List.getElem?_eq_getElem hil] at hc; injection hc
 rw [this]; simp
theorem restL_take (n bits : Nat) (_hn : n < 64) : (restL n bits 8).take (9 + n) = 128 :: (List.replicate n 0 ++ fx 8 bits) := by
 unfold restL; rw [show 9 + n = (n + 8) + 1 from by omega, List.take_succ_cons]
 congr 1
 rw [List.take_append, List.length_replicate, List.take_of_length_le (by simp), show n + 8 - n = 8 from by omega, List.take_of_length_le (by rw [len_fx]; omega : (fx 8 bits).length <= 8), List.take_append_of_le_length (by rw [len_fx]; omega), List.take_of_length_le (by rw [len_fx]; omega)]
theorem fx_at (n x i : Nat) (hi : i < n) : (fx n x)[i]? = some (UInt8.ofNat (x / 256 ^ (n - 1 - i) % 256)) := by
 simp [fx, hi]
theorem byte8 (x j : Nat) : Value.int .u8 ((x : Int) / 2 ^ (8 * j) % 256) = byteV (UInt8.ofNat (x / 256 ^ j % 256)) := by rw [fix_byte, byteV_of (by omega)]
theorem zero66 : (Tryz.prog.info? 206).map (·.zero) = some (some (.agg (zs8 72).toArray)) := by kernel_rfl
theorem Blk.rdcut {w : World} {b : Nat} {t : TypeId} {bs : List UInt8} (h : Blk w b t (bvs bs)) (m c : Nat) (hm : m <= bs.length) (h1 : m <= c) (h2 : c <= maxLen) : Rd w (fun k => k = b) (.slice (some ⟨b, 0, none⟩) m c) (bys (bs.take m)) := by
 have hl : (bs.take m).length = m := by rw [List.length_take]; omega
 unfold bys Rd; refine ⟨_, c, by rw [hl], by rw [hl]; exact h1, h2, fun h0 => by rw [List.eq_nil_of_length_eq_zero h0]; rfl, fun _ => ⟨_, _, rfl, rfl, RdC.of_bytes fun j u hu => ?_⟩⟩; rw [Nat.zero_add]; refine h.cellAt j u ?_; have hj := (List.getElem?_eq_some_iff.1 hu).1; rw [len_bvs, hl] at hj; have e : bvs (bs.take m) = (bvs bs).take m := by simp [bvs]
 rw [e, List.getElem?_take, if_pos hj] at hu; exact hu
theorem end_any (g : Nat) (p : List UInt8) (w : World) (hK : KS w) (hM : MixR w g p) (hg : g ≠ 0) (hn : p.length < 288230376151711744) :
 Calls Tryz.prog 125 #[.pointer (some ⟨g, 0, none⟩)] w fun e w' => e = .returned (.tuple #[]) /\ MixR w' g (pad p) /\ Ch (fun b => b = g) w w' := by
 have hM' := hM; obtain ⟨blk, s, hms, hblk⟩ := hM; have hcs := hblk.cellAt 72 _ (mixC_size s blk _ hms.1); have hgl := hblk.lt; obtain ⟨n, hn'⟩ := nm (padN p.length); have hn64 : n < 64 := by rw [hn']; unfold padN; omega
 have hne : ((119 : Int) - (p.length : Int) % 64) % 64 = (n : Int) := by rw [hn']; unfold padN; omega
 have Hn := hid hn'; clear hn'; go_enter Tryz.func125, Tryz.ntmps125; have hs1 := fun W => run_sla_l Tryz.underlying206 size8 w.heap.size 0 (1 + n) .u64 (1 + (n : Int)) (by omega) (by omega) W; rw [Nat.zero_add] at hs1; have hs2 := fun W => run_slh slB w.heap.size (1 + n) (72 - (1 + n)) (72 - (1 + n)) 8 .i64 8 rfl (by omega) (by omega) W; have hs3 := fun W => run_sla_h Tryz.underlying206 size8 w.heap.size 0 (9 + n) .u64 (1 + (n : Int) + 8) (by omega) (by omega) (by omega) W; have hB0 : Below w.heap.size w (w.alloc (.cells (zs8 72).toArray 206)) := (Below.refl _ _).alloc (Nat.le_refl _) _; have hz := Blk.new' w 206 (zs8 72); go_wp2_with (first | (refine wp_new 206 rfl rfl zero66 ?_) | (refine wp_st1 5 (.tmp 19) (.const (.int .u8 128)) rfl rfl rfl (f := 0) rfl (v := .int .u8 128) rfl hz (by simp [zs8]) size8 rfl rfl ?_; intro w1 hb1 hG1)); rw [restL_0 n (8 * p.length) hn64] at hb1; have hB1 := hB0.grown hG1 (Nat.le_of_lt (by simp)) (sk (by omega)); clear hz hG1 hB0 hcs hs1 hs2 hne; obtain ⟨bits, hbits⟩ := nm (8 * p.length); rw [show (8 * (p.length : Int)) = (bits : Int) from by omega]; rw [<- hbits] at hb1; have hbl : bits < 18446744073709551616 := by omega
 have Hb := hid hbits; clear hbits
 go_loopw [26] (fun iv wr => ∃ i : Nat, i <= 8 /\ iv = .int .i64 i /\ Blk wr w.heap.size 206 (bvs (restL n bits i)) /\ Below w.heap.size w wr) (fun iv _ => 8 - (intOf iv).toNat)
 case atStart => exact ⟨0, by omega, rfl, hb1, hB1⟩
 case round =>
  obtain ⟨i, hi, rfl, hb, hB⟩ := hrel; by_cases hil : i < 8
  . have hset := hid (restL_set n bits i hn64 hil _ (fx_at 8 bits i hil)); go_wp2_with (refine wp_st1 5 (.tmp 37) (.tmp 36) rfl rfl rfl (f := 1 + n + i) rfl (v := byteV (UInt8.ofNat (bits / 256 ^ (8 - 1 - i) % 256))) (byte8 bits (7 - i)) hb (by rw [len_bvs, restL_len _ _ _ hn64 (by omega)]; omega) size8 rfl rfl ?_; intro w3 hb3 hG3); rw [hset.out] at hb3; have hB3 := hB.grown hG3 hB.size (sk (by omega)); go_wp2
    go_roundw
    case rel => exact ⟨i + 1, by omega, by go_num, hb3, hB3⟩
    case measure => simp [intOf]; omega
  . have h8 : i = 8 := by omega
    subst h8; have hr := Blk.rdcut hb (9 + n) 72 (by rw [restL_len _ _ _ hn64 (by omega)]; omega) (by omega) (by simp [maxLen]); rw [restL_take _ _ hn64] at hr
    have hpad : Hid (p ++ 128 :: (List.replicate n 0 ++ fx 8 bits) = pad p) := by
     show _ = _; rw [Hn.out, Hb.out]; unfold pad; simp
    have Hr := hid hr; clear hr hb; go_wp2_with (fail); refine (put_any g p _ _ _ _ (hK.below hB) (hM'.keep (hB.block g hgl)) Hr.out (by intro e; omega) hg (by simp [len_fx]; omega)).mono ?_; rintro e' w5 ⟨rfl, hM5, hC5⟩; rw [hpad.out] at hM5; go_wp2
    go_end0
    exact ⟨rfl, hM5, ((Ch.of_below hB).weaken fun _ _ e => e.elim).trans hC5⟩
theorem size49 : (Tryz.prog.info? 183).map (·.size) = some 73 := by kernel_rfl
def zmix : List Value := mixC ⟨0, 0, 0, 0, 0, 0, 0, 0⟩ (List.replicate 64 0) 0
theorem zero49 : (Tryz.prog.info? 183).map (·.zero) = some (some (.agg zmix.toArray)) := by kernel_rfl
theorem build49 : ∀ W : World, (Instr.build 183 #[(0, .agg #[.int .u32 1779033703, .int .u32 3144134277, .int .u32 1013904242, .int .u32 2773480762, .int .u32 1359893119, .int .u32 2600822924, .int .u32 528734635, .int .u32 1541459225])]).run Tryz.prog W = .ok (.agg (mixC iv (List.replicate 64 0) 0).toArray) W := fun W => by kernel_rfl
theorem mixC_one (s : S8) (blk : List UInt8) (n : Nat) : ∀ v ∈ mixC s blk n, v.oneCell' = true := by
 intro v hv; unfold mixC at hv; rcases List.mem_append.1 hv with h | h
 . exact oneCell_wvs _ v h
 . rcases List.mem_append.1 h with h | h
   . exact oneCell_bvs _ v h
   . simp at h; subst h; rfl
theorem len_sha (p : List UInt8) : (shaF p).length = 32 := len_s8b _
theorem set25 (l : List UInt8) (hl : l.length = 32) : (zs8 32).take 0 ++ bvs l ++ (zs8 32).drop (0 + (bvs l).length) = bvs l := by simp [len_bvs, hl, zs8]
theorem flatten_take_succ (ts : List (List UInt8)) (i : Nat) (t : List UInt8) (h : ts[i]? = some t) : (ts.take (i + 1)).flatten = (ts.take i).flatten ++ t := by
 obtain ⟨hi, he⟩ := List.getElem?_eq_some_iff.1 h; rw [List.take_succ_eq_append_getElem hi, he]; simp
theorem flatten_take_le (ts : List (List UInt8)) (i : Nat) : (ts.take i).flatten.length <= ts.flatten.length := by
 have : ts.flatten = (ts.take i).flatten ++ (ts.drop i).flatten := by rw [<- List.flatten_append, List.take_append_drop]
 rw [this, List.length_append]; omega
theorem digest_any (v : Value) (ts : List (List UInt8)) (F0 : Nat -> Prop) (w : World) (hK : KS w) (ht0 : Rd w F0 v (tx ts)) (hn : ts.flatten.length < 288230376151711744) :
 Calls Tryz.prog 90 #[v] w fun e w' => e = .returned (.agg (bvs (shaF ts.flatten)).toArray) /\ Below w.heap.size w w' := by
 have ht := ht0.weak (F' := fun b => b < w.heap.size) (fun b hb _ => hb); clear ht0; unfold tx at ht; obtain ⟨A, c, rfl, hc1, hc2⟩ := ht.slShape; unfold maxLen at hc2; go_enter Tryz.func90, Tryz.ntmps90; go_wp2_with (first | (refine wp_new 32 rfl rfl zero25 ?_) | (refine wp_bld 183 [(0, .tmp 6)] rfl rfl [(0, .agg #[.int .u32 1779033703, .int .u32 3144134277, .int .u32 1013904242, .int .u32 2773480762, .int .u32 1359893119, .int .u32 2600822924, .int .u32 528734635, .int .u32 1541459225])] rfl build49 ?_) | (refine wp_new 183 rfl rfl zero49 ?_) | (refine wp_st 183 (.tmp 3) (.tmp 7) rfl rfl rfl (f := 0) rfl (l := mixC iv (List.replicate 64 0) 0) rfl (Blk.new' (w.alloc (.cells (zs8 32).toArray 32)) 183 zmix) (by simp [zmix, mixC_len]) (by rw [mixC_len _ _ _ (by simp)]; exact size49) (mixC_one _ _ _) ?_; intro w1 hb1 hG1))
 have e1 : zmix.take 0 ++ mixC iv (List.replicate 64 0) 0 ++ zmix.drop (0 + (mixC iv (List.replicate 64 0) 0).length) = mixC iv (List.replicate 64 0) 0 := by
  rw [List.drop_of_length_le (by rw [mixC_len _ _ _ (by simp), zmix, mixC_len _ _ _ (by simp)]; omega)]; simp
 rw [e1] at hb1; clear e1; have hm : (w.alloc (.cells (zs8 32).toArray 32)).heap.size = w.heap.size + 1 := by simp
 rw [hm] at hb1 hG1; have hB1 : Below w.heap.size w w1 := (((Below.refl _ _).alloc (Nat.le_refl _) _).alloc (by simp) _).grown hG1 (by simp; omega) (sk (by omega)); have hz1 : Blk w1 w.heap.size 32 (zs8 32) := ((Blk.new' w 32 (zs8 32)).alloc (.cells zmix.toArray 183)).keep (hG1.block _ (by simp; omega) (by intro e; injection e with e; omega)); have hM1 : MixR w1 (w.heap.size + 1) [] := ⟨_, iv, MS.nil _ (by simp), hb1⟩
 clear hm hG1 hb1; have hks := hK.lt
 go_loopw [10] (fun iv wr => ∃ i : Nat, i <= ts.length /\ iv = .int .i64 i /\ MixR wr (w.heap.size + 1) (ts.take i).flatten /\ Blk wr w.heap.size 32 (zs8 32) /\ Below w.heap.size w wr) (fun iv _ => ts.length - (intOf iv).toNat)
 case atStart => exact ⟨0, by omega, rfl, by simpa using hM1, hz1, hB1⟩
 case round =>
  obtain ⟨i, hi, rfl, hM, hz, hB⟩ := hrel; by_cases hil : i < ts.length
  . obtain ⟨ti, hti⟩ : ∃ t, ts[i]? = some t := ⟨_, List.getElem?_eq_getElem hil⟩
    obtain ⟨g, off, u, rfl, hgl, hcu, hru⟩ := (ht.below hB).elem i (bys ti) (by rw [List.getElem?_map, hti]; rfl); have hfl := hid (flatten_take_succ ts i ti hti); have hle := flatten_take_le ts (i + 1); rw [hfl.out, List.length_append] at hle; clear hti; go_wp2_with (fail); refine (put_any (w.heap.size + 1) _ ti u _ _ (hK.below hB) hM hru (by intro e; have : w.heap.size + 1 < w.heap.size := e; omega) (by omega) (by omega)).mono ?_; rintro e' w5 ⟨rfl, hM5, hC5⟩; rw [<- hfl.out] at hM5; have hB5 := Ch.below_of hB hC5 (fun k hk => by have : k = w.heap.size + 1 := hk; omega) hB.size; have hz5 := hz.ch hC5 (by intro e; have : w.heap.size = w.heap.size + 1 := e; omega); go_wp2
    go_roundw
    case rel => exact ⟨i + 1, by omega, by go_num, hM5, hz5, hB5⟩
    case measure => simp [intOf]; omega
  . have hii : i = ts.length := by omega
    rw [hii, List.take_length] at hM; clear hii; go_wp2_with (fail); refine (end_any (w.heap.size + 1) _ _ (hK.below hB) hM (by omega) hn).mono ?_; rintro e' w5 ⟨rfl, hM5, hC5⟩; have hB5 := Ch.below_of hB hC5 (fun k hk => by have : k = w.heap.size + 1 := hk; omega) hB.size; have hz5 := hz.ch hC5 (by intro e; have : w.heap.size = w.heap.size + 1 := e; omega); obtain ⟨blk, s, hms, hblk⟩ := hM5; have hs : Hid (s8b s = shaF ts.flatten) := by show _ = _; rw [hms.2.2]; rfl
    clear hms hC5; go_wp2_with (first | (refine wp_ld 181 (.tmp 18) rfl rfl rfl (hblk.range 0 _ (mixC_st s blk _)) Tryz.underlying181 rfl size46 ?_)); refine (told_any s _).mono ?_; rintro e' w6 ⟨rfl, hB6⟩; have hz6 := hz5.below hB6; have hB6' := hB5.trans (hB6.mono hB5.size); go_wp2_with (refine wp_st 32 (.tmp 2) (.tmp 20) rfl rfl rfl (f := 0) rfl (l := bvs (s8b s)) rfl hz6 (by simp [zs8, len_bvs, len_s8b]) (by rw [len_bvs, len_s8b]; exact size25) (oneCell_bvs _) ?_; intro w7 hb7 hG7); rw [set25 _ (len_s8b s)] at hb7; refine ret_cell rfl rfl hb7.whole Tryz.underlying32 rfl (by rw [len_bvs, len_s8b]; exact size25) rfl ?_; exact ⟨by rw [hs.out], hB6'.grown hG7 hB6'.size (sk (by omega))⟩
end Go.Proofs.YtnhhbbjkeekneaaGreatDoor
namespace Go.V
open Go.RowKit
theorem run_mk {P : Program} {t e : TypeId} {z : Value} {by_ : Nat} (ht : SlT P t e z by_) (hz : z.cells = #[z]) (n : Nat) (hb : by_ * n <= 281474976710656) (hm : n <= maxLen) (W : World) :
 (Instr.makeSlice t (.int .i64 (n : Int)) (.int .i64 (n : Int))).run P W = .ok (.slice (some ⟨W.heap.size, 0, none⟩) n n) (W.alloc (.cells (List.replicate n z).toArray e)) := by
 obtain ⟨i, hi, hzz, hsz, hby⟩ := ht.inf; have h63 : (n : Int) <= 9223372036854775807 := by simp [maxLen] at hm; omega
 have hb' : (i.bytes : Int) * (n : Int) <= 281474976710656 := by
  have : ((i.bytes * n : Nat) : Int) <= 281474976710656 := by rw [hby]; omega
  rwa [Int.natCast_mul] at this
 have hr := run_make (P := P) W t e i z ht.sl hi hzz .i64 .i64 n n (by omega) (Int.le_refl _) hb' h63; rw [hr]; simp only [Int.toNat_natCast, hsz, Nat.mul_one, hz]
 congr 3
 apply Array.ext
 . simp [madeCells]
 . intro j h1 h2; simp [madeCells, Nat.mod_one]
theorem wp_mk {P : Program} {w : World} {ops : Array Oper} {rest : List Oper} {o : Oper} {a : Act} {Q : Exit -> Act -> World -> Prop} {t e : TypeId} {z : Value} {by_ : Nat} (ht : SlT P t e z by_) (hz : z.cells = #[z]) (x y : Operand) (hgd : o.guard = none) (ho : o.op = .makeSlice t x y) (n : Nat)
 (hx : a.eval x = .int .i64 (n : Int)) (hy : a.eval y = .int .i64 (n : Int)) (hb : by_ * n <= 281474976710656) (hm : n <= maxLen) (l : List Value) (hl : l = List.replicate n z)
 (h : wpList P ops Q rest (a.put o.dst (.slice (some ⟨w.heap.size, 0, none⟩) n n)) (w.alloc (.cells l.toArray e))) : wpList P ops Q (o :: rest) a w := by
 refine wpList_plain hgd fun K hK => ?_; subst hl; unfold Oper.wp execOp; simp only [ho, hx, hy, Sem.run_bind, Sem.run_pure, run_mk ht hz n hb hm, Result.andThen_ok]; exact hK _ _ h
theorem Rd.tx1 {w : World} {F : Nat -> Prop} {v : Value} {bs : List UInt8} (t : TypeId) (h : Rd w F v (bys bs)) : Rd (w.alloc (.cells #[v] t)) (fun _ => True) (.slice (some ⟨w.heap.size, 0, none⟩) 1 1) (tx [bs]) := by
 have hal : Below w.heap.size w (w.alloc (.cells #[v] t)) := (Below.refl _ _).alloc (Nat.le_refl _) _; unfold tx Rd; refine ⟨_, 1, rfl, Nat.le_refl _, by simp [maxLen], fun h => by simp at h, fun _ => ⟨_, _, rfl, trivial, ?_⟩⟩; refine RdC.mk (us := [v]) (Blk.new w t #[v]) rfl (fun i u hu => by rw [Nat.zero_add]; exact hu) (fun i u d hu hd => ?_); cases i with
 | zero => simp at hu hd; subst hu hd; exact (h.below hal).weak (fun _ _ _ => trivial)
 | succ i => simp at hu
theorem Rd.tx2 {w : World} {F G : Nat -> Prop} {v u : Value} {xs bs : List UInt8} (t : TypeId) (h : Rd w F v (bys xs)) (k : Rd w G u (bys bs)) : Rd (w.alloc (.cells #[v, u] t)) (fun _ => True) (.slice (some ⟨w.heap.size, 0, none⟩) 2 2) (tx [xs, bs]) := by
 have hal : Below w.heap.size w (w.alloc (.cells #[v, u] t)) := (Below.refl _ _).alloc (Nat.le_refl _) _; unfold tx Rd; refine ⟨_, 2, rfl, Nat.le_refl _, by simp [maxLen], fun h => by simp at h, fun _ => ⟨_, _, rfl, trivial, ?_⟩⟩; refine RdC.mk (us := [v, u]) (Blk.new w t #[v, u]) rfl (fun i u hu => by rw [Nat.zero_add]; exact hu) (fun i x d hx hd => ?_); rcases i with _ | _ | i
 . simp at hx hd; subst hx hd; exact (h.below hal).weak (fun _ _ _ => trivial)
 . simp at hx hd; subst hx hd; exact (k.below hal).weak (fun _ _ _ => trivial)
 . simp at hx
end Go.V
namespace Go.Proofs.YtnhhbbjkeekneaaGreatDoor
open Go.RowKit Go.V
theorem slBB : SlT Tryz.prog 28 33 (.slice none 0 0) 24 := .of Tryz.underlying28 (by kernel_rfl) rfl
theorem bs1 (v : Value) (hv : v.cells = #[v]) : ∀ W : World, (Instr.buildSlice 28 1 #[(0, v)]).run Tryz.prog W = .ok (.slice (some ⟨W.heap.size, 0, none⟩) 1 1) (W.alloc (.cells #[v] 33)) := fun _ => run_buildSlice1 _ _ _ v _ slBB hv
theorem sum_any (v : Value) (bs : List UInt8) (F : Nat -> Prop) (w : World) (hK : KS w) (ht : Rd w F v (bys bs)) (hn : bs.length < 288230376151711744) :
 Calls Tryz.prog 60 #[v] w fun e w' => e = .returned (.agg (bvs (shaF bs)).toArray) /\ Below w.heap.size w w' := by
 obtain ⟨A, c, rfl⟩ := ht.shape; have hbs := bs1 (.slice A bs.length c) rfl; go_enter Tryz.func60, Tryz.ntmps60; go_wp2_with (refine wp_new 32 rfl rfl zero25 ?_); have hz := Blk.new' w 32 (zs8 32); have hB1 : Below w.heap.size w (w.alloc (.cells (zs8 32).toArray 32)) := (Below.refl _ _).alloc (Nat.le_refl _) _; have hB2 := hB1.alloc (by simp) (.cells #[.slice A bs.length c] 33); refine (digest_any _ [bs] _ _ (hK.below hB2) (by simpa using Rd.tx1 33 (ht.below hB1)) (by simpa using hn)).mono ?_; rintro e w3 ⟨rfl, hB3⟩; have hz3 := (hz.alloc (.cells #[.slice A bs.length c] 33)).below hB3; have hB3' := hB2.trans (hB3.mono (by simp; omega)); rw [show [bs].flatten = bs from by simp] at *
 go_wp2_with (refine wp_st 32 (.tmp 2) (.tmp 5) rfl rfl rfl (f := 0) rfl (l := bvs (shaF bs)) rfl hz3 (by simp [zs8, len_bvs, len_sha]) (by rw [len_bvs, len_sha]; exact size25) (oneCell_bvs _) ?_; intro w7 hb7 hG7); rw [set25 _ (len_sha bs)] at hb7; refine ret_cell rfl rfl hb7.whole Tryz.underlying32 rfl (by rw [len_bvs, len_sha]; exact size25) rfl ?_; exact ⟨rfl, hB3'.grown hG7 hB3'.size (sk (by omega))⟩
theorem und25 : Tryz.prog.underlying 32 = some (.array 32 5) := Tryz.underlying32
theorem bs2 (v u : Value) (hv : v.cells = #[v]) (hu : u.cells = #[u]) : ∀ W : World, (Instr.buildSlice 28 2 #[(0, v), (1, u)]).run Tryz.prog W = .ok (.slice (some ⟨W.heap.size, 0, none⟩) 2 2) (W.alloc (.cells #[v, u] 33)) := fun W => by
 obtain ⟨i, hi, hz, hsz, hby⟩ := slBB.inf; simp [Instr.buildSlice, run_underlying slBB.sl, sizeOf, typeInfo, hi, hsz, zeroValue, hz, Instr.fill, hv, hu]
 have e1 : (((Array.map (fun x => (Value.slice none 0 0).cells[x % (Value.slice none 0 0).cells.size]!) (Array.range 2)).setIfInBounds 0 v).setIfInBounds 1 u) = #[v, u] := by
  rw [show Array.range 2 = #[0, 1] from rfl]; simp
 rw [e1]; simp [newRow]
theorem pair_any (x y : List UInt8) (w : World) (hK : KS w) (hx : x.length = 32) (hy : y.length = 32) :
 Calls Tryz.prog 157 #[.agg (bvs x).toArray, .agg (bvs y).toArray] w fun e w' => e = .returned (.agg (bvs (shaF (x ++ y))).toArray) /\ Below w.heap.size w w' := by
 have hsA := fun W => run_sla_all und25 size8 w.heap.size 0 (by omega) W; have hsB := fun W => run_sla_all und25 size8 (w.heap.size + 1) 0 (by omega) W; have hbs := bs2 (.slice (some ⟨w.heap.size, 0, none⟩) 32 32) (.slice (some ⟨w.heap.size + 1, 0, none⟩) 32 32) rfl rfl; go_enter Tryz.func157, Tryz.ntmps157; go_wp2_with (refine wp_new 32 rfl rfl zero25 ?_); have b0 : Blk (((w.alloc (.cells (bvs x).toArray 32)).alloc (.cells (bvs y).toArray 32)).alloc (.cells (zs8 32).toArray 32)) w.heap.size 32 (bvs x) := ((Blk.new' w 32 _).alloc _).alloc _
 have b1 : Blk (((w.alloc (.cells (bvs x).toArray 32)).alloc (.cells (bvs y).toArray 32)).alloc (.cells (zs8 32).toArray 32)) (w.heap.size + 1) 32 (bvs y) := by
  have := (Blk.new' (w.alloc (.cells (bvs x).toArray 32)) 32 (bvs y)).alloc (.cells (zs8 32).toArray 32); simpa using this
 have b2 : Blk (((w.alloc (.cells (bvs x).toArray 32)).alloc (.cells (bvs y).toArray 32)).alloc (.cells (zs8 32).toArray 32)) (w.heap.size + 1 + 1) 32 (zs8 32) := by
  have := Blk.new' ((w.alloc (.cells (bvs x).toArray 32)).alloc (.cells (bvs y).toArray 32)) 32 (zs8 32); simpa using this
 have hB0 : Below w.heap.size w (((w.alloc (.cells (bvs x).toArray 32)).alloc (.cells (bvs y).toArray 32)).alloc (.cells (zs8 32).toArray 32)) :=
  (((Below.refl _ _).alloc (Nat.le_refl _) _).alloc (by simp) _).alloc (by simp; omega) _
 obtain ⟨w0, hw0⟩ := nm ((((w.alloc (.cells (bvs x).toArray 32)).alloc (.cells (bvs y).toArray 32)).alloc (.cells (zs8 32).toArray 32))); rw [<- hw0] at b0 b1 b2 hB0 |-; clear hw0; have rx := Blk.rdcut b0.drew 32 32 (by omega) (by omega) (by simp [maxLen]); have ry := Blk.rdcut b1.drew 32 32 (by omega) (by omega) (by simp [maxLen]); rw [List.take_of_length_le (by omega)] at rx ry; refine wp_region_tail 2 (by kernel_rfl) (by kernel_rfl) ?_; simp only [List.take_succ_cons, List.take_zero, List.drop_succ_cons, List.drop_zero]
 repeat still_step
 refine wpStill_nil ?_; go_wp2_with (fail); have hB2 : Below w.heap.size w (w0.drew.alloc (.cells #[.slice (some ⟨w.heap.size, 0, none⟩) 32 32, .slice (some ⟨w.heap.size + 1, 0, none⟩) 32 32] 33)) := hB0.drew.alloc hB0.size _; refine (digest_any _ [x, y] _ _ (hK.below hB2) (Rd.tx2 33 rx ry) (by simp; omega)).mono ?_; rintro e w3 ⟨rfl, hB3⟩; have hz3 := (b2.drew.alloc (.cells #[.slice (some ⟨w.heap.size, 0, none⟩) 32 32, .slice (some ⟨w.heap.size + 1, 0, none⟩) 32 32] 33)).below hB3; have hB3' := hB2.trans (hB3.mono (by simp; have := hB0.size; omega)); rw [show [x, y].flatten = x ++ y from by simp] at *
 go_wp2_with (refine wp_st 32 (.tmp 4) (.tmp 8) rfl rfl rfl (f := 0) rfl (l := bvs (shaF (x ++ y))) rfl hz3 (by simp [zs8, len_bvs, len_sha]) (by rw [len_bvs, len_sha]; exact size25) (oneCell_bvs _) ?_; intro w7 hb7 hG7); rw [set25 _ (len_sha _)] at hb7; refine ret_cell rfl rfl hb7.whole Tryz.underlying32 rfl (by rw [len_bvs, len_sha]; exact size25) rfl ?_; exact ⟨rfl, hB3'.grown hG7 hB3'.size (sk (by omega))⟩
def TR (w : World) (g : Nat) (us : List Value) (ts : List (List UInt8)) : Prop := us.length = ts.length /\ ∀ (i : Nat) (u : Value) (t : List UInt8), us[i]? = some u -> ts[i]? = some t -> Rd w (fun b => b ≠ g) u (bys t)
theorem TR.keep {w w' : World} {g : Nat} {us : List Value} {ts : List (List UInt8)} (h : TR w g us ts) (hb : ∀ b, b < w.heap.size -> b ≠ g -> w'.heap[b]? = w.heap[b]?) : TR w' g us ts :=
 ⟨h.1, fun i u t hu ht => (h.2 i u t hu ht).keep fun b hl hn => ⟨hn, hb b hl hn⟩⟩
theorem TR.snoc {w : World} {g : Nat} {us : List Value} {ts : List (List UInt8)} {u : Value} {t : List UInt8} (h : TR w g us ts) (hu : Rd w (fun b => b ≠ g) u (bys t)) : TR w g (us ++ [u]) (ts ++ [t]) := by
 refine ⟨by simp [h.1], fun i x y hx hy => ?_⟩; rcases Nat.lt_trichotomy i us.length with hi | hi | hi
 . rw [List.getElem?_append_left hi] at hx; rw [List.getElem?_append_left (by rw [<- h.1]; exact hi)] at hy; exact h.2 i x y hx hy
 . subst hi; rw [List.getElem?_append_right (Nat.le_refl _), Nat.sub_self] at hx; rw [h.1, List.getElem?_append_right (Nat.le_refl _), Nat.sub_self] at hy; simp at hx hy; subst hx hy; exact hu
 . have := (List.getElem?_eq_some_iff.1 hx).1; simp at this; omega
theorem TR.rd {w : World} {g : Nat} {t : TypeId} {us : List Value} {ts : List (List UInt8)} (h : TR w g us ts) (hb : Blk w g t us) (hm : us.length <= maxLen) : Rd w (fun _ => True) (.slice (some ⟨g, 0, none⟩) us.length us.length) (tx ts) := by
 unfold tx Rd; refine ⟨_, us.length, by rw [h.1], by rw [h.1]; exact Nat.le_refl _, hm, fun h0 => by rw [List.eq_nil_of_length_eq_zero h0]; rfl, fun _ => ⟨_, _, rfl, trivial, ?_⟩⟩; refine RdC.mk (us := us) hb (by simp [h.1]) (fun i u hu => by rw [Nat.zero_add]; exact hu) (fun i u d hu hd => ?_); rw [List.getElem?_map] at hd; cases he : ts[i]? with
 | none => rw [he] at hd; cases hd
 | some t' =>
  rw [he] at hd; simp at hd; subst hd; exact (h.2 i u t' hu he).weak (fun _ _ _ => trivial)
def nb (b : List UInt8) (k : Nat) : Nat -> Nat
 | 0 => 0
 | n + 1 => 256 * nb b k n + (b.getD (k + n) 0).toNat
theorem nb_lt (b : List UInt8) (k : Nat) : ∀ n, nb b k n < 256 ^ n
 | 0 => by simp [nb]
 | n + 1 => by
  have h := nb_lt b k n; have := (b.getD (k + n) 0).toNat_lt; rw [nb, Nat.pow_succ]; omega
theorem size54 : (Tryz.prog.info? 155).map (·.size) = some 4 := by kernel_rfl
theorem zero54 : (Tryz.prog.info? 155).map (·.zero) = some (some (.agg [.int .u64 0, .slice none 0 0, .int .i64 0, .int .i64 0].toArray)) := by kernel_rfl
theorem bld54 (x n : Int) : ∀ W : World, (Instr.build 155 [(0, .int .u64 x), (2, .int .i64 n)].toArray).run Tryz.prog W = .ok (.agg #[.int .u64 x, .slice none 0 0, .int .i64 n, .int .i64 0]) W := fun _ => by kernel_rfl
theorem fld54 (x y : Int) (n : Int) : ∀ W : World, (Instr.field 155 (.agg #[.int .u64 x, .slice none 0 0, .int .i64 n, .int .i64 y]) 0).run Tryz.prog W = .ok (.int .u64 x) W := fun _ => by kernel_rfl
theorem readx_any (v : Value) (b : List UInt8) (k n : Nat) (F : Nat -> Prop) (w : World) (ht : Rd w F v (bys b)) (hn : n = 1 \/ n = 2 \/ n = 4 \/ n = 8) (hk : k + n <= b.length) :
 Calls Tryz.prog 98 #[v, .int .i64 (k : Int), .int .i64 (n : Int)] w fun e w' => e = .returned (.agg #[.int .u64 (nb b k n : Int), .slice none 0 0, .int .i64 (n : Int), .int .i64 0]) /\ Below w.heap.size w w' := by
 obtain ⟨A, c, rfl⟩ := ht.shape
 have hbl : b.length <= 9223372036854775807 := by
  obtain ⟨_, c', e, h1, h2, _⟩ := ht.bytes; unfold maxLen at h2; omega
 have hd : decide ((n : Int) = 1 \/ (n : Int) = 2 \/ (n : Int) = 4 \/ (n : Int) = 8) = true := decide_eq_true (by omega); have hn8 : n <= 8 := by omega
 clear hn; go_enter Tryz.func98, Tryz.ntmps98; go_wp2_with (first | (refine wp_new 155 rfl rfl zero54 ?_)); refine (wide_any _ _).mono ?_; rintro e w0 ⟨rfl, rfl⟩; rw [hd]; have hz := Blk.new' w 155 [.int .u64 0, .slice none 0 0, .int .i64 0, .int .i64 0]; have hB : Below w.heap.size w (w.alloc (.cells [.int .u64 0, .slice none 0 0, .int .i64 0, .int .i64 0].toArray 155)) := (Below.refl _ _).alloc (Nat.le_refl _) _; have hr := ht.below hB; obtain ⟨w1, hw1⟩ := nm ((w.alloc (.cells [.int .u64 0, .slice none 0 0, .int .i64 0, .int .i64 0].toArray 155))); rw [<- hw1] at hz hB hr
 first | rw [<- hw1] | (simp only [List.toArray] at hw1; rw [<- hw1])
 clear hw1; go_wp2
 go_loop [7, 8] (fun nv iv => ∃ i : Nat, i <= n /\ iv = .int .i64 i /\ nv = .int .u64 (nb b k i : Int)) (fun _ iv => n - (intOf iv).toNat)
 case atStart => exact ⟨0, by omega, rfl, rfl⟩
 case round =>
  obtain ⟨i, hi, rfl, rfl⟩ := hrel; have hlt' := nb_lt b k i; by_cases hil : i < n
  . obtain ⟨g, off, rfl, _, hc1⟩ := hr.byteAt (k + i) (by omega); have hpow : 256 ^ (i + 1) <= 256 ^ 8 := Nat.pow_le_pow_right (by omega) (by omega); have hnx := nb_lt b k (i + 1)
    have hs : Hid (nb b k (i + 1) = 256 * nb b k i + (b[k + i]'(by omega)).toNat) := by
     show _ = _; rw [nb, List.getD_eq_getElem?_getD, List.getElem?_eq_getElem (by omega)]; rfl
    obtain ⟨y, hy⟩ := nm (b[k + i]'(by omega)); rw [<- hy] at hc1 hs; clear hy; have hyl := y.toNat_lt; obtain ⟨N, hN⟩ := nm (nb b k i); rw [<- hN] at hs hlt' |-; clear hN
    have hN64 : 256 * N + y.toNat < 18446744073709551616 := by
     rw [<- hs.out]; exact Nat.lt_of_lt_of_le hnx (Nat.le_trans hpow (by decide))
    clear hpow hnx hlt'; rw [show off + (k + i) = off + (k + i) from rfl] at hc1; go_wp2
    go_round
    case rel => exact ⟨i + 1, by omega, by go_num, by rw [hs.out]; go_num⟩
    case measure => simp [intOf]; omega
  . have hii : i = n := by omega
    subst hii; have hb54 := bld54 (nb b k i : Int) (i : Int); go_wp2_with (first | (refine wp_bld 155 [(0, .tmp 35), (2, .tmp 36)] rfl rfl [(0, .int .u64 (nb b k i : Int)), (2, .int .i64 (i : Int))] rfl hb54 ?_) | (refine wp_st 155 (.tmp 6) (.tmp 37) rfl rfl rfl (f := 0) rfl (l := [.int .u64 (nb b k i : Int), .slice none 0 0, .int .i64 (i : Int), .int .i64 0]) rfl hz (by simp) size54 (by simp [Value.oneCell']) ?_; intro w7 hb7 hG7)); refine ret_cell rfl rfl (l := [.int .u64 (nb b k i : Int), .slice none 0 0, .int .i64 (i : Int), .int .i64 0]) hb7.whole Tryz.underlying155 rfl size54 rfl ?_; exact ⟨rfl, hB.grown hG7 hB.size (sk (by omega))⟩
theorem nb4 (b : List UInt8) (i : Nat) : (be4 b i).toNat = nb b (4 * i) 4 := by
 have h := nb_lt b (4 * i) 4; unfold be4; rw [UInt32.toNat_ofNat']; simp only [nb, Nat.add_zero] at h |-; rw [Nat.mod_eq_of_lt (by omega)]; omega
def klp : List (Nat × Operand) := (kl.zipIdx 0).map fun x => (x.2, .const (u32V x.1))
def klv : List (Nat × Value) := (kl.zipIdx 0).map fun x => (x.2, u32V x.1)
theorem klp_klv (a : Act) : (klp.map fun x => (x.1, a.eval x.2)) = klv := by simp [klp, klv, Function.comp_def, Act.eval]
theorem bldK : ∀ W : World, (Instr.build 194 klv.toArray).run Tryz.prog W = .ok (.agg (wvs kl).toArray) W := fun _ => by kernel_rfl
theorem word_any (i : Nat) (w : World) (hi : i < 64) :
 Calls Tryz.prog 110 #[.int .i64 (i : Int)] w fun e w' => e = .returned (.int .u32 ((kc i).toNat : Int)) /\ Below w.heap.size w w' := by
 go_enter Tryz.func110, Tryz.ntmps110
 have hkc := hid (wvs_at kl i (kc i) (by
  unfold kc; rw [List.getD_eq_getElem?_getD, List.getElem?_eq_getElem (by simpa [kl] using hi)]; rfl))
 have hz := Blk.new' w 194 (zs32 64); have hB : Below w.heap.size w (w.alloc (.cells (zs32 64).toArray 194)) := (Below.refl _ _).alloc (Nat.le_refl _) _; go_wp2_with (first | (refine wp_bld (o := ⟨some 4, .build 194 _, _, _, _, none⟩) 194 klp (by rfl) (by kernel_rfl) klv (klp_klv _) bldK ?_) | (refine wp_new 194 rfl rfl zero64 ?_) | (refine wp_st 194 (.tmp 3) (.tmp 4) rfl rfl rfl (f := 0) rfl (l := wvs kl) rfl hz (by simp [zs32, len_wvs, kl]) size64 (oneCell_wvs _) ?_; intro w7 hb7 hG7; rw [show (zs32 64).take 0 ++ wvs kl ++ (zs32 64).drop (0 + (wvs kl).length) = wvs kl from by simp [len_wvs, kl, zs32]] at hb7; have hc7 := hb7.cellAt i _ hkc.out; unfold u32V at hc7)); go_ret; exact ⟨rfl, hB.grown hG7 hB.size (sk (by omega))⟩
end Go.Proofs.YtnhhbbjkeekneaaGreatDoor
