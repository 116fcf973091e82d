/- K3: several texts in one (K2 K3). -/
import Derived.Test.YtnhhbbjkeekneaaGreatDoorT6
import Derived.Test.YtnhhbbjkeekneaaGreatDoorT5
import Derived.Stop.BytesEq
set_option maxRecDepth 100000
set_option maxHeartbeats 16000000
namespace Go.V
open Go.RowKit
def frmF (i : Nat) : Nat := [0, 8, 12, 14].getD i 0
def besI (k i : Nat) : Nat := if k / 2 ^ i % 2 = 0 then frmF i + k / 2 ^ i + 1 else frmF i + k / 2 ^ i - 1
theorem bes_lt (k i : Nat) (hk : k <= 7) (hi : i < 3) : besI k i < 15 := by
 obtain rfl | rfl | rfl : i = 0 \/ i = 1 \/ i = 2 := by omega
 . simp [besI, frmF]; split <;> omega
 . simp [besI, frmF]; split <;> omega
 . simp [besI, frmF]; split <;> omega
theorem half_next (k i : Nat) : k / 2 ^ i / 2 = k / 2 ^ (i + 1) := by rw [Nat.div_div_eq_div_mul, Nat.pow_succ]
theorem half_le (k i : Nat) (hk : k <= 7) : k / 2 ^ i <= 7 := Nat.le_trans (Nat.div_le_self _ _) hk
end Go.V
namespace Go.Proofs.YtnhhbbjkeekneaaGreatDoor
open Go.RowKit Go.V
end Go.Proofs.YtnhhbbjkeekneaaGreatDoor
namespace Go.V
open Go.RowKit
def upF (h : List UInt8) (sig : List UInt8) (k : Nat) : Nat -> List UInt8
 | 0 => h
 | i + 1 => if k / 2 ^ i % 2 = 0 then shaF (upF h sig k i ++ (sig.drop (561 + 32 * i)).take 32) else shaF ((sig.drop (561 + 32 * i)).take 32 ++ upF h sig k i)
def leafOf (sig : List UInt8) : Nat := (sig.getD 0 0).toNat
def topF (text sig : List UInt8) : List UInt8 := upF (recF text ((sig.drop 1).take 560)) sig (leafOf sig) 3
def okSig (sig : List UInt8) : Prop := sig.length = 657 /\ leafOf sig <= 7
instance (sig : List UInt8) : Decidable (okSig sig) := by unfold okSig; infer_instance
def verN (root text sig : List UInt8) : Int := if okSig sig then (if topF text sig = root then (leafOf sig : Int) else 0) else 0
def verE (root text sig : List UInt8) : Int := if okSig sig then (if topF text sig = root then 0 else 5) else 2
end Go.V
namespace Go.Proofs.YtnhhbbjkeekneaaGreatDoor
open Go.RowKit Go.V
theorem len_up (h sig : List UInt8) (k : Nat) (hh : h.length = 32) : ∀ i, (upF h sig k i).length = 32
 | 0 => hh
 | i + 1 => by rw [upF]; split <;> exact len_sha _
theorem rverify_any (root : List UInt8) (tv sv : Value) (text sig : List UInt8) (F G : Nat -> Prop) (w : World) (hr : root.length = 32) (ht : Rd w F tv (bys text)) (hs : Rd w G sv (bys sig)) (hn : text.length <= 17592186044416) :
 Calls Tryz.prog 106 #[.agg (bvs root).toArray, tv, sv] w fun e w' => e = .returned (.tuple #[.int .i64 (verN root text sig), .int .i64 (verE root text sig)]) /\ Below w.heap.size w w' := by
 obtain ⟨At, ct, rfl⟩ := ht.shape; have hs := hs.weak (F' := fun b => b < w.heap.size) (fun b hb _ => hb); obtain ⟨As, cs, rfl⟩ := hs.shape; have hcap := hs.cap
 have hsm : sig.length <= 9223372036854775807 := by
  obtain ⟨_, c', e, _, h2, _⟩ := hs.bytes; injection e with e1 e2 e3
  unfold maxLen at h2; omega
 have Hr := hid hr; clear hr; have hrd := Blk.new' w 32 (bvs root); have hB := (Below.refl w.heap.size w).alloc (Nat.le_refl _) (.cells (bvs root).toArray 32); have hs0 := hs.below hB; by_cases h657 : sig.length = 657
 . obtain ⟨gs, os, rfl, hgs, hc0⟩ := hs0.byteAt 0 (by omega); obtain ⟨x, hx⟩ := nm (sig[0]'(by omega)); have hleaf : leafOf sig = x.toNat := by rw [hx]; simp [leafOf, List.getD, List.getElem?_eq_getElem (show 0 < sig.length by omega)]
   rw [<- hx, Nat.add_zero] at hc0; rw [h657] at hs hs0 |-; have hx256 := x.toNat_lt; have hne : ((657 : Int) != 657) = false := by decide
   by_cases h7 : 7 < x.toNat
   . have HN : Hid (verN root text sig = 0) := by show _ = _; unfold verN; rw [if_neg (by unfold okSig; omega)]
     have HE : Hid (verE root text sig = 2) := by show _ = _; unfold verE; rw [if_neg (by unfold okSig; omega)]
     clear hleaf hx h657 hcap hsm; go_enter Tryz.func106, Tryz.ntmps106; go_wp2; go_ret2; exact ⟨by rw [HN.out, HE.out]; rfl, hB⟩
   . have HOK : okSig sig := by unfold okSig; omega
     have HN : Hid (verN root text sig = if topF text sig = root then (leafOf sig : Int) else 0) := by show _ = _; unfold verN; rw [if_pos HOK]
     have HE : Hid (verE root text sig = if topF text sig = root then 0 else 5) := by show _ = _; unfold verE; rw [if_pos HOK]
     obtain ⟨k, hk⟩ := nm (x.toNat); rw [<- hk] at hleaf hc0 h7 hx256; have hk7 : k <= 7 := by omega
     have HL := hid hleaf; have Hs := hid h657; obtain ⟨A2, m2, c2, hcut, hcr⟩ := Rd.cut slB hs0 1 561 (by omega) (by omega) (by omega); rw [show (561 : Int).toNat - (1 : Int).toNat = 560 from rfl, show (1 : Int).toNat = 1 from rfl] at hcr; have hl1 : ((sig.drop 1).take 560).length = 560 := by rw [List.length_take, List.length_drop]; omega
     obtain ⟨s1, hs1⟩ := nm ((sig.drop 1).take 560); rw [<- hs1] at hcr hl1; obtain ⟨h0, hh0⟩ := nm (recF text s1); have hh0l : Hid (h0.length = 32) := by show _ = _; rw [hh0]; exact len_rec _ _
     have hrec : Hid (recH text s1 = h0) := by show _ = _; unfold recH; rw [if_pos hl1, hh0]
     have hree : Hid (recE s1 = 0) := if_pos hl1; have htop : Hid (topF text sig = upF h0 sig k 3) := by show _ = _; rw [hh0, hs1, <- hleaf]; rfl
     clear hx hk hleaf HOK h657 hcap hsm hl1 hs1 hh0; go_enter Tryz.func106, Tryz.ntmps106; go_wp2_with (fail); refine (rrecover_any _ _ text s1 _ _ _ (ht.below hB) hcr hn).mono ?_; rintro e w1 ⟨rfl, hB1⟩; rw [hrec.out, hree.out]; have hB1' := hB.trans (hB1.mono hB.size); have hrd1 := hrd.below hB1; have hs1 := hs0.below hB1; have hn9 := Blk.new' w1 32 (zs8 32); have hB2 := hB1'.alloc hB1'.size (.cells (zs8 32).toArray 32); have hrd2 := hrd1.alloc (.cells (zs8 32).toArray 32); have hs2 := hs1.below ((Below.refl _ _).alloc (Nat.le_refl _) (.cells (zs8 32).toArray 32)); have hz1 := hB1'.size; have hrl1 := hrd1.lt; go_wp2_with (first | (refine wp_new 32 rfl rfl zero25 ?_) | (refine wp_st 32 (.tmp 9) (.tmp 33) rfl rfl rfl (f := 0) rfl (l := bvs h0) rfl hn9 (by simp [zs8, len_bvs, hh0l.out]) (by rw [len_bvs, hh0l.out]; exact size25) (oneCell_bvs _) ?_; intro w3 hb3 hG3; refine wp_stop ?_)); rw [set25 _ hh0l.out] at hb3; have hB3 := hB2.grown hG3 hB2.size (sk (by omega)); have hrd3 := hrd2.keep (hG3.block _ hrd2.lt (by intro e; injection e with e; omega)); have hs3 := hs2.keep (F' := fun b => b < w.heap.size) (fun b hb hf => ⟨hf, hG3.block b hb (by intro e; injection e with e; omega)⟩); obtain ⟨g9, hg9⟩ := nm (w1.heap.size); have hg9' : w.heap.size < g9 := by omega
     rw [<- hg9] at hb3 |-; have hz3 : g9 < w3.heap.size := hb3.lt; obtain ⟨g3, hg3⟩ := nm (w.heap.size); rw [<- hg3] at hrd3 |-; have hle1 : g3 <= w.heap.size := by omega
     have hle2 : w.heap.size <= g3 := by omega
     clear hg9 hg3 hrd hrd1 hrd2 hs0 hs1 hs2 hn9 hG3 hcr hcut hc0 hne; refine wp_go ?_; go_wp2_with (fail)
     go_loopw [11, 12] (fun nv iv wr => ∃ i : Nat, i <= 3 /\ iv = .int .i64 (i : Int) /\ nv = .int .i64 ((k / 2 ^ i : Nat) : Int) /\ Blk wr g9 32 (bvs (upF h0 sig k i)) /\ Blk wr g3 32 (bvs root) /\ Rd wr (fun b => b < w.heap.size) (.slice (some ⟨gs, os, none⟩) 657 cs) (bys sig) /\ g9 < wr.heap.size /\ Below w.heap.size w wr) (fun _ iv _ => 3 - (intOf iv).toNat)
     case atStart => exact ⟨0, by omega, rfl, by simp, hb3, hrd3, hs3, hz3, hB3⟩
     case round =>
      obtain ⟨i, hi, rfl, rfl, hy, hrr, hs, hz, hB⟩ := hrel; obtain ⟨X, hX⟩ := nm (upF h0 sig k i); have HXl : Hid (X.length = 32) := by show _ = _; rw [hX]; exact len_up _ _ _ hh0l.out i
      rw [<- hX] at hy; have HX := hid hX; have Hhn := hid (half_next k i); have hq7 := half_le k i hk7; obtain ⟨q, hq⟩ := nm (k / 2 ^ i); rw [<- hq] at Hhn hq7 |-; have Hq := hid hq; clear hX hq; by_cases hlt : i < 3
      . obtain ⟨d, hd⟩ := nm ((sig.drop (561 + 32 * i)).take 32); have hdl : Hid (d.length = 32) := by show _ = _; rw [hd, List.length_take, List.length_drop, Hs.out]; omega
        have Hd := hid hd; clear hd; have hn13 := Blk.new' wr 32 (zs8 32); have hal := (Below.refl wr.heap.size wr).alloc (Nat.le_refl _) (.cells (zs8 32).toArray 32); have hy1 := hy.below hal; have hrr1 := hrr.below hal; have hs1 := hs.below hal; have hB1a := hB.alloc hB.size (.cells (zs8 32).toArray 32); have hrrl := hrr.lt; have hBs := hB.size; go_wp2_with (first | (refine wp_bld 32 [] rfl rfl [] rfl bld25 ?_) | (refine wp_new 32 rfl rfl zero25 ?_) | (refine wp_st 32 (.tmp 13) (.tmp 40) rfl rfl rfl (f := 0) rfl (l := zs8 32) rfl hn13 (by simp [zs8]) (by exact size25) one_zs8 ?_; intro w4 hb4 hG4; refine wp_stop ?_)); rw [show (zs8 32).take 0 ++ zs8 32 ++ (zs8 32).drop (0 + (zs8 32).length) = zs8 32 from rfl] at hb4; have hB4 := hB1a.grown hG4 hB1a.size (sk (by omega)); have hy4 := hy1.keep (hG4.block _ hy1.lt (by intro e; injection e with e; omega)); have hrr4 := hrr1.keep (hG4.block _ hrr1.lt (by intro e; injection e with e; omega)); have hs4 := hs1.keep (F' := fun b => b < w.heap.size) (fun b hb hf => ⟨hf, hG4.block b hb (by intro e; injection e with e; omega)⟩); obtain ⟨g13, hg13⟩ := nm (wr.heap.size); rw [<- hg13] at hb4 |-; have hz' : g9 < g13 := by omega
        have hz4 := hb4.lt; clear hg13 hn13 hal hy1 hrr1 hs1 hB1a hG4 hy hrr hs hB; have hb4 : Blk w4 g13 32 (part32 d 0) := by rw [part32_0]; exact hb4
        refine wp_go ?_; go_wp2_with (fail)
        go_loopw [14] (fun jv wr => ∃ j : Nat, j <= 32 /\ jv = .int .i64 (j : Int) /\ Blk wr g13 32 (part32 d j) /\ Blk wr g9 32 (bvs X) /\ Blk wr g3 32 (bvs root) /\ Rd wr (fun b => b < w.heap.size) (.slice (some ⟨gs, os, none⟩) 657 cs) (bys sig) /\ g13 < wr.heap.size /\ Below w.heap.size w wr) (fun jv _ => 32 - (intOf jv).toNat)
        case atStart => exact ⟨0, by omega, rfl, hb4, hy4, hrr4, hs4, hz4, hB4⟩
        case round =>
         obtain ⟨j, hj, rfl, hb, hy, hrr, hs, hz, hB⟩ := hrel; by_cases hjl : j < 32
         . obtain ⟨gs2, os2, he, _, hc⟩ := hs.byteAt (561 + 32 * i + j) (by rw [Hs.out]; omega); injection he with he
           injection he with he1 he2
           subst he1 he2; obtain ⟨x, hx⟩ := nm (sig[561 + 32 * i + j]'(by rw [Hs.out]; omega)); rw [<- hx] at hc
           have hdx : d[j]? = some x := by
            rw [Hd.out, List.getElem?_take, if_pos hjl, List.getElem?_drop, List.getElem?_eq_getElem (by rw [Hs.out]; omega), hx]
           have hset := hid (part32_set d j hdl.out hjl x hdx); have hpl := hid (part32_len d j hdl.out hj); have hti : (561 + 32 * (i : Int) + (j : Int)).toNat = 561 + 32 * i + j := by omega
           clear hx hdx; go_wp2_with (refine wp_st1 5 (.tmp 54) (.tmp 53) rfl rfl rfl (f := j) rfl (v := byteV x) rfl hb (by rw [hpl.out]; omega) size8 rfl rfl ?_; intro w5 hb5 hG5); rw [hset.out] at hb5; clear hti; have hB5 := hB.grown hG5 hB.size (sk (by omega)); have hy5 := hy.keep (hG5.block _ hy.lt (by intro e; injection e with e; omega)); have hrr5 := hrr.keep (hG5.block _ hrr.lt (by intro e; injection e with e; omega)); have hs5 := hs.keep (F' := fun b => b < w.heap.size) (fun b hb hf => ⟨hf, hG5.block b hb (by intro e; injection e with e; omega)⟩); have hz5 := hG5.size; go_wp2
           go_roundw
           case rel => exact ⟨j + 1, by omega, by go_num, hb5, hy5, hrr5, hs5, by omega, hB5⟩
           case measure => simp [intOf]; omega
         . have h32 : j = 32 := by omega
           subst h32; rw [part32_end _ hdl.out] at hb; clear hjl hb4 hy4 hrr4 hs4 hB4; by_cases hev : q % 2 = 0
           . have hd : ((q : Int) % 2 == 0) = true := by rw [beq_iff_eq]; omega
             have hup : Hid (upF h0 sig k (i + 1) = shaF (X ++ d)) := by show _ = _; rw [upF, if_pos (by rw [<- Hq.out]; exact hev), HX.out, Hd.out]
             clear hev; go_wp2_with (with_reducible refine wp_at 58 rfl ?_); refine wp_on ?_; refine wp_ld 32 (.tmp 9) rfl rfl rfl hy.whole und25 rfl (by rw [len_bvs, HXl.out]; exact size25) ?_; refine wp_ld 32 (.tmp 13) rfl rfl rfl hb.whole und25 rfl (by rw [len_bvs, hdl.out]; exact size25) ?_; go_wp2_with (fail); refine (ref_pair_any X d _ HXl.out hdl.out).mono ?_; rintro e w7 ⟨rfl, hB7⟩; obtain ⟨r, hr⟩ := nm (shaF (X ++ d)); rw [<- hr]; rw [<- hr] at hup; have Hrl : Hid (r.length = 32) := by show _ = _; rw [hr]; exact len_sha _
             clear hr; have hy7 := hy.below hB7; have hrr7 := hrr.below hB7; have hs7 := hs.below hB7; have hB7' := hB.trans (hB7.mono hB.size); go_wp2_with (refine wp_st 32 (.tmp 9) (.tmp 60) rfl rfl rfl (f := 0) rfl (l := bvs r) rfl hy7 (by rw [len_bvs, len_bvs, Hrl.out, HXl.out]; omega) (by rw [len_bvs, Hrl.out]; exact size25) (oneCell_bvs _) ?_; intro w8 hb8 hG8); rw [show (bvs X).take 0 ++ bvs r ++ (bvs X).drop (0 + (bvs r).length) = bvs r from by rw [List.take_zero, List.nil_append, List.drop_of_length_le (by rw [len_bvs, len_bvs, Hrl.out, HXl.out]; omega), List.append_nil]] at hb8; have hB8 := hB7'.grown hG8 hB7'.size (sk (by omega)); have hrr8 := hrr7.keep (hG8.block _ hrr7.lt (by intro e; injection e with e; omega)); have hs8 := hs7.keep (F' := fun b => b < w.heap.size) (fun b hb hf => ⟨hf, hG8.block b hb (by intro e; injection e with e; omega)⟩); have hz8 := hG8.size; have hz7 := hB7.size; go_wp2
             go_roundw
             case rel => exact ⟨i + 1, by omega, by go_num, congrArg (Value.int .i64) (by have := Hhn.out; omega), by rw [hup.out]; exact hb8, hrr8, hs8, by omega, hB8⟩
             case measure => simp [intOf]; omega
           . have hd : ((q : Int) % 2 == 0) = false := by rw [beq_eq_false_iff_ne]; omega
             have hup : Hid (upF h0 sig k (i + 1) = shaF (d ++ X)) := by show _ = _; rw [upF, if_neg (by rw [<- Hq.out]; exact hev), HX.out, Hd.out]
             clear hev; go_wp2_with (with_reducible refine wp_at 61 rfl ?_); refine wp_on ?_; refine wp_ld 32 (.tmp 13) rfl rfl rfl hb.whole und25 rfl (by rw [len_bvs, hdl.out]; exact size25) ?_; refine wp_ld 32 (.tmp 9) rfl rfl rfl hy.whole und25 rfl (by rw [len_bvs, HXl.out]; exact size25) ?_; go_wp2_with (fail); refine (ref_pair_any d X _ hdl.out HXl.out).mono ?_; rintro e w7 ⟨rfl, hB7⟩; obtain ⟨r, hr⟩ := nm (shaF (d ++ X)); rw [<- hr]; rw [<- hr] at hup; have Hrl : Hid (r.length = 32) := by show _ = _; rw [hr]; exact len_sha _
             clear hr; have hy7 := hy.below hB7; have hrr7 := hrr.below hB7; have hs7 := hs.below hB7; have hB7' := hB.trans (hB7.mono hB.size); go_wp2_with (refine wp_st 32 (.tmp 9) (.tmp 63) rfl rfl rfl (f := 0) rfl (l := bvs r) rfl hy7 (by rw [len_bvs, len_bvs, Hrl.out, HXl.out]; omega) (by rw [len_bvs, Hrl.out]; exact size25) (oneCell_bvs _) ?_; intro w8 hb8 hG8); rw [show (bvs X).take 0 ++ bvs r ++ (bvs X).drop (0 + (bvs r).length) = bvs r from by rw [List.take_zero, List.nil_append, List.drop_of_length_le (by rw [len_bvs, len_bvs, Hrl.out, HXl.out]; omega), List.append_nil]] at hb8; have hB8 := hB7'.grown hG8 hB7'.size (sk (by omega)); have hrr8 := hrr7.keep (hG8.block _ hrr7.lt (by intro e; injection e with e; omega)); have hs8 := hs7.keep (F' := fun b => b < w.heap.size) (fun b hb hf => ⟨hf, hG8.block b hb (by intro e; injection e with e; omega)⟩); have hz8 := hG8.size; have hz7 := hB7.size; go_wp2
             go_roundw
             case rel => exact ⟨i + 1, by omega, by go_num, congrArg (Value.int .i64) (by have := Hhn.out; omega), by rw [hup.out]; exact hb8, hrr8, hs8, by omega, hB8⟩
             case measure => simp [intOf]; omega
      . have h3 : i = 3 := by omega
        subst h3; have hxx : Hid (topF text sig = X) := by show _ = _; rw [htop.out, HX.out]
        by_cases hxr : X = root
        . have HN2 : Hid (verN root text sig = (k : Int)) := by show _ = _; rw [HN.out, hxx.out, if_pos hxr, HL.out]
          have HE2 : Hid (verE root text sig = 0) := by show _ = _; rw [HE.out, hxx.out, if_pos hxr]
          have heq := eqH X root HXl.out Hr.out; rw [show (X == root) = true from by simp [hxr]] at heq; clear hxr hlt; go_wp2_with (with_reducible refine wp_at 66 rfl ?_); refine wp_on ?_; refine wp_ld 32 (.tmp 9) rfl rfl rfl hy.whole und25 rfl (by rw [len_bvs, HXl.out]; exact size25) ?_; refine wp_ld 32 (.tmp 3) rfl rfl rfl hrr.whole und25 rfl (by rw [len_bvs, Hr.out]; exact size25) ?_; go_wp2; go_ret2; exact ⟨by rw [HN2.out, HE2.out]; rfl, hB⟩
        . have HN2 : Hid (verN root text sig = 0) := by show _ = _; rw [HN.out, hxx.out, if_neg hxr]
          have HE2 : Hid (verE root text sig = 5) := by show _ = _; rw [HE.out, hxx.out, if_neg hxr]
          have heq := eqH X root HXl.out Hr.out; rw [show (X == root) = false from by simp [hxr]] at heq; clear hxr hlt; go_wp2_with (with_reducible refine wp_at 66 rfl ?_); refine wp_on ?_; refine wp_ld 32 (.tmp 9) rfl rfl rfl hy.whole und25 rfl (by rw [len_bvs, HXl.out]; exact size25) ?_; refine wp_ld 32 (.tmp 3) rfl rfl rfl hrr.whole und25 rfl (by rw [len_bvs, Hr.out]; exact size25) ?_; go_wp2; go_ret2; exact ⟨by rw [HN2.out, HE2.out]; rfl, hB⟩
 . have HN : Hid (verN root text sig = 0) := by show _ = _; unfold verN; rw [if_neg (by unfold okSig; omega)]
   have HE : Hid (verE root text sig = 2) := by show _ = _; unfold verE; rw [if_neg (by unfold okSig; omega)]
   have hne : ((sig.length : Int) != 657) = true := by rw [bne_iff_ne]; omega
   clear h657; go_enter Tryz.func106, Tryz.ntmps106; go_wp2; go_ret2; exact ⟨by rw [HN.out, HE.out]; rfl, hB⟩
end Go.Proofs.YtnhhbbjkeekneaaGreatDoor
