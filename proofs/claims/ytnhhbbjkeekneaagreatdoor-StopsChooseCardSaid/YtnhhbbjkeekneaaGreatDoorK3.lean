/- K3: several texts in one (O3 K1 T6 K2 K3). -/
import Derived.Test.YtnhhbbjkeekneaaGreatDoorShelf
import Derived.Test.YtnhhbbjkeekneaaGreatDoorO2
import Derived.IntWalk
import Derived.Test.YtnhhbbjkeekneaaGreatDoorVA
import Derived.Test.YtnhhbbjkeekneaaGreatDoorT5
import Derived.Lib.SlBytesConst
import Derived.Stop.BytesEq
set_option maxRecDepth 100000
set_option maxHeartbeats 16000000
namespace Go.V
open Go.RowKit
def catF (f : Nat -> List UInt8) (n : Nat) : List UInt8 := (List.range n).flatMap f
theorem cat_succ (f : Nat -> List UInt8) (n : Nat) : catF f (n + 1) = catF f n ++ f n := by simp [catF, List.range_succ]
def recF (text sig : List UInt8) : List UInt8 := shaF (catF (fun j => walkF ((sig.drop (16 * j)).take 16) j ((digF (shaF text)).getD j 0) (15 - (digF (shaF text)).getD j 0)) 35)
end Go.V
namespace Go.Proofs.YtnhhbbjkeekneaaGreatDoor
open Go.RowKit Go.V
theorem len_rec (text sig : List UInt8) : (recF text sig).length = 32 := len_sha _
theorem rwalk_i (v : Value) (p : List UInt8) (j f n : Nat) (jv fv nv : Int) (F : Nat -> Prop) (w : World) (ht : Rd w F v (bys p)) (hp : p.length = 16) (hj : j <= 1000) (hf : f <= 1000) (hn : n <= 1000) (e1 : jv = j) (e2 : fv = f) (e3 : nv = n) :
 Calls Tryz.prog 149 #[v, .int .i64 jv, .int .i64 fv, .int .i64 nv] w fun e w' => ∃ v', e = .returned v' /\ Rd w' (fun b => F b \/ w.heap.size <= b) v' (bys (walkF p j f (n - f))) /\ Below w.heap.size w w' := by
 subst e1 e2 e3; exact rwalk_any v p j f n F w ht hp hj hf hn
def recE (sig : List UInt8) : Int := if sig.length = 560 then 0 else 2
def recH (text sig : List UInt8) : List UInt8 := if sig.length = 560 then recF text sig else List.replicate 32 0
theorem zs8_bvs (n : Nat) : zs8 n = bvs (List.replicate n 0) := by simp [zs8, bvs, byteV]
theorem rrecover_any (tv sv : Value) (text sig : List UInt8) (F G : Nat -> Prop) (w : World) (ht : Rd w F tv (bys text)) (hs : Rd w G sv (bys sig)) (hn : text.length <= 17592186044416) :
 Calls Tryz.prog 133 #[tv, sv] w fun e w' => e = .returned (.tuple #[.agg (bvs (recH text sig)).toArray, .int .i64 (recE sig)]) /\ Below w.heap.size w w' := by
 obtain ⟨At, ct, rfl⟩ := ht.shape; have hs := hs.weak (F' := fun b => b < w.heap.size) (fun b hb _ => hb); obtain ⟨As, cs, rfl⟩ := hs.shape; have hcap := hs.cap
 have hsm : sig.length <= 9223372036854775807 := by
  obtain ⟨_, c', e, _, h2, _⟩ := hs.bytes; injection e with e1 e2 e3
  unfold maxLen at h2; omega
 have hz := Blk.new' w 32 (zs8 32); have hB := (Below.refl w.heap.size w).alloc (Nat.le_refl _) (.cells (zs8 32).toArray 32); by_cases h560 : sig.length = 560
 . have HE : Hid (recE sig = 0) := if_pos h560; have HH : Hid (recH text sig = recF text sig) := if_pos h560; rw [h560] at hs |-; have hne : ((560 : Int) != 560) = false := by decide
   have Hs := hid h560; clear h560 hcap hsm; go_enter Tryz.func133, Tryz.ntmps133; go_wp2_with (refine wp_new 32 rfl rfl zero25 ?_); refine (rsum_any _ text _ _ (ht.below hB) hn).mono ?_; rintro e w1 ⟨rfl, hB1⟩; go_wp2_with (fail); refine (rdigits_any (shaF text) _ (len_sha _)).mono ?_; rintro e wd ⟨dv, rfl, hod, hB2⟩; have hB12 := hB1.trans (hB2.mono hB1.size); have hBd := hB.trans (hB12.mono hB.size); have hzd := hz.below hB12; have hsd := hs.below hBd; obtain ⟨D, hD⟩ := nm (digF (shaF text)); rw [<- hD] at hod; have hDl : Hid (D.length = 35) := by show _ = _; rw [hD]; exact len_dig _ (by rw [len_sha]; omega)
   have hD15 : Hid (∀ n ∈ D, n <= 15) := by show ∀ n ∈ D, n <= 15; rw [hD]; exact dig_le _
   have HD := hid hD; clear hD; obtain ⟨gd, cd, rfl, hgd, hgl, hdc⟩ := own_ivs hod (by omega); have HDC := hid hdc; clear hdc hne; have hzl := hzd.lt; have h0 := World.ownsRow_nil wd wd.heap.size 5 1; go_wp2_with (fail)
   go_loopw [7, 8] (fun bv jv wr => ∃ j : Nat, j <= 35 /\ jv = .int .i64 j /\ wr.ownsRow wd.heap.size 5 1 bv (16 * j) (bvs (catF (fun j => walkF ((sig.drop (16 * j)).take 16) j (D.getD j 0) (15 - D.getD j 0)) j)) /\ Below wd.heap.size wd wr) (fun _ jv _ => 35 - (intOf jv).toNat)
   case atStart => exact ⟨0, by omega, rfl, h0, Below.refl _ _⟩
   case round =>
    obtain ⟨j, hj, rfl, ho, hB3⟩ := hrel; obtain ⟨C, hC⟩ := nm (catF (fun j => walkF ((sig.drop (16 * j)).take 16) j (D.getD j 0) (15 - D.getD j 0)) j); rw [<- hC] at ho; have HC := hid hC; clear hC; have hbs := hB3.size; by_cases hlt : j < 35
    . obtain ⟨dj, hdj⟩ : ∃ n, D[j]? = some n := ⟨_, List.getElem?_eq_getElem (by rw [hDl.out]; omega)⟩
      have hd15 := hD15.out dj (List.mem_of_getElem? hdj); have hcell := HDC.out j dj hdj; have HDG : Hid (∀ W, Ch (fun b => wd.heap.size <= b) wr W -> W.cell? ⟨gd, j, none⟩ = some (.int .i64 (dj : Int))) := fun W h => (World.cell?_of_block ((h.block gd (by omega) (by show ¬ wd.heap.size <= gd; omega)).trans (hB3.block gd hgl))).trans hcell
      have hcs0 : Hid (catF (fun j => walkF ((sig.drop (16 * j)).take 16) j (D.getD j 0) (15 - D.getD j 0)) (j + 1) = C ++ walkF ((sig.drop (16 * j)).take 16) j dj (15 - dj)) := by
       show _ = _; rw [cat_succ, HC.out]; simp [hdj]
      have hpl : Hid (((sig.drop (16 * j)).take 16).length = 16) := by show _ = _; rw [List.length_take, List.length_drop, Hs.out]; omega
      obtain ⟨A9, m9, c9, hcut, hcr⟩ := Rd.cut slB (hsd.below hB3) (16 * (j : Int)) (16 * (j : Int) + 16) (by omega) (by omega) (by rw [Hs.out]; omega); rw [show (16 * (j : Int)).toNat = 16 * j from by omega, show (16 * (j : Int) + 16).toNat - 16 * j = 16 from by omega] at hcr; have hwm : IntKind.i64.wrap (16 * (j : Int)) = 16 * (j : Int) := IntWalk.i64_in _ (by omega); have hwa : IntKind.i64.wrap (16 * (j : Int) + 16) = 16 * (j : Int) + 16 := IntWalk.i64_in _ (by omega); have hbd := hBd.size; clear hdj hcell; go_wp2; refine wp_region_noPanic ?_; refine wp_region_held_drew (S := Ch (fun b => wd.heap.size <= b) wr) (by kernel_rfl) ((Ch.refl _ _).drew) (fun hHeld => ?_); refine tkP 0 rfl ?_; refine tkP 1 rfl ?_; refine tkP 2 rfl ?_; refine tkP 3 rfl ?_; refine tkP 4 rfl ?_; refine tkP 5 rfl ?_; refine tkP 6 rfl ?_; refine tkP 7 rfl ?_; refine tkP 8 rfl ?_; refine tkP 9 rfl ?_; refine tkP 10 rfl ?_; refine tkP 11 rfl ?_; refine tkF 12 rfl HDG.out ?_; refine rdH 13 rfl (fun K hK => ?_); go_simp; refine (rwalk_i _ ((sig.drop (16 * j)).take 16) j dj 15 _ _ _ _ _ (hcr.ch hHeld (fun b hb hg => by have : b < w.heap.size := hb; have : wd.heap.size <= b := hg; omega)) hpl.out (by omega) (by omega) (by omega) rfl rfl rfl).mono ?_; rintro e' w5 ⟨v5, rfl, hr5, hB5⟩; have hC5 := hHeld.belowG hB5; have ho5 := own_keepB ho.drew hB5; have hwl : Hid ((walkF ((sig.drop (16 * j)).take 16) j dj (15 - dj)).length = 16) := len_walk _ _ _ hpl.out _; obtain ⟨q, hq⟩ := nm (walkF ((sig.drop (16 * j)).take 16) j dj (15 - dj)); rw [<- hq] at hr5 hwl; have Hq := hid hq; clear hq; obtain ⟨A5, c5, rfl⟩ := hr5.shape; have hs5 := hr5.src; rw [hwl.out] at hs5 |-; refine hK.out _ _ (hC5) (fun hHeld => ?_); clear hK K
      try simp only [nP]
      refine rdH 14 rfl (fun K hK => ?_); refine step_app (.tmp 20) (.tmp 33) slB (by rfl) (by rfl) (by rfl) ho5 (by rfl) hs5 (oneCell_bvs q) (by simp only [maxLen]; omega) (by omega) (by have := hC5.size; omega) ?_; intro v6 w6 ho6 hG6; have hC6 := hC5.growOwn hG6 (fun k hk => (ho5.lt k hk).1); refine hK.out _ _ (hC6) (fun hHeld => ?_); clear hK K
      try simp only [nP]
      refine tkP 15 rfl ?_; refine wpAnyH_done (by kernel_rfl) ?_ _; refine NoPanic.normal ?_; rw [show bvs C ++ bvs q = bvs (C ++ q) from by simp [bvs], Hq.out, <- hcs0.out] at ho6; go_wp2
      go_roundw
      case rel => exact ⟨j + 1, by omega, by go_num, ho6, hB3.trans ⟨hC6.os, hC6.tape, hC6.output, hC6.size, fun k hk => hC6.block k (by omega) (by show ¬ wd.heap.size <= k; omega)⟩⟩
      case measure => simp [intOf]; omega
    . have h35 : j = 35 := by omega
      subst h35; have hzr := hzd.below hB3; have hBr := hBd.trans (hB3.mono hBd.size); have hrd := Rd.of_own ho
      have hcl : Hid (C.length = 560) := by
       show _ = _; have := ho.1; rw [len_bvs] at this; omega
      go_wp2_with (fail); refine (rsum_any _ C _ _ hrd (by rw [hcl.out]; omega)).mono ?_; rintro e w7 ⟨rfl, hB7⟩; have hfin : Hid (recF text sig = shaF C) := by show _ = _; rw [HC.out, HD.out]; rfl
      rw [<- hfin.out]; obtain ⟨r, hr⟩ := nm (recF text sig); rw [<- hr]; have hrl : Hid (r.length = 32) := by show _ = _; rw [hr]; exact len_rec _ _
      have Hr := hid hr; clear hr hfin; have hz7 := hzr.below hB7; have hB7' := hBr.trans (hB7.mono hBr.size); go_wp2_with (refine wp_st 32 (.tmp 4) (.tmp 36) rfl rfl rfl (f := 0) rfl (l := bvs r) rfl hz7 (by simp [zs8, len_bvs, hrl.out]) (by rw [len_bvs, hrl.out]; exact size25) (oneCell_bvs _) ?_; intro w8 hb8 hG8); rw [set25 _ hrl.out] at hb8; refine ret_cell1 rfl rfl rfl hb8.whole und25 rfl (by rw [len_bvs, hrl.out]; exact size25) rfl ?_; exact ⟨by rw [HE.out, HH.out, Hr.out]; rfl, hB7'.grown hG8 hB7'.size (sk (by omega))⟩
 . have HE : Hid (recE sig = 2) := if_neg h560; have HH : Hid (recH text sig = List.replicate 32 0) := if_neg h560; have hne : ((sig.length : Int) != 560) = true := by rw [bne_iff_ne]; omega
   clear h560; go_enter Tryz.func133, Tryz.ntmps133; go_wp2_with (first | (refine wp_new 32 rfl rfl zero25 ?_) | (refine wp_bld 32 [] rfl rfl [] rfl bld25 ?_) | (refine wp_st 32 (.tmp 4) (.tmp 12) rfl rfl rfl (f := 0) rfl (l := zs8 32) rfl hz (by simp [zs8]) (by exact size25) one_zs8 ?_; intro w8 hb8 hG8)); rw [show (zs8 32).take 0 ++ zs8 32 ++ (zs8 32).drop (0 + (zs8 32).length) = zs8 32 from rfl] at hb8; go_wp2; refine ret_cell1 rfl rfl rfl hb8.whole und25 rfl (by exact size25) rfl ?_; exact ⟨by rw [HE.out, HH.out, <- zs8_bvs]; rfl, hB.grown hG8 (by simp) (sk (by omega))⟩
end Go.Proofs.YtnhhbbjkeekneaaGreatDoor
namespace Go.V
end Go.V
namespace Go.Proofs.YtnhhbbjkeekneaaGreatDoor
open Go.RowKit Go.V
def what : List UInt8 := [119, 104, 97, 116, 32, 100, 111, 32, 121, 97, 32, 119, 97, 110, 116, 32, 102, 111, 114, 32, 110, 111, 116, 104, 105, 110, 103, 63]
end Go.Proofs.YtnhhbbjkeekneaaGreatDoor
namespace Go.V
open Go.RowKit
def frmF (i : Nat) : Nat := [0, 8, 12, 14].getD i 0
def besI (k i : Nat) : Nat := if k / 2 ^ i % 2 = 0 then frmF i + k / 2 ^ i + 1 else frmF i + k / 2 ^ i - 1
theorem bes_lt (k i : Nat) (hk : k <= 7) (hi : i < 3) : besI k i < 15 := by
 obtain rfl | rfl | rfl : i = 0 \/ i = 1 \/ i = 2 := by omega
 . simp [besI, frmF]; split <;> omega
 . simp [besI, frmF]; split <;> omega
 . simp [besI, frmF]; split <;> omega
theorem half_next (k i : Nat) : k / 2 ^ i / 2 = k / 2 ^ (i + 1) := by rw [Nat.div_div_eq_div_mul, Nat.pow_succ]
theorem half_le (k i : Nat) (hk : k <= 7) : k / 2 ^ i <= 7 := Nat.le_trans (Nat.div_le_self _ _) hk
end Go.V
namespace Go.Proofs.YtnhhbbjkeekneaaGreatDoor
open Go.RowKit Go.V
end Go.Proofs.YtnhhbbjkeekneaaGreatDoor
namespace Go.V
open Go.RowKit
def upF (h : List UInt8) (sig : List UInt8) (k : Nat) : Nat -> List UInt8
 | 0 => h
 | i + 1 => if k / 2 ^ i % 2 = 0 then shaF (upF h sig k i ++ (sig.drop (561 + 32 * i)).take 32) else shaF ((sig.drop (561 + 32 * i)).take 32 ++ upF h sig k i)
def leafOf (sig : List UInt8) : Nat := (sig.getD 0 0).toNat
def topF (text sig : List UInt8) : List UInt8 := upF (recF text ((sig.drop 1).take 560)) sig (leafOf sig) 3
def okSig (sig : List UInt8) : Prop := sig.length = 657 /\ leafOf sig <= 7
instance (sig : List UInt8) : Decidable (okSig sig) := by unfold okSig; infer_instance
def verN (root text sig : List UInt8) : Int := if okSig sig then (if topF text sig = root then (leafOf sig : Int) else 0) else 0
def verE (root text sig : List UInt8) : Int := if okSig sig then (if topF text sig = root then 0 else 5) else 2
end Go.V
namespace Go.Proofs.YtnhhbbjkeekneaaGreatDoor
open Go.RowKit Go.V
theorem len_up (h sig : List UInt8) (k : Nat) (hh : h.length = 32) : ∀ i, (upF h sig k i).length = 32
 | 0 => hh
 | i + 1 => by rw [upF]; split <;> exact len_sha _
theorem rverify_any (root : List UInt8) (tv sv : Value) (text sig : List UInt8) (F G : Nat -> Prop) (w : World) (hr : root.length = 32) (ht : Rd w F tv (bys text)) (hs : Rd w G sv (bys sig)) (hn : text.length <= 17592186044416) :
 Calls Tryz.prog 106 #[.agg (bvs root).toArray, tv, sv] w fun e w' => e = .returned (.tuple #[.int .i64 (verN root text sig), .int .i64 (verE root text sig)]) /\ Below w.heap.size w w' := by
 obtain ⟨At, ct, rfl⟩ := ht.shape; have hs := hs.weak (F' := fun b => b < w.heap.size) (fun b hb _ => hb); obtain ⟨As, cs, rfl⟩ := hs.shape; have hcap := hs.cap
 have hsm : sig.length <= 9223372036854775807 := by
  obtain ⟨_, c', e, _, h2, _⟩ := hs.bytes; injection e with e1 e2 e3
  unfold maxLen at h2; omega
 have Hr := hid hr; clear hr; have hrd := Blk.new' w 32 (bvs root); have hB := (Below.refl w.heap.size w).alloc (Nat.le_refl _) (.cells (bvs root).toArray 32); have hs0 := hs.below hB; by_cases h657 : sig.length = 657
 . obtain ⟨gs, os, rfl, hgs, hc0⟩ := hs0.byteAt 0 (by omega); obtain ⟨x, hx⟩ := nm (sig[0]'(by omega)); have hleaf : leafOf sig = x.toNat := by rw [hx]; simp [leafOf, List.getD, List.getElem?_eq_getElem (show 0 < sig.length by omega)]
   rw [<- hx, Nat.add_zero] at hc0; rw [h657] at hs hs0 |-; have hx256 := x.toNat_lt; have hne : ((657 : Int) != 657) = false := by decide
   by_cases h7 : 7 < x.toNat
   . have HN : Hid (verN root text sig = 0) := by show _ = _; unfold verN; rw [if_neg (by unfold okSig; omega)]
     have HE : Hid (verE root text sig = 2) := by show _ = _; unfold verE; rw [if_neg (by unfold okSig; omega)]
     clear hleaf hx h657 hcap hsm; go_enter Tryz.func106, Tryz.ntmps106; go_wp2; go_ret2; exact ⟨by rw [HN.out, HE.out]; rfl, hB⟩
   . have HOK : okSig sig := by unfold okSig; omega
     have HN : Hid (verN root text sig = if topF text sig = root then (leafOf sig : Int) else 0) := by show _ = _; unfold verN; rw [if_pos HOK]
     have HE : Hid (verE root text sig = if topF text sig = root then 0 else 5) := by show _ = _; unfold verE; rw [if_pos HOK]
     obtain ⟨k, hk⟩ := nm (x.toNat); rw [<- hk] at hleaf hc0 h7 hx256; have hk7 : k <= 7 := by omega
     have HL := hid hleaf; have Hs := hid h657; obtain ⟨A2, m2, c2, hcut, hcr⟩ := Rd.cut slB hs0 1 561 (by omega) (by omega) (by omega); rw [show (561 : Int).toNat - (1 : Int).toNat = 560 from rfl, show (1 : Int).toNat = 1 from rfl] at hcr; have hl1 : ((sig.drop 1).take 560).length = 560 := by rw [List.length_take, List.length_drop]; omega
     obtain ⟨s1, hs1⟩ := nm ((sig.drop 1).take 560); rw [<- hs1] at hcr hl1; obtain ⟨h0, hh0⟩ := nm (recF text s1); have hh0l : Hid (h0.length = 32) := by show _ = _; rw [hh0]; exact len_rec _ _
     have hrec : Hid (recH text s1 = h0) := by show _ = _; unfold recH; rw [if_pos hl1, hh0]
     have hree : Hid (recE s1 = 0) := if_pos hl1; have htop : Hid (topF text sig = upF h0 sig k 3) := by show _ = _; rw [hh0, hs1, <- hleaf]; rfl
     clear hx hk hleaf HOK h657 hcap hsm hl1 hs1 hh0; go_enter Tryz.func106, Tryz.ntmps106; go_wp2_with (fail); refine (rrecover_any _ _ text s1 _ _ _ (ht.below hB) hcr hn).mono ?_; rintro e w1 ⟨rfl, hB1⟩; rw [hrec.out, hree.out]; have hB1' := hB.trans (hB1.mono hB.size); have hrd1 := hrd.below hB1; have hs1 := hs0.below hB1; have hn9 := Blk.new' w1 32 (zs8 32); have hB2 := hB1'.alloc hB1'.size (.cells (zs8 32).toArray 32); have hrd2 := hrd1.alloc (.cells (zs8 32).toArray 32); have hs2 := hs1.below ((Below.refl _ _).alloc (Nat.le_refl _) (.cells (zs8 32).toArray 32)); have hz1 := hB1'.size; have hrl1 := hrd1.lt; go_wp2_with (first | (refine wp_new 32 rfl rfl zero25 ?_) | (refine wp_st 32 (.tmp 9) (.tmp 33) rfl rfl rfl (f := 0) rfl (l := bvs h0) rfl hn9 (by simp [zs8, len_bvs, hh0l.out]) (by rw [len_bvs, hh0l.out]; exact size25) (oneCell_bvs _) ?_; intro w3 hb3 hG3; refine wp_stop ?_)); rw [set25 _ hh0l.out] at hb3; have hB3 := hB2.grown hG3 hB2.size (sk (by omega)); have hrd3 := hrd2.keep (hG3.block _ hrd2.lt (by intro e; injection e with e; omega)); have hs3 := hs2.keep (F' := fun b => b < w.heap.size) (fun b hb hf => ⟨hf, hG3.block b hb (by intro e; injection e with e; omega)⟩); obtain ⟨g9, hg9⟩ := nm (w1.heap.size); have hg9' : w.heap.size < g9 := by omega
     rw [<- hg9] at hb3 |-; have hz3 : g9 < w3.heap.size := hb3.lt; obtain ⟨g3, hg3⟩ := nm (w.heap.size); rw [<- hg3] at hrd3 |-; have hle1 : g3 <= w.heap.size := by omega
     have hle2 : w.heap.size <= g3 := by omega
     clear hg9 hg3 hrd hrd1 hrd2 hs0 hs1 hs2 hn9 hG3 hcr hcut hc0 hne; refine wp_go ?_; go_wp2_with (fail)
     go_loopw [11, 12] (fun nv iv wr => ∃ i : Nat, i <= 3 /\ iv = .int .i64 (i : Int) /\ nv = .int .i64 ((k / 2 ^ i : Nat) : Int) /\ Blk wr g9 32 (bvs (upF h0 sig k i)) /\ Blk wr g3 32 (bvs root) /\ Rd wr (fun b => b < w.heap.size) (.slice (some ⟨gs, os, none⟩) 657 cs) (bys sig) /\ g9 < wr.heap.size /\ Below w.heap.size w wr) (fun _ iv _ => 3 - (intOf iv).toNat)
     case atStart => exact ⟨0, by omega, rfl, by simp, hb3, hrd3, hs3, hz3, hB3⟩
     case round =>
      obtain ⟨i, hi, rfl, rfl, hy, hrr, hs, hz, hB⟩ := hrel; obtain ⟨X, hX⟩ := nm (upF h0 sig k i); have HXl : Hid (X.length = 32) := by show _ = _; rw [hX]; exact len_up _ _ _ hh0l.out i
      rw [<- hX] at hy; have HX := hid hX; have Hhn := hid (half_next k i); have hq7 := half_le k i hk7; obtain ⟨q, hq⟩ := nm (k / 2 ^ i); rw [<- hq] at Hhn hq7 |-; have Hq := hid hq; clear hX hq; by_cases hlt : i < 3
      . obtain ⟨d, hd⟩ := nm ((sig.drop (561 + 32 * i)).take 32); have hdl : Hid (d.length = 32) := by show _ = _; rw [hd, List.length_take, List.length_drop, Hs.out]; omega
        have Hd := hid hd; clear hd; have hn13 := Blk.new' wr 32 (zs8 32); have hal := (Below.refl wr.heap.size wr).alloc (Nat.le_refl _) (.cells (zs8 32).toArray 32); have hy1 := hy.below hal; have hrr1 := hrr.below hal; have hs1 := hs.below hal; have hB1a := hB.alloc hB.size (.cells (zs8 32).toArray 32); have hrrl := hrr.lt; have hBs := hB.size; go_wp2_with (first | (refine wp_bld 32 [] rfl rfl [] rfl bld25 ?_) | (refine wp_new 32 rfl rfl zero25 ?_) | (refine wp_st 32 (.tmp 13) (.tmp 40) rfl rfl rfl (f := 0) rfl (l := zs8 32) rfl hn13 (by simp [zs8]) (by exact size25) one_zs8 ?_; intro w4 hb4 hG4; refine wp_stop ?_)); rw [show (zs8 32).take 0 ++ zs8 32 ++ (zs8 32).drop (0 + (zs8 32).length) = zs8 32 from rfl] at hb4; have hB4 := hB1a.grown hG4 hB1a.size (sk (by omega)); have hy4 := hy1.keep (hG4.block _ hy1.lt (by intro e; injection e with e; omega)); have hrr4 := hrr1.keep (hG4.block _ hrr1.lt (by intro e; injection e with e; omega)); have hs4 := hs1.keep (F' := fun b => b < w.heap.size) (fun b hb hf => ⟨hf, hG4.block b hb (by intro e; injection e with e; omega)⟩); obtain ⟨g13, hg13⟩ := nm (wr.heap.size); rw [<- hg13] at hb4 |-; have hz' : g9 < g13 := by omega
        have hz4 := hb4.lt; clear hg13 hn13 hal hy1 hrr1 hs1 hB1a hG4 hy hrr hs hB; have hb4 : Blk w4 g13 32 (part32 d 0) := by rw [part32_0]; exact hb4
        refine wp_go ?_; go_wp2_with (fail)
        go_loopw [14] (fun jv wr => ∃ j : Nat, j <= 32 /\ jv = .int .i64 (j : Int) /\ Blk wr g13 32 (part32 d j) /\ Blk wr g9 32 (bvs X) /\ Blk wr g3 32 (bvs root) /\ Rd wr (fun b => b < w.heap.size) (.slice (some ⟨gs, os, none⟩) 657 cs) (bys sig) /\ g13 < wr.heap.size /\ Below w.heap.size w wr) (fun jv _ => 32 - (intOf jv).toNat)
        case atStart => exact ⟨0, by omega, rfl, hb4, hy4, hrr4, hs4, hz4, hB4⟩
        case round =>
         obtain ⟨j, hj, rfl, hb, hy, hrr, hs, hz, hB⟩ := hrel; by_cases hjl : j < 32
         . obtain ⟨gs2, os2, he, _, hc⟩ := hs.byteAt (561 + 32 * i + j) (by rw [Hs.out]; omega); injection he with he
           injection he with he1 he2
           subst he1 he2; obtain ⟨x, hx⟩ := nm (sig[561 + 32 * i + j]'(by rw [Hs.out]; omega)); rw [<- hx] at hc
           have hdx : d[j]? = some x := by
            rw [Hd.out, List.getElem?_take, if_pos hjl, List.getElem?_drop, List.getElem?_eq_getElem (by rw [Hs.out]; omega), hx]
           have hset := hid (part32_set d j hdl.out hjl x hdx); have hpl := hid (part32_len d j hdl.out hj); have hti : (561 + 32 * (i : Int) + (j : Int)).toNat = 561 + 32 * i + j := by omega
           clear hx hdx; go_wp2_with (refine wp_st1 5 (.tmp 54) (.tmp 53) rfl rfl rfl (f := j) rfl (v := byteV x) rfl hb (by rw [hpl.out]; omega) size8 rfl rfl ?_; intro w5 hb5 hG5); rw [hset.out] at hb5; clear hti; have hB5 := hB.grown hG5 hB.size (sk (by omega)); have hy5 := hy.keep (hG5.block _ hy.lt (by intro e; injection e with e; omega)); have hrr5 := hrr.keep (hG5.block _ hrr.lt (by intro e; injection e with e; omega)); have hs5 := hs.keep (F' := fun b => b < w.heap.size) (fun b hb hf => ⟨hf, hG5.block b hb (by intro e; injection e with e; omega)⟩); have hz5 := hG5.size; go_wp2
           go_roundw
           case rel => exact ⟨j + 1, by omega, by go_num, hb5, hy5, hrr5, hs5, by omega, hB5⟩
           case measure => simp [intOf]; omega
         . have h32 : j = 32 := by omega
           subst h32; rw [part32_end _ hdl.out] at hb; clear hjl hb4 hy4 hrr4 hs4 hB4; by_cases hev : q % 2 = 0
           . have hd : ((q : Int) % 2 == 0) = true := by rw [beq_iff_eq]; omega
             have hup : Hid (upF h0 sig k (i + 1) = shaF (X ++ d)) := by show _ = _; rw [upF, if_pos (by rw [<- Hq.out]; exact hev), HX.out, Hd.out]
             clear hev; go_wp2_with (with_reducible refine wp_at 58 rfl ?_); refine wp_on ?_; refine wp_ld 32 (.tmp 9) rfl rfl rfl hy.whole und25 rfl (by rw [len_bvs, HXl.out]; exact size25) ?_; refine wp_ld 32 (.tmp 13) rfl rfl rfl hb.whole und25 rfl (by rw [len_bvs, hdl.out]; exact size25) ?_; go_wp2_with (fail); refine (ref_pair_any X d _ HXl.out hdl.out).mono ?_; rintro e w7 ⟨rfl, hB7⟩; obtain ⟨r, hr⟩ := nm (shaF (X ++ d)); rw [<- hr]; rw [<- hr] at hup; have Hrl : Hid (r.length = 32) := by show _ = _; rw [hr]; exact len_sha _
             clear hr; have hy7 := hy.below hB7; have hrr7 := hrr.below hB7; have hs7 := hs.below hB7; have hB7' := hB.trans (hB7.mono hB.size); go_wp2_with (refine wp_st 32 (.tmp 9) (.tmp 60) rfl rfl rfl (f := 0) rfl (l := bvs r) rfl hy7 (by rw [len_bvs, len_bvs, Hrl.out, HXl.out]; omega) (by rw [len_bvs, Hrl.out]; exact size25) (oneCell_bvs _) ?_; intro w8 hb8 hG8); rw [show (bvs X).take 0 ++ bvs r ++ (bvs X).drop (0 + (bvs r).length) = bvs r from by rw [List.take_zero, List.nil_append, List.drop_of_length_le (by rw [len_bvs, len_bvs, Hrl.out, HXl.out]; omega), List.append_nil]] at hb8; have hB8 := hB7'.grown hG8 hB7'.size (sk (by omega)); have hrr8 := hrr7.keep (hG8.block _ hrr7.lt (by intro e; injection e with e; omega)); have hs8 := hs7.keep (F' := fun b => b < w.heap.size) (fun b hb hf => ⟨hf, hG8.block b hb (by intro e; injection e with e; omega)⟩); have hz8 := hG8.size; have hz7 := hB7.size; go_wp2
             go_roundw
             case rel => exact ⟨i + 1, by omega, by go_num, congrArg (Value.int .i64) (by have := Hhn.out; omega), by rw [hup.out]; exact hb8, hrr8, hs8, by omega, hB8⟩
             case measure => simp [intOf]; omega
           . have hd : ((q : Int) % 2 == 0) = false := by rw [beq_eq_false_iff_ne]; omega
             have hup : Hid (upF h0 sig k (i + 1) = shaF (d ++ X)) := by show _ = _; rw [upF, if_neg (by rw [<- Hq.out]; exact hev), HX.out, Hd.out]
             clear hev; go_wp2_with (with_reducible refine wp_at 61 rfl ?_); refine wp_on ?_; refine wp_ld 32 (.tmp 13) rfl rfl rfl hb.whole und25 rfl (by rw [len_bvs, hdl.out]; exact size25) ?_; refine wp_ld 32 (.tmp 9) rfl rfl rfl hy.whole und25 rfl (by rw [len_bvs, HXl.out]; exact size25) ?_; go_wp2_with (fail); refine (ref_pair_any d X _ hdl.out HXl.out).mono ?_; rintro e w7 ⟨rfl, hB7⟩; obtain ⟨r, hr⟩ := nm (shaF (d ++ X)); rw [<- hr]; rw [<- hr] at hup; have Hrl : Hid (r.length = 32) := by show _ = _; rw [hr]; exact len_sha _
             clear hr; have hy7 := hy.below hB7; have hrr7 := hrr.below hB7; have hs7 := hs.below hB7; have hB7' := hB.trans (hB7.mono hB.size); go_wp2_with (refine wp_st 32 (.tmp 9) (.tmp 63) rfl rfl rfl (f := 0) rfl (l := bvs r) rfl hy7 (by rw [len_bvs, len_bvs, Hrl.out, HXl.out]; omega) (by rw [len_bvs, Hrl.out]; exact size25) (oneCell_bvs _) ?_; intro w8 hb8 hG8); rw [show (bvs X).take 0 ++ bvs r ++ (bvs X).drop (0 + (bvs r).length) = bvs r from by rw [List.take_zero, List.nil_append, List.drop_of_length_le (by rw [len_bvs, len_bvs, Hrl.out, HXl.out]; omega), List.append_nil]] at hb8; have hB8 := hB7'.grown hG8 hB7'.size (sk (by omega)); have hrr8 := hrr7.keep (hG8.block _ hrr7.lt (by intro e; injection e with e; omega)); have hs8 := hs7.keep (F' := fun b => b < w.heap.size) (fun b hb hf => ⟨hf, hG8.block b hb (by intro e; injection e with e; omega)⟩); have hz8 := hG8.size; have hz7 := hB7.size; go_wp2
             go_roundw
             case rel => exact ⟨i + 1, by omega, by go_num, congrArg (Value.int .i64) (by have := Hhn.out; omega), by rw [hup.out]; exact hb8, hrr8, hs8, by omega, hB8⟩
             case measure => simp [intOf]; omega
      . have h3 : i = 3 := by omega
        subst h3; have hxx : Hid (topF text sig = X) := by show _ = _; rw [htop.out, HX.out]
        by_cases hxr : X = root
        . have HN2 : Hid (verN root text sig = (k : Int)) := by show _ = _; rw [HN.out, hxx.out, if_pos hxr, HL.out]
          have HE2 : Hid (verE root text sig = 0) := by show _ = _; rw [HE.out, hxx.out, if_pos hxr]
          have heq := eqH X root HXl.out Hr.out; rw [show (X == root) = true from by simp [hxr]] at heq; clear hxr hlt; go_wp2_with (with_reducible refine wp_at 66 rfl ?_); refine wp_on ?_; refine wp_ld 32 (.tmp 9) rfl rfl rfl hy.whole und25 rfl (by rw [len_bvs, HXl.out]; exact size25) ?_; refine wp_ld 32 (.tmp 3) rfl rfl rfl hrr.whole und25 rfl (by rw [len_bvs, Hr.out]; exact size25) ?_; go_wp2; go_ret2; exact ⟨by rw [HN2.out, HE2.out]; rfl, hB⟩
        . have HN2 : Hid (verN root text sig = 0) := by show _ = _; rw [HN.out, hxx.out, if_neg hxr]
          have HE2 : Hid (verE root text sig = 5) := by show _ = _; rw [HE.out, hxx.out, if_neg hxr]
          have heq := eqH X root HXl.out Hr.out; rw [show (X == root) = false from by simp [hxr]] at heq; clear hxr hlt; go_wp2_with (with_reducible refine wp_at 66 rfl ?_); refine wp_on ?_; refine wp_ld 32 (.tmp 9) rfl rfl rfl hy.whole und25 rfl (by rw [len_bvs, HXl.out]; exact size25) ?_; refine wp_ld 32 (.tmp 3) rfl rfl rfl hrr.whole und25 rfl (by rw [len_bvs, Hr.out]; exact size25) ?_; go_wp2; go_ret2; exact ⟨by rw [HN2.out, HE2.out]; rfl, hB⟩
 . have HN : Hid (verN root text sig = 0) := by show _ = _; unfold verN; rw [if_neg (by unfold okSig; omega)]
   have HE : Hid (verE root text sig = 2) := by show _ = _; unfold verE; rw [if_neg (by unfold okSig; omega)]
   have hne : ((sig.length : Int) != 657) = true := by rw [bne_iff_ne]; omega
   clear h657; go_enter Tryz.func106, Tryz.ntmps106; go_wp2; go_ret2; exact ⟨by rw [HN.out, HE.out]; rfl, hB⟩
end Go.Proofs.YtnhhbbjkeekneaaGreatDoor
