/- K4: several texts in one (KA K4). -/
import Derived.Test.YtnhhbbjkeekneaaGreatDoorM1
import Derived.Test.YtnhhbbjkeekneaaGreatDoorK3
import Derived.Test.YtnhhbbjkeekneaaGreatDoorO4
/- KA: layer 5: contracts of package keys: hashOf, node, Root, Seed, climbed. -/
namespace Go.V
open Go.RowKit
theorem i64_and1 (n : Int) : bits .and .i64 n 1 = n % 2 := by
  show IntKind.i64.wrap ((BitVec.ofInt 64 n &&& BitVec.ofInt 64 1).toNat : Int) = n % 2
  have e : (BitVec.ofInt 64 n &&& BitVec.ofInt 64 1).toNat = (n % 2).toNat := by
    rw [BitVec.toNat_and, show (BitVec.ofInt 64 1).toNat = 2 ^ 1 - 1 from rfl, Nat.and_two_pow_sub_one_eq_mod, BitVec.toNat_ofInt]
    omega
  rw [e, IntKind.wrap_i64]
  omega
theorem and_par (k n : Nat) : (bits .and .i64 ((k : Int) / 2 ^ n) 1 == 0) = decide (k / 2 ^ n % 2 = 0) := by
  rw [i64_and1, show (k : Int) / 2 ^ n = ((k / 2 ^ n : Nat) : Int) from by simp]
  obtain ⟨q, hq⟩ : ∃ q, q = k / 2 ^ n := ⟨_, rfl⟩
  rw [← hq]
  by_cases h : q % 2 = 0
  · simp [h]; omega
  · simp [h]; omega
end Go.V
namespace Go.Proofs.YtnhhbbjkeekneaaGreatDoor
open Go.RowKit Go.V
set_option maxRecDepth 100000 in
set_option maxHeartbeats 1000000 in
theorem hashOf_any (v : Value) (p : List UInt8) (F : Nat → Prop) (w : World) (ht : Rd w F v (bys p)) (h32 : 32 ≤ p.length) (_hn : p.length ≤ 17592186044416) :
    Calls Tryz.prog 156 #[v] w fun e w' => e = .returned (.agg (bvs (p.take 32)).toArray) ∧ Below w.heap.size w w' := by
  obtain ⟨A, c, rfl⟩ := ht.shape
  have b0 := (Blk.new' w 32 (zs8 32)).alloc (.cells (zs8 32).toArray 32)
  have b1 := Blk.new' (w.alloc (.cells (zs8 32).toArray 32)) 32 (zs8 32)
  have hB := ((Below.refl w.heap.size w).alloc (Nat.le_refl _) (.cells (zs8 32).toArray 32)).alloc (by simp) (.cells (zs8 32).toArray 32)
  rw [show (w.alloc (.cells (zs8 32).toArray 32)).heap.size = w.heap.size + 1 from by simp] at b1
  have hr := ht.below hB
  have hlk : Hid ((p.take 32).length = 32) := by show _ = _; rw [List.length_take]; omega
  have hsl := fun W => run_sla_all und25 size8 (w.heap.size + 1) 0 (by omega) W
  go_enter Tryz.func156, Tryz.ntmps156
  go_wp2_with (first | (refine wp_new 32 rfl rfl zero25 ?_) | (refine wp_copyT (.tmp 4) (.tmp 5) slB rfl rfl rfl rfl b1 hr.src (oneCell_bvs p) (by omega) (by omega) (by simp [zs8]) ?_; intro w6 hb6 hG6; refine wp_stop ?_))
  rw [bvs_take, splice_all _ _ (by rw [len_zs8, len_bvs, hlk.out])] at hb6
  have hB6 := hB.grown hG6 hB.size (by intro k hk; injection hk with hk; omega)
  have c0 := b0.keep (hG6.block _ b0.lt (by intro e; injection e with e; omega))
  clear hsl hr b0 b1 hB hG6
  refine wp_go ?_
  go_wp2_with (first | (refine wp_ld 32 (.tmp 3) rfl rfl rfl hb6.whole und25 rfl (by rw [len_bvs, hlk.out]; exact size25) ?_) | (refine wp_st 32 (.tmp 2) (.tmp 7) rfl rfl rfl (f := 0) rfl (l := bvs (p.take 32)) rfl c0 (by simp only [len_zs8, len_bvs, hlk.out]; omega) (by rw [len_bvs, hlk.out]; exact size25) (oneCell_bvs _) ?_; intro w7 hb7 hG7))
  rw [set_all _ _ (by rw [len_zs8, len_bvs, hlk.out])] at hb7
  refine ret_cell rfl rfl hb7.whole und25 rfl (by rw [len_bvs, hlk.out]; exact size25) rfl ?_
  exact ⟨rfl, hB6.grown hG7 hB6.size (by intro k hk; injection hk with hk; omega)⟩
set_option maxRecDepth 100000 in
set_option maxHeartbeats 2000000 in
theorem climbed_any (h sig : List UInt8) (k : Nat) (v : Value) (F : Nat → Prop) (w : World) (hK : KS w) (hh : h.length = 32) (hs : sig.length = 657) (_hk : k ≤ 7) (hv : Rd w F v (bys (sig.drop 561))) :
    Calls Tryz.prog 142 #[.agg (bvs h).toArray, .int .i64 (k : Int), v] w fun e w' => e = .returned (.agg (bvs (upF h sig k 3)).toArray) ∧ Below w.heap.size w w' := by
  have hv := hv.weak (F' := fun b => b < w.heap.size) (fun b hb _ => hb)
  obtain ⟨A, c, rfl⟩ := hv.shape
  have b0 := (Blk.new' w 32 (bvs h)).alloc (.cells (zs8 32).toArray 32)
  have b1 := Blk.new' (w.alloc (.cells (bvs h).toArray 32)) 32 (zs8 32)
  have hB := ((Below.refl w.heap.size w).alloc (Nat.le_refl _) (.cells (bvs h).toArray 32)).alloc (by simp) (.cells (zs8 32).toArray 32)
  rw [show (w.alloc (.cells (bvs h).toArray 32)).heap.size = w.heap.size + 1 from by simp] at b1
  have Hh := hid hh
  have Hs := hid hs
  have hdl : (sig.drop 561).length = 96 := by rw [List.length_drop, hs]
  rw [hdl] at hv ⊢
  have Hdl := hid hdl
  have hKS := hid hK
  clear hh hs hdl hK
  go_enter Tryz.func142, Tryz.ntmps142
  go_wp2_with (refine wp_new 32 rfl rfl zero25 ?_)
  obtain ⟨w0, hw0⟩ : ∃ w0, w0 = (w.alloc (.cells (bvs h).toArray 32)).alloc (.cells (zs8 32).toArray 32) := ⟨_, rfl⟩
  have hv0 := hv.below hB
  rw [← hw0] at b0 b1 hB hv0 ⊢
  clear hw0
  go_loopw [7, 8, 9] (fun lv pv iv wr => ∃ n : Nat, n ≤ 3 ∧ iv = .int .i64 n ∧ Blk wr w.heap.size 32 (bvs (upF h sig k n)) ∧ Blk wr (w.heap.size + 1) 32 (zs8 32) ∧ Rd wr (fun b => b < w.heap.size) (.slice A 96 c) (bys (sig.drop 561)) ∧ Below w.heap.size w wr) (fun _ _ iv _ => 3 - (intOf iv).toNat)
  case atStart => exact ⟨0, by omega, rfl, b0, b1, hv0, hB⟩
  case round =>
    obtain ⟨n, hn, rfl, c0, c1, hr, hBr⟩ := hrel
    have hbs := hBr.size
    have hql : Hid ((upF h sig k n).length = 32) := len_up _ _ _ Hh.out n
    by_cases hlt : n < 3
    · obtain ⟨A', m', c', hcut, hr4⟩ := Rd.cut_l slB hr ((n : Int) * 32) (by omega) (by rw [Hdl.out]; omega)
      rw [show ((n : Int) * 32).toNat = 32 * n from by omega, List.drop_drop] at hr4
      have hwr : IntKind.i64.wrap ((n : Int) * 32) = (n : Int) * 32 := IntWalk.i64_in _ (by omega)
      go_wp2_with (fail)
      refine (hashOf_any _ (sig.drop (561 + 32 * n)) _ _ hr4 (by rw [List.length_drop, Hs.out]; omega) (by rw [List.length_drop, Hs.out]; omega)).mono ?_
      rintro e w2 ⟨rfl, hB2⟩
      obtain ⟨q, hq⟩ : ∃ q, q = (sig.drop (561 + 32 * n)).take 32 := ⟨_, rfl⟩
      have Hq : Hid (q.length = 32) := by show _ = _; rw [hq, List.length_take, List.length_drop, Hs.out]; omega
      have Hup : Hid (upF h sig k (n + 1) = if k / 2 ^ n % 2 = 0 then shaF (upF h sig k n ++ q) else shaF (q ++ upF h sig k n)) := by show _ = _; rw [upF, hq]
      rw [← hq]
      clear hq hr4 hcut hwr
      obtain ⟨p, hp⟩ : ∃ p, p = upF h sig k n := ⟨_, rfl⟩
      rw [← hp] at hql Hup c0
      clear hp
      have hB2' := hBr.trans (hB2.mono hbs)
      have hB3 := hB2'.alloc hB2'.size (.cells (zs8 32).toArray 32)
      have hz2 := Blk.new' w2 32 (zs8 32)
      have d0 := (c0.below hB2).alloc (.cells (zs8 32).toArray 32)
      have d1 := (c1.below hB2).alloc (.cells (zs8 32).toArray 32)
      have hr2 := (hr.below hB2).below ((Below.refl _ _).alloc (Nat.le_refl _) (.cells (zs8 32).toArray 32))
      have hc0l := (c0.below hB2).lt
      have hc1l := (c1.below hB2).lt
      go_wp2_with (first | (refine wp_new 32 rfl rfl zero25 ?_) | (refine wp_st 32 (.tmp 8) (.tmp 16) rfl rfl rfl (f := 0) rfl (l := bvs q) rfl hz2 (by simp [zs8, len_bvs, Hq.out]) (by rw [len_bvs, Hq.out]; exact size25) (oneCell_bvs _) ?_; intro w3 hb3 hG3; refine wp_stop ?_))
      rw [set25 _ Hq.out] at hb3
      have hB3' := hB3.grown hG3 hB3.size (by intro k hk; injection hk with hk; omega)
      have e0 := d0.keep (hG3.block _ d0.lt (by intro e; injection e with e; omega))
      have e1 := d1.keep (hG3.block _ d1.lt (by intro e; injection e with e; omega))
      have hr3 := hr2.keep (F' := fun b => b < w.heap.size) (fun b hb hf => ⟨hf, hG3.block b hb (by intro e; injection e with e; omega)⟩)
      clear hz2 d0 d1 hr2 hB3 hB2' hG3
      obtain ⟨g8, hg8⟩ : ∃ g, g = w2.heap.size := ⟨_, rfl⟩
      have hg8' : w.heap.size + 1 < g8 := by omega
      rw [← hg8] at hb3 ⊢
      clear hg8 hB2 c0 c1 hr hBr hbs
      by_cases hpar : k / 2 ^ n % 2 = 0
      · have Hup : Hid (upF h sig k (n + 1) = shaF (p ++ q)) := by show _ = _; rw [Hup.out, if_pos hpar]
        have hand : (bits .and .i64 ((k : Int) / 2 ^ n) 1 == 0) = true := by rw [and_par]; simp [hpar]
        refine wp_go ?_
        go_wp2_with (first | (refine wp_ld 32 (.tmp 3) rfl rfl rfl e0.whole und25 rfl (by rw [len_bvs, hql.out]; exact size25) ?_) | (refine wp_ld 32 (.tmp 8) rfl rfl rfl hb3.whole und25 rfl (by rw [len_bvs, Hq.out]; exact size25) ?_))
        refine (pair_any p q _ (hKS.out.below hB3') hql.out Hq.out).mono ?_
        rintro e w4 ⟨rfl, hB4⟩
        rw [← Hup.out]
        have hul : Hid ((upF h sig k (n + 1)).length = 32) := len_up _ _ _ Hh.out _
        obtain ⟨u, hu⟩ : ∃ u, u = upF h sig k (n + 1) := ⟨_, rfl⟩
        rw [← hu] at hul ⊢
        have Hu := hid hu
        clear hu
        have f0 := e0.below hB4
        have f1 := e1.below hB4
        have hr4 := hr3.below hB4
        have hB4' := hB3'.trans (hB4.mono hB3'.size)
        have hws := hB3'.size
        go_wp2_with (refine wp_st 32 (.tmp 3) (.tmp 24) rfl rfl rfl (f := 0) rfl (l := bvs u) rfl f0 (by simp [len_bvs, hul.out, hql.out]) (by rw [len_bvs, hul.out]; exact size25) (oneCell_bvs _) ?_; intro w7 hb7 hG7)
        rw [set_all _ _ (by rw [len_bvs, len_bvs, hul.out, hql.out]), Hu.out] at hb7
        have f1' := f1.keep (hG7.block _ f1.lt (by intro e; injection e with e; omega))
        have hr7 := hr4.keep (F' := fun b => b < w.heap.size) (fun b hb hf => ⟨hf, hG7.block b hb (by intro e; injection e with e; omega)⟩)
        have hB7 := hB4'.grown hG7 hB4'.size (by intro k hk; injection hk with hk; omega)
        go_wp2
        go_roundw
        case rel => exact ⟨n + 1, by omega, by go_num, hb7, f1', hr7, hB7⟩
        case measure => simp [intOf]; omega
      · have Hup : Hid (upF h sig k (n + 1) = shaF (q ++ p)) := by show _ = _; rw [Hup.out, if_neg hpar]
        have hand : (bits .and .i64 ((k : Int) / 2 ^ n) 1 == 0) = false := by rw [and_par]; simp; omega
        refine wp_go ?_
        go_wp2_with (first | (refine wp_ld 32 (.tmp 8) rfl rfl rfl hb3.whole und25 rfl (by rw [len_bvs, Hq.out]; exact size25) ?_) | (refine wp_ld 32 (.tmp 3) rfl rfl rfl e0.whole und25 rfl (by rw [len_bvs, hql.out]; exact size25) ?_))
        refine (pair_any q p _ (hKS.out.below hB3') Hq.out hql.out).mono ?_
        rintro e w4 ⟨rfl, hB4⟩
        rw [← Hup.out]
        have hul : Hid ((upF h sig k (n + 1)).length = 32) := len_up _ _ _ Hh.out _
        obtain ⟨u, hu⟩ : ∃ u, u = upF h sig k (n + 1) := ⟨_, rfl⟩
        rw [← hu] at hul ⊢
        have Hu := hid hu
        clear hu
        have f0 := e0.below hB4
        have f1 := e1.below hB4
        have hr4 := hr3.below hB4
        have hB4' := hB3'.trans (hB4.mono hB3'.size)
        have hws := hB3'.size
        go_wp2_with (refine wp_st 32 (.tmp 3) (.tmp 27) rfl rfl rfl (f := 0) rfl (l := bvs u) rfl f0 (by simp [len_bvs, hul.out, hql.out]) (by rw [len_bvs, hul.out]; exact size25) (oneCell_bvs _) ?_; intro w7 hb7 hG7)
        rw [set_all _ _ (by rw [len_bvs, len_bvs, hul.out, hql.out]), Hu.out] at hb7
        have f1' := f1.keep (hG7.block _ f1.lt (by intro e; injection e with e; omega))
        have hr7 := hr4.keep (F' := fun b => b < w.heap.size) (fun b hb hf => ⟨hf, hG7.block b hb (by intro e; injection e with e; omega)⟩)
        have hB7 := hB4'.grown hG7 hB4'.size (by intro k hk; injection hk with hk; omega)
        go_wp2
        go_roundw
        case rel => exact ⟨n + 1, by omega, by go_num, hb7, f1', hr7, hB7⟩
        case measure => simp [intOf]; omega
    · have h33 : n = 3 := by omega
      subst h33
      go_wp2_with (first | (refine wp_ld 32 (.tmp 3) rfl rfl rfl c0.whole und25 rfl (by rw [len_bvs, hql.out]; exact size25) ?_) | (refine wp_st 32 (.tmp 6) (.tmp 29) rfl rfl rfl (f := 0) rfl (l := bvs (upF h sig k 3)) rfl c1 (by simp [zs8, len_bvs, hql.out]) (by rw [len_bvs, hql.out]; exact size25) (oneCell_bvs _) ?_; intro w7 hb7 hG7))
      rw [set25 _ hql.out] at hb7
      refine ret_cell rfl rfl hb7.whole und25 rfl (by rw [len_bvs, hql.out]; exact size25) rfl ?_
      exact ⟨rfl, hBr.grown hG7 hBr.size (by intro k hk; injection hk with hk; omega)⟩
end Go.Proofs.YtnhhbbjkeekneaaGreatDoor
/- K4: layer 5: contracts of package keys: Sign. -/
namespace Go.Proofs.YtnhhbbjkeekneaaGreatDoor
open Go.RowKit Go.V
set_option maxRecDepth 100000 in
set_option maxHeartbeats 4000000 in
theorem kverify_any (root : List UInt8) (tv sv : Value) (text sig : List UInt8) (F G : Nat → Prop) (w : World) (hK : KS w) (hr : root.length = 32) (ht : Rd w F tv (bys text)) (hs : Rd w G sv (bys sig)) (hn : text.length ≤ 17592186044416) :
    Calls Tryz.prog 122 #[.agg (bvs root).toArray, tv, sv] w fun e w' => e = .returned (.tuple #[.int .i64 (verN root text sig), .int .i64 (verE root text sig)]) ∧ Below w.heap.size w w' := by
  obtain ⟨At, ct, rfl⟩ := ht.shape
  have hs := hs.weak (F' := fun b => b < w.heap.size) (fun b hb _ => hb)
  obtain ⟨As, cs, rfl⟩ := hs.shape
  have Hr := hid hr
  have hKs := hid hK
  clear hr hK
  have hrd := Blk.new' w 32 (bvs root)
  have hB := (Below.refl w.heap.size w).alloc (Nat.le_refl _) (.cells (bvs root).toArray 32)
  have hs0 := hs.below hB
  by_cases h657 : sig.length = 657
  · obtain ⟨gs, os, rfl, hgs, hc0⟩ := hs0.byteAt 0 (by omega)
    obtain ⟨x, hx⟩ : ∃ x, x = sig[0]'(by omega) := ⟨_, rfl⟩
    have hleaf : leafOf sig = x.toNat := by rw [hx]; simp [leafOf, List.getD, List.getElem?_eq_getElem (show 0 < sig.length by omega)]
    rw [← hx, Nat.add_zero] at hc0
    rw [h657] at hs hs0 ⊢
    have hx256 := x.toNat_lt
    have hne : ((657 : Int) != 657) = false := by decide
    by_cases h7 : 7 < x.toNat
    · have HN : Hid (verN root text sig = 0) := by show _ = _; unfold verN; rw [if_neg (by unfold okSig; omega)]
      have HE : Hid (verE root text sig = 2) := by show _ = _; unfold verE; rw [if_neg (by unfold okSig; omega)]
      have hge : decide ((x.toNat : Int) ≥ 8) = true := by simp; omega
      clear hleaf hx h657
      go_enter Tryz.func122, Tryz.ntmps122
      go_wp2
      go_ret2
      exact ⟨by rw [HN.out, HE.out]; rfl, hB⟩
    · have HOK : okSig sig := by unfold okSig; omega
      have HN : Hid (verN root text sig = if topF text sig = root then (leafOf sig : Int) else 0) := by show _ = _; unfold verN; rw [if_pos HOK]
      have HE : Hid (verE root text sig = if topF text sig = root then 0 else 5) := by show _ = _; unfold verE; rw [if_pos HOK]
      obtain ⟨k, hk⟩ : ∃ k, k = x.toNat := ⟨_, rfl⟩
      rw [← hk] at hleaf hc0 h7 hx256
      have hk7 : k ≤ 7 := by omega
      have hge : decide ((k : Int) ≥ 8) = false := by simp; omega
      have HL := hid hleaf
      have Hs := hid h657
      obtain ⟨A2, m2, c2, hcut, hcr⟩ := Rd.cut slB hs0 1 561 (by omega) (by omega) (by omega)
      rw [show (561 : Int).toNat - (1 : Int).toNat = 560 from rfl, show (1 : Int).toNat = 1 from rfl] at hcr
      have hl1 : ((sig.drop 1).take 560).length = 560 := by rw [List.length_take, List.length_drop]; omega
      obtain ⟨s1, hs1⟩ : ∃ s1, s1 = (sig.drop 1).take 560 := ⟨_, rfl⟩
      rw [← hs1] at hcr hl1
      obtain ⟨pub, hpub⟩ : ∃ pub, pub = recF text s1 := ⟨_, rfl⟩
      have hpl : Hid (pub.length = 32) := by show _ = _; rw [hpub]; exact len_rec _ _
      have hrec : Hid (recH text s1 = pub) := by show _ = _; unfold recH; rw [if_pos hl1, hpub]
      have hree : Hid (recE s1 = 0) := if_pos hl1
      have htop : Hid (topF text sig = upF pub sig k 3) := by show _ = _; rw [hpub, hs1, ← hleaf]; rfl
      clear hx hk hleaf HOK h657 hl1 hs1 hpub
      go_enter Tryz.func122, Tryz.ntmps122
      go_wp2_with (fail)
      refine (recover_any _ _ text s1 _ _ _ (hKs.out.below hB) (ht.below hB) hcr hn).mono ?_
      rintro e w1 ⟨rfl, hB1⟩
      rw [hrec.out, hree.out]
      have hB1' := hB.trans (hB1.mono hB.size)
      have hrd1 := hrd.below hB1
      have hs1 := hs0.below hB1
      have hn9 := Blk.new' w1 32 (zs8 32)
      have hB2 := hB1'.alloc hB1'.size (.cells (zs8 32).toArray 32)
      have hrd2 := hrd1.alloc (.cells (zs8 32).toArray 32)
      have hs2 := hs1.below ((Below.refl _ _).alloc (Nat.le_refl _) (.cells (zs8 32).toArray 32))
      have hz1 := hB1'.size
      have hrl1 := hrd1.lt
      go_wp2_with (first | (refine wp_new 32 rfl rfl zero25 ?_) | (refine wp_st 32 (.tmp 9) (.tmp 29) rfl rfl rfl (f := 0) rfl (l := bvs pub) rfl hn9 (by simp [zs8, len_bvs, hpl.out]) (by rw [len_bvs, hpl.out]; exact size25) (oneCell_bvs _) ?_; intro w3 hb3 hG3; refine wp_stop ?_))
      rw [set25 _ hpl.out] at hb3
      have hB3 := hB2.grown hG3 hB2.size (by intro k hk; injection hk with hk; omega)
      have hrd3 := hrd2.keep (hG3.block _ hrd2.lt (by intro e; injection e with e; omega))
      have hs3 := hs2.keep (F' := fun b => b < w.heap.size) (fun b hb hf => ⟨hf, hG3.block b hb (by intro e; injection e with e; omega)⟩)
      obtain ⟨g9, hg9⟩ : ∃ g, g = w1.heap.size := ⟨_, rfl⟩
      rw [← hg9] at hb3 ⊢
      obtain ⟨g3, hg3⟩ : ∃ g, g = w.heap.size := ⟨_, rfl⟩
      rw [← hg3] at hrd3 ⊢
      obtain ⟨A5, m5, c5, hcut5, hcr5⟩ := Rd.cut_l slB hs3 561 (by omega) (by rw [Hs.out]; omega)
      rw [show (561 : Int).toNat = 561 from rfl] at hcr5
      have HCR : Hid (∀ W, Ch nob w3 W → Rd W _ (.slice A5 m5 c5) (bys (sig.drop 561))) := fun W h => hcr5.ext h
      have HKS : Hid (∀ W, Ch nob w3 W → KS W) := fun W h => (hKs.out.below hB3).below h.below
      obtain ⟨u, hu⟩ : ∃ u, u = upF pub sig k 3 := ⟨_, rfl⟩
      have Hul : Hid (u.length = 32) := by show _ = _; rw [hu]; exact len_up _ _ _ hpl.out 3
      have Hup : Hid (upF pub sig k 3 = u) := hu.symm
      clear hu hg9 hg3 hrd hrd1 hrd2 hs0 hs1 hs2 hs3 hn9 hG3 hcr hcut hc0 hne hcr5
      by_cases hxr : u = root
      · have HN2 : Hid (verN root text sig = (k : Int)) := by show _ = _; rw [HN.out, htop.out, Hup.out, if_pos hxr, HL.out]
        have HE2 : Hid (verE root text sig = 0) := by show _ = _; rw [HE.out, htop.out, Hup.out, if_pos hxr]
        have heq := eqH u root Hul.out Hr.out
        rw [show (u == root) = true from by simp [hxr]] at heq
        clear hxr
        refine wp_go ?_
        go_wp2
        refine wp_region_noPanic ?_
        refine wp_region_held_drew (S := Ch nob w3) (by kernel_rfl) ((Ch.refl _ _).drew) (fun hHeld => ?_)
        refine tkY 0 rfl (yieldsIf_load_mid (by rfl) 32 (.tmp 9) (by rfl) _ (0) (by rfl) _ _ (fun _ hs => hb3.chAt (fun h => h) hs) und25 rfl (by rw [len_bvs, hpl.out]; exact size25)) ?_
        refine tkP 1 rfl ?_
        refine tkP 2 rfl ?_
        refine tkP 3 rfl ?_
        refine tkY 5 rfl (yieldsIf_load_mid (by rfl) 32 (.tmp 3) (by rfl) _ (0) (by rfl) _ _ (fun _ hs => hrd3.chAt (fun h => h) hs) und25 rfl (by rw [len_bvs, Hr.out]; exact size25)) ?_
        refine rdH 4 rfl (fun K hK => ?_)
        go_simp
        refine (climbed_any pub sig k _ _ _ (HKS.out _ hHeld) hpl.out Hs.out hk7 (HCR.out _ hHeld)).mono ?_
        rintro e' w6 ⟨rfl, hB6⟩
        rw [Hup.out]
        refine hK.out _ _ (hHeld.belowG hB6) (fun hHeld => ?_)
        clear hK K
        try simp only [nP]
        refine tkP 6 rfl ?_
        refine wpAnyH_done (by kernel_rfl) ?_ _
        refine NoPanic.normal ?_
        have hBz := hB3.trans (hHeld.below.mono hB3.size)
        go_wp2
        go_ret2
        exact ⟨by rw [HN2.out, HE2.out]; rfl, hBz⟩
      · have HN2 : Hid (verN root text sig = 0) := by show _ = _; rw [HN.out, htop.out, Hup.out, if_neg hxr]
        have HE2 : Hid (verE root text sig = 5) := by show _ = _; rw [HE.out, htop.out, Hup.out, if_neg hxr]
        have heq := eqH u root Hul.out Hr.out
        rw [show (u == root) = false from by simp [hxr]] at heq
        clear hxr
        refine wp_go ?_
        go_wp2
        refine wp_region_noPanic ?_
        refine wp_region_held_drew (S := Ch nob w3) (by kernel_rfl) ((Ch.refl _ _).drew) (fun hHeld => ?_)
        refine tkY 0 rfl (yieldsIf_load_mid (by rfl) 32 (.tmp 9) (by rfl) _ (0) (by rfl) _ _ (fun _ hs => hb3.chAt (fun h => h) hs) und25 rfl (by rw [len_bvs, hpl.out]; exact size25)) ?_
        refine tkP 1 rfl ?_
        refine tkP 2 rfl ?_
        refine tkP 3 rfl ?_
        refine tkY 5 rfl (yieldsIf_load_mid (by rfl) 32 (.tmp 3) (by rfl) _ (0) (by rfl) _ _ (fun _ hs => hrd3.chAt (fun h => h) hs) und25 rfl (by rw [len_bvs, Hr.out]; exact size25)) ?_
        refine rdH 4 rfl (fun K hK => ?_)
        go_simp
        refine (climbed_any pub sig k _ _ _ (HKS.out _ hHeld) hpl.out Hs.out hk7 (HCR.out _ hHeld)).mono ?_
        rintro e' w6 ⟨rfl, hB6⟩
        rw [Hup.out]
        refine hK.out _ _ (hHeld.belowG hB6) (fun hHeld => ?_)
        clear hK K
        try simp only [nP]
        refine tkP 6 rfl ?_
        refine wpAnyH_done (by kernel_rfl) ?_ _
        refine NoPanic.normal ?_
        have hBz := hB3.trans (hHeld.below.mono hB3.size)
        go_wp2
        go_ret2
        exact ⟨by rw [HN2.out, HE2.out]; rfl, hBz⟩
  · have HN : Hid (verN root text sig = 0) := by show _ = _; unfold verN; rw [if_neg (by unfold okSig; omega)]
    have HE : Hid (verE root text sig = 2) := by show _ = _; unfold verE; rw [if_neg (by unfold okSig; omega)]
    have hne : ((sig.length : Int) != 657) = true := by rw [bne_iff_ne]; omega
    clear h657
    go_enter Tryz.func122, Tryz.ntmps122
    go_wp2
    go_ret2
    exact ⟨by rw [HN.out, HE.out]; rfl, hB⟩
end Go.Proofs.YtnhhbbjkeekneaaGreatDoor
