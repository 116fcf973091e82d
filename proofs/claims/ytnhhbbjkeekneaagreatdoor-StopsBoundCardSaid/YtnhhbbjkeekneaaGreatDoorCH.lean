/- CH: layer 17: contract of certs.Written. -/
import Derived.Test.YtnhhbbjkeekneaaGreatDoorCF
import Derived.Test.YtnhhbbjkeekneaaGreatDoorCB
namespace Go.Proofs.YtnhhbbjkeekneaaGreatDoor
open Go.RowKit Go.V
set_option maxRecDepth 100000 in
set_option maxHeartbeats 8000000 in
theorem cwri17_big (ks : List (List UInt8)) (V : Vc) (P : List (List UInt8)) (r s : Int) (h : List UInt8) (uk ur pv : Value) (F H : Nat → Prop) (w : World) (hKS : KS w) (hks : KsSm ks) (hk : Rd w F uk (tx ks)) (hp : Rd w H pv (tx P)) (hP : PsBg P) (hV : in64w V.n ∧ V.m < 65536) (_hr : in64w r ∧ in64w s) (hh : h.length = 32) :
    Calls Tryz.prog 63 #[.agg #[uk, ur], vw V.n V.m, .int .i64 r, .int .i64 s, .agg (bvs h).toArray, pv] w fun e w' => e = .returned (.int .i64 (wriC ks V r s h P)) ∧ Below w.heap.size w w' := by
  obtain ⟨n, M⟩ := V
  have hV := hV.2
  dsimp only at hV
  obtain ⟨A, c, rfl, hcA, hcm⟩ := hp.slShape
  have hl32 : (bvs h).length = 32 := by rw [len_bvs]; exact hh
  obtain ⟨W0, hW0, b4, b5, b6, hB⟩ := alloc3 w 40 24 32 [uk, ur] [.int .i64 n, .int .u16 (M : Int)] (bvs h)
  have hmp := hid (fun Y => mayp17_any n M P A c Y hV (by have := hP.n; omega))
  have hvo : ∀ (Y : World), KS Y → Rd Y F uk (tx ks) → Rd Y H (.slice A P.length c) (tx P) → Calls Tryz.prog 91 #[.agg #[uk, ur], vw n M, .agg (aL 2 n r s h).toArray, .slice A P.length c] Y (VtP Y H ks ⟨n, M⟩ ⟨2, n, r, s, h⟩ P) := fun Y h0 h1 h2 => voters17_any ks ⟨n, M⟩ P (aM 2 n r s h) uk ur _ _ _ F H Y h0 hks h1 h2 (by have := hP.n; omega) (fun X hX => by have := hP.t X hX; omega) hV hh
  have hiq := hid (fun S Y hS => isq17_any n M S Y hV hS)
  have hbl := bldA17 2 n r s h hh
  have Lm := hid (len_aL 2 n r s h hh)
  have Om := hid (one_aL 2 n r s h)
  have hKS := hKS.below hB
  have hk := hk.below hB
  have hp := hp.below hB
  have Hok : Hid (wriC ks ⟨n, M⟩ r s h P = if okC ⟨n, M⟩ P = true ∧ enC ks ⟨n, M⟩ ⟨2, n, r, s, h⟩ P = true then 0 else 12) := hid rfl
  have Hen : Hid (∀ S, SetW S (fun i => P.any (isC ks ⟨n, M⟩ ⟨2, n, r, s, h⟩ i)) → enC ks ⟨n, M⟩ ⟨2, n, r, s, h⟩ P = decide (quoN n M ≤ szM S)) := hid (fun S hS => by rw [set_sz hS]; rfl)
  obtain ⟨Z, hZ⟩ : ∃ Z, Z = wriC ks ⟨n, M⟩ r s h P := ⟨_, rfl⟩
  rw [← hZ] at Hok ⊢
  obtain ⟨en, hen⟩ : ∃ x, x = enC ks ⟨n, M⟩ ⟨2, n, r, s, h⟩ P := ⟨_, rfl⟩
  rw [← hen] at Hen Hok
  obtain ⟨ok, hok⟩ : ∃ x, x = okC ⟨n, M⟩ P := ⟨_, rfl⟩
  rw [← hok] at Hok hmp
  obtain ⟨q, hq⟩ : ∃ q : Qc, q = ⟨2, n, r, s, h⟩ := ⟨_, rfl⟩
  rw [← hq] at hvo Hen
  obtain ⟨lm, hlm⟩ : ∃ l, l = aL 2 n r s h := ⟨_, rfl⟩
  rw [← hlm] at hvo hbl Lm Om
  obtain ⟨lh, hlh⟩ : ∃ l, l = bvs h := ⟨_, rfl⟩
  rw [← hlh] at hW0 b6 hbl hl32 ⊢
  have Hl32 := hid hl32
  have Hbl := hid hbl
  have Hvo := hid hvo
  clear hZ hen hok hq hlm hlh hvo hl32 hP hh hbl
  unfold vw at hmp Hvo hiq ⊢
  go_enter Tryz.func63, Tryz.ntmps63
  go_upto_region 1 with (fail)
  first | rw [← hW0] | (simp only [List.toArray] at hW0 ⊢; rw [← hW0])
  clear hW0
  obtain ⟨g6, hg6⟩ : ∃ g, g = w.heap.size + 1 + 1 := ⟨_, rfl⟩
  rw [← hg6] at b6 ⊢
  obtain ⟨g5, hg5⟩ : ∃ g, g = w.heap.size + 1 := ⟨_, rfl⟩
  rw [← hg5] at b5 ⊢
  obtain ⟨g4, hg4⟩ : ∃ g, g = w.heap.size := ⟨_, rfl⟩
  rw [← hg4] at b4 ⊢
  clear hg4 hg5 hg6
  go_wp2_with (refine wp_ld 24 (.tmp 7) rfl rfl rfl b5.whole Tryz.underlying24 rfl sizeVw17 ?_)
  refine (hmp.out _).mono ?_
  rintro e w1 ⟨rfl, hB1⟩
  have b4 := b4.below hB1
  have b5 := b5.below hB1
  have b6 := b6.below hB1
  have hKS := hKS.below hB1
  have hk := hk.below hB1
  have hp := hp.below hB1
  have hB := hB.trans (hB1.mono hB.size)
  clear hB1 hmp
  cases ok with
  | false =>
    have Hz := hid (show Z = 12 by rw [Hok.out]; simp)
    clear Hok Hen
    go_wp2
    go_ret
    exact ⟨by rw [Hz.out]; rfl, hB⟩
  | true =>
    have c0 := b5.cellAt 0 _ rfl
    go_wp2_with (first | refine wp_ld 32 (.tmp 10) rfl rfl rfl b6.whole Tryz.underlying32 rfl (by rw [Hl32.out]; exact size25) ?_ | refine wp_bld 47 [(0, .const (.int .i64 2)), (2, .tmp 21), (3, .tmp 22), (4, .tmp 23), (5, .tmp 24)] rfl rfl [(0, .int .i64 2), (2, .int .i64 n), (3, .int .i64 r), (4, .int .i64 s), (5, .agg lh.toArray)] rfl Hbl.out ?_ | (refine wp_newst 47 13 (.tmp 25) rfl rfl rfl rfl rfl rfl zeroM (l := lm) rfl (by rw [Lm.out]; exact len_zM) (by rw [Lm.out]; exact sizeM) Om.out (by simp [Act.put]) ?_; intro w2 b13 hB2 hs2; refine wp_stop ?_))
    have b4 := b4.below hB2
    have b5 := b5.below hB2
    have hKS := hKS.below hB2
    have hk := hk.below hB2
    have hp := hp.below hB2
    have hB := hB.trans (hB2.mono hB.size)
    obtain ⟨g13, hg13⟩ : ∃ g, g = w1.heap.size := ⟨_, rfl⟩
    rw [← hg13] at b13 ⊢
    clear hg13 hB2 hs2 c0 b6
    refine wp_go ?_
    go_wp2_with (first | refine wp_ld 40 (.tmp 6) rfl rfl rfl b4.whole Tryz.underlying40 rfl sizeKs17 ?_ | refine wp_ld 24 (.tmp 7) rfl rfl rfl b5.whole Tryz.underlying24 rfl sizeVw17 ?_ | refine wp_ld 47 (.tmp 13) rfl rfl rfl b13.whole Tryz.underlying47 rfl (by rw [Lm.out]; exact sizeM) ?_)
    refine (Hvo.out _ hKS hk hp).mono ?_
    rintro e w3 ⟨S, us, rfl, hS, hus, hB3⟩
    have hone := hus.one
    have hlu := hus.len
    have He := hid (Hen.out S hS)
    have hSl := hS.1
    have hsz3 := hB3.size
    have b5 := b5.below hB3
    have h5 := b5.lt
    have hB := hB.trans (hB3.mono hB.size)
    have hsz1 := hB.size
    have b15 := Blk.new' w3 141 zF17
    have hB4 : Below w3.heap.size w3 (w3.alloc (.cells zF17.toArray 141)) := (Below.refl _ _).alloc (Nat.le_refl _) _
    have b5 := b5.below hB4
    clear hB3 hus hKS hk hp b4 b13 Hvo Hen hS
    go_wp2_with (first | (refine wp_new 141 rfl rfl zero16F ?_; refine wp_stop ?_))
    obtain ⟨w4, hw4⟩ : ∃ x, x = w3.alloc (.cells zF17.toArray 141) := ⟨_, rfl⟩
    rw [← hw4] at b15 b5 hB4 ⊢
    have hB := hB.trans (hB4.mono hB.size)
    obtain ⟨g15, hg15⟩ : ∃ g, g = w3.heap.size := ⟨_, rfl⟩
    have hwg : w.heap.size ≤ g15 := by omega
    rw [← hg15] at b15 h5 ⊢
    clear hw4 hg15 hB4
    refine wp_go ?_
    go_wp2_with (first | (refine wp_st 141 (.tmp 15) (.tmp 33) rfl rfl rfl (f := 0) rfl (l := us) rfl b15 (by rw [hlu]; simp [zF17]) (by rw [hlu]; exact size16F) hone ?_; intro w5 k15 G15; refine wp_stop ?_))
    have b5 := b5.keep (G15.block _ b5.lt (by intro h; injection h with h; omega))
    have hB := hB.grown G15 hB.size (fun k hk => by injection hk with hk; omega)
    clear k15 G15 b15 hone hlu
    refine wp_go ?_
    go_wp2_with (first | refine wp_ld 24 (.tmp 7) rfl rfl rfl b5.whole Tryz.underlying24 rfl sizeVw17 ?_)
    refine (hiq.out S _ hSl).mono ?_
    rintro e w6 ⟨rfl, hB6⟩
    have hB := hB.trans (hB6.mono hB.size)
    rw [← He.out]
    clear He hB6
    cases en with
    | false =>
      have Hz := hid (show Z = 12 by rw [Hok.out]; simp)
      clear Hok
      go_wp2
      go_ret
      exact ⟨by rw [Hz.out]; rfl, hB⟩
    | true =>
      have Hz := hid (show Z = 0 by rw [Hok.out]; simp)
      clear Hok
      go_wp2
      go_ret
      exact ⟨by rw [Hz.out]; rfl, hB⟩
end Go.Proofs.YtnhhbbjkeekneaaGreatDoor
