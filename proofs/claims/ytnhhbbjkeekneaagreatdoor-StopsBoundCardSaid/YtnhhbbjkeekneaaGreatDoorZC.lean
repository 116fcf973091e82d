/- ZC: layer 9: contracts of seals: tagOf, Seal, Open (over the landed code). -/
import Derived.Test.YtnhhbbjkeekneaaGreatDoorM1
import Derived.Test.YtnhhbbjkeekneaaGreatDoorW2
import Derived.Test.YtnhhbbjkeekneaaGreatDoorT5
import Derived.Deep.DeepCutAuto
namespace Go.Proofs.YtnhhbbjkeekneaaGreatDoor
open Go.RowKit Go.V
theorem sizeKeys9 : (Tryz.prog.info? 40).map (·.size) = some 2 := by kernel_rfl
theorem rdM_num {X : List UInt8} {m : Mg} (h : rdM X = .ok m) : numB m = true := by
  unfold rdM at h
  cases h1 : fldR szs8 0 X with
  | error e => rw [h1] at h; cases h
  | ok xs =>
    rw [h1] at h
    dsimp only at h
    cases h2 : textR 65536 (X.drop 40) with
    | error e => rw [h2] at h; cases h
    | ok r =>
      obtain ⟨n, z⟩ := r
      rw [h2] at h
      dsimp only at h
      cases h3 : cntR 16 (readPk (X.drop (40 + (z + n)))) with
      | error e => rw [h3] at h; cases h
      | ok r =>
        obtain ⟨c, y⟩ := r
        rw [h3] at h
        dsimp only at h
        cases h4 : prtR c (40 + (z + n) + y) X with
        | error e => rw [h4] at h; cases h
        | ok r =>
          obtain ⟨ts, k⟩ := r
          rw [h4] at h
          dsimp only at h
          split at h
          · cases h
          · split at h
            · injection h with h
              rw [← h]
              assumption
            · cases h
/-- the tag that the n-th seal gives, and the error, if there is none -/
def tgB (ks : List (List UInt8)) (n : Nat) (P : List UInt8) : List UInt8 := if n < ks.length then tagF (ks.getD n []) P else List.replicate 32 0
def tgE (ks : List (List UInt8)) (n : Nat) : Nat := if n < ks.length then 0 else 6
theorem len_tgB (ks : List (List UInt8)) (n : Nat) (P : List UInt8) : (tgB ks n P).length = 32 := by
  unfold tgB; split
  · exact len_tag _ _
  · simp
theorem KsSm.at {ks : List (List UInt8)} (h : KsSm ks) (n : Nat) : (ks.getD n []).length ≤ 1000000 := by
  rw [List.getD_eq_getElem?_getD]
  cases hk : ks[n]? with
  | none => simp
  | some k => exact h.t k (List.mem_of_getElem? hk)
theorem keyOf_at (ks : List (List UInt8)) {m : Mg} {n : Nat} (h : m.f = (n : Int)) : keyOf ks m = ks.getD n [] := by
  unfold keyOf; rw [h]; rfl
set_option maxRecDepth 100000 in
set_option maxHeartbeats 2000000 in
theorem tagof_any (ks : List (List UInt8)) (P : List UInt8) (uk ur pv : Value) (n : Nat) (F G : Nat → Prop) (w : World) (hKS : KS w) (hks : KsSm ks) (hk : Rd w F uk (tx ks)) (hp : Rd w G pv (bys P)) (hPl : P.length ≤ 1000000) :
    Calls Tryz.prog 29 #[.agg #[uk, ur], .int .i64 n, pv] w fun e w' => e = .returned (.tuple #[.agg (bvs (tgB ks n P)).toArray, .int .i64 (tgE ks n : Int)]) ∧ Below w.heap.size w w' := by
  have hkl := hks.at n
  have hTB : tgB ks n P = if n < ks.length then tagF (ks.getD n []) P else List.replicate 32 0 := rfl
  have hTE : tgE ks n = if n < ks.length then 0 else 6 := rfl
  have hbl : ∀ W : World, (Instr.build 32 #[]).run Tryz.prog W = .ok (.agg (bvs (List.replicate 32 0)).toArray) W := fun _ => by kernel_rfl
  obtain ⟨AK, ck, rfl, hck, hkm⟩ := hk.slShape
  have hkm : ks.length ≤ 9223372036854775807 := by simp [maxLen] at hkm; omega
  obtain ⟨AP, cp, rfl⟩ := hp.shape
  have hkb := Blk.new' w 40 [.slice AK ks.length ck, ur]
  have hBk : Below w.heap.size w (w.alloc (.cells #[.slice AK ks.length ck, ur] 40)) := (Below.refl _ _).alloc (Nat.le_refl _) _
  have hz := Blk.new' (w.alloc (.cells #[.slice AK ks.length ck, ur] 40)) 32 (zs8 32)
  have hBz : Below (w.alloc (.cells #[.slice AK ks.length ck, ur] 40)).heap.size (w.alloc (.cells #[.slice AK ks.length ck, ur] 40)) ((w.alloc (.cells #[.slice AK ks.length ck, ur] 40)).alloc (.cells (zs8 32).toArray 32)) := (Below.refl _ _).alloc (Nat.le_refl _) _
  have hkb := hkb.below hBz
  have hB := hBk.trans (hBz.mono hBk.size)
  have hgs : (w.alloc (.cells #[.slice AK ks.length ck, ur] 40)).heap.size = w.heap.size + 1 := by simp
  rw [hgs] at hz
  have hk := hk.below hB
  have hp := hp.below hB
  have hKS := hKS.below hB
  clear hBk hBz hgs
  go_enter Tryz.func29, Tryz.ntmps29
  go_wp2_with (refine wp_new 32 rfl rfl zero25 ?_; refine wp_stop ?_)
  obtain ⟨w0, hw0⟩ : ∃ x, x = (w.alloc (.cells #[.slice AK ks.length ck, ur] 40)).alloc (.cells (zs8 32).toArray 32) := ⟨_, rfl⟩
  rw [← hw0] at hz hkb hB hk hp hKS ⊢
  clear hw0
  obtain ⟨gk, hgk⟩ : ∃ g, g = w.heap.size := ⟨_, rfl⟩
  rw [← hgk] at hkb hz ⊢
  obtain ⟨g, hg⟩ : ∃ g, g = gk + 1 := ⟨_, rfl⟩
  rw [← hg] at hz ⊢
  have hgw : w.heap.size ≤ g := by omega
  clear hgk hg
  have ck0 := hkb.cellAt 0 _ rfl
  have hzl := hz.lt
  refine wp_go ?_
  by_cases hf : n < ks.length
  · have hfI : ¬ (ks.length : Int) ≤ (n : Int) := by omega
    have hfI2 : (n : Int) < (ks.length : Int) := by omega
    rw [if_pos hf] at hTB hTE
    have hkat : ks[n]? = some (ks.getD n []) := by rw [List.getD_eq_getElem?_getD, List.getElem?_eq_getElem hf]; rfl
    obtain ⟨G', off, u, rfl, hG, hcu, hu⟩ := Rd.elem hk n (bys (ks.getD n [])) (by rw [List.getElem?_map, hkat]; rfl)
    obtain ⟨key, hkey⟩ : ∃ key, key = ks.getD n [] := ⟨_, rfl⟩
    rw [← hkey] at hu hkl hTB
    obtain ⟨A2, c2, rfl⟩ := hu.shape
    have htl := len_tag key P
    obtain ⟨T, hT⟩ : ∃ T, T = tagF key P := ⟨_, rfl⟩
    have HT := hid hT
    rw [← hT] at htl hTB
    have Htl := hid htl
    have HTB := hid hTB
    have HTE := hid hTE
    clear hkat hkey hT htl hTB hTE hf hbl
    go_wp2_with (fail)
    refine (tag_any _ _ key P _ _ _ hKS hu hp (by omega) (by omega)).mono ?_
    rintro e w2 ⟨rfl, hB2⟩
    rw [← HT.out]
    have hz := hz.below hB2
    have hB := hB.trans (hB2.mono hB.size)
    clear hB2 ck0 hcu hu hp
    go_wp2_with (refine wp_st 32 (.tmp 6) (.tmp 20) rfl rfl rfl (f := 0) rfl (l := bvs T) rfl hz (by simp [zs8, len_bvs, Htl.out]) (by rw [len_bvs, Htl.out]; exact size25) (oneCell_bvs _) ?_; intro w3 hz3 hG3; refine wp_stop ?_)
    rw [set25 _ Htl.out] at hz3
    refine wp_go ?_
    go_wp2
    refine ret_cell1 rfl rfl rfl hz3.whole und25 rfl (by rw [len_bvs, Htl.out]; exact size25) rfl ?_
    exact ⟨by rw [HTB.out, HTE.out]; rfl, hB.grown hG3 hB.size (fun k hk => by injection hk with hk; omega)⟩
  · have hfI : (ks.length : Int) ≤ (n : Int) := by omega
    rw [if_neg hf] at hTB hTE
    obtain ⟨T, hT⟩ : ∃ T, T = List.replicate 32 (0 : UInt8) := ⟨_, rfl⟩
    have htl : T.length = 32 := by rw [hT]; rfl
    rw [← hT] at hTB hbl
    have Htl := hid htl
    have HTB := hid hTB
    have HTE := hid hTE
    clear hT htl hTB hTE hf
    go_wp2_with (first | refine wp_bld 32 [] rfl rfl [] rfl hbl ?_ | refine wp_st 32 (.tmp 6) (.tmp 13) rfl rfl rfl (f := 0) rfl (l := bvs T) rfl hz (by simp [zs8, len_bvs, Htl.out]) (by rw [len_bvs, Htl.out]; exact size25) (oneCell_bvs _) ?_; intro w3 hz3 hG3; refine wp_stop ?_)
    rw [set25 _ Htl.out] at hz3
    refine wp_go ?_
    go_wp2
    refine ret_cell1 rfl rfl rfl hz3.whole und25 rfl (by rw [len_bvs, Htl.out]; exact size25) rfl ?_
    exact ⟨by rw [HTB.out, HTE.out]; rfl, hB.grown hG3 hB.size (fun k hk => by injection hk with hk; omega)⟩
set_option maxRecDepth 100000 in
set_option maxHeartbeats 2000000 in
theorem seal9_any (ks : List (List UInt8)) (m : Mg) (uk ur ub up : Value) (F F1 F2 : Nat → Prop) (w : World) (hKS : KS w) (hm : MgIn m) (hs : MgSm m) (hks : KsSm ks) (hk : Rd w F uk (tx ks)) (hub : Rd w F1 ub (bys m.b)) (hup : Rd w F2 up (tx m.ps)) :
    Calls Tryz.prog 14 #[.agg #[uk, ur], m.val ub up] w fun e w' => ∃ v', e = .returned (.tuple #[v', .int .i64 (errS ks m : Int)]) ∧ NewB w w' v' (if errS ks m = 0 then slS ks m else []) := by
  have hh := hm.h
  have hput := fun W h1 h2 => put8g_any m ub up F1 F2 W hm hs h1 h2
  have hES : errS ks m = if errG m = 0 then (if (ks.length : Int) ≤ m.f then 6 else 0) else errG m := rfl
  have hnf : errG m = 0 → ∃ n : Nat, m.f = (n : Int) ∧ n ≤ 15 := fun h => by
    obtain ⟨h1, h2⟩ := errS_num (errG_bd h).2.2
    exact ⟨m.f.toNat, by omega, by omega⟩
  have hkey := fun n h => keyOf_at ks (m := m) (n := n) h
  have hPl : errG m = 0 → (Mg.by m).length ≤ 65504 := fun h => (errG_bd h).2.1
  have hsl : slS ks m = Mg.by m ++ tagF (keyOf ks m) (Mg.by m) := rfl
  obtain ⟨E, hE⟩ : ∃ E, E = errS ks m := ⟨_, rfl⟩
  obtain ⟨X, hX⟩ : ∃ X, X = slS ks m := ⟨_, rfl⟩
  rw [← hE] at hES ⊢
  rw [← hX] at hsl ⊢
  obtain ⟨er, her⟩ : ∃ er, er = errG m := ⟨_, rfl⟩
  obtain ⟨P, hP⟩ : ∃ P, P = Mg.by m := ⟨_, rfl⟩
  rw [← her, ← hP] at hput hPl
  rw [← her] at hES hnf
  rw [← hP] at hsl
  obtain ⟨AK, ck, rfl, hck, _⟩ := hk.slShape
  obtain ⟨AB, cb, rfl⟩ := hub.shape
  obtain ⟨AP, cpp, rfl, _, _⟩ := hup.slShape
  unfold Mg.val at hput ⊢
  have hmn := len_mg hh (.slice AB m.b.length cb) (.slice AP m.ps.length cpp)
  have h1c : (m.l (.slice AB m.b.length cb) (.slice AP m.ps.length cpp))[1]? = some (.int .i64 m.f) := rfl
  obtain ⟨l, hl⟩ : ∃ l, l = m.l (.slice AB m.b.length cb) (.slice AP m.ps.length cpp) := ⟨_, rfl⟩
  rw [← hl] at hput hmn h1c ⊢
  have Hmn := hid hmn
  have Hput := hid hput
  have HES := hid hES
  have Hsl := hid hsl
  have Hnf := hid hnf
  have HPl := hid hPl
  have Hkey := hid hkey
  clear hl hmn hput hES hsl hE hX her hP hnf hPl hs hkey
  have hkb := Blk.new' w 40 [.slice AK ks.length ck, ur]
  have hBk : Below w.heap.size w (w.alloc (.cells #[.slice AK ks.length ck, ur] 40)) := (Below.refl _ _).alloc (Nat.le_refl _) _
  have hvb := Blk.new' (w.alloc (.cells #[.slice AK ks.length ck, ur] 40)) 47 l
  have hBm : Below (w.alloc (.cells #[.slice AK ks.length ck, ur] 40)).heap.size (w.alloc (.cells #[.slice AK ks.length ck, ur] 40)) ((w.alloc (.cells #[.slice AK ks.length ck, ur] 40)).alloc (.cells l.toArray 47)) := (Below.refl _ _).alloc (Nat.le_refl _) _
  have hkb := hkb.below hBm
  have hB := hBk.trans (hBm.mono hBk.size)
  have hgs : (w.alloc (.cells #[.slice AK ks.length ck, ur] 40)).heap.size = w.heap.size + 1 := by simp
  rw [hgs] at hvb
  have hk := hk.below hB
  have hub := hub.below hB
  have hup := hup.below hB
  have hKS := hKS.below hB
  clear hBk hBm hgs
  go_enter Tryz.func14, Tryz.ntmps14
  go_wp2_with (refine wp_ld 47 (.tmp 3) rfl rfl rfl hvb.whole Tryz.underlying47 rfl (by rw [Hmn.out]; exact sizeM) ?_)
  obtain ⟨w0, hw0⟩ : ∃ x, x = (w.alloc (.cells #[.slice AK ks.length ck, ur] 40)).alloc (.cells l.toArray 47) := ⟨_, rfl⟩
  rw [← hw0] at hvb hkb hB hub hup hk hKS ⊢
  clear hw0
  obtain ⟨gk, hgk⟩ : ∃ g, g = w.heap.size := ⟨_, rfl⟩
  rw [← hgk] at hkb hvb ⊢
  obtain ⟨g, hg⟩ : ∃ g, g = gk + 1 := ⟨_, rfl⟩
  rw [← hg] at hvb ⊢
  clear hgk hg
  refine (Hput.out _ hub hup).mono ?_
  rintro e w1 ⟨v1, rfl, ho1, hB1⟩
  have hkb := hkb.below hB1
  have hvb := hvb.below hB1
  have hk := hk.below hB1
  have hKS := hKS.below hB1
  have hs0 := hB.size
  have hB := hB.trans (hB1.mono hB.size)
  clear hB1 hub hup
  by_cases he : er = 0
  · obtain ⟨n, hn, hn15⟩ := Hnf.out he
    have hPl := HPl.out he
    have hky := Hkey.out n hn
    have hES := HES.out
    rw [if_pos he, hn] at hES
    rw [if_pos he] at ho1
    subst he
    rw [hn] at h1c
    have ho1 := own_weak ho1 hs0
    have hrP := Rd.of_own ho1
    obtain ⟨A1, c1, rfl⟩ := own_shape ho1
    have cf := hvb.cellAt 1 _ h1c
    have ck0 := hkb.cellAt 0 _ rfl
    have ck1 := hkb.cellAt 1 _ rfl
    have htl := len_tgB ks n P
    have hTe : tgE ks n = E := by
      unfold tgE
      rw [hES]
      by_cases hf : n < ks.length
      · rw [if_pos hf, if_neg (by omega)]
      · rw [if_neg hf, if_pos (by omega)]
    have hTx : E = 0 → X = P ++ tgB ks n P := fun h => by
      rw [h] at hES
      have hf : n < ks.length := by
        rcases Nat.lt_or_ge n ks.length with h1 | h1
        · exact h1
        · rw [if_pos (by omega)] at hES; cases hES
      rw [Hsl.out, hky]
      unfold tgB
      rw [if_pos hf]
    obtain ⟨T, hT⟩ : ∃ T, T = tgB ks n P := ⟨_, rfl⟩
    have HT := hid hT
    rw [← hT] at htl hTx
    have Htl := hid htl
    have HTx := hid hTx
    have HTe := hid hTe
    clear hT htl hTx hTe HES Hnf hn Hput HPl hES hky Hkey Hsl
    go_wp2_with (fail)
    refine (tagof_any ks P _ _ _ n _ _ _ hKS hks hk hrP (by omega)).mono ?_
    rintro e w2 ⟨rfl, hB2⟩
    rw [← HT.out, HTe.out]
    have ho1 := own_bel ho1 hB2
    have hB := hB.trans (hB2.mono hB.size)
    clear hB2 cf ck0 ck1 hrP
    go_wp2_with (refine wp_newst 32 8 (.tmp 23) rfl rfl rfl rfl rfl rfl zero25 (l := bvs T) rfl (by rw [len_bvs, Htl.out]; rfl) (by rw [len_bvs, Htl.out]; exact size25) (oneCell_bvs T) (by simp) ?_; intro w3 hx3 hB3 hs3; refine wp_stop ?_)
    have ho1 := own_bel ho1 hB3
    have hB := hB.trans (hB3.mono hB.size)
    obtain ⟨gx, hgx⟩ : ∃ g, g = w2.heap.size := ⟨_, rfl⟩
    rw [← hgx] at hx3 ⊢
    clear hgx hB3 hs3
    by_cases he : E = 0
    · have hTx := HTx.out he
      subst he
      have HX := hid hTx
      have hsl := fun W => run_sla_all Tryz.underlying32 size8 gx 0 (by omega) W
      have hTl := Htl.out
      have hsr : Src w3 (some ⟨gx, 0, none⟩) 32 (bvs T) := ⟨by rw [len_bvs, hTl], fun j u hu => ⟨gx, 0, rfl, by rw [Nat.zero_add]; exact hx3.cellAt _ u hu⟩⟩
      clear hTl hTx
      refine wp_go ?_
      go_wp2_with (refine wp_app (.tmp 28) (.tmp 29) slB rfl rfl rfl ho1 rfl hsr (oneCell_bvs _) (by simp only [maxLen]; omega) (by omega) hB.size ?_; intro v4 w4 ho4 hG4 _; refine wp_stop ?_)
      have hB := hB.grown hG4 hB.size (fun k hk => (ho1.lt k hk).1)
      rw [show P.length + 32 = P.length + T.length from by rw [Htl.out]] at ho4
      have ho4 := own_join ho4
      refine wp_go ?_
      go_wp2
      go_ret2
      exact ⟨_, rfl, by rw [HX.out]; exact ho4, hB⟩
    · have hne : ((E : Int) != 0) = true := by rw [bne_iff_ne]; omega
      refine wp_go ?_
      go_wp2
      go_ret2
      exact ⟨_, rfl, World.ownsRow_nil _ _ _ _, hB⟩
  · have hES := HES.out
    rw [if_neg he] at hES
    subst hES
    have hne : ((E : Int) != 0) = true := by rw [bne_iff_ne]; omega
    obtain ⟨A1, c1, rfl⟩ := own_shape ho1
    go_wp2
    go_ret2
    exact ⟨_, rfl, World.ownsRow_nil _ _ _ _, hB⟩
/-- Get of any bytes -/
def getR (Y : List UInt8) : Except Nat Mg := if 65504 < Y.length then .error 4 else rdM Y
theorem get8a_any (v : Value) (Y : List UInt8) (F : Nat → Prop) (w : World) (hv : Rd w F v (bys Y)) :
    Calls Tryz.prog 28 #[v] w (ReadP w (getR Y)) := by
  unfold getR
  split
  · exact get8f_any v Y F w hv (by assumption)
  · exact get8g_any v Y F w hv (by omega)
theorem cntR_nz {m : Int} {l : List UInt8} {e : Nat} (h : cntR m (readPk l) = .error e) : e ≠ 0 := by
  cases hr : readPk l with
  | error a =>
    rw [hr] at h
    injection h with h
    have := rdF_err _ _ _ _ hr
    omega
  | ok r =>
    rw [hr] at h
    unfold cntR at h
    dsimp only at h
    split at h
    · injection h with h; omega
    · cases h
theorem textR_nz {m : Int} {l : List UInt8} {e : Nat} (h : textR m l = .error e) : e ≠ 0 := by
  unfold textR at h
  cases hr : cntR m (readPk l) with
  | error a =>
    rw [hr] at h
    injection h with h
    have := cntR_nz hr
    omega
  | ok r =>
    rw [hr] at h
    dsimp only at h
    split at h
    · injection h with h; omega
    · cases h
theorem fldR_nz : ∀ {ns : List Nat} {k : Nat} {X : List UInt8} {e : Nat}, fldR ns k X = .error e → e ≠ 0
  | [], k, X, e, h => by cases h
  | n :: ns, k, X, e, h => by
    unfold fldR at h
    cases hr : fixRd (n : Int) (X.drop k) with
    | error a =>
      rw [hr] at h
      injection h with h
      unfold fixRd at hr
      split at hr
      · split at hr
        · injection hr with hr; omega
        · cases hr
      · injection hr with hr; omega
    | ok x =>
      rw [hr] at h
      dsimp only at h
      cases h2 : fldR ns (k + n) X with
      | error a =>
        rw [h2] at h
        injection h with h
        have := fldR_nz h2
        omega
      | ok xs => rw [h2] at h; cases h
theorem prtR_nz : ∀ {c k : Nat} {X : List UInt8} {e : Nat}, prtR c k X = .error e → e ≠ 0
  | 0, k, X, e, h => by cases h
  | c + 1, k, X, e, h => by
    unfold prtR at h
    cases hr : textR 65536 (X.drop k) with
    | error a =>
      rw [hr] at h
      injection h with h
      have := textR_nz hr
      omega
    | ok r =>
      obtain ⟨n, z⟩ := r
      rw [hr] at h
      dsimp only at h
      cases h2 : prtR c (k + (z + n)) X with
      | error a =>
        rw [h2] at h
        injection h with h
        have := prtR_nz h2
        omega
      | ok xs => rw [h2] at h; cases h
theorem getR_nz {Y : List UInt8} {k : Nat} (h : getR Y = .error k) : k ≠ 0 := by
  unfold getR at h
  split at h
  · injection h with h; omega
  unfold rdM at h
  cases h1 : fldR szs8 0 Y with
  | error e => rw [h1] at h; injection h with h; have := fldR_nz h1; omega
  | ok xs =>
    rw [h1] at h
    dsimp only at h
    cases h2 : textR 65536 (Y.drop 40) with
    | error e => rw [h2] at h; injection h with h; have := textR_nz h2; omega
    | ok r =>
      obtain ⟨n, z⟩ := r
      rw [h2] at h
      dsimp only at h
      cases h3 : cntR 16 (readPk (Y.drop (40 + (z + n)))) with
      | error e => rw [h3] at h; injection h with h; have := cntR_nz h3; omega
      | ok r =>
        obtain ⟨c, y⟩ := r
        rw [h3] at h
        dsimp only at h
        cases h4 : prtR c (40 + (z + n) + y) Y with
        | error e => rw [h4] at h; injection h with h; have := prtR_nz h4; omega
        | ok r =>
          obtain ⟨ts, k⟩ := r
          rw [h4] at h
          dsimp only at h
          split at h
          · injection h with h; omega
          · split at h
            · cases h
            · injection h with h; omega
theorem getR_ok {Y : List UInt8} {m : Mg} (h : getR Y = .ok m) : m.h.length = 32 ∧ numB m = true := by
  unfold getR at h
  split at h
  · cases h
  · exact ⟨rdM_h h, rdM_num h⟩
theorem opR_getR {ks : List (List UInt8)} {X : List UInt8} (h : 32 ≤ X.length) : opR ks X = match getR (X.take (X.length - 32)) with
    | .error e => .error e
    | .ok m => if (ks.length : Int) ≤ m.f then .error 6 else if tagF (keyOf ks m) (X.take (X.length - 32)) = X.drop (X.length - 32) then .ok m else .error 5 := by
  unfold opR getR
  rw [if_neg (by omega), List.length_take, Nat.min_eq_left (by omega)]
  split <;> rfl
set_option maxRecDepth 100000 in
set_option maxHeartbeats 4000000 in
theorem open9_any (ks : List (List UInt8)) (X : List UInt8) (uk ur v : Value) (F G : Nat → Prop) (w : World) (hKS : KS w) (hks : KsSm ks) (hk : Rd w F uk (tx ks)) (hv : Rd w G v (bys X)) (hX : X.length ≤ 1000000) :
    Calls Tryz.prog 11 #[.agg #[uk, ur], v] w (ReadP w (opR ks X)) := by
  have hbl : ∀ W : World, (Instr.build 47 #[]).run Tryz.prog W = .ok (.agg zM.toArray) W := fun _ => by kernel_rfl
  obtain ⟨AK, ck, rfl, hck, _⟩ := hk.slShape
  obtain ⟨A, c, rfl⟩ := hv.shape
  have hkb := Blk.new' w 40 [.slice AK ks.length ck, ur]
  have hBk : Below w.heap.size w (w.alloc (.cells #[.slice AK ks.length ck, ur] 40)) := (Below.refl _ _).alloc (Nat.le_refl _) _
  have hz := Blk.new' (w.alloc (.cells #[.slice AK ks.length ck, ur] 40)) 47 zM
  have hBz : Below (w.alloc (.cells #[.slice AK ks.length ck, ur] 40)).heap.size (w.alloc (.cells #[.slice AK ks.length ck, ur] 40)) ((w.alloc (.cells #[.slice AK ks.length ck, ur] 40)).alloc (.cells zM.toArray 47)) := (Below.refl _ _).alloc (Nat.le_refl _) _
  have hkb := hkb.below hBz
  have hB := hBk.trans (hBz.mono hBk.size)
  have hgs : (w.alloc (.cells #[.slice AK ks.length ck, ur] 40)).heap.size = w.heap.size + 1 := by simp
  rw [hgs] at hz
  have hk := hk.below hB
  have hv := hv.below hB
  have hKS := hKS.below hB
  clear hBk hBz hgs
  obtain ⟨r, hr⟩ : ∃ r, r = opR ks X := ⟨_, rfl⟩
  rw [← hr]
  have hOP : 32 ≤ X.length → r = match getR (X.take (X.length - 32)) with
    | .error e => .error e
    | .ok m => if (ks.length : Int) ≤ m.f then .error 6 else if tagF (keyOf ks m) (X.take (X.length - 32)) = X.drop (X.length - 32) then .ok m else .error 5 := fun h => by rw [hr, opR_getR h]
  have hOS : X.length < 32 → r = .error 1 := fun h => by rw [hr]; unfold opR; rw [if_pos h]
  have HOP := hid hOP
  have HOS := hid hOS
  clear hr hOP hOS
  go_enter Tryz.func11, Tryz.ntmps11
  go_wp2_with (refine wp_new 47 rfl rfl zeroM ?_; refine wp_stop ?_)
  obtain ⟨w0, hw0⟩ : ∃ x, x = (w.alloc (.cells #[.slice AK ks.length ck, ur] 40)).alloc (.cells zM.toArray 47) := ⟨_, rfl⟩
  rw [← hw0] at hz hkb hB hk hv hKS ⊢
  clear hw0
  obtain ⟨gk, hgk⟩ : ∃ g, g = w.heap.size := ⟨_, rfl⟩
  rw [← hgk] at hkb hz ⊢
  obtain ⟨g4, hg4⟩ : ∃ g, g = gk + 1 := ⟨_, rfl⟩
  rw [← hg4] at hz ⊢
  have hgw : w.heap.size ≤ g4 := by omega
  clear hgk hg4
  have hzl := hz.lt
  refine wp_go ?_
  by_cases h32 : X.length < 32
  · have hI : ((X.length : Int) - 32) < 0 := by omega
    have hwr : IntKind.i64.wrap ((X.length : Int) - 32) = (X.length : Int) - 32 := IntWalk.i64_in _ (by omega)
    have HO := hid (HOS.out h32)
    clear h32
    go_wp2_with (first | refine wp_bld 47 [] rfl rfl [] rfl hbl ?_ | refine wp_st 47 (.tmp 4) (.tmp 16) rfl rfl rfl (f := 0) rfl (l := zM) rfl hz (by rw [len_zM]; omega) (by rw [len_zM]; exact sizeM) one_zM8 ?_; intro w3 hz3 hG3; refine wp_stop ?_)
    rw [set_all _ _ rfl] at hz3
    refine wp_go ?_
    go_wp2
    refine ret_cell1 rfl rfl rfl hz3.whole Tryz.underlying47 rfl (by rw [len_zM]; exact sizeM) rfl ?_
    show ReadP w r _ _
    rw [HO.out]
    exact ⟨rfl, hB.grown hG3 hB.size (fun k hk => by injection hk with hk; omega)⟩
  obtain ⟨n, hn⟩ : ∃ n, X.length = n + 32 := ⟨X.length - 32, by omega⟩
  have hI : ¬ ((n : Int) < 0) := by omega
  have hwr : IntKind.i64.wrap (n : Int) = (n : Int) := IntWalk.i64_in _ (by omega)
  have hO := HOP.out (by omega)
  rw [show X.length - 32 = n from by omega] at hO
  obtain ⟨A1, m1, c1, hc1, hY⟩ := Rd.cut_h slB hv (n : Int) (by omega) (by omega)
  obtain ⟨A2, m2, c2, hc2, hD⟩ := Rd.cut_l slB hv (n : Int) (by omega) (by omega)
  rw [Int.toNat_natCast] at hY hD
  have hYl : (X.take n).length = n := by rw [List.length_take]; omega
  have hDl : (X.drop n).length = 32 := by rw [List.length_drop]; omega
  obtain ⟨Y, hYe⟩ : ∃ Y, Y = X.take n := ⟨_, rfl⟩
  obtain ⟨D, hDe⟩ : ∃ D, D = X.drop n := ⟨_, rfl⟩
  rw [← hYe] at hO hY hYl
  rw [← hDe] at hO hD hDl
  rw [hn] at hc1 hc2 ⊢
  have HO := hid hO
  have HDl := hid hDl
  have hYn : Y.length ≤ 1000000 := by omega
  have hget := get8a_any _ Y _ w0 hY
  have Hget := hid hget
  clear h32 hO hYe hDe HOP HOS hDl hYl hn hget hX
  cases hrm : getR Y with
  | error k =>
    have HW : Hid (∀ e w', ReadP w0 (getR Y) e w' → e = .returned (.tuple #[.agg zM.toArray, .int .i64 (k : Int)]) ∧ Below w0.heap.size w0 w') := fun e w' h => by
      rw [hrm] at h; exact h
    have hk0 : k ≠ 0 := by
      intro h0; subst h0
      exact getR_nz hrm rfl
    have hne : ((k : Int) != 0) = true := by rw [bne_iff_ne]; omega
    have HR : Hid (r = .error k) := by show _ = _; rw [HO.out, hrm]
    clear hrm HO
    go_wp2_with (fail)
    refine Hget.out.mono ?_
    rintro e w2 h2
    obtain ⟨rfl, hB2⟩ := HW.out _ _ h2
    have hz := hz.below hB2
    have hB := hB.trans (hB2.mono hB.size)
    clear h2 HW Hget hB2
    go_wp2_with (refine wp_newst 47 7 (.tmp 22) rfl rfl rfl rfl rfl rfl zeroM (l := zM) rfl rfl (by rw [len_zM]; exact sizeM) one_zM8 (by simp) ?_; intro w3 hx3 hB3 hs3; refine wp_stop ?_)
    have hz := hz.below hB3
    have hB := hB.trans (hB3.mono hB.size)
    clear hB3 hs3 hx3
    refine wp_go ?_
    go_wp2_with (first | refine wp_bld 47 [] rfl rfl [] rfl hbl ?_ | refine wp_st 47 (.tmp 4) (.tmp 26) rfl rfl rfl (f := 0) rfl (l := zM) rfl hz (by rw [len_zM]; omega) (by rw [len_zM]; exact sizeM) one_zM8 ?_; intro w4 hz4 hG4; refine wp_stop ?_)
    rw [set_all _ _ rfl] at hz4
    refine wp_go ?_
    go_wp2
    refine ret_cell1 rfl rfl rfl hz4.whole Tryz.underlying47 rfl (by rw [len_zM]; exact sizeM) rfl ?_
    show ReadP w r _ _
    rw [HR.out]
    exact ⟨rfl, hB.grown hG4 hB.size (fun k hk => by injection hk with hk; omega)⟩
  | ok m =>
    obtain ⟨hmh, hnu⟩ := getR_ok hrm
    obtain ⟨hf0, hf15⟩ := errS_num hnu
    obtain ⟨q, hq⟩ : ∃ q : Nat, m.f = (q : Int) := ⟨m.f.toNat, by omega⟩
    have hq15 : q ≤ 15 := by omega
    have HW : Hid (∀ e w', ReadP w0 (getR Y) e w' → (∃ ub up, e = .returned (.tuple #[m.val ub up, .int .i64 0]) ∧ Rd w' (fun b => w0.heap.size ≤ b) ub (bys m.b) ∧ Rd w' (fun b => w0.heap.size ≤ b) up (tx m.ps)) ∧ Below w0.heap.size w0 w') := fun e w' h => by
      rw [hrm] at h; exact h
    have hR : r = if (ks.length : Int) ≤ m.f then .error 6 else if tagF (keyOf ks m) Y = D then .ok m else .error 5 := by rw [HO.out, hrm]
    rw [hq] at hR
    have hky := keyOf_at ks hq
    have HR : Hid (r = if tgE ks q = 0 then (if tgB ks q Y = D then .ok m else .error 5) else .error (tgE ks q)) := by
      show _ = _
      rw [hR, hky]
      unfold tgE tgB
      by_cases hf : q < ks.length
      · rw [if_neg (by omega), if_pos hf, if_pos rfl, if_pos hf]
      · rw [if_pos (by omega), if_neg hf, if_neg (by decide)]
    have h66 : tgE ks q = 0 ∨ tgE ks q = 6 := by unfold tgE; split <;> simp
    clear hrm HO hR hky hnu hf0 hf15
    go_wp2_with (fail)
    refine Hget.out.mono ?_
    rintro e w2 h2
    obtain ⟨⟨ub, up, rfl, hub, hup⟩, hB2⟩ := HW.out _ _ h2
    obtain ⟨AB, cb, rfl⟩ := hub.shape
    obtain ⟨AP, cpp, rfl, _, _⟩ := hup.slShape
    unfold Mg.val
    have hll := len_mg hmh (.slice AB m.b.length cb) (.slice AP m.ps.length cpp)
    have hl1 : ∀ v ∈ m.l (.slice AB m.b.length cb) (.slice AP m.ps.length cpp), v.oneCell' = true := one_mg
    have h1c : (m.l (.slice AB m.b.length cb) (.slice AP m.ps.length cpp))[1]? = some (.int .i64 m.f) := rfl
    rw [hq] at h1c
    obtain ⟨l, hl⟩ : ∃ l, l = m.l (.slice AB m.b.length cb) (.slice AP m.ps.length cpp) := ⟨_, rfl⟩
    rw [← hl] at hll hl1 h1c ⊢
    have Hl := hid hl
    have Hll := hid hll
    have Hl1 := hid hl1
    have hs0 := hB.size
    have hw0s : g4 < w0.heap.size := hzl
    have hz := hz.below hB2
    have hkb := hkb.below hB2
    have hk := hk.below hB2
    have hv := hv.below hB2
    have hY := hY.below hB2
    have hD := hD.below hB2
    have hKS := hKS.below hB2
    have hB := hB.trans (hB2.mono hB.size)
    have hub := hub.weak (F' := fun b => w.heap.size ≤ b ∧ b ≠ g4) (fun b _ h => by have h' : w0.heap.size ≤ b := h; exact ⟨by omega, by omega⟩)
    have hup := hup.weak (F' := fun b => w.heap.size ≤ b ∧ b ≠ g4) (fun b _ h => by have h' : w0.heap.size ≤ b := h; exact ⟨by omega, by omega⟩)
    clear h2 HW Hget hl hll hl1 hB2 hq hmh
    have hg7 := hz.lt
    go_wp2_with (refine wp_newst 47 7 (.tmp 22) rfl rfl rfl rfl rfl rfl zeroM (l := l) rfl (by rw [Hll.out]; exact len_zM) (by rw [Hll.out]; exact sizeM) Hl1.out (by simp) ?_; intro wq hx hB3 hs3; refine wp_stop ?_)
    have hz := hz.below hB3
    have hkb := hkb.below hB3
    have hk := hk.below hB3
    have hY := hY.below hB3
    have hD := hD.below hB3
    have hKS := hKS.below hB3
    have hub := hub.below hB3
    have hup := hup.below hB3
    have hB := hB.trans (hB3.mono hB.size)
    obtain ⟨g7, hg7e⟩ : ∃ g, g = w2.heap.size := ⟨_, rfl⟩
    rw [← hg7e] at hx hg7 ⊢
    clear hB3 hs3 hg7e
    have HKB : Hid (∀ W, Ch nob wq W → W.rangeAt gk 0 [.slice AK ks.length ck, ur]) := fun W h => (hkb.ch h (fun h => h)).whole
    have HF : Hid (∀ W, Ch nob wq W → W.cell? ⟨g7, 1, none⟩ = some (.int .i64 (q : Int))) := fun W h => (hx.ch h (fun h => h)).cellAt 1 _ h1c
    have HKS : Hid (∀ W, Ch nob wq W → KS W) := fun W h => hKS.below h.below
    have HK : Hid (∀ W, Ch nob wq W → Rd W F (.slice AK ks.length ck) (tx ks)) := fun W h => hk.ext h
    have HY : Hid (∀ W, Ch nob wq W → Rd W G (.slice A1 m1 c1) (bys Y)) := fun W h => hY.ext h
    have htl := len_tgB ks q Y
    obtain ⟨T, hT⟩ : ∃ T, T = tgB ks q Y := ⟨_, rfl⟩
    obtain ⟨EE, hEE⟩ : ∃ EE, EE = tgE ks q := ⟨_, rfl⟩
    have HT := hid hT
    have HEE := hid hEE
    rw [← hT] at htl
    rw [← hEE] at h66
    have HR : Hid (r = if EE = 0 then (if T = D then .ok m else .error 5) else .error EE) := by show _ = _; rw [HR.out, HT.out, HEE.out]
    have Htl := hid htl
    clear hT hEE htl hKS hk hkb hY h1c
    refine wp_go ?_
    go_upto_region 7 with (fail)
    go_cut [8, 9] (fun s8 s9 wx => ∃ g, s9 = .pointer (some ⟨g, 0, none⟩) ∧ s8 = .int .i64 (EE : Int) ∧ Blk wx g 32 (bvs T) ∧ wq.heap.size ≤ g ∧ Below wq.heap.size wq wx)
    case first =>
      refine wp_region_noPanic ?_
      refine wp_region_held_drew (S := Ch nob wq) (by kernel_rfl) ((Ch.refl _ _).drew) (fun hHeld => ?_)
      refine tkY 0 rfl (yieldsIf_load_mid (by rfl) 40 (.tmp 2) (by rfl) _ (0) (by rfl) _ _ (fun _ hs => HKB.out _ hs) Tryz.underlying40 rfl (sizeKeys9)) ?_
      refine tkP 1 rfl ?_
      refine tkF 2 rfl HF.out ?_
      refine tkP 3 rfl ?_
      refine tkP 4 rfl ?_
      refine tkP 5 rfl ?_
      refine wpAnyH_ready (rs := [6, 10]) (by kernel_rfl) (by simp) ?_
      refine AllReadyH.cons (o := ⟨some 35, _, _, _, _, none⟩) rfl (fun K hK => ?_) ?_
      · go_simp
        refine (tagof_any ks Y _ _ _ q _ _ _ (HKS.out _ hHeld) hks (HK.out _ hHeld) (HY.out _ hHeld) (by omega)).mono ?_
        rintro e' w6 ⟨rfl, hB6⟩
        rw [← HT.out, ← HEE.out]
        refine hK.out _ _ (hHeld.belowG hB6) (fun hHeld => ?_)
        clear hK K
        try simp only [nP]
        refine tkP 7 rfl ?_
        refine tkP 8 rfl ?_
        refine tkP 9 rfl ?_
        refine rdH 10 rfl (fun K hK => ?_)
        refine step_new 32 (by rfl) (by rfl) zero25 ?_
        intro g9 w9 hg9 hgl9 hz9 hB9
        have hg9 : wq.heap.size ≤ g9 := Nat.le_trans hHeld.size hg9
        refine hK.out _ _ (hHeld.belowG hB9) (fun hHeld => ?_)
        clear hK K
        try simp only [nP]
        refine rdH 11 rfl (fun K hK => ?_)
        refine step_st 32 (.tmp 9) (.tmp 36) (by rfl) (by rfl) (by rfl) (f := 0) (by rfl) (l := bvs T) (by rfl) hz9 (by simp [zs8, len_bvs, Htl.out]) (by rw [len_bvs, Htl.out]; exact size25) (oneCell_bvs _) ?_
        intro w11 hz11 hG11
        rw [set25 _ Htl.out] at hz11
        refine hK.out _ _ (hHeld.grow hG11 (fun k hk => .inr (by injection hk with hk; omega))) (fun hHeld => ?_)
        clear hK K
        try simp only [nP]
        refine tkP 12 rfl ?_
        refine wpAnyH_done (by kernel_rfl) ?_ _
        refine NoPanic.normal ?_
        go_wp2
        go_meet
        exact ⟨g9, rfl, rfl, hz11, hg9, hHeld.below⟩
      refine AllReadyH.cons (o := ⟨some 9, .alloc _, _, _, _, none⟩) rfl (fun K hK => ?_) AllReadyH.nil
      refine step_new 32 (by rfl) (by rfl) zero25 ?_
      intro g9 w9 hg9 hgl9 hz9 hB9
      have hg9 : wq.heap.size ≤ g9 := Nat.le_trans hHeld.size hg9
      refine hK.out _ _ (hHeld.belowG hB9) (fun hHeld => ?_)
      clear hK K
      try simp only [nP]
      refine rdH 6 rfl (fun K hK => ?_)
      go_simp
      refine (tagof_any ks Y _ _ _ q _ _ _ (HKS.out _ hHeld) hks (HK.out _ hHeld) (HY.out _ hHeld) (by omega)).mono ?_
      rintro e' w6 ⟨rfl, hB6⟩
      rw [← HT.out, ← HEE.out]
      have hz9 := hz9.below hB6
      refine hK.out _ _ (hHeld.belowG hB6) (fun hHeld => ?_)
      clear hK K
      try simp only [nP]
      refine tkP 7 rfl ?_
      refine tkP 8 rfl ?_
      refine tkP 9 rfl ?_
      refine rdH 11 rfl (fun K hK => ?_)
      refine step_st 32 (.tmp 9) (.tmp 36) (by rfl) (by rfl) (by rfl) (f := 0) (by rfl) (l := bvs T) (by rfl) hz9 (by simp [zs8, len_bvs, Htl.out]) (by rw [len_bvs, Htl.out]; exact size25) (oneCell_bvs _) ?_
      intro w11 hz11 hG11
      rw [set25 _ Htl.out] at hz11
      refine hK.out _ _ (hHeld.grow hG11 (fun k hk => .inr (by injection hk with hk; omega))) (fun hHeld => ?_)
      clear hK K
      try simp only [nP]
      refine tkP 12 rfl ?_
      refine wpAnyH_done (by kernel_rfl) ?_ _
      refine NoPanic.normal ?_
      go_wp2
      go_meet
      exact ⟨g9, rfl, rfl, hz11, hg9, hHeld.below⟩
    case rest =>
      obtain ⟨g9, rfl, rfl, hz9, hg9, hB2⟩ := hcut
      have hz := hz.below hB2
      have hx := hx.below hB2
      have hD := hD.below hB2
      have hub := hub.below hB2
      have hup := hup.below hB2
      have hB := hB.trans (hB2.mono hB.size)
      clear HKB HF HKS HK HY HT HEE hB2
      by_cases he : EE = 0
      · subst he
        have hal := Blk.new' wc 32 (zs8 32)
        have hBa : Below wc.heap.size wc (wc.alloc (.cells (zs8 32).toArray 32)) := (Below.refl _ _).alloc (Nat.le_refl _) _
        have hzl := hz.lt
        have hxl := hx.lt
        have hz9l := hz9.lt
        have hsc := hB.size
        go_wp2_with (refine wp_new 32 rfl rfl zero25 ?_; refine wp_stop ?_)
        obtain ⟨w5, hw5⟩ : ∃ x, x = wc.alloc (.cells (zs8 32).toArray 32) := ⟨_, rfl⟩
        rw [← hw5] at hal hBa ⊢
        clear hw5
        have hz := hz.below hBa
        have hx := hx.below hBa
        have hz9 := hz9.below hBa
        have hD := hD.below hBa
        have hub := hub.weak (F' := fun b => w.heap.size ≤ b ∧ b ≠ g4 ∧ b < wc.heap.size) (fun b hb h => ⟨h.1, h.2, hb⟩)
        have hup := hup.weak (F' := fun b => w.heap.size ≤ b ∧ b ≠ g4 ∧ b < wc.heap.size) (fun b hb h => ⟨h.1, h.2, hb⟩)
        have hub := hub.below hBa
        have hup := hup.below hBa
        have hB := hB.trans (hBa.mono hB.size)
        clear hBa
        obtain ⟨g10, hg10⟩ : ∃ g, g = wc.heap.size := ⟨_, rfl⟩
        rw [← hg10] at hal hub hup hzl hxl hz9l hsc ⊢
        clear hg10
        have hsl := fun W => run_sla_all und25 size8 g10 0 (by omega) W
        have hDl := HDl.out
        have hm2 : m2 = 32 := by have := hD.cap.1; omega
        have hsD := hD.drew.src
        rw [hDl] at hsD
        rw [hm2] at hc2
        have hDO := hid hDl
        clear hDl hm2 hD
        refine wp_go ?_
        go_wp2_with (fail)
        replace hz := hz.drew
        replace hx := hx.drew
        replace hz9 := hz9.drew
        replace hal := hal.drew
        replace hub := hub.drew
        replace hup := hup.drew
        replace hB := hB.drew
        refine wp_region_tail 4 (by kernel_rfl) (by kernel_rfl) ?_
        simp only [List.take_succ_cons, List.take_zero, List.drop_succ_cons, List.drop_zero]
        repeat still_step
        refine wpStill_nil ?_
        go_wp2_with (refine wp_copyB (.tmp 42) (.tmp 45) slB rfl rfl rfl rfl hal hsD (oneCell_bvs D) (by omega) (fun _ => rfl) (by simp [zs8]) ?_; intro w6 hb6 hG6; refine wp_stop ?_)
        rw [splice_all _ _ (by simp [zs8, len_bvs, hDO.out])] at hb6
        have hzl2 := hz.lt
        have hxl2 := hx.lt
        have hz9l2 := hz9.lt
        have hz := hz.keep (hG6.block _ hz.lt (by intro h; injection h with h; omega))
        have hx := hx.keep (hG6.block _ hx.lt (by intro h; injection h with h; omega))
        have hz9 := hz9.keep (hG6.block _ hz9.lt (by intro h; injection h with h; omega))
        have hub := hub.keep (F' := fun b => w.heap.size ≤ b ∧ b ≠ g4) (fun b hb hF => ⟨⟨hF.1, hF.2.1⟩, hG6.block b hb (by intro h; injection h with h; have := hF.2.2; omega)⟩)
        have hup := hup.keep (F' := fun b => w.heap.size ≤ b ∧ b ≠ g4) (fun b hb hF => ⟨⟨hF.1, hF.2.1⟩, hG6.block b hb (by intro h; injection h with h; have := hF.2.2; omega)⟩)
        have hB := hB.grown hG6 hB.size (fun k hk => by injection hk with hk; omega)
        have heq := eqH D T hDO.out Htl.out
        clear hG6 hsD hsl hc1 hc2 hal
        by_cases hDT : D = T
        · have HR2 : Hid (r = .ok m) := by show _ = _; rw [HR.out, if_pos trivial, if_pos hDT.symm]
          rw [beq_iff_eq.2 hDT] at heq
          have Heq := hid heq
          clear hDT heq HR
          have heq := Heq.out
          refine wp_go ?_
          go_wp2_with (first | refine wp_ld 32 (.tmp 10) rfl rfl rfl hb6.whole und25 rfl (by rw [len_bvs, hDO.out]; exact size25) ?_ | refine wp_ld 32 (.tmp 9) rfl rfl rfl hz9.whole und25 rfl (by rw [len_bvs, Htl.out]; exact size25) ?_ | refine wp_ld 47 (.tmp 7) rfl rfl rfl hx.whole Tryz.underlying47 rfl (by rw [Hll.out]; exact sizeM) ?_ | refine wp_st 47 (.tmp 4) (.tmp 51) rfl rfl rfl (f := 0) rfl (l := l) rfl hz (by rw [len_zM, Hll.out]; omega) (by rw [Hll.out]; exact sizeM) Hl1.out ?_; intro w7 hz7 hG7; refine wp_stop ?_)
          rw [set_all _ _ (by rw [len_zM, Hll.out])] at hz7
          have hub := hub.keep (F' := fun b => w.heap.size ≤ b) (fun b hb hF => ⟨hF.1, hG7.block b hb (by intro h; injection h with h; exact hF.2 h)⟩)
          have hup := hup.keep (F' := fun b => w.heap.size ≤ b) (fun b hb hF => ⟨hF.1, hG7.block b hb (by intro h; injection h with h; exact hF.2 h)⟩)
          have hB := hB.grown hG7 hB.size (fun k hk => by injection hk with hk; omega)
          refine wp_go ?_
          go_wp2
          refine ret_cell1 rfl rfl rfl hz7.whole Tryz.underlying47 rfl (by rw [Hll.out]; exact sizeM) rfl ?_
          show ReadP w r _ _
          rw [HR2.out]
          exact ⟨⟨_, _, by unfold Mg.val; rw [← Hl.out]; rfl, hub, hup⟩, hB⟩
        · have HR2 : Hid (r = .error 5) := by show _ = _; rw [HR.out, if_pos trivial, if_neg (fun h => hDT h.symm)]
          rw [show (D == T) = false from beq_eq_false_iff_ne.2 hDT] at heq
          have Heq := hid heq
          clear hDT heq HR
          have heq := Heq.out
          refine wp_go ?_
          go_wp2_with (first | refine wp_ld 32 (.tmp 10) rfl rfl rfl hb6.whole und25 rfl (by rw [len_bvs, hDO.out]; exact size25) ?_ | refine wp_ld 32 (.tmp 9) rfl rfl rfl hz9.whole und25 rfl (by rw [len_bvs, Htl.out]; exact size25) ?_ | refine wp_bld 47 [] rfl rfl [] rfl hbl ?_ | refine wp_st 47 (.tmp 4) (.tmp 50) rfl rfl rfl (f := 0) rfl (l := zM) rfl hz (by rw [len_zM]; omega) (by rw [len_zM]; exact sizeM) one_zM8 ?_; intro w7 hz7 hG7; refine wp_stop ?_)
          rw [set_all _ _ rfl] at hz7
          have hB := hB.grown hG7 hB.size (fun k hk => by injection hk with hk; omega)
          refine wp_go ?_
          go_wp2
          refine ret_cell1 rfl rfl rfl hz7.whole Tryz.underlying47 rfl (by rw [len_zM]; exact sizeM) rfl ?_
          show ReadP w r _ _
          rw [HR2.out]
          exact ⟨rfl, hB⟩
      · have hne : ((EE : Int) != 0) = true := by rw [bne_iff_ne]; omega
        have HR2 : Hid (r = .error EE) := by show _ = _; rw [HR.out, if_neg he]
        go_wp2_with (first | refine wp_bld 47 [] rfl rfl [] rfl hbl ?_ | refine wp_st 47 (.tmp 4) (.tmp 40) rfl rfl rfl (f := 0) rfl (l := zM) rfl hz (by rw [len_zM]; omega) (by rw [len_zM]; exact sizeM) one_zM8 ?_; intro w4 hz4 hG4; refine wp_stop ?_)
        rw [set_all _ _ rfl] at hz4
        refine wp_go ?_
        go_wp2
        refine ret_cell1 rfl rfl rfl hz4.whole Tryz.underlying47 rfl (by rw [len_zM]; exact sizeM) rfl ?_
        show ReadP w r _ _
        rw [HR2.out]
        exact ⟨rfl, hB.grown hG4 hB.size (fun k hk => by injection hk with hk; omega)⟩
end Go.Proofs.YtnhhbbjkeekneaaGreatDoor
