/- W0: several texts in one (T5 Z1 W0). -/
import Derived.Test.YthbbpfnfnnmdnaaDoorT4
import Derived.Deep.DeepCutAuto
import Derived.Test.YthbbpfnfnnmdnaaDoorYG
import Derived.Test.YthbbpfnfnnmdnaaDoorV
/- T5: layer 3: contracts of the document's Tag and Derive. -/
namespace Go.V
open Go.RowKit
theorem xorB_snoc (m : UInt8) (k : List UInt8) (i : Nat) (x : UInt8) (h : k[i]? = some x) : bvs (xorB m (k.take i)) ++ [.int .u8 (bits BinOp.xor IntKind.u8 (x.toNat : Int) (m.toNat : Int))] = bvs (xorB m (k.take (i + 1))) := by
  obtain ⟨hi, he⟩ := List.getElem?_eq_some_iff.1 h
  rw [xor8_out, List.take_succ_eq_append_getElem hi, he]
  simp [bvs, xorB, byteV]
/-- rows of two variables in blocks apart -/
def Apt (a b : Value) : Prop := ∀ k, a.ownBlock = some k → b.ownBlock ≠ some k
theorem Apt.symm {a b : Value} (h : Apt a b) : Apt b a := fun k hk hb => h k hb hk
theorem apt_kept {a b : Value} (h : Apt a b) : b.ownBlock = none ∨ b.ownBlock ≠ a.ownBlock := by
  cases hb : b.ownBlock with
  | none => exact .inl rfl
  | some k => exact .inr (fun e => h k e.symm hb)
theorem Apt.step {a b a' : Value} {n : Nat} (h : Apt a b) (hat : a'.ownBlock = a.ownBlock ∨ ∃ g, a'.ownBlock = some g ∧ n ≤ g) (hb : ∀ k, b.ownBlock = some k → k < n) : Apt a' b := by
  intro k hk hkb
  rcases hat with e | ⟨g, e, hg⟩
  · exact h k (e.symm.trans hk) hkb
  · rw [e] at hk
    injection hk with hk
    have := hb k hkb
    omega
theorem app_z (p : List UInt8) (j : Nat) : bvs (p ++ List.replicate j 0) ++ [.int .u8 0] = bvs (p ++ List.replicate (j + 1) 0) := by
  simp [bvs, List.replicate_succ', byteV]
end Go.V
namespace Go.Proofs.YthbbpfnfnnmdnaaDoor
open Go.RowKit Go.V
set_option maxRecDepth 100000 in
set_option maxHeartbeats 2000000 in
theorem rtag_any (kv tv : Value) (key text : List UInt8) (F G : Nat → Prop) (w : World) (hk : Rd w F kv (bys key)) (ht : Rd w G tv (bys text)) (hn : key.length ≤ 17592186044416) (hm : text.length ≤ 17000000000000) :
    Calls Tryd.prog 70 #[kv, tv] w fun e w' => e = .returned (.agg (bvs (tagF key text)).toArray) ∧ Below w.heap.size w w' := by
  obtain ⟨A, c, rfl⟩ := hk.shape
  obtain ⟨A2, c2, rfl⟩ := ht.shape
  have hz := Blk.new' w 41 (zs8 32)
  have hB := (Below.refl w.heap.size w).alloc (Nat.le_refl _) (.cells (zs8 32).toArray 41)
  have hk1 := hk.below hB
  have ht1 := (ht.weak (F' := fun b => b < w.heap.size) (fun b hb _ => hb)).below hB
  have hs0 : w.heap.size < (w.alloc (.cells (zs8 32).toArray 41)).heap.size := by simp
  obtain ⟨w0, hw0⟩ : ∃ w0, w0 = w.alloc (.cells (zs8 32).toArray 41) := ⟨_, rfl⟩
  obtain ⟨p, hp⟩ : ∃ p, p = if 64 < key.length then shaF key else key := ⟨_, rfl⟩
  have hpl := key_le key p hp
  have hkf := keyF_of key p hp
  have Hp := hid hp
  have Hkf := hid hkf
  clear hp hkf
  rw [← hw0] at hz hB hk1 ht1 hs0
  have H0 := hid hw0
  clear hw0
  have hnil : w0.ownsRow (w.heap.size + 1) 5 1 (.slice none 0 0) 0 [] := World.ownsRow_nil _ _ _ _
  have ht6 := ht1
  go_enter Tryd.func70, Tryd.ntmps70
  go_upto_if 11 with (refine wp_new 41 rfl rfl zero25 ?_; rw [← H0.out]; refine wp_stop ?_; refine wp_go ?_)
  go_cut [5] (fun s5 wx => wx.ownsRow (w.heap.size + 1) 5 1 s5 p.length (bvs p) ∧ Below w0.heap.size w0 wx)
  case first =>
    by_cases h6 : 64 < key.length
    · have Hpe : Hid (p = shaF key) := by show _ = _; rw [Hp.out, if_pos h6]
      have hpl2 : Hid (p.length = 32) := by show _ = _; rw [Hpe.out]; exact len_sha key
      go_wp2_with (fail)
      refine (rsum_any _ key _ _ hk1 (by omega)).mono ?_
      rintro e w1 ⟨rfl, hB1⟩
      rw [← Hpe.out]
      go_wp2_with (fail)
      refine (rbytes_any p _ hpl2.out).mono ?_
      rintro e w2 ⟨v2, rfl, hn2⟩
      have hB2 := hB1.trans (hn2.2.mono hB1.size)
      have hs2 := hB2.size
      obtain ⟨Av, cv, rfl⟩ := hn2.rd.shape
      have hnil2 : w2.ownsRow (w.heap.size + 1) 5 1 (.slice none 0 0) 0 [] := World.ownsRow_nil _ _ _ _
      go_wp2_with (refine wp_app (.tmp 12) (.tmp 15) slB rfl rfl rfl hnil2 rfl hn2.rd.src (oneCell_bvs p) (by simp only [maxLen]; omega) (by omega) (by omega) ?_; intro v3 w3 ho3 hG3 _)
      go_wp2
      go_meet
      rw [List.nil_append, Nat.zero_add] at ho3
      exact ⟨ho3, hB2.grown hG3 hB2.size (fun k hk => by cases hk)⟩
    · have Hpe : Hid (p = key) := by show _ = _; rw [Hp.out, if_neg h6]
      go_wp2_with (refine wp_app (.tmp 17) (.tmp 18) slB rfl rfl rfl hnil rfl hk1.src (oneCell_bvs key) (by simp only [maxLen]; omega) (by omega) (by omega) ?_; intro v3 w3 ho3 hG3 _)
      go_wp2
      go_meet
      rw [List.nil_append, Nat.zero_add] at ho3
      rw [Hpe.out]
      exact ⟨ho3, (Below.refl _ _).grown hG3 (Nat.le_refl _) (fun k hk => by cases hk)⟩
  case rest =>
    obtain ⟨ho, hB1⟩ := hcut
    have hBw : Below w.heap.size w wc := hB.trans (hB1.mono hB.size)
    have hz1 := hz.below hB1
    have ht2 := ht1.below hB1
    have hs1 := hB1.size
    clear hk1 ht1 H0 hnil hz hB ht6 hk ht hB1
    go_wp2_with (fail)
    go_loopw [5] (fun kv wr => ∃ j : Nat, p.length + j ≤ 64 ∧ wr.ownsRow (w.heap.size + 1) 5 1 kv (p.length + j) (bvs (p ++ List.replicate j 0)) ∧ Blk wr w.heap.size 41 (zs8 32) ∧ Rd wr (fun b => b < w.heap.size) (.slice A2 text.length c2) (bys text) ∧ Below w.heap.size w wr ∧ w.heap.size < wr.heap.size) (fun kv _ => 64 - lenV kv)
    case atStart => exact ⟨0, by omega, by simpa using ho, hz1, ht2, hBw, by omega⟩
    case round =>
      obtain ⟨j, hj, ho, hz, ht, hB, hs⟩ := hrel
      obtain ⟨M, hM⟩ : ∃ M, M = p.length + j := ⟨_, rfl⟩
      rw [← hM] at ho hj
      obtain ⟨Ak, ck, rfl⟩ := own_shape ho
      have HM := hid hM
      by_cases hlt : M < 64
      · have hsn := hid (app_z p j)
        clear hM
        go_wp2_with (refine wp_push (.tmp 23) (.const (.int .u8 0)) 24 slB rfl rfl rfl rfl rfl (u := .int .u8 0) rfl rfl rfl (by simp) rfl ho (by simp only [maxLen]; omega) (by omega) (by omega) ?_; intro v3 w3 ho3 hG3 _)
        rw [hsn.out] at ho3
        go_wp2
        obtain ⟨A3, c3, rfl⟩ := own_shape ho3
        have hz3 := hz.keep (hG3.block _ hz.lt (fun e => by have := (ho.lt _ e.symm).1; omega))
        have ht3 := ht.keep (F' := fun b => b < w.heap.size) (fun b hb hf => ⟨hf, hG3.block b hb (fun e => by have := (ho.lt _ e.symm).1; omega)⟩)
        have hB3 := hB.grown hG3 hB.size (fun k hk => by have := (ho.lt k hk).1; omega)
        have hs3 := hG3.size
        rw [show M + 1 = p.length + (j + 1) from by rw [HM.out]; omega] at ho3 ⊢
        exact ⟨⟨j + 1, by have := HM.out; omega, ho3, hz3, ht3, hB3, by omega⟩, by have := HM.out; simp [lenV]; omega⟩
      · have h64 : M = 64 := by omega
        have hkb : p ++ List.replicate j 0 = keyF key := by rw [Hkf.out]; congr 2; omega
        subst h64
        rw [hkb] at ho
        obtain ⟨k, hkk⟩ : ∃ k, k = keyF key := ⟨_, rfl⟩
        have hkl : Hid (k.length = 64) := by show _ = _; rw [hkk]; exact len_key key
        have Hk := hid hkk
        rw [← hkk] at ho
        have hkr := (Rd.of_own ho).weak (F' := fun b => w.heap.size < b ∧ b < wr.heap.size) (fun b hb hf => ⟨by have : w.heap.size + 1 ≤ b := hf; omega, hb⟩)
        clear hkk hkb hM ho
        have hin := World.ownsRow_nil wr wr.heap.size 5 1
        go_wp2_with (fail)
        go_loopw [6, 7, 8] (fun iv ov nv W => ∃ i : Nat, i ≤ 64 ∧ nv = .int .i64 i ∧ W.ownsRow wr.heap.size 5 1 iv i (bvs (xorB 0x36 (k.take i))) ∧ W.ownsRow wr.heap.size 5 1 ov i (bvs (xorB 0x5c (k.take i))) ∧ Apt iv ov ∧ Below wr.heap.size wr W) (fun _ _ nv _ => 64 - (intOf nv).toNat)
        case atStart => exact ⟨0, by omega, rfl, hin, hin, (fun b h => by cases h), Below.refl _ _⟩
        case round =>
          obtain ⟨i, hi, rfl, hoi, hoo, hap, hB2⟩ := hrel
          by_cases hil : i < 64
          · obtain ⟨x, hx⟩ : ∃ x, k[i]? = some x := ⟨_, List.getElem?_eq_getElem (by rw [hkl.out]; exact hil)⟩
            have hs1 : Hid (bvs (xorB 0x36 (k.take i)) ++ [.int .u8 (bits BinOp.xor IntKind.u8 (x.toNat : Int) 54)] = bvs (xorB 0x36 (k.take (i + 1)))) := xorB_snoc 0x36 k i x hx
            have hs2 : Hid (bvs (xorB 0x5c (k.take i)) ++ [.int .u8 (bits BinOp.xor IntKind.u8 (x.toNat : Int) 92)] = bvs (xorB 0x5c (k.take (i + 1)))) := xorB_snoc 0x5c k i x hx
            have hkW := hkr.below hB2
            obtain ⟨gk, ok, rfl, hgk, hck⟩ := hkW.byteAt i (by rw [hkl.out]; exact hil)
            rw [show k[i]'(by rw [hkl.out]; exact hil) = x from (List.getElem?_eq_some_iff.1 hx).2] at hck
            have hx2 : Hid (k[i]'(by rw [hkl.out]; exact hil) = x) := (List.getElem?_eq_some_iff.1 hx).2
            clear hx
            have hbs := hB2.size
            go_wp2_with (refine wp_push (.tmp 30) (.tmp 35) 36 slB rfl rfl rfl rfl rfl (u := .int .u8 (bits BinOp.xor IntKind.u8 (x.toNat : Int) 54)) rfl rfl rfl (by simp) rfl hoi (by simp only [maxLen]; omega) (by omega) (by omega) ?_; intro v3 W3 ho3 hG3 hat3; refine wp_stop ?_)
            rw [hs1.out] at ho3
            have hB3 := hB2.grown hG3 hbs (fun k hk => (hoi.lt k hk).1)
            have hoo3 := hoo.kept hG3 (apt_kept hap)
            have hap3 := hap.step hat3 (fun b hb => (hoo.lt b hb).2)
            have hkW := hkr.below hB3
            obtain ⟨gk', ok', he, hgk', hck'⟩ := hkW.byteAt i (by rw [hkl.out]; exact hil)
            injection he with he
            injection he with he1 he2
            subst he1 he2
            rw [hx2.out] at hck'
            have hbs3 := hB3.size
            clear hkW hgk hgk' hck
            refine wp_go ?_
            go_wp2_with (refine wp_push (.tmp 38) (.tmp 43) 44 slB rfl rfl rfl rfl rfl (u := .int .u8 (bits BinOp.xor IntKind.u8 (x.toNat : Int) 92)) rfl rfl rfl (by simp) rfl hoo3 (by simp only [maxLen]; omega) (by omega) (by omega) ?_; intro v4 W4 ho4 hG4 hat4; refine wp_stop ?_)
            rw [hs2.out] at ho4
            have hB4 := hB3.grown hG4 hbs3 (fun k hk => (hoo3.lt k hk).1)
            have hoi4 := ho3.kept hG4 (apt_kept hap3.symm)
            have hap4 : Apt v4 v3 := hap3.symm.step hat4 (fun b hb => (ho3.lt b hb).2)
            refine wp_go ?_
            go_wp2
            exact ⟨⟨i + 1, by omega, by go_num, hoi4, ho4, hap4.symm, hB4⟩, by simp [intOf]; omega⟩
          · have h64 : i = 64 := by omega
            subst h64
            rw [List.take_of_length_le (by rw [hkl.out]; exact Nat.le_refl _)] at hoi hoo
            have htW := ht.below hB2
            have hzW := hz.below hB2
            have hbs := hB2.size
            have hBW := hB.trans (hB2.mono hB.size)
            obtain ⟨i1, hi1⟩ : ∃ i1, i1 = xorB 0x36 k := ⟨_, rfl⟩
            obtain ⟨i2, hi2⟩ : ∃ i2, i2 = xorB 0x5c k := ⟨_, rfl⟩
            have hl1 : Hid (i1.length = 64) := by show _ = _; rw [hi1, len_xorB, hkl.out]
            have hl2 : Hid (i2.length = 64) := by show _ = _; rw [hi2, len_xorB, hkl.out]
            rw [← hi1] at hoi
            rw [← hi2] at hoo
            have Hi1 := hid hi1
            have Hi2 := hid hi2
            clear hi1 hi2 hkr ht hz hB2
            go_wp2_with (refine wp_app (.tmp 46) (.tmp 47) slB rfl rfl rfl hoi rfl htW.src (oneCell_bvs text) (by simp only [maxLen]; omega) (by omega) (by omega) ?_; intro v3 W3 ho3 hG3 hat3; refine wp_stop ?_)
            have hB3 := hBW.grown hG3 hBW.size (fun k hk => by have := (hoi.lt k hk).1; omega)
            have hoo3 := hoo.kept hG3 (apt_kept hap)
            have hz3 := hzW.keep (hG3.block _ hzW.lt (fun e => by have := (hoi.lt _ e.symm).1; omega))
            rw [show bvs i1 ++ bvs text = bvs (i1 ++ text) from by simp [bvs]] at ho3
            have hin3 := Rd.of_own ho3
            obtain ⟨A3, c3, rfl⟩ := own_shape ho3
            clear hap ho3 hoi hoo
            have hbs3 := hB3.size
            have hbs3' := hG3.size
            refine wp_go ?_
            go_wp2_with (fail)
            refine (rsum_any _ (i1 ++ text) _ _ hin3 (by rw [List.length_append, hl1.out]; omega)).mono ?_
            rintro e w5 ⟨rfl, hB5⟩
            obtain ⟨d, hd⟩ : ∃ d, d = shaF (i1 ++ text) := ⟨_, rfl⟩
            rw [← hd]
            have hdl : Hid (d.length = 32) := by show _ = _; rw [hd]; exact len_sha _
            have Hd := hid hd
            clear hd
            go_wp2_with (fail)
            refine (rbytes_any d _ hdl.out).mono ?_
            rintro e w6 ⟨v6, rfl, hn6⟩
            have hB6 := hB5.trans (hn6.2.mono hB5.size)
            have hB6' := hB3.trans (hB6.mono hB3.size)
            have hoo6 := own_keepB hoo3 hB6
            have hz6 := hz3.below hB6
            have hsrc := hn6.rd
            obtain ⟨A6, c6, rfl⟩ := hn6.rd.shape
            have hsrc := hsrc.src
            have hbs6 := hB6.size
            have hdl2 := hdl.out
            obtain ⟨D, hD⟩ : ∃ D, D = d.length := ⟨_, rfl⟩
            rw [← hD] at hsrc hdl2 ⊢
            have HD := hid hD
            subst hdl2
            clear hD
            go_wp2_with (refine wp_app (.tmp 49) (.tmp 52) slB rfl rfl rfl hoo6 rfl hsrc (oneCell_bvs d) (by simp [maxLen]) (by omega) (by omega) ?_; intro v7 W7 ho7 hG7 hat7; refine wp_stop ?_)
            have hB7 := hB6'.grown hG7 hB6'.size (fun k hk => by have := (hoo6.lt k hk).1; omega)
            have hz7 := hz6.keep (hG7.block _ hz6.lt (fun e => by have := (hoo6.lt _ e.symm).1; omega))
            rw [show bvs i2 ++ bvs d = bvs (i2 ++ d) from by simp [bvs]] at ho7
            have hin7 := Rd.of_own ho7
            obtain ⟨A7, c7, rfl⟩ := own_shape ho7
            refine wp_go ?_
            go_wp2_with (fail)
            refine (rsum_any _ (i2 ++ d) _ _ hin7 (by rw [List.length_append, hl2.out, ← HD.out]; omega)).mono ?_
            rintro e w8 ⟨rfl, hB8⟩
            obtain ⟨r, hr⟩ : ∃ r, r = shaF (i2 ++ d) := ⟨_, rfl⟩
            rw [← hr]
            have hrl : Hid (r.length = 32) := by show _ = _; rw [hr]; exact len_sha _
            have Hr := hid hr
            clear hr
            have hz8 := hz7.below hB8
            have hB8' := hB7.trans (hB8.mono hB7.size)
            go_wp2_with (refine wp_st 41 (.tmp 4) (.tmp 55) rfl rfl rfl (f := 0) rfl (l := bvs r) rfl hz8 (by simp [zs8, len_bvs, hrl.out]) (by rw [len_bvs, hrl.out]; exact size25) (oneCell_bvs _) ?_; intro w10 hb10 hG10)
            rw [set25 _ hrl.out] at hb10
            refine ret_cell rfl rfl hb10.whole und25 rfl (by rw [len_bvs, hrl.out]; exact size25) rfl ?_
            refine ⟨?_, hB8'.grown hG10 hB8'.size (by intro k hk; injection hk with hk; omega)⟩
            unfold tagF
            rw [← Hk.out, ← Hi1.out, ← Hi2.out, ← Hd.out, ← Hr.out]
end Go.Proofs.YthbbpfnfnnmdnaaDoor
/- Z1: layer 9: seals as lists; long; the document's Seal. -/
namespace Go.Proofs.YthbbpfnfnnmdnaaDoor
open Go.RowKit Go.V
/-- the seal of m's sender -/
def keyOf (ks : List (List UInt8)) (m : Mg) : List UInt8 := ks.getD m.f.toNat []
def errS (ks : List (List UInt8)) (m : Mg) : Nat := if errG m = 0 then (if (ks.length : Int) ≤ m.f then 6 else 0) else errG m
def slS (ks : List (List UInt8)) (m : Mg) : List UInt8 := Mg.by m ++ tagF (keyOf ks m) (Mg.by m)
/-- what sealed bytes open to -/
def opR (ks : List (List UInt8)) (X : List UInt8) : Except Nat Mg :=
  if X.length < 32 then .error 1 else if 65504 < X.length - 32 then .error 4 else match rdM (X.take (X.length - 32)) with
    | .error e => .error e
    | .ok m => if (ks.length : Int) ≤ m.f then .error 6 else if tagF (keyOf ks m) (X.take (X.length - 32)) = X.drop (X.length - 32) then .ok m else .error 5
theorem errG_bd {m : Mg} (he : errG m = 0) : m.ps.length ≤ 16 ∧ (Mg.by m).length ≤ 65504 ∧ numB m = true := by
  unfold errG at he
  split at he
  · cases he
  · split at he
    · exact ⟨by omega, by omega, by assumption⟩
    · cases he
theorem part_le : ∀ (ps : List (List UInt8)) (t : List UInt8), t ∈ ps → t.length ≤ (ps.flatMap tb1).length
  | p :: ps, t, h => by
    rw [List.flatMap_cons, List.length_append]
    rcases List.mem_cons.1 h with rfl | h
    · unfold tb1; rw [List.length_append]; omega
    · have := part_le ps t h; omega
theorem body_le {m : Mg} (hh : m.h.length = 32) (h : (Mg.by m).length ≤ 65504) : m.b.length ≤ 65536 ∧ ∀ t ∈ m.ps, t.length ≤ 65536 := by
  rw [len_by2 hh] at h
  exact ⟨by omega, fun t ht => by have := part_le m.ps t ht; omega⟩
theorem rdM_by {m : Mg} (hh : m.h.length = 32) (he : errG m = 0) : rdM (Mg.by m) = .ok m := by
  obtain ⟨h1, h2, h3⟩ := errG_bd he
  obtain ⟨h4, h5⟩ := body_le hh h2
  have := rdM_put hh h3 h4 h1 h5 []
  rwa [List.append_nil, if_pos rfl] at this
theorem errS_0 {ks : List (List UInt8)} {m : Mg} (h : errS ks m = 0) : errG m = 0 ∧ m.f < (ks.length : Int) := by
  unfold errS at h
  split at h
  · split at h
    · cases h
    · exact ⟨by assumption, by omega⟩
  · exact absurd h (by assumption)
/-- what any 32 bytes behind a message's open to -/
theorem op_at {ks : List (List UInt8)} {m : Mg} (hh : m.h.length = 32) (he : errS ks m = 0) (T : List UInt8) (hT : T.length = 32) : opR ks (Mg.by m ++ T) = if tagF (keyOf ks m) (Mg.by m) = T then .ok m else .error 5 := by
  obtain ⟨hg, hf⟩ := errS_0 he
  have hl := (errG_bd hg).2.1
  have hn : (Mg.by m ++ T).length - 32 = (Mg.by m).length := by rw [List.length_append, hT]; omega
  unfold opR
  rw [if_neg (by rw [List.length_append, hT]; omega), hn, if_neg (by omega), List.take_left, List.drop_left, rdM_by hh hg]
  dsimp only
  rw [if_neg (by omega)]
theorem op_sl {ks : List (List UInt8)} {m : Mg} (hh : m.h.length = 32) (he : errS ks m = 0) : opR ks (slS ks m) = .ok m := by
  unfold slS
  rw [op_at hh he _ (len_tag _ _), if_pos rfl]
theorem errS_num {m : Mg} (h : numB m = true) : 0 ≤ m.f ∧ m.f ≤ 15 := by
  unfold numB at h
  have := of_decide_eq_true h
  omega
theorem key_at {ks : List (List UInt8)} {m : Mg} {n : Nat} (hf : m.f = (n : Int)) (hn : n < ks.length) : ks[n]? = some (keyOf ks m) := by
  unfold keyOf
  rw [hf, Int.toNat_natCast, List.getD_eq_getElem?_getD, List.getElem?_eq_getElem hn]
  rfl
structure KsSm (ks : List (List UInt8)) : Prop where
  n : ks.length ≤ 1000000
  t : ∀ k ∈ ks, k.length ≤ 1000000
theorem KsSm.key {ks : List (List UInt8)} (h : KsSm ks) (m : Mg) : (keyOf ks m).length ≤ 1000000 := by
  unfold keyOf
  rw [List.getD_eq_getElem?_getD]
  cases hk : ks[m.f.toNat]? with
  | none => simp
  | some k => exact h.t k (List.mem_of_getElem? hk)
end Go.Proofs.YthbbpfnfnnmdnaaDoor
/- W0: layer 6: the bits of a mask as a list; what two sets share. -/
namespace Go.V
/-- the bits of a mask, from the lowest on -/
def mbit (M i : Nat) : Bool := decide (M / 2 ^ i % 2 = 1)
def memL (M n : Nat) : List Nat := (List.range n).filter (mbit M)
theorem mem_succ (M n : Nat) : memL M (n + 1) = memL M n ++ (if mbit M n then [n] else []) := by
  unfold memL
  rw [List.range_succ, List.filter_append]
  congr 1
  simp [List.filter_cons]
theorem mem_len_le (M n : Nat) : (memL M n).length ≤ n := by
  unfold memL
  have := List.length_filter_le (mbit M) (List.range n)
  simpa using this
theorem mem_iff (M n i : Nat) : i ∈ memL M n ↔ i < n ∧ mbit M i = true := by
  unfold memL
  simp [List.mem_filter]
theorem mbit_test (M i : Nat) : mbit M i = M.testBit i := by
  unfold mbit
  rw [Nat.testBit_eq_decide_div_mod_eq]
end Go.V
