/- Z5: layer 9: the law SealsTag. -/
import Derived.Test.YtacjijhpbeegbaaDoorZ4
namespace Go.V
open Go.RowKit
/-- an own row of bytes, its block known whole -/
theorem own_open {w : World} {base : Nat} {e : TypeId} {v : Value} {X : List UInt8} (h : w.ownsRow base e 1 v X.length (bvs X)) (hn : 0 < X.length) : ∃ g cap cs, v = .slice (some ⟨g, 0, none⟩) X.length cap ∧ base ≤ g ∧ Blk w g e cs ∧ X.length ≤ cap ∧ cap ≤ maxLen ∧ cs.length = cap ∧ cs.take X.length = bvs X := by
  rcases h.2 with ⟨_, h0⟩ | ⟨g, cap, cur, rfl, hg, hh, h1, h2, h3, h4⟩
  · omega
  · exact ⟨g, cap, cur.toList, rfl, hg, hh, h1, h2, by simpa using h3, by simpa using h4⟩
theorem rd_set {w : World} {g cap : Nat} {e : TypeId} {cs : List Value} {X : List UInt8} (k : Nat) (c : UInt8) (hb : Blk w g e (cs.set k (byteV c))) (hc : cs.length = cap) (h1 : X.length ≤ cap) (h2 : cap ≤ maxLen) (ht : cs.take X.length = bvs X) {F : Nat → Prop} (hF : F g) : Rd w F (.slice (some ⟨g, 0, none⟩) X.length cap) (bys (X.set k c)) := by
  have ho : w.ownsRow g e 1 (.slice (some ⟨g, 0, none⟩) X.length cap) X.length (bvs (X.set k c)) := by
    refine ⟨by simp [bvs], .inr ⟨g, cap, (cs.set k (byteV c)).toArray, rfl, Nat.le_refl _, hb, h1, h2, by simp [hc], ?_⟩⟩
    have e1 : (cs.set k (byteV c)).take X.length = (cs.take X.length).set k (byteV c) := by rw [List.take_set]
    have e2 : bvs (X.set k c) = (bvs X).set k (byteV c) := by unfold bvs; rw [List.map_set]
    simp only [Nat.mul_one]
    rw [e1, ht, e2]
  have hl : (X.set k c).length = X.length := by simp
  have ho2 : w.ownsRow g e 1 (.slice (some ⟨g, 0, none⟩) X.length cap) (X.set k c).length (bvs (X.set k c)) := by rw [hl]; exact ho
  unfold bys Rd
  refine ⟨_, cap, by rw [hl], by rw [hl]; exact h1, h2, fun h0 => by rw [List.eq_nil_of_length_eq_zero h0]; rfl, fun _ => ⟨g, 0, rfl, hF, RdC.of_bytes fun j u hu => ?_⟩⟩
  have := ho.cells (g := g) rfl j u hu
  rw [add_mk] at this
  exact this
end Go.V
namespace Go.Proofs.YtacjijhpbeegbaaDoor
open Go.RowKit Go.V
theorem set_back {P T : List UInt8} (j : Nat) (c : UInt8) : (P ++ T).set (P.length + j) c = P ++ T.set j c := by
  rw [List.set_append_right _ _ (by omega), Nat.add_sub_cancel_left]
theorem xor_ne (c x : UInt8) (hx : x ≠ 0) : c ^^^ x ≠ c := by
  intro h
  apply hx
  have : c ^^^ (c ^^^ x) = c ^^^ c := by rw [h]
  rwa [← UInt8.xor_assoc, UInt8.xor_self, UInt8.zero_xor] at this
theorem set_ne {T : List UInt8} (j : Nat) (c x : UInt8) (hj : T[j]? = some c) (hx : x ≠ 0) : T ≠ T.set j (c ^^^ x) := by
  intro h
  have h1 : (T.set j (c ^^^ x))[j]? = some (c ^^^ x) := by
    rw [List.getElem?_set_self]
    exact (List.getElem?_eq_some_iff.1 hj).1
  rw [← h, hj] at h1
  injection h1 with h1
  exact xor_ne c x hx h1.symm
set_option maxRecDepth 100000 in
set_option maxHeartbeats 4000000 in
theorem sealsTag_law (a : List UInt8) (m : Mg) (n : Nat) (va ub up : Value) (Fa F1 F2 : Nat → Prop) (w : World) (hKS : KS w) (hm : MgIn m) (hn : n < 65536) (ha : Rd w Fa va (bys a)) (hub : Rd w F1 ub (bys m.b)) (hup : Rd w F2 up (tx m.ps)) :
    Calls Tryd.prog 5 #[va, m.val ub up, .int .u16 (n : Int)] w fun e w' => e = .returned (.bool true) ∧ Below w.heap.size w w' := by
  have hh := hm.h
  have hk0 := hKS.lt
  have hlong := fun F1 F2 W h1 h2 => long8_any m ub up W hh F1 F2 h1 h2
  obtain ⟨Aa, ca, rfl⟩ := ha.shape
  obtain ⟨AB, cb, rfl⟩ := hub.shape
  obtain ⟨AP, cpp, rfl, _, _⟩ := hup.slShape
  have ha := ha.weak (F' := fun b => b < w.heap.size) (fun b h _ => h)
  have hub := hub.weak (F' := fun b => b < w.heap.size) (fun b h _ => h)
  have hup := hup.weak (F' := fun b => b < w.heap.size) (fun b h _ => h)
  unfold Mg.val at hlong ⊢
  have hmn := len_mg hh (.slice AB m.b.length cb) (.slice AP m.ps.length cpp)
  have hz := mz_l m (.slice AB m.b.length cb) (.slice AP m.ps.length cpp)
  obtain ⟨l, hl⟩ : ∃ l, l = m.l (.slice AB m.b.length cb) (.slice AP m.ps.length cpp) := ⟨_, rfl⟩
  rw [← hl] at hlong hmn hz ⊢
  have Hmn := hid hmn
  have Hz := hid hz
  clear hl hmn hz
  have hvb := Blk.new' w 27 l
  have hB : Below w.heap.size w (w.alloc (.cells l.toArray 27)) := (Below.refl _ _).alloc (Nat.le_refl _) _
  have ha := ha.below hB
  have hub := hub.below hB
  have hup := hup.below hB
  have hKS := hKS.below hB
  go_enter Tryd.func5, Tryd.ntmps5
  go_wp2_with (fail)
  refine (wakes9_any _ hKS).mono ?_
  rintro e w1 ⟨rfl, hB1⟩
  have hvb := hvb.below hB1
  have ha := ha.below hB1
  have hub := hub.below hB1
  have hup := hup.below hB1
  have hKS := hKS.below hB1
  have hB := hB.trans (hB1.mono hB.size)
  obtain ⟨g, hg⟩ : ∃ g, g = w.heap.size := ⟨_, rfl⟩
  rw [← hg] at hvb ⊢
  have hgw : w.heap.size ≤ g := by omega
  clear hg hB1
  have Hlong := hid hlong
  clear hlong
  by_cases h1 : 200 < a.length
  · have h1I : (200 : Int) < (a.length : Int) := by omega
    go_wp2
    go_ret
    exact ⟨rfl, hB⟩
  have h1I : ¬ (200 : Int) < (a.length : Int) := by omega
  have h1d : decide ((200 : Int) < (a.length : Int)) = false := decide_eq_false h1I
  go_wp2_with (refine wp_ldg 27 (.tmp 4) (by rfl) rfl rfl hvb.whole Tryd.underlying27 rfl (by rw [Hmn.out]; exact sizeM) ?_)
  refine (Hlong.out _ _ _ hub hup).mono ?_
  rintro e w2 ⟨rfl, hB2⟩
  have hvb := hvb.below hB2
  have ha := ha.below hB2
  have hub := hub.below hB2
  have hup := hup.below hB2
  have hKS := hKS.below hB2
  have hB := hB.trans (hB2.mono hB.size)
  clear hB2 Hlong h1I h1d
  cases hlg : longB m with
  | true =>
    go_wp2
    go_ret
    exact ⟨rfl, hB⟩
  | false =>
    have hin := mz_in hm
    have hlg : longB m.z = false := hlg
    have hmb : m.b = m.z.b := rfl
    have hmp : m.ps = m.z.ps := rfl
    have hf : m.z.f = 0 := rfl
    rw [hmb] at hub
    rw [hmp] at hup
    have hzl := Hz.out
    rw [hmb, hmp] at hzl
    obtain ⟨M, hM⟩ : ∃ M, M = m.z := ⟨_, rfl⟩
    rw [← hM] at hin hlg hf hub hup hzl
    have hMh := hin.h
    have hps : M.ps.length ≤ 1000000 := by have := (long_bd hlg).2.1; omega
    have hsm : MgSm M := by
      obtain ⟨h1, h2, h3⟩ := long_bd hlg
      exact ⟨by omega, by omega, fun t ht => by have := h3 t ht; omega⟩
    have hPl := len_by hMh hlg
    have hka : KsSm [a] := ⟨by simp, by intro k hk; simp at hk; subst hk; omega⟩
    have hsa : slS [a] M = Mg.by M ++ tagF a (Mg.by M) := by unfold slS; rw [keyOf_one hf]
    have hea : errS [a] M = errG M := errS_one hf
    have hse := fun va (F F1 F2 : Nat → Prop) W h0 h h1 h2 => seal9_any [a] M va (.slice none 0 0) (.slice AB M.b.length cb) (.slice AP M.ps.length cpp) F F1 F2 W h0 hin hsm hka h h1 h2
    have hso := fun Z va v (F G : Nat → Prop) W h0 h hv hl => open9_any [a] Z va (.slice none 0 0) v F G W h0 hka h hv hl
    rw [hea] at hse
    obtain ⟨T, hT⟩ : ∃ T, T = tagF a (Mg.by M) := ⟨_, rfl⟩
    have hTl : T.length = 32 := by rw [hT]; exact len_tag _ _
    rw [← hT] at hsa
    have hop : ∀ j c x, errG M = 0 → T[j]? = some c → x ≠ 0 → opR [a] (Mg.by M ++ T.set j (c ^^^ x)) = .error 5 := fun j c x h hj hx => by
      rw [op_at (ks := [a]) (m := M) hMh (by rw [hea]; exact h) _ (by rw [List.length_set]; exact hTl), keyOf_one hf, ← hT, if_neg (set_ne j c x hj hx)]
    rw [hsa] at hse
    obtain ⟨E, hE⟩ : ∃ E, E = errG M := ⟨_, rfl⟩
    obtain ⟨P, hP⟩ : ∃ P, P = Mg.by M := ⟨_, rfl⟩
    rw [← hE, ← hP] at hse hop
    rw [← hP] at hPl
    unfold Mg.val at hse
    have hln := fun u v => len_mg hMh u v
    obtain ⟨lz, hlz⟩ : ∃ lz, lz = M.l (.slice AB M.b.length cb) (.slice AP M.ps.length cpp) := ⟨_, rfl⟩
    rw [← hlz] at hse hzl
    have hlzn : lz.length = 39 := by rw [hlz]; exact hln _ _
    have Hse := hid hse
    have Hso := hid hso
    have Hop := hid hop
    have Hzl := hid hzl
    have Hlzn := hid hlzn
    have HTl := hid hTl
    clear hse hso hop hzl hlzn hln hlz hM hE hP hT hea hsa hmb hmp hf hlg hTl
    go_wp2_with (refine wp_st1 3 (.tmp 22) (.const (.int .i64 0)) rfl rfl rfl (f := 1) rfl (v := .int .i64 0) rfl hvb (by rw [Hmn.out]; omega) sizeI8 rfl rfl ?_; intro w3 hvb3 hG3; refine wp_stop ?_)
    rw [Hzl.out] at hvb3
    have hkg : ∀ q, q < w2.heap.size → q < w.heap.size → q < w.heap.size ∧ w3.heap[q]? = w2.heap[q]? := fun q hq h => ⟨h, hG3.block q hq (by intro e; injection e with e; omega)⟩
    have ha := ha.keep hkg
    have hub := hub.keep hkg
    have hup := hup.keep hkg
    have hB3 := hB.grown hG3 hB.size (by intro k hk; injection hk with hk; omega)
    have hKS : KS w3 := hKS.keep (hG3.block _ hKS.lt (by intro e; injection e with e; omega))
    have hvb := hvb3
    have hB := hB3
    clear hvb3 hB3 hkg hG3
    refine wp_go ?_
    go_wp2_with (refine wp_bsl slBB8 (.tmp 23) rfl rfl (u := .slice Aa a.length ca) rfl rfl ?_; intro w4 hx4 hB4; refine wp_stop ?_)
    have hka4 := tx_one (F := fun b => b < w4.heap.size) hx4 hx4.lt ((ha.below hB4).weak (F' := fun b => b < w4.heap.size) (fun b h _ => h))
    have hvb := hvb.below hB4
    have hub := hub.below hB4
    have hup := hup.below hB4
    have hKS := hKS.below hB4
    have hB := hB.trans (hB4.mono hB.size)
    obtain ⟨g4, hg4⟩ : ∃ g, g = w3.heap.size := ⟨_, rfl⟩
    rw [← hg4] at hka4 ⊢
    clear hg4 hB4 hx4 ha
    refine wp_go ?_
    go_wp2_with (first | refine wp_bld 33 [(0, .tmp 24)] rfl rfl [(0, .slice (some ⟨g4, 0, none⟩) 1 1)] rfl (bld9K _ _ _) ?_ | refine wp_newst 33 7 (.tmp 25) rfl rfl rfl rfl rfl rfl zeroKeys (l := [.slice (some ⟨g4, 0, none⟩) 1 1, .slice none 0 0]) rfl rfl sizeKeys one_keys (by simp [Act.put]) ?_; intro w5 hkb hB5 hs5; refine wp_stop ?_)
    have hka := hka4.below hB5
    have hvb := hvb.below hB5
    have hub := hub.below hB5
    have hup := hup.below hB5
    have hKS := hKS.below hB5
    have hB := hB.trans (hB5.mono hB.size)
    obtain ⟨gk, hgk⟩ : ∃ g, g = w4.heap.size := ⟨_, rfl⟩
    rw [← hgk] at hkb ⊢
    have hgk5 := hkb.lt
    have hsB5 := hB.size
    have hKS5 := hKS.lt
    have hka : Rd w5 (fun b => b < w5.heap.size) (.slice (some ⟨g4, 0, none⟩) 1 1) (tx [a]) := hka.weak (fun b h _ => h)
    clear hgk hB5 hs5 hka4
    refine wp_go ?_
    go_wp2_with (first | refine wp_ld 33 (.tmp 7) rfl rfl rfl hkb.whole Tryd.underlying33 rfl sizeKeys ?_ | refine wp_ld 27 (.tmp 4) rfl rfl rfl hvb.whole Tryd.underlying27 rfl (by rw [Hlzn.out]; exact sizeM) ?_)
    refine (Hse.out _ _ _ _ _ hKS hka hub hup).mono ?_
    rintro e w6 ⟨v6, rfl, ho6, hB6⟩
    have hka := hka.below hB6
    have hkb := hkb.below hB6
    have hKS := hKS.below hB6
    have hB := hB.trans (hB6.mono hB.size)
    have hkl := hB6.size
    clear hB6 Hse hvb hub hup
    by_cases he : E = 0
    · subst he
      rw [if_pos rfl] at ho6
      obtain ⟨x, hx⟩ : ∃ x : UInt8, x = UInt8.ofNat (n / 256) := ⟨_, rfl⟩
      have hnq : (n : Int) / 256 = (x.toNat : Int) := by rw [hx, UInt8.toNat_ofNat']; omega
      clear hx
      by_cases h0 : x = 0
      · have hx0 : ((x.toNat : Int) == 0) = true := by rw [h0]; rfl
        obtain ⟨A6, c6, rfl⟩ := own_shape ho6
        clear h0
        go_wp2
        go_ret
        exact ⟨rfl, hB⟩
      · have hx0 : ((x.toNat : Int) == 0) = false := by
          rw [beq_eq_false_iff_ne]
          intro h
          apply h0
          apply UInt8.toNat_inj.1
          simpa using h
        have hTl := HTl.out
        obtain ⟨j, hj⟩ : ∃ j, j = n % 32 := ⟨_, rfl⟩
        have hj32 : j < 32 := by omega
        have hnj : (n : Int) % 32 = (j : Int) := by omega
        obtain ⟨c, hc⟩ : ∃ c, T[j]? = some c := ⟨_, List.getElem?_eq_getElem (by omega)⟩
        have hop := Hop.out j c x rfl hc h0
        have hsb := set_back (P := P) (T := T) j (c ^^^ x)
        have hXc : (P ++ T)[P.length + j]? = some c := by rw [List.getElem?_append_right (by omega), Nat.add_sub_cancel_left]; exact hc
        have hXl : (P ++ T).length = P.length + 32 := by rw [List.length_append, hTl]
        obtain ⟨X, hX⟩ : ∃ X, X = P ++ T := ⟨_, rfl⟩
        rw [← hX] at ho6 hsb hXc hXl
        obtain ⟨gs, cap, cs, rfl, hgs, hbs, hcap1, hcap2, hcs, htk⟩ := own_open ho6 (by omega)
        rw [← hsb] at hop
        obtain ⟨k, hk⟩ : ∃ k, k = P.length + j := ⟨_, rfl⟩
        rw [← hk] at hop hXc
        have hcK : cs[k]? = some (byteV c) := by
          have h1 : (cs.take X.length)[k]? = some (byteV c) := by rw [htk]; unfold bvs; rw [List.getElem?_map, hXc]; rfl
          rw [List.getElem?_take] at h1
          split at h1
          · exact h1
          · cases h1
        have hw1 : IntKind.i64.wrap ((X.length : Int) - 32) = (P.length : Int) := by rw [show (X.length : Int) - 32 = (P.length : Int) from by omega]; exact IntWalk.i64_in _ (by omega)
        have hw2 : IntKind.i64.wrap ((P.length : Int) + (j : Int)) = (k : Int) := by rw [show (P.length : Int) + (j : Int) = (k : Int) from by omega]; exact IntWalk.i64_in _ (by omega)
        have hkI : (k : Int) < (X.length : Int) := by omega
        have hk0I : (0 : Int) ≤ (k : Int) := by omega
        have hxo := xor8_out c x
        have hc6 := hbs.cellAt k (.int .u8 (c.toNat : Int)) hcK
        have hcl : k < cs.length := by omega
        have Hop2 := hid hop
        have HXl := hid hXl
        have Hcs := hid hcs
        have Htk := hid htk
        clear hj hc hX hk hop hsb hXc hcK h0 ho6 hTl hXl hcs htk
        go_wp2_with (with_reducible refine wp_at 49 rfl ?_)
        refine wp_on ?_
        go_wp2_with (refine wp_st1 5 (.tmp 53) (.tmp 52) rfl rfl rfl (f := k) rfl (v := byteV (c ^^^ x)) rfl hbs hcl size8 rfl rfl ?_; intro w7 hbs7 hG7; refine wp_stop ?_)
        have hrd := rd_set (F := fun _ => True) k (c ^^^ x) hbs7 Hcs.out hcap1 hcap2 Htk.out trivial
        have hka := hka.keep (F' := fun _ => True) (fun b hb hF => ⟨trivial, hG7.block b hb (by intro e; injection e with e; have hF' : b < w5.heap.size := hF; omega)⟩)
        have hkb7 := hkb.keep (hG7.block _ hkb.lt (by intro e; injection e with e; omega))
        have hKS7 : KS w7 := hKS.keep (hG7.block _ hKS.lt (by intro e; injection e with e; omega))
        have hB := hB.grown hG7 hB.size (by intro q hq; injection hq with hq; omega)
        have ho := Hso.out _ _ _ _ _ _ hKS7 hka hrd (by rw [List.length_set, HXl.out]; omega)
        rw [Hop2.out] at ho
        have Ho := hid ho
        clear ho hrd hka hbs7 hG7 hc6 hxo hw1 hw2 hkI hk0I hnq hnj
        refine wp_go ?_
        go_wp2_with (refine wp_ld 33 (.tmp 7) rfl rfl rfl hkb7.whole Tryd.underlying33 rfl sizeKeys ?_)
        refine Ho.out.mono ?_
        rintro e w8 ⟨rfl, hB8⟩
        have hB := hB.trans (hB8.mono hB.size)
        clear hB8 Ho
        go_wp2_with (refine wp_newst 27 11 (.tmp 58) rfl rfl rfl rfl rfl rfl zeroM (l := zM) rfl rfl (by rw [len_zM]; exact sizeM) one_zM8 (by simp) ?_; intro w9 hx9 hB9 hs9; refine wp_stop ?_)
        have hB := hB.trans (hB9.mono hB.size)
        refine wp_go ?_
        go_wp2
        go_ret
        exact ⟨rfl, hB⟩
    · have hne : ((E : Int) != 0) = true := by rw [bne_iff_ne]; omega
      rw [if_neg he] at ho6
      obtain ⟨A6, c6, rfl⟩ := own_shape ho6
      go_wp2
      go_ret
      exact ⟨rfl, hB⟩
end Go.Proofs.YtacjijhpbeegbaaDoor
