/- Cx: several texts in one (Cw F Cx). -/
import Derived.Test.YthbbpfnfnnmdnaaDoorLW
import Derived.Test.YthbbpfnfnnmdnaaDoorCu
import Derived.Test.YthbbpfnfnnmdnaaDoorCp
import Derived.Test.YthbbpfnfnnmdnaaDoorV
import Derived.OpenShut
import Derived.ChangeOld
import Derived.ShutString
/- Cw: layer 17, the document's side: contract of ref17.Who. -/
namespace Go.Proofs.YthbbpfnfnnmdnaaDoor
open Go.RowKit Go.V
theorem cnt_is (ks : List (List UInt8)) (V : Vc) (q : Qc) (i : Nat) (X : List UInt8) : (cntI ks V q X == (i : Int)) = isC ks V q i X := by
  unfold cntI isC
  cases cntC ks V q X with
  | none =>
    rw [Bool.eq_iff_iff]
    simp
  | some k =>
    rw [Bool.eq_iff_iff, beq_iff_eq, decide_eq_true_eq]
    show (k : Int) = (i : Int) ↔ some k = some i
    rw [Option.some.injEq]
    omega
/-- who votes, of the members below i -/
def wqC (ks : List (List UInt8)) (V : Vc) (q : Qc) (P : List (List UInt8)) (i : Nat) : List Nat := (List.range i).filter (fun j => P.any (isC ks V q j))
theorem wq_next (ks : List (List UInt8)) (V : Vc) (q : Qc) (P : List (List UInt8)) (i : Nat) : wqC ks V q P (i + 1) = if P.any (isC ks V q i) = true then wqC ks V q P i ++ [i] else wqC ks V q P i := by
  unfold wqC
  rw [List.range_succ, List.filter_append]
  by_cases h : P.any (isC ks V q i) = true
  · rw [if_pos h, List.filter_cons, if_pos h]
    rfl
  · rw [if_neg h, List.filter_cons, if_neg h]
    simp
theorem wq_len (ks : List (List UInt8)) (V : Vc) (q : Qc) (P : List (List UInt8)) (i : Nat) : (wqC ks V q P i).length ≤ i := by
  have := (List.filter_sublist (p := fun j => P.any (isC ks V q j)) (l := List.range i)).length_le
  rw [List.length_range] at this
  exact this
theorem any_next {f : List UInt8 → Bool} {P : List (List UInt8)} {j : Nat} {X : List UInt8} (h : P[j]? = some X) : (P.take (j + 1)).any f = ((P.take j).any f || f X) := by
  rw [List.take_add_one, h, List.any_append]
  simp
theorem any_take {f : List UInt8 → Bool} {P : List (List UInt8)} {j : Nat} (h : (P.take j).any f = true) : P.any f = true := by
  rw [List.any_eq_true] at h ⊢
  obtain ⟨X, hX, h2⟩ := h
  exact ⟨X, List.mem_of_mem_take hX, h2⟩
set_option maxRecDepth 100000 in
set_option maxHeartbeats 16000000 in
theorem rwho17_any (ks : List (List UInt8)) (V : Vc) (P : List (List UInt8)) (m : Mg) (uk ur pv ub up : Value) (F H : Nat → Prop) (w : World) (hks : KsSm ks) (hk : Rd w F uk (tx ks)) (hp : Rd w H pv (tx P)) (hP : P.length ≤ 1000) (hPl : ∀ X ∈ P, X.length ≤ 1000000) (hV : V.m < 65536) (hm : m.h.length = 32) :
    Calls Tryd.prog 25 #[.agg #[uk, ur], vw V.n V.m, .agg (m.l ub up).toArray, pv] w fun e w' => ∃ v', e = .returned v' ∧ NewI w w' v' (whoC ks V (qOf m) P) := by
  obtain ⟨n, M⟩ := V
  dsimp only at hV
  obtain ⟨A, c, rfl, hcA, hcm⟩ := hp.slShape
  have hmv : (m.val ub up : Value) = .agg (m.l ub up).toArray := rfl
  obtain ⟨W0, hW0, b4, b5, b6, hB⟩ := alloc3 w 33 24 59 [uk, ur] [.int .i64 n, .int .u16 (M : Int)] (m.l ub up)
  have hcn := hid (fun X u G Y h1 h2 h3 => rcnt17_any ks ⟨n, M⟩ X m uk ur u ub up F G Y hks h1 h2 h3 hV hm)
  have hl39 : (m.l ub up).length = 39 := len_mg hm _ _
  have Hl39 := hid hl39
  have hp := hp.weak (F' := fun b => H b ∧ b < w.heap.size) (fun b hb hF => ⟨hF, hb⟩)
  have hk := hk.below hB
  have hp := hp.below hB
  obtain ⟨lm, hlm⟩ : ∃ l, l = m.l ub up := ⟨_, rfl⟩
  rw [← hlm] at hW0 b6 Hl39 hcn ⊢
  obtain ⟨q, hq⟩ : ∃ q, q = qOf m := ⟨_, rfl⟩
  rw [← hq] at hcn ⊢
  clear hq hlm hl39 hmv
  unfold vw
  have hcnt : Hid (∀ X ∈ P, ∀ (u : Value) (G : Nat → Prop) (Y : World), Rd Y F uk (tx ks) → Rd Y G u (bys X) → Calls Tryd.prog 35 #[.agg #[uk, ur], .agg #[.int .i64 n, .int .u16 (M : Int)], .agg lm.toArray, u] Y fun e w' => e = .returned (.int .i64 (cntI ks ⟨n, M⟩ q X)) ∧ Below Y.heap.size Y w') := fun X hX u G Y h1 h2 => hcn.out X u G Y h1 h2 (hPl X hX)
  have hwq : Hid (whoC ks ⟨n, M⟩ q P = wqC ks ⟨n, M⟩ q P 16) := hid rfl
  have hwn := hid (wq_next ks ⟨n, M⟩ q P)
  have hwl := hid (wq_len ks ⟨n, M⟩ q P)
  have hw0 : Hid (wqC ks ⟨n, M⟩ q P 0 = []) := hid rfl
  obtain ⟨wq, hwqq⟩ : ∃ f, f = wqC ks ⟨n, M⟩ q P := ⟨_, rfl⟩
  rw [← hwqq] at hwq hwn hwl hw0
  clear hwqq hcn hPl
  go_enter Tryd.func25, Tryd.ntmps25
  go_upto_region 1 with (fail)
  first | rw [← hW0] | (simp only [List.toArray] at hW0 ⊢; rw [← hW0])
  clear hW0
  have hs0 := hB.size
  obtain ⟨g6, hg6⟩ : ∃ g, g = w.heap.size + 1 + 1 := ⟨_, rfl⟩
  rw [← hg6] at b6 ⊢
  obtain ⟨g5, hg5⟩ : ∃ g, g = w.heap.size + 1 := ⟨_, rfl⟩
  rw [← hg5] at b5 ⊢
  obtain ⟨g4, hg4⟩ : ∃ g, g = w.heap.size := ⟨_, rfl⟩
  rw [← hg4] at b4 ⊢
  clear hg4 hg5 hg6
  have hnil := World.ownsRow_nil W0 W0.heap.size 3 1
  go_wp2
  go_loopw [9, 10] (fun ov iv wr => ∃ i : Nat, i ≤ 16 ∧ iv = .int .i64 i ∧ wr.ownsRow W0.heap.size 3 1 ov (wq i).length (ivs (wq i)) ∧ Below W0.heap.size W0 wr) (fun _ i _ => 16 - (intOf i).toNat)
  case atStart => exact ⟨0, by omega, rfl, by rw [hw0.out]; exact hnil, Below.refl _ _⟩
  case round =>
    clear hnil
    obtain ⟨i, hi, rfl, hown, hBw⟩ := hrel
    by_cases hlt : i < 16
    · have hI : (i : Int) < 16 := by omega
      have hwni := hid (hwn.out i)
      have hwli := hwl.out i
      obtain ⟨f, hf⟩ : ∃ f, f = isC ks ⟨n, M⟩ q i := ⟨_, rfl⟩
      rw [← hf] at hwni
      have hcf : Hid (∀ X, (cntI ks ⟨n, M⟩ q X == (i : Int)) = f X) := hid (fun X => by rw [hf]; exact cnt_is ks ⟨n, M⟩ q i X)
      clear hf
      obtain ⟨wo, hwo⟩ : ∃ x, x = wr := ⟨_, rfl⟩
      rw [← hwo] at hown hBw ⊢
      clear hwo
      have hszo := hBw.size
      go_wp2
      go_loopw [11, 12] (fun mv jv wr => ∃ j : Nat, j ≤ P.length ∧ jv = .int .i64 j ∧ mv = .bool ((P.take j).any f) ∧ Below wo.heap.size wo wr) (fun _ j _ => P.length - (intOf j).toNat)
      case atStart => exact ⟨0, by omega, rfl, rfl, Below.refl _ _⟩
      case round =>
        obtain ⟨j, hj, rfl, rfl, hBr⟩ := hrel
        have hBW := hBw.trans (hBr.mono hszo)
        cases hmj : (P.take j).any f with
        | true =>
          have hpa := any_take hmj
          have Hn := hid (show wq (i + 1) = wq i ++ [i] by rw [hwni.out, if_pos hpa])
          have hown2 := own_bel hown hBr
          have hszr := hBW.size
          clear hmj hpa
          by_cases hjl : j < P.length
          · have hJ : (j : Int) < (P.length : Int) := by omega
            go_wp2_with (refine wp_push (.tmp 38) (.tmp 39) 40 slI rfl rfl rfl rfl rfl (u := .int .i64 (i : Int)) rfl rfl rfl (by simp) rfl hown2 (by simp only [maxLen]; omega) (by omega) hszr ?_; intro v4 w4 ho4 hG4 _; refine wp_stop ?_)
            rw [← ivs_snoc] at ho4
            have hB4 := hBW.grown hG4 hszr (fun k hk => (hown2.lt k hk).1)
            refine wp_go ?_
            go_wp2
            go_roundw
            case rel => exact ⟨i + 1, by omega, by go_num, by rw [Hn.out, List.length_append]; exact ho4, hB4⟩
            case measure => simp [intOf]; omega
          · have hJ : ¬ (j : Int) < (P.length : Int) := by omega
            go_wp2_with (refine wp_push (.tmp 38) (.tmp 39) 40 slI rfl rfl rfl rfl rfl (u := .int .i64 (i : Int)) rfl rfl rfl (by simp) rfl hown2 (by simp only [maxLen]; omega) (by omega) hszr ?_; intro v4 w4 ho4 hG4 _; refine wp_stop ?_)
            rw [← ivs_snoc] at ho4
            have hB4 := hBW.grown hG4 hszr (fun k hk => (hown2.lt k hk).1)
            refine wp_go ?_
            go_wp2
            go_roundw
            case rel => exact ⟨i + 1, by omega, by go_num, by rw [Hn.out, List.length_append]; exact ho4, hB4⟩
            case measure => simp [intOf]; omega
        | false =>
          by_cases hjl : j < P.length
          · have hJ : (j : Int) < (P.length : Int) := by omega
            obtain ⟨X, hX⟩ : ∃ X, P[j]? = some X := ⟨_, List.getElem?_eq_getElem hjl⟩
            obtain ⟨gp, offp, u, hAp, _, hcu, hu⟩ := Rd.elem (hp.below hBW) j (bys X) (by rw [List.getElem?_map, hX]; rfl)
            subst hAp
            obtain ⟨Au, cu, rfl⟩ := hu.shape
            have Hnx := hid (any_next (f := f) hX)
            rw [hmj, Bool.false_or] at Hnx
            have Hcall := hid (fun Y h => hcnt.out X (List.mem_of_getElem? hX) (.slice Au X.length cu) _ Y ((hk.below hBW).below h) (hu.below h))
            have hcx := hcf.out X
            obtain ⟨cc, hcc⟩ : ∃ cc, cc = cntI ks ⟨n, M⟩ q X := ⟨_, rfl⟩
            rw [← hcc] at hcx Hcall
            have C0 : Hid (∀ Z, Ch nob wr Z → Z.cell? ⟨gp, offp + j, none⟩ = some (.slice Au X.length cu)) := fun Z h => (h.below.cell (lt_of_cell hcu)).trans hcu
            have X4 : Hid (∀ Z, Ch nob wr Z → Z.rangeAt g4 0 [uk, ur]) := fun Z h => ((b4.below hBW).below h.below).whole
            have X5 : Hid (∀ Z, Ch nob wr Z → Z.rangeAt g5 0 [.int .i64 n, .int .u16 (M : Int)]) := fun Z h => ((b5.below hBW).below h.below).whole
            have X6 : Hid (∀ Z, Ch nob wr Z → Z.rangeAt g6 0 lm) := fun Z h => ((b6.below hBW).below h.below).whole
            clear hcc hX hu hcu
            have hJb : j < P.length := hjl
            go_upto_region 9 with (fail)
            cases hfx : f X with
            | true =>
              have hct : (cc == (i : Int)) = true := by rw [hcx, hfx]
              have Hnt : Hid ((P.take (j + 1)).any f = true) := hid (by rw [Hnx.out, hfx])
              clear hcx hfx hmj
              refine wp_region_noPanic ?_
              refine wp_region_held_drew (S := Ch nob wr) (by kernel_rfl) ((Ch.refl _ _).drew) (fun hHeld => ?_)
              refine tkY 0 rfl (yieldsIf_load_mid (by rfl) 33 (.tmp 4) (by rfl) _ (0) (by rfl) _ _ (fun _ hs => X4.out _ hs) Tryd.underlying33 rfl (sizeKs17)) ?_
              refine tkY 1 rfl (yieldsIf_load_mid (by rfl) 24 (.tmp 5) (by rfl) _ (0) (by rfl) _ _ (fun _ hs => X5.out _ hs) Tryd.underlying24 rfl (sizeVw17)) ?_
              refine tkY 2 rfl (yieldsIf_load_mid (by rfl) 59 (.tmp 6) (by rfl) _ (0) (by rfl) _ _ (fun _ hs => X6.out _ hs) Tryd.underlying59 rfl (by rw [Hl39.out]; exact sizeM)) ?_
              refine tkP 3 rfl ?_
              refine tkP 4 rfl ?_
              refine tkP 5 rfl ?_
              refine tkF 6 rfl C0.out ?_
              refine tkP 8 rfl ?_
              refine rdH 7 rfl (fun K hK => ?_)
              go_simp
              refine (Hcall.out _ hHeld.below).mono ?_
              rintro e' w7 ⟨rfl, hB7⟩
              refine hK.out _ _ (hHeld.belowR hB7) (fun hHeld => ?_)
              clear hK K
              try simp only [nP]
              refine tkP 9 rfl ?_
              refine tkP 10 rfl ?_
              refine wpAnyH_done (by kernel_rfl) ?_ _
              refine NoPanic.normal ?_
              go_wp2
              go_roundw
              case rel => exact ⟨j + 1, by omega, by go_num, by rw [Hnt.out], Ch.below_of hBr hHeld (fun k hk => hk.elim) hBr.size⟩
              case measure => simp [intOf]; omega
            | false =>
              have hct : (cc == (i : Int)) = false := by rw [hcx, hfx]
              have Hnt : Hid ((P.take (j + 1)).any f = false) := hid (by rw [Hnx.out, hfx])
              clear hcx hfx hmj
              refine wp_region_noPanic ?_
              refine wp_region_held_drew (S := Ch nob wr) (by kernel_rfl) ((Ch.refl _ _).drew) (fun hHeld => ?_)
              refine tkY 0 rfl (yieldsIf_load_mid (by rfl) 33 (.tmp 4) (by rfl) _ (0) (by rfl) _ _ (fun _ hs => X4.out _ hs) Tryd.underlying33 rfl (sizeKs17)) ?_
              refine tkY 1 rfl (yieldsIf_load_mid (by rfl) 24 (.tmp 5) (by rfl) _ (0) (by rfl) _ _ (fun _ hs => X5.out _ hs) Tryd.underlying24 rfl (sizeVw17)) ?_
              refine tkY 2 rfl (yieldsIf_load_mid (by rfl) 59 (.tmp 6) (by rfl) _ (0) (by rfl) _ _ (fun _ hs => X6.out _ hs) Tryd.underlying59 rfl (by rw [Hl39.out]; exact sizeM)) ?_
              refine tkP 3 rfl ?_
              refine tkP 4 rfl ?_
              refine tkP 5 rfl ?_
              refine tkF 6 rfl C0.out ?_
              refine tkP 8 rfl ?_
              refine rdH 7 rfl (fun K hK => ?_)
              go_simp
              refine (Hcall.out _ hHeld.below).mono ?_
              rintro e' w7 ⟨rfl, hB7⟩
              refine hK.out _ _ (hHeld.belowR hB7) (fun hHeld => ?_)
              clear hK K
              try simp only [nP]
              refine tkP 9 rfl ?_
              refine tkP 10 rfl ?_
              refine wpAnyH_done (by kernel_rfl) ?_ _
              refine NoPanic.normal ?_
              go_wp2
              go_roundw
              case rel => exact ⟨j + 1, by omega, by go_num, by rw [Hnt.out], Ch.below_of hBr hHeld (fun k hk => hk.elim) hBr.size⟩
              case measure => simp [intOf]; omega
          · have hJ : ¬ (j : Int) < (P.length : Int) := by omega
            have hpa : P.any f = false := by rw [List.take_of_length_le (by omega)] at hmj; exact hmj
            have Hn := hid (show wq (i + 1) = wq i by rw [hwni.out, hpa]; rfl)
            have hown2 := own_bel hown hBr
            clear hmj hpa
            go_wp2
            go_roundw
            case rel => exact ⟨i + 1, by omega, by go_num, by rw [Hn.out]; exact hown2, hBW⟩
            case measure => simp [intOf]; omega
    · have hi' : i = 16 := by omega
      subst hi'
      have hI : ¬ (16 : Int) < 16 := by omega
      rw [← hwq.out] at hown
      go_wp2
      go_ret
      exact ⟨_, rfl, own_weak hown hs0, hB.trans (hBw.mono hs0)⟩
end Go.Proofs.YthbbpfnfnnmdnaaDoor
/- F: opening the arguments of a law to what this seat's words say of them. No project text. -/
namespace Go.V
open Go.ChangeShapes Go.WideShapes Go.ChangeAt Go.RowKit

theorem u8_of_wf {n : Int} (h : (Lit.int .u8 n).wf = true) : 0 ≤ n ∧ n < 256 := by
  simp [Lit.wf, IntKind.min, IntKind.max, IntKind.signed, IntKind.bits] at h
  omega
theorem i64_of_wf {n : Int} (h : (Lit.int .i64 n).wf = true) : -9223372036854775808 ≤ n ∧ n ≤ 9223372036854775807 := by
  simp [Lit.wf, IntKind.min, IntKind.max, IntKind.signed, IntKind.bits] at h
  omega

theorem u16_of_wf {n : Int} (h : (Lit.int .u16 n).wf = true) : ∃ m : Nat, n = (m : Int) ∧ m < 65536 := by
  simp [Lit.wf, IntKind.min, IntKind.max, IntKind.signed, IntKind.bits] at h
  exact ⟨n.toNat, by omega, by omega⟩
/-- a cell that is a slice of bytes -/
theorem open_bysc {H : Type} {enc : TypeId × Value → H} {P : Program} {W : World} {t e : TypeId} (ht : P.underlying t = some (.slice e)) (he : P.underlying e = some (.int .u8)) (hc : P.cellsOf e = 1)
    {fuel : Nat} {v : Value} {y : DataW H × List MemPlace} (hf : DataW.trod enc P W 0 (fun _ => true) true fuel t [v] = some y) : ∃ bs, Rd W (fun _ => True) v (bys bs) := by
  rcases open_ints ht he hc hf with ⟨hcs, _⟩ | ⟨x, len, cap, zs, hcs, _, hl, hm, hz, _, hcell, hwz⟩
  · injection hcs with hcs
    subst hcs
    refine ⟨[], ?_⟩
    unfold bys Rd
    exact ⟨none, 0, rfl, Nat.le_refl _, by simp [maxLen], fun _ => rfl, fun h => absurd rfl h⟩
  · injection hcs with hcs
    subst hcs
    have hz' : zs.length = cap := by simpa using hz
    have hmap : ∀ z ∈ zs.take len, ((UInt8.ofNat z.toNat).toNat : Int) = z := by
      intro z hzm
      have := u8_of_wf (hwz z (List.mem_of_mem_take hzm))
      rw [UInt8.toNat_ofNat', Nat.mod_eq_of_lt (by omega)]
      omega
    refine ⟨(zs.take len).map fun z => UInt8.ofNat z.toNat, ?_⟩
    unfold bys Rd
    have hlen : ((zs.take len).map fun z => UInt8.ofNat z.toNat).length = len := by simp; omega
    refine ⟨some x, cap, by rw [hlen], by omega, hm, fun h0 => by rw [List.eq_nil_of_length_eq_zero h0]; rfl, fun hne => ?_⟩
    have hpos : 0 < len := by
      rcases Nat.eq_zero_or_pos len with h0 | h0
      · subst h0; exact absurd (by simp) hne
      · exact h0
    have hx0 : x.spot = none := by
      have := hcell 0 (by omega)
      unfold World.cell? Addr.add at this
      simp only [if_true] at this
      split at this
      · split at this
        · cases this
        · rename_i hs; simpa using hs
      · cases this
    obtain ⟨g, off, sp⟩ := x
    simp only at hx0
    subst hx0
    refine ⟨g, off, rfl, trivial, RdC.of_bytes fun j u hu => ?_⟩
    have hj : j < len := by
      have := (List.getElem?_eq_some_iff.1 hu).1
      simp [bvs] at this
      omega
    have hc1 := hcell j (by omega)
    rw [add_mk] at hc1
    rw [hc1]
    have hjz : j < zs.length := by omega
    simp only [bvs, List.map_map] at hu
    rw [List.getElem?_map] at hu
    have e1 : (zs.take len)[j]? = some zs[j] := by rw [List.getElem?_take, if_pos hj, List.getElem?_eq_getElem hjz]
    rw [e1] at hu
    simp only [Option.map_some, Function.comp] at hu
    injection hu with hu
    rw [← hu]
    unfold byteV
    rw [hmap zs[j] (by rw [List.mem_iff_getElem?]; exact ⟨j, e1⟩)]
    simp [List.getD, List.getElem?_eq_getElem hjz]
/-- an argument that is a slice of bytes -/
theorem open_bys {H : Type} {enc : TypeId × Value → H} {P : Program} {W : World} {base : Nat} {t e : TypeId} (ht : P.underlying t = some (.slice e)) (he : P.underlying e = some (.int .u8)) (hc : P.cellsOf e = 1)
    {v : Value} {d : DataW H} {p : List MemPlace} (hv : Value.okWide P W .any base t v) (h : DataW.Trod enc P W 0 (fun _ => true) true t v d p) : ∃ bs, Rd W (fun _ => True) v (bys bs) := by
  obtain ⟨a, len, cap, rfl⟩ := okWide_slice ht hv
  obtain ⟨fuel, hf⟩ := h
  exact open_bysc ht he hc hf
theorem spot_none {W : World} {x : Addr} {v : Value} (h : W.cell? x = some v) : x.spot = none := by
  unfold World.cell? at h
  split at h
  · split at h
    · cases h
    · rename_i hs; simpa using hs
  · cases h
end Go.V
/- Cx: layer 17, the document's side: contract of ref17.Pick. -/
namespace Go.Proofs.YthbbpfnfnnmdnaaDoor
open Go.RowKit Go.V
theorem tx_own17 {w : World} {base : Nat} {e : TypeId} {F G : Nat → Prop} {v : Value} {l : List (List UInt8)} {us : List Value} (ho : w.ownsRow base e 1 v l.length us) (hx : TxX w F l us) (hF : ∀ b, F b → G b) (hb : ∀ b, v.ownBlock = some b → G b) : Rd w G v (tx l) := by
  unfold tx Rd
  have hx := hx.keep (F' := G) (fun b _ h => ⟨hF b h, rfl⟩)
  rcases ho.2 with ⟨rfl, h0⟩ | ⟨g, cap, cur, rfl, hg, hh, h1, h2, h3, h4⟩
  · have : l = [] := List.eq_nil_of_length_eq_zero h0
    subst this
    exact ⟨none, 0, rfl, Nat.le_refl _, by simp [maxLen], fun _ => rfl, fun h => absurd rfl h⟩
  · refine ⟨_, cap, rfl, h1, h2, fun h => by rw [List.eq_nil_of_length_eq_zero h]; rfl, fun _ => ⟨g, 0, rfl, hb g rfl, RdC.ofAt (fun i d hd => ?_)⟩⟩
    rw [List.getElem?_map] at hd
    cases ht : l[i]? with
    | none => rw [ht] at hd; cases hd
    | some t =>
      rw [ht] at hd
      injection hd with hd
      subst hd
      have hil : i < us.length := by rw [hx.len]; exact (List.getElem?_eq_some_iff.1 ht).1
      have hu : us[i]? = some (us[i]'hil) := List.getElem?_eq_getElem hil
      refine ⟨_, ?_, hx.at_ i _ t hu ht⟩
      have := ho.cells (g := g) rfl i _ hu
      rw [add_mk] at this
      exact this
end Go.Proofs.YthbbpfnfnnmdnaaDoor
