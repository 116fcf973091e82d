/- Z1: layer 9: seals as lists; long; the document's Seal. -/
import Derived.Test.YtacjijhpbeegbaaDoorYG
import Derived.Test.YtacjijhpbeegbaaDoorT5
namespace Go.Proofs.YtacjijhpbeegbaaDoor
open Go.RowKit Go.V
/-- the seal of m's sender -/
def keyOf (ks : List (List UInt8)) (m : Mg) : List UInt8 := ks.getD m.f.toNat []
def errS (ks : List (List UInt8)) (m : Mg) : Nat := if errG m = 0 then (if (ks.length : Int) ≤ m.f then 6 else 0) else errG m
def slS (ks : List (List UInt8)) (m : Mg) : List UInt8 := Mg.by m ++ tagF (keyOf ks m) (Mg.by m)
/-- what sealed bytes open to -/
def opR (ks : List (List UInt8)) (X : List UInt8) : Except Nat Mg :=
  if X.length < 32 then .error 1 else if 65504 < X.length - 32 then .error 4 else match rdM (X.take (X.length - 32)) with
    | .error e => .error e
    | .ok m => if (ks.length : Int) ≤ m.f then .error 6 else if tagF (keyOf ks m) (X.take (X.length - 32)) = X.drop (X.length - 32) then .ok m else .error 5
theorem errG_bd {m : Mg} (he : errG m = 0) : m.ps.length ≤ 16 ∧ (Mg.by m).length ≤ 65504 ∧ numB m = true := by
  unfold errG at he
  split at he
  · cases he
  · split at he
    · exact ⟨by omega, by omega, by assumption⟩
    · cases he
theorem part_le : ∀ (ps : List (List UInt8)) (t : List UInt8), t ∈ ps → t.length ≤ (ps.flatMap tb1).length
  | p :: ps, t, h => by
    rw [List.flatMap_cons, List.length_append]
    rcases List.mem_cons.1 h with rfl | h
    · unfold tb1; rw [List.length_append]; omega
    · have := part_le ps t h; omega
theorem body_le {m : Mg} (hh : m.h.length = 32) (h : (Mg.by m).length ≤ 65504) : m.b.length ≤ 65536 ∧ ∀ t ∈ m.ps, t.length ≤ 65536 := by
  rw [len_by2 hh] at h
  exact ⟨by omega, fun t ht => by have := part_le m.ps t ht; omega⟩
theorem rdM_by {m : Mg} (hh : m.h.length = 32) (he : errG m = 0) : rdM (Mg.by m) = .ok m := by
  obtain ⟨h1, h2, h3⟩ := errG_bd he
  obtain ⟨h4, h5⟩ := body_le hh h2
  have := rdM_put hh h3 h4 h1 h5 []
  rwa [List.append_nil, if_pos rfl] at this
theorem errS_0 {ks : List (List UInt8)} {m : Mg} (h : errS ks m = 0) : errG m = 0 ∧ m.f < (ks.length : Int) := by
  unfold errS at h
  split at h
  · split at h
    · cases h
    · exact ⟨by assumption, by omega⟩
  · exact absurd h (by assumption)
/-- what any 32 bytes behind a message's open to -/
theorem op_at {ks : List (List UInt8)} {m : Mg} (hh : m.h.length = 32) (he : errS ks m = 0) (T : List UInt8) (hT : T.length = 32) : opR ks (Mg.by m ++ T) = if tagF (keyOf ks m) (Mg.by m) = T then .ok m else .error 5 := by
  obtain ⟨hg, hf⟩ := errS_0 he
  have hl := (errG_bd hg).2.1
  have hn : (Mg.by m ++ T).length - 32 = (Mg.by m).length := by rw [List.length_append, hT]; omega
  unfold opR
  rw [if_neg (by rw [List.length_append, hT]; omega), hn, if_neg (by omega), List.take_left, List.drop_left, rdM_by hh hg]
  dsimp only
  rw [if_neg (by omega)]
theorem op_sl {ks : List (List UInt8)} {m : Mg} (hh : m.h.length = 32) (he : errS ks m = 0) : opR ks (slS ks m) = .ok m := by
  unfold slS
  rw [op_at hh he _ (len_tag _ _), if_pos rfl]
theorem errS_num {m : Mg} (h : numB m = true) : 0 ≤ m.f ∧ m.f ≤ 15 := by
  unfold numB at h
  have := of_decide_eq_true h
  omega
theorem key_at {ks : List (List UInt8)} {m : Mg} {n : Nat} (hf : m.f = (n : Int)) (hn : n < ks.length) : ks[n]? = some (keyOf ks m) := by
  unfold keyOf
  rw [hf, Int.toNat_natCast, List.getD_eq_getElem?_getD, List.getElem?_eq_getElem hn]
  rfl
structure KsSm (ks : List (List UInt8)) : Prop where
  n : ks.length ≤ 1000000
  t : ∀ k ∈ ks, k.length ≤ 1000000
theorem KsSm.key {ks : List (List UInt8)} (h : KsSm ks) (m : Mg) : (keyOf ks m).length ≤ 1000000 := by
  unfold keyOf
  rw [List.getD_eq_getElem?_getD]
  cases hk : ks[m.f.toNat]? with
  | none => simp
  | some k => exact h.t k (List.mem_of_getElem? hk)
def longK (ks : List (List UInt8)) : Bool := decide (16 < ks.length ∨ ∃ t ∈ ks, 200 < t.length)
theorem longK_bd {ks : List (List UInt8)} (h : longK ks = false) : ks.length ≤ 16 ∧ (∀ t ∈ ks, t.length ≤ 200) ∧ KsSm ks := by
  unfold longK at h
  rw [decide_eq_false_iff_not] at h
  have h1 : ks.length ≤ 16 := by omega
  have h2 : ∀ t ∈ ks, t.length ≤ 200 := fun t ht => by
    rcases Nat.lt_or_ge 200 t.length with h3 | h3
    · exact absurd (.inr ⟨t, ht, h3⟩) h
    · exact h3
  exact ⟨h1, h2, by omega, fun t ht => by have := h2 t ht; omega⟩
set_option maxRecDepth 100000 in
set_option maxHeartbeats 2000000 in
theorem long9_any (ks : List (List UInt8)) (uk : Value) (F : Nat → Prop) (w : World) (hk : Rd w F uk (tx ks)) :
    Calls Tryd.prog 7 #[uk] w fun e w' => e = .returned (.bool (longK ks)) ∧ Below w.heap.size w w' := by
  obtain ⟨A, c, rfl, hcc, hcm⟩ := hk.slShape
  have hcl : ks.length ≤ 9223372036854775807 := by simp [maxLen] at hcm; omega
  go_enter Tryd.func7, Tryd.ntmps7
  by_cases h1 : 16 < ks.length
  · have h1I : (16 : Int) < (ks.length : Int) := by omega
    have hL : Hid (longK ks = true) := decide_eq_true (.inl h1)
    go_wp2
    go_ret
    exact ⟨by rw [hL.out]; rfl, Below.refl _ _⟩
  have h1I : ¬ (16 : Int) < (ks.length : Int) := by omega
  go_wp2
  go_loopw [9] (fun iv wr => ∃ i : Nat, i ≤ ks.length ∧ iv = .int .i64 i ∧ Hid (∀ j t, j < i → ks[j]? = some t → t.length ≤ 200) ∧ Below w.heap.size w wr) (fun i _ => ks.length - (intOf i).toNat)
  case atStart => exact ⟨0, Nat.zero_le _, rfl, fun j t hj => absurd hj (Nat.not_lt_zero _), Below.refl _ _⟩
  case round =>
    obtain ⟨i, hi, rfl, hall, hBr⟩ := hrel
    by_cases hlt : i < ks.length
    · obtain ⟨t, ht⟩ : ∃ t, ks[i]? = some t := ⟨_, List.getElem?_eq_getElem hlt⟩
      have hI : (i : Int) < (ks.length : Int) := by omega
      obtain ⟨G, off, u, rfl, hG, hcu, hu⟩ := Rd.elem (hk.below hBr) i (bys t) (by rw [List.getElem?_map, ht]; rfl)
      obtain ⟨A1, c1, rfl⟩ := hu.shape
      have Ht := hid ht
      clear ht
      by_cases h2 : 200 < t.length
      · have h2I : (200 : Int) < (t.length : Int) := by omega
        have hL : Hid (longK ks = true) := decide_eq_true (.inr ⟨t, List.mem_of_getElem? Ht.out, h2⟩)
        go_wp2
        go_ret
        exact ⟨by rw [hL.out]; rfl, hBr⟩
      · have h2I : ¬ (200 : Int) < (t.length : Int) := by omega
        go_wp2
        go_roundw
        case rel => exact ⟨i + 1, by omega, by go_num, fun j x hj hx => by
          rcases Nat.lt_or_ge j i with h | h
          · exact hall.out j x h hx
          · have : j = i := by omega
            subst this
            rw [Ht.out] at hx
            injection hx with hx
            subst hx
            omega, hBr⟩
        case measure => simp [intOf]; omega
    · have hi' : i = ks.length := by omega
      subst hi'
      have hI : ¬ (ks.length : Int) < (ks.length : Int) := by omega
      have hL : Hid (longK ks = false) := decide_eq_false (by
        rintro (h | ⟨t, ht, h⟩)
        · omega
        · obtain ⟨j, hj, he⟩ := List.mem_iff_getElem.1 ht
          have := hall.out j t hj (by rw [List.getElem?_eq_getElem hj, he])
          omega)
      go_wp2
      go_ret
      exact ⟨by rw [hL.out]; rfl, hBr⟩
set_option maxRecDepth 100000 in
set_option maxHeartbeats 2000000 in
theorem rseal_any (ks : List (List UInt8)) (m : Mg) (uk ur ub up : Value) (F : Nat → Prop) (w : World) (hm : MgIn m) (hlo : longB m = false) (hks : KsSm ks) (hk : Rd w F uk (tx ks)) (hub : Rd w (fun b => b < w.heap.size) ub (bys m.b)) (hup : Rd w (fun b => b < w.heap.size) up (tx m.ps)) :
    Calls Tryd.prog 11 #[.agg #[uk, ur], m.val ub up] w fun e w' => ∃ v', e = .returned (.tuple #[v', .int .i64 (errS ks m : Int)]) ∧ NewB w w' v' (if errS ks m = 0 then slS ks m else []) := by
  have hh := hm.h
  have hput := fun W h1 h2 => rput8_any m ub up W hh hlo h1 h2
  have hkl := hks.key m
  have hPl := len_by hh hlo
  have hES : errS ks m = if errM m = 0 then (if (ks.length : Int) ≤ m.f then 6 else 0) else errM m := by unfold errS; rw [errG_M hh hlo]
  have hnf : errM m = 0 → ∃ n : Nat, m.f = (n : Int) ∧ n ≤ 15 := fun h => by
    obtain ⟨h1, h2⟩ := errS_num (errM_bd h).2
    exact ⟨m.f.toNat, by omega, by omega⟩
  have hsl : slS ks m = Mg.by m ++ tagF (keyOf ks m) (Mg.by m) := rfl
  obtain ⟨E, hE⟩ : ∃ E, E = errS ks m := ⟨_, rfl⟩
  obtain ⟨X, hX⟩ : ∃ X, X = slS ks m := ⟨_, rfl⟩
  rw [← hE] at hES ⊢
  rw [← hX] at hsl ⊢
  obtain ⟨er, her⟩ : ∃ er, er = errM m := ⟨_, rfl⟩
  obtain ⟨P, hP⟩ : ∃ P, P = Mg.by m := ⟨_, rfl⟩
  rw [← her, ← hP] at hput
  rw [← her] at hES hnf
  rw [← hP] at hsl hPl
  obtain ⟨AK, ck, rfl, hck, _⟩ := hk.slShape
  obtain ⟨AB, cb, rfl⟩ := hub.shape
  obtain ⟨AP, cpp, rfl, _, _⟩ := hup.slShape
  unfold Mg.val at hput ⊢
  have hmn := len_mg hh (.slice AB m.b.length cb) (.slice AP m.ps.length cpp)
  have h1c : (m.l (.slice AB m.b.length cb) (.slice AP m.ps.length cpp))[1]? = some (.int .i64 m.f) := rfl
  obtain ⟨l, hl⟩ : ∃ l, l = m.l (.slice AB m.b.length cb) (.slice AP m.ps.length cpp) := ⟨_, rfl⟩
  rw [← hl] at hput hmn h1c ⊢
  have Hmn := hid hmn
  have Hput := hid hput
  have HES := hid hES
  have Hsl := hid hsl
  have Hnf := hid hnf
  clear hl hmn hput hES hsl hE hX her hP hnf
  have hkb := Blk.new' w 33 [.slice AK ks.length ck, ur]
  have hBk : Below w.heap.size w (w.alloc (.cells #[.slice AK ks.length ck, ur] 33)) := (Below.refl _ _).alloc (Nat.le_refl _) _
  have hvb := Blk.new' (w.alloc (.cells #[.slice AK ks.length ck, ur] 33)) 27 l
  have hBm : Below (w.alloc (.cells #[.slice AK ks.length ck, ur] 33)).heap.size (w.alloc (.cells #[.slice AK ks.length ck, ur] 33)) ((w.alloc (.cells #[.slice AK ks.length ck, ur] 33)).alloc (.cells l.toArray 27)) := (Below.refl _ _).alloc (Nat.le_refl _) _
  have hkb := hkb.below hBm
  have hB := hBk.trans (hBm.mono hBk.size)
  have hsz : w.heap.size < ((w.alloc (.cells #[.slice AK ks.length ck, ur] 33)).alloc (.cells l.toArray 27)).heap.size := by simp; omega
  have hgs : (w.alloc (.cells #[.slice AK ks.length ck, ur] 33)).heap.size = w.heap.size + 1 := by simp
  rw [hgs] at hvb
  have hk := hk.below hB
  have hub := (hub.below hB).weak (F' := fun b => b < ((w.alloc (.cells #[.slice AK ks.length ck, ur] 33)).alloc (.cells l.toArray 27)).heap.size) (fun b _ h => by omega)
  have hup := (hup.below hB).weak (F' := fun b => b < ((w.alloc (.cells #[.slice AK ks.length ck, ur] 33)).alloc (.cells l.toArray 27)).heap.size) (fun b _ h => by omega)
  clear hBk hBm hgs
  go_enter Tryd.func11, Tryd.ntmps11
  go_wp2_with (refine wp_ld 27 (.tmp 3) rfl rfl rfl hvb.whole Tryd.underlying27 rfl (by rw [Hmn.out]; exact sizeM) ?_)
  obtain ⟨w0, hw0⟩ : ∃ x, x = (w.alloc (.cells #[.slice AK ks.length ck, ur] 33)).alloc (.cells l.toArray 27) := ⟨_, rfl⟩
  rw [← hw0] at hvb hkb hB hub hup hk hsz ⊢
  clear hw0
  obtain ⟨gk, hgk⟩ : ∃ g, g = w.heap.size := ⟨_, rfl⟩
  rw [← hgk] at hkb hvb ⊢
  obtain ⟨g, hg⟩ : ∃ g, g = gk + 1 := ⟨_, rfl⟩
  rw [← hg] at hvb ⊢
  clear hgk hg
  refine (Hput.out _ hub hup).mono ?_
  rintro e w1 ⟨v1, rfl, ho1, hB1⟩
  have hkb := hkb.below hB1
  have hvb := hvb.below hB1
  have hk := hk.below hB1
  have hB := hB.trans (hB1.mono hB.size)
  clear hB1 hub hup
  by_cases he : er = 0
  · obtain ⟨n, hn, hn15⟩ := Hnf.out he
    have hky := fun h => key_at (ks := ks) hn h
    have hES := HES.out
    rw [if_pos he, hn] at hES
    rw [if_pos he] at ho1
    subst he
    rw [hn] at h1c
    have hrP := Rd.of_own ho1
    obtain ⟨A1, c1, rfl⟩ := own_shape ho1
    clear HES Hnf hn Hput ho1
    have cf := hvb.cellAt 1 _ h1c
    have ck0 := hkb.cellAt 0 _ rfl
    by_cases hf : n < ks.length
    · have hfI : ¬ (ks.length : Int) ≤ (n : Int) := by omega
      have hfI2 : (n : Int) < (ks.length : Int) := by omega
      rw [if_neg hfI] at hES
      subst hES
      have hkat := hky hf
      obtain ⟨G, off, u, rfl, hG, hcu, hu⟩ := Rd.elem hk n (bys (keyOf ks m)) (by rw [List.getElem?_map, hkat]; rfl)
      obtain ⟨key, hkey⟩ : ∃ key, key = keyOf ks m := ⟨_, rfl⟩
      rw [← hkey] at hu hkl Hsl
      obtain ⟨A2, c2, rfl⟩ := hu.shape
      have htl := len_tag key P
      obtain ⟨T, hT⟩ : ∃ T, T = tagF key P := ⟨_, rfl⟩
      have HT := hid hT
      rw [← hT] at htl Hsl
      have Htl := hid htl
      clear hkat hkey hky hT htl
      go_wp2_with (fail)
      refine (rtag_any _ _ key P _ _ _ hu hrP (by omega) (by omega)).mono ?_
      rintro e w2 ⟨rfl, hB2⟩
      rw [← HT.out]
      have hrP := hrP.below hB2
      have hB := hB.trans (hB2.mono hB.size)
      clear hB2 cf ck0 hcu hu
      go_wp2_with (refine wp_newst 24 8 (.tmp 30) rfl rfl rfl rfl rfl rfl zero25 (l := bvs T) rfl (by rw [len_bvs, Htl.out]; rfl) (by rw [len_bvs, Htl.out]; exact size25) (oneCell_bvs T) (by simp) ?_; intro w3 hx3 hB3 hs3; refine wp_stop ?_)
      have hrP := hrP.below hB3
      have hB := hB.trans (hB3.mono hB.size)
      obtain ⟨gx, hgx⟩ : ∃ g, g = w2.heap.size := ⟨_, rfl⟩
      rw [← hgx] at hx3 ⊢
      clear hgx hB3 hs3
      refine wp_go ?_
      go_wp2_with (refine wp_ld 24 (.tmp 8) rfl rfl rfl hx3.whole Tryd.underlying24 rfl (by rw [len_bvs, Htl.out]; exact size25) ?_)
      refine (rbytes_any T _ Htl.out).mono ?_
      rintro e w4 ⟨v4, rfl, ho4, hB4⟩
      have hrP := hrP.below hB4
      have hB := hB.trans (hB4.mono hB.size)
      have hr4 := Rd.of_own ho4
      have hTl := Htl.out
      clear hB4 ho4
      go_wp2_with (fail)
      refine (join_any _ v4 P T _ _ _ hrP hr4 (by omega) (by omega)).mono ?_
      rintro e w5 ⟨v5, rfl, ho5, hB5⟩
      go_wp2
      go_ret2
      exact ⟨_, rfl, by rw [Hsl.out]; exact own_weak ho5 hB.size, hB.trans (hB5.mono hB.size)⟩
    · have hfI : (ks.length : Int) ≤ (n : Int) := by omega
      rw [if_pos hfI] at hES
      subst hES
      go_wp2
      go_ret2
      exact ⟨_, rfl, World.ownsRow_nil _ _ _ _, hB⟩
  · have hES := HES.out
    rw [if_neg he] at hES
    subst hES
    have hne : ((E : Int) != 0) = true := by rw [bne_iff_ne]; omega
    obtain ⟨A1, c1, rfl⟩ := own_shape ho1
    go_wp2
    go_ret2
    exact ⟨_, rfl, World.ownsRow_nil _ _ _ _, hB⟩
end Go.Proofs.YtacjijhpbeegbaaDoor
